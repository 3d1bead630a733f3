/- Texts laid together: JRRead, JRes14, JRd, JTkA, JRWith, LawJC. -/
import Derived.Test.YtclcgakfmcofaaaGreatDoorMC50
import Derived.Test.YtclcgakfmcofaaaGreatDoorMC51
import Derived.Test.YtclcgakfmcofaaaGreatDoorMC43
import Derived.Test.YtclcgakfmcofaaaGreatDoorMC37
import Derived.Test.YtclcgakfmcofaaaGreatDoorMC28
import Derived.Test.YtclcgakfmcofaaaGreatDoorMC44
import Derived.Test.YtclcgakfmcofaaaGreatDoorMC10
import Derived.Test.YtclcgakfmcofaaaGreatDoorMC2
import Derived.Test.YtclcgakfmcofaaaGreatDoorMC29
import Derived.Deep.RegionHeld3
import Derived.Test.YtclcgakfmcofaaaGreatDoorMC48
import Derived.Test.YtclcgakfmcofaaaGreatDoorMC27
namespace Go.Proofs.YtclcgakfmcofaaaGreatDoor
open Go.RowKit
set_option linter.unusedVariables false
set_option maxRecDepth 100000
theorem flat_lenJ : ∀ (P : List (List Rw)) (b : Nat), (∀ m ∈ P, m.length ≤ b) → P.flatten.length ≤ P.length * b
 | [], b, _ => by simp
 | m :: P, b, h => by
  have h1 := h m (List.mem_cons_self ..)
  have h2 := flat_lenJ P b (fun x hx => h x (List.mem_cons_of_mem _ hx))
  rw [List.flatten_cons, List.length_append, List.length_cons, Nat.succ_mul]
  omega
set_option maxHeartbeats 3200000 in
theorem rread_back (agg bound n : Int) (l : List Rw) (w : World) (hf : FineR agg bound l) (hwf : WfRs l) (hm : mayP n = true) (h1 : ∀ m ∈ prt n l, (rowsBy agg m).size ≤ 32768) (h2 : (outB agg (prt n l)).size ≤ 32704) (hpos : 0 < w.heap.size) :
  Calls Tryz.prog 29 #[.int .i64 agg, .int .i64 bound, .int .i64 n, .string (outB agg (prt n l))] w (RowsR w w.heap.size (l, 0)) := by
 have hm8 := mayP_of hm
 have hw := (okRows_parts hf.ok).1
 obtain ⟨bd, hbd⟩ := way_nat hw
 have hb32 := way_le hw
 obtain ⟨N, rfl⟩ : ∃ N : Nat, n = (N : Int) := ⟨n.toNat, by omega⟩
 have hPl : (prt (N : Int) l).length = N := by rw [show (prt (N : Int) l).length = (N : Int).toNat from partsR_len _ _ _, Int.toNat_natCast]
 have HTK := hidM (fun (W : World) (m : List Rw) (hmm : m ∈ prt (N : Int) l) => show Calls Tryz.prog 69 #[.int .i64 agg, .int .i64 bound, .string (rowsBy agg m)] W (RowsR W W.heap.size (m, 0)) from by
  have h := rtakeRows_any agg bd (rowsBy agg m) W (by have := h1 m hmm; omega) (by rw [hbd] at hb32; simpa using hb32)
  have hb := rowsTk_back (hf.sub (prt_sub hmm))
  rw [hbd] at hb
  rw [show (bd : Int).toNat = bd from Int.toNat_natCast _] at hb
  rw [hb] at h
  rw [hbd]
  exact h)
 have HOF := hidM (fun (W : World) (k : Nat) (m : List Rw) (hmm : (prt (N : Int) l)[k]? = some m) (r : Rw) (hr : r ∈ m) => show Calls Tryz.prog 70 #[.agg #[.int .i64 r.1.1, .string r.1.2], .int .i64 N] W (fun e w' => e = .returned (.int .i64 (k : Nat)) ∧ Below W.heap.size W w') from by
  have hrl := (prt_sub (List.mem_of_getElem? hmm)).subset hr
  have h := rof_any (N : Int) r.1 W (hf.key r hrl).1.1 (hf.key r hrl).1.2 (hf.each hrl).1 hm
  rw [prt_at hmm r hr] at h
  exact h)
 have HJN := hidM (fun (W : World) (v : Value) (hv : RnS W v (prt (N : Int) l)) => rjoins_any agg bound v (prt (N : Int) l) W hv (fun m hmm r hr => hwf r ((prt_sub hmm).subset hr)) (by omega) (fun m hmm => by
  have hs := prt_sub hmm
  have := hs.length_le
  have := hf.len
  exact ⟨by omega, fun r hr => by have := (hf.cell r (hs.subset hr)).2.2; omega⟩) (by have := flat_lenJ (prt (N : Int) l) 1536 (fun m hmm => by have := (prt_sub hmm).length_le; have := hf.len; omega); omega))
 rw [join_prt hf.ok hm] at HJN
 have HS1 := hidM h1
 have HML := hidM (show ∀ m ∈ prt (N : Int) l, m.length ≤ 1536 from fun m hmm => by have := (prt_sub hmm).length_le; have := hf.len; omega)
 generalize prt (N : Int) l = P at HTK HOF HS1 HML hPl h2 HJN ⊢
 have hNi : (N : Int) = (P.length : Int) := by omega
 have hP8 : P.length ≤ 8 := by omega
 rw [hNi] at HOF ⊢
 clear hNi hPl hm hm8 h1 hwf hf hw hbd hb32
 obtain ⟨S, hS⟩ : ∃ S, S = outB agg P := ⟨_, rfl⟩
 have HSE := hidM hS
 rw [← hS] at h2 ⊢
 have hS0 : outB agg (P.drop 0) = S := by rw [hS]; rfl
 have hlong : ¬ (32704 : Int) < (S.size : Int) := by omega
 clear hS
 go_enter Tryz.func29, Tryz.ntmps29
 go_wp2
 go_loopw [3, 10, 12] (fun so vo i wr => ∃ k : Nat, k ≤ P.length ∧ i = .int .i64 k ∧ so = .string (outB agg (P.drop k)) ∧ OwnRs wr w.heap.size vo (P.take k) ∧ Below w.heap.size w wr) (fun _ _ i _ => P.length - (intOf i).toNat)
 case atStart => exact ⟨0, by omega, rfl, by rw [hS0], OwnRs.nil _ _, Below.refl _ _⟩
 case round =>
  rename World => w0
  obtain ⟨k, hk, rfl, rfl, ho, hbel⟩ := hrel
  have hsz := hbel.size
  by_cases hlt : k < P.length
  ·obtain ⟨m, hy⟩ := getSome hlt
   have hki : (k : Int) < (P.length : Int) := by omega
   have hmm := List.mem_of_getElem? hy
   have hs1 := HS1.out m hmm
   have hml := HML.out m hmm
   have hd := outB_drop (agg := agg) hy
   rw [← HSE.out] at hd
   have hde : P.drop k = m :: P.drop (k + 1) := by
    obtain ⟨hk', rfl⟩ := List.getElem?_eq_some_iff.1 hy
    exact List.drop_eq_getElem_cons hk'
   have hfs := frame_size (rowsBy agg m)
   obtain ⟨X, hX⟩ : ∃ X, X = outB agg (P.drop (k + 1)) := ⟨_, rfl⟩
   have hbody : outB agg (P.drop k) = frameOf (rowsBy agg m) ++ X := by rw [hde, hX]; rfl
   have hSs : (frameOf (rowsBy agg m) ++ X).size ≤ 32704 := by
    rw [← hX] at hd
    have : S.size = (outB agg (P.take k)).size + (frameOf (rowsBy agg m) ++ X).size := by rw [hd, ByteArray.size_append]
    omega
   have hstepP : P.take (k + 1) = P.take k ++ [m] := by rw [List.take_add_one, hy]; rfl
   have hfb := frame_back (rowsBy agg m) X hs1
   have hext : (frameOf (rowsBy agg m) ++ X).extract (8 + (rowsBy agg m).size) (frameOf (rowsBy agg m) ++ X).size = X := by
    have := ext_tail (frameOf (rowsBy agg m)) X
    rwa [hfs] at this
   have HT := hidM (rftake_any (frameOf (rowsBy agg m) ++ X) w0 (by omega))
   unfold TakePost at HT
   rw [hfb] at HT
   have HR := hidM (fun W => HTK.out W m hmm)
   have HO := hidM (fun (W : World) (r : Rw) (hr : r ∈ m) => HOF.out W k m hy r hr)
   have HAP := hidM (show ∀ (W2 : World) (v2 : Value), Below w0.heap.size w0 W2 → OwnW W2 w0.heap.size v2 m → ∃ v4 W4, (Builtin.append_ #[118, 118] 118 #[u10, .slice (some ⟨W2.heap.size, 0, none⟩) 1 1]).run Tryz.prog (W2.alloc (.cells #[v2] 61)) = .ok v4 W4 ∧ OwnRs W4 w.heap.size v4 (P.take (k + 1)) ∧ Below w.heap.size w W4 from fun W2 v2 hb2 ho2 => by
    have G3 := nxt hb2 (stJ W2 (.cells #[v2] 61))
    have hcell : (W2.alloc (.cells #[v2] 61)).cell? ⟨W2.heap.size, 0, none⟩ = some v2 := by unfold World.cell?; rw [heap_alloc_new W2 _]; rfl
    obtain ⟨v4, W4, q1, q2, q3, q4⟩ := (ho.below G3).app 118 ((ho2.below (stJ W2 _)).lower hsz) hcell (by rw [List.length_take]; omega) (by have := G3.size; omega)
    rw [hstepP]
    exact ⟨v4, W4, q1, q2, (hbel.trans (G3.mono hsz)).grown q3 (by have := G3.size; omega) q4⟩)
   have HX := hidM hX
   have HHB := hidM hbody
   rw [hbody]
   clear hd hde hfb hbody hstepP ho hX
   generalize rowsBy agg m = sm at HT HR hs1 hfs hext HHB hSs ⊢
   obtain ⟨Y, hY⟩ : ∃ Y, Y = frameOf sm ++ X := ⟨_, rfl⟩
   rw [← hY] at HT hext HHB hSs ⊢
   have hYs : 8 + sm.size ≤ Y.size := by rw [hY, ByteArray.size_append, hfs]; omega
   have hYi : (8 : Int) + (sm.size : Int) ≤ (Y.size : Int) := by omega
   have hY0 : (0 : Int) ≤ (8 : Int) + (sm.size : Int) := by omega
   clear hY
   go_wp2_with fail
   refine HT.out.mono ?_
   rintro e W1 ⟨rfl, hb1⟩
   go_wp2_with fail
   refine (HR.out W1).mono ?_
   rintro e W2 ⟨⟨v2, rfl, ho2⟩, hb2⟩
   have hb02 := nxt hb1 hb2
   have HB02 := hidM hb02
   have HO2 := hidM (ho2.lower hb1.size)
   have hws := ho2.ws
   obtain ⟨a2, c2, rfl⟩ := id ho2.slice
   clear ho2 hb1 hb2 hb02
   go_wp2
   go_loopw [17] (fun i wr => ∃ q : Nat, q ≤ m.length ∧ i = .int .i64 q ∧ Below W2.heap.size W2 wr) (fun i _ => m.length - (intOf i).toNat)
   case atStart => exact ⟨0, by omega, rfl, Below.refl _ _⟩
   case round =>
    rename World => w7
    obtain ⟨q, hq, rfl, hb7⟩ := hrel
    have HB7 := hidM hb7
    by_cases hql : q < m.length
    ·obtain ⟨⟨⟨ya, yb⟩, yn, yl⟩, hr⟩ := getSome hql
     rcases (hws.below hb7).shape with ⟨a', c', -, hnil⟩ | ⟨b, off, cp, he, hb, hat⟩
     ·rw [hnil] at hql; simp at hql
     injection he with e1 e2 e3
     subst e1 e3
     obtain ⟨d0, d1, d2, s1, p1, d3, -⟩ := hat q _ hr
     simp only at d0 d1 d2 d3
     have HOQ := hidM (fun W => HO.out W _ (List.mem_of_getElem? hr))
     have hqi : (q : Int) < (m.length : Int) := by omega
     have hq0 : (0 : Int) ≤ (q : Int) := by omega
     clear hat hr hb7 hb
     go_wp2_with (first
      | (go_at_call 70; refine (HOQ.out _).mono ?_; rintro e W8 ⟨rfl, hb8⟩))
     go_roundw
     case rel => exact ⟨q + 1, by omega, by go_num, nxt HB7.out hb8⟩
     case measure => simp [intOf]; omega
    ·have hqi : ¬ (q : Int) < (m.length : Int) := by omega
     obtain ⟨v4, W4, q1, hown4, hbel4⟩ := HAP.out w7 _ (nxt HB02.out hb7) (HO2.out.below hb7)
     have U1 := hidM q1
     clear q1
     go_wp2_with (first
      | (at_builtin; refine wpList_append_run _ rfl _ _ _ rfl _ _ v4 W4 rfl rfl U1.out ?_))
     go_roundw
     case rel => exact ⟨k + 1, by omega, by go_num, by rw [hext, HX.out], hown4, hbel4⟩
     case measure => simp [intOf]; omega
  ·have hki : ¬ (k : Int) < (P.length : Int) := by omega
   obtain rfl : k = P.length := by omega
   rw [List.take_length] at ho
   rw [List.drop_length] 
   have HJ0 := hidM (HJN.out w0 _ ho.rns)
   have hz : (outB agg ([] : List (List Rw))).size = 0 := rfl
   obtain ⟨S9, hS9⟩ : ∃ S9, S9 = outB agg ([] : List (List Rw)) := ⟨_, rfl⟩
   rw [← hS9] at hz ⊢
   have hzi : ¬ (0 : Int) < (S9.size : Int) := by omega
   have hzn : S9.size = 0 := hz
   obtain ⟨va, vc, rfl, -⟩ := id ho.rns
   have HBL := hidM hbel
   clear hS9 ho hbel
   go_wp2_with (first
    | (go_at_call 71; refine HJ0.out.mono ?_; rintro e W4 ⟨⟨v4, rfl, ho4⟩, hb4⟩; have hb14 := nxt HBL.out hb4; have HO4 := hidM (ho4.lower hsz); obtain ⟨a4, c4, rfl⟩ := id ho4.slice))
   go_ret2
   exact ⟨⟨_, rfl, HO4.out⟩, hb14⟩
set_option maxRecDepth 100000
theorem tog_to {c : Cfg} {j : Jb} {l : List Int} (h : (togRes c j l).2 = 0) : ∀ k, k ≤ l.length → ∃ acc, TogTo c j l k acc
 | 0, _ => ⟨[], TogTo.start c j l⟩
 | k + 1, hk => by
  obtain ⟨acc, ha⟩ := tog_to h k (by omega)
  obtain ⟨i, hi⟩ := getSome (l := l) (i := k) (by omega)
  by_cases h0 : (mapRes j (rcO c i)).2 = 0
  ·exact ⟨_, ha.step hi h0⟩
  ·rw [ha.bad hi h0] at h
   exact absurd h h0
theorem whole_out {c : Cfg} {j : Jb} {l : List Int} (h : (wholeRes c j l).2 = 0) : ∃ rows, wholeRes c j l = (outB j.agg (prt j.parts rows), 0) ∧ FineR j.agg j.bound rows ∧ WfRs rows ∧ mayP j.parts = true ∧ (∀ m ∈ prt j.parts rows, (rowsBy j.agg m).size ≤ 32768) ∧ (outB j.agg (prt j.parts rows)).size ≤ 32704 := by
 by_cases hv : validRes c j l = 0
 ·obtain ⟨-, hjb⟩ := validRes_zero hv
  have HJ := jobB_of hjb
  have hl6 := HJ.len.2
  rw [wholeRes_yes hv] at h ⊢
  unfold wholeOk at h ⊢
  split at h
  ·cases h
  ·next hn =>
   rw [if_neg hn]
   obtain ⟨acc, ha⟩ := tog_to h l.length (Nat.le_refl _)
   have hfin := ha.fin (Nat.le_refl _)
   have hlen := ha.len
   have hfine := fine_fold (agg := j.agg) (bound := j.bound) HJ.way ha.keys ha.wf (by omega)
   by_cases hf : (foldR j.agg j.bound.toNat acc).2 = 0
   ·have e := togRes_out hfin hf
    rw [e] at h
    obtain ⟨o1, o2, o3⟩ := outRes_zero h
    exact ⟨_, by rw [e, o3], hfine, fineJ_wf hfine, HJ.parts, o1, o2⟩
   ·rw [togRes_fold hfin hf] at h
    exact absurd h hf
 ·rw [wholeRes_no hv] at h
  exact absurd h hv
set_option maxRecDepth 100000
set_option maxRecDepth 100000
section
variable {T : TypeId} {w W W' : World} {s s' : Rd} {j : Jb} {u : Value}
end
set_option maxRecDepth 100000
set_option maxHeartbeats 400000 in
theorem rin_any (v : Value) (l : List Int) (x : Int) (w : World) (h : NS w v l) (hl : l.length ≤ 100000) :
  Calls Tryz.prog 27 #[v, .int .i64 x] w fun e w' => e = .returned (.int .i64 (idxI l x)) ∧ w' = w := by
 obtain ⟨a, cap, rfl, hsh⟩ := h
 go_enter Tryz.func27, Tryz.ntmps27
 go_wp2
 go_loop [5] (fun i => ∃ k : Nat, k ≤ l.length ∧ i = .int .i64 k ∧ Hid (∀ z ∈ l.take k, z ≠ x)) (fun i => l.length - (intOf i).toNat)
 case atStart => exact ⟨0, by omega, rfl, fun z hz => by simp at hz⟩
 case round =>
  obtain ⟨k, hk, rfl, HN⟩ := hrel
  by_cases hlt : k < l.length
  ·obtain ⟨y, hy⟩ := getSome hlt
   rcases hsh with hnil | ⟨b, off, rfl, hb, hat⟩
   ·rw [hnil] at hlt; simp at hlt
   have c0 := hat k y hy
   have hki : (k : Int) < (l.length : Int) := by omega
   have hk0 : (0 : Int) ≤ (k : Int) := by omega
   by_cases hyx : y = x
   ·have HF := hidM (show idxI l x = (k : Int) by unfold idxI; rw [findIdx_at hy HN.out hyx])
    subst hyx
    have hbe : (y == y) = true := by simp
    clear hat hy
    go_wp2
    go_ret
    exact ⟨by rw [HF.out]; rfl, rfl⟩
   ·have hbe : (y == x) = false := by simp; exact fun h => hyx h
    have HN2 := hidM (show ∀ z ∈ l.take (k + 1), z ≠ x from fun z hz => by
     rw [List.take_add_one, hy] at hz
     rcases List.mem_append.1 hz with hz | hz
     ·exact HN.out z hz
     ·simp at hz; subst hz; exact hyx)
    clear hat hy
    go_wp2
    go_round
    case rel => exact ⟨k + 1, by omega, by go_num, HN2⟩
    case measure => simp [intOf]; omega
  ·have hki : ¬ (k : Int) < (l.length : Int) := by omega
   have HF := hidM (show idxI l x = -1 by unfold idxI; rw [findIdx_no (fun z hz => HN.out z (by rwa [List.take_of_length_le (by omega)]))])
   go_wp2
   go_ret
   exact ⟨by rw [HF.out]; rfl, rfl⟩
set_option maxRecDepth 100000
theorem rise_boundC : ∀ (l : List Int) (lo hi : Int), lo ≤ hi + 1 → (∀ x ∈ l, lo ≤ x ∧ x ≤ hi) → l.Pairwise (· < ·) → (l.length : Int) ≤ hi - lo + 1
 | [], lo, hi, h, _, _ => by simp; omega
 | x :: l, lo, hi, h, hx, hp => by
  have h1 := hx x (List.mem_cons_self ..)
  rw [List.pairwise_cons] at hp
  have := rise_boundC l (x + 1) hi (by omega) (fun y hy => ⟨by have := hp.1 y hy; omega, (hx y (List.mem_cons_of_mem _ hy)).2⟩) hp.2
  rw [List.length_cons]
  omega
theorem codesRes_lenC (c : Cfg) (j : Jb) (l : List Int) : (codesRes c j l).length ≤ 64 := by
 obtain ⟨h1, h2⟩ := risL_of (codes_rise c j l)
 have := rise_boundC _ 1 64 (by omega) h1 h2
 omega
theorem idx_mem {l : List Int} {x : Int} (h : x ∈ l) : ¬ idxI l x < 0 := by
 unfold idxI
 split
 ·omega
 ·next hn =>
  rw [List.findIdx?_eq_none_iff] at hn
  have := hn x h
  simp at this
set_option maxHeartbeats 8000000 in
theorem lawjc (c : Cfg) (vp vl vj : Value) (ids : List Int) (L : List Jl) (x : ByteArray) (w : World) (h : In14 w c vp vl vj ids L x) (hE : Env w) (hH : Halves w) :
  Calls Tryz.prog 5 #[askV14 c vp vl vj x] w (BoolR w true) := by
 have hL := L14.start h hE hH
 obtain ⟨W0, hW0⟩ : ∃ W0 : World, W0 = w.alloc (askO14 c vp vl vj x) := ⟨_, rfl⟩
 rw [← hW0] at hL
 have H14 := hidM hL
 have HH1 := hidM (heavy14_any c vp vl vj ids L x W0 (h.below hL.low))
 have HWF := hidM h.wf
 obtain ⟨ja, jc, rfl, -⟩ := h.jcap
 obtain ⟨sa, sc, rfl, -⟩ := h.s.cap
 obtain ⟨la, lc, rfl, -⟩ := h.s.lcap
 have HW := hidM hW0.symm
 have HRF := hidM (Below.refl W0.heap.size W0)
 have HN := hidM num14_any
 clear hW0 hL h hE hH
 obtain ⟨a0, a1, a2, a3, a4, a5, a6⟩ := H14.out.ask W0 HRF.out
 go_enter Tryz.func5, Tryz.ntmps5
 go_wp2_with fail
 rw [HW.out]
 refine HH1.out.mono ?_
 rintro e W1 ⟨⟨r, rfl, hr⟩, hb1⟩
 have HB1 := hidM hb1
 have HRr := hidM hr
 clear a0 a1 a2 a3 a4 a5 a6 hb1 hr
 cases r with
 | true =>
  go_wp2
  go_ret
  exact ⟨rfl, nxt H14.out.low HB1.out⟩
 | false =>
  have hS := HRr.out rfl
  have HS := hidM hS
  have hx8 := hS.x
  obtain ⟨a0, a1, a2, a3, a4, a5, a6⟩ := H14.out.ask W1 HB1.out
  clear hS
  have HCF := hidM (rconfig_any c (.slice sa c.splits.length sc) W1 (H14.out.cfg W1 HB1.out))
  go_wp2_with fail
  refine HCF.out.mono ?_
  rintro e W2 ⟨rfl, hb2⟩
  have HB2 := hidM (nxt HB1.out hb2)
  clear hb2 HCF a0 a1 a2 a3 a4 a5 a6
  cases hcf : cfgB c with
  | false =>
   go_wp2
   go_ret
   exact ⟨rfl, nxt H14.out.low HB2.out⟩
  | true =>
  clear hcf
  obtain ⟨a0, a1, a2, a3, a4, a5, a6⟩ := H14.out.ask W2 HB2.out
  go_wp2
  clear a0 a1 a2 a3 a4 a5 a6
  go_loopw [3] (fun i wr => ∃ k : Nat, k ≤ 6 ∧ i = .int .i64 k ∧ Below W0.heap.size W0 wr) (fun i _ => 6 - (intOf i).toNat)
  case atStart => exact ⟨0, by omega, rfl, HB2.out⟩
  case round =>
   rename World => w0
   obtain ⟨k, hk, rfl, hbel⟩ := hrel
   have HBEL := hidM hbel
   obtain ⟨a0, a1, a2, a3, a4, a5, a6⟩ := H14.out.ask w0 hbel
   by_cases hgo : k < L.length ∧ k < 6
   ·obtain ⟨hlt, hk6⟩ := hgo
    obtain ⟨y, hy⟩ := getSome hlt
    have hwy := HWF.out y (List.mem_of_getElem? hy)
    have hys := HS.out.jobs y (List.mem_of_getElem? hy)
    obtain ⟨a', c', e', hsh⟩ := H14.out.js W0 HRF.out
    obtain rfl : a' = ja := by injection e' with e1; exact e1.symm
    rcases hsh with hnil | ⟨b, off, rfl, hb, hat⟩
    ·rw [hnil] at hlt; simp at hlt
    obtain ⟨ua, uc, hJC⟩ := JC.at hat hy hb
    have HJC := hidM hJC
    have HIJ := hidM (fun (W : World) (hW : Below W0.heap.size W0 W) => hwy.inJ (hJC W hW).2 (by omega) (by omega))
    have hki : (k : Int) < (L.length : Int) := by omega
    have hk0 : (0 : Int) ≤ (k : Int) := by omega
    have hk6i : (k : Int) < 6 := by omega
    have hk6d : decide ((k : Int) < 6) = true := decide_eq_true hk6i
    have hk6e : decide (k < 6) = true := decide_eq_true hk6
    obtain ⟨j, l⟩ := y
    simp only at HJC HIJ hys
    have HJ4 := hidM (fun (W : World) (hW : Below W0.heap.size W0 W) => (⟨H14.out.cfg W hW, HIJ.out W hW, H14.out.env W hW, H14.out.hal W hW⟩ : Job14 W c (.slice sa c.splits.length sc) j (.slice ua l.length uc) l))
    have HWH := hidM (fun (W : World) (hW : Below W0.heap.size W0 W) => jwhole_any c _ j _ l W (HJ4.out W hW))
    have HCO := hidM (fun (W : World) (hW : Below W0.heap.size W0 W) => jcodes_any c _ j _ l W (HJ4.out W hW))
    have HSS := hidM (show ∀ W : World, Below w0.heap.size w0 W → (W.cell? ⟨w.heap.size, 0, none⟩ = some (.int .i64 c.sites) ∧ W.cell? ⟨w.heap.size, 1, none⟩ = some (.slice sa c.splits.length sc) ∧ W.cell? ⟨w.heap.size, 2, none⟩ = some (.int .i64 c.again) ∧ W.cell? ⟨w.heap.size, 3, none⟩ = some (.int .i64 c.over) ∧ W.cell? ⟨w.heap.size, 5, none⟩ = some (.slice (some ⟨b, off, none⟩) L.length jc) ∧ W.cell? ⟨b, off + k * 7, none⟩ = some (.int .i64 j.id) ∧ W.cell? ⟨b, off + k * 7 + 1, none⟩ = some (.string j.prog) ∧ W.cell? ⟨b, off + k * 7 + 2, none⟩ = some (.int .i64 j.agg) ∧ W.cell? ⟨b, off + k * 7 + 3, none⟩ = some (.int .i64 j.bound) ∧ W.cell? ⟨b, off + k * 7 + 4, none⟩ = some (.int .i64 j.fuel) ∧ W.cell? ⟨b, off + k * 7 + 5, none⟩ = some (.slice ua l.length uc) ∧ W.cell? ⟨b, off + k * 7 + 6, none⟩ = some (.int .i64 j.parts)) ∧ Below w0.heap.size w0 W from fun W hW => by
     obtain ⟨d0, d1, d2, d3, d4, d5, d6⟩ := (hJC W (nxt HBEL.out hW)).1
     have A := H14.out.ask W (nxt HBEL.out hW)
     exact ⟨⟨A.a0, A.a1, A.a2, A.a3, A.a5, d0, d1, d2, d3, d4, d5, d6⟩, hW⟩)
    have HKEEP := hidM (fun (W W' : World) (hn : (W.cell? ⟨w.heap.size, 0, none⟩ = some (.int .i64 c.sites) ∧ W.cell? ⟨w.heap.size, 1, none⟩ = some (.slice sa c.splits.length sc) ∧ W.cell? ⟨w.heap.size, 2, none⟩ = some (.int .i64 c.again) ∧ W.cell? ⟨w.heap.size, 3, none⟩ = some (.int .i64 c.over) ∧ W.cell? ⟨w.heap.size, 5, none⟩ = some (.slice (some ⟨b, off, none⟩) L.length jc) ∧ W.cell? ⟨b, off + k * 7, none⟩ = some (.int .i64 j.id) ∧ W.cell? ⟨b, off + k * 7 + 1, none⟩ = some (.string j.prog) ∧ W.cell? ⟨b, off + k * 7 + 2, none⟩ = some (.int .i64 j.agg) ∧ W.cell? ⟨b, off + k * 7 + 3, none⟩ = some (.int .i64 j.bound) ∧ W.cell? ⟨b, off + k * 7 + 4, none⟩ = some (.int .i64 j.fuel) ∧ W.cell? ⟨b, off + k * 7 + 5, none⟩ = some (.slice ua l.length uc) ∧ W.cell? ⟨b, off + k * 7 + 6, none⟩ = some (.int .i64 j.parts)) ∧ Below w0.heap.size w0 W) (hb : Below W.heap.size W W') => HSS.out W' (nxt hn.2 hb))
    clear hat hy hwy e' hJC hbel hb a0 a1 a2 a3 a4 a5 a6
    obtain ⟨⟨a0, a1, a2, a3, a5, c0, c1, c2, c3, c4, c5, c6⟩, -⟩ := HSS.out w0 (Below.refl _ _)
    go_wp2_with fail
    obtain ⟨⟨ws, we⟩, hR⟩ : ∃ R, R = wholeRes c j l := ⟨_, rfl⟩
    rw [← hR] at HWH
    obtain ⟨cl, hCL⟩ : ∃ R, R = codesRes c j l := ⟨_, rfl⟩
    rw [← hCL] at HCO
    have HRE := hidM hR
    have HCE := hidM hCL
    clear hR hCL
    go_region_held3 (fun W => (W.cell? ⟨w.heap.size, 0, none⟩ = some (.int .i64 c.sites) ∧ W.cell? ⟨w.heap.size, 1, none⟩ = some (.slice sa c.splits.length sc) ∧ W.cell? ⟨w.heap.size, 2, none⟩ = some (.int .i64 c.again) ∧ W.cell? ⟨w.heap.size, 3, none⟩ = some (.int .i64 c.over) ∧ W.cell? ⟨w.heap.size, 5, none⟩ = some (.slice (some ⟨b, off, none⟩) L.length jc) ∧ W.cell? ⟨b, off + k * 7, none⟩ = some (.int .i64 j.id) ∧ W.cell? ⟨b, off + k * 7 + 1, none⟩ = some (.string j.prog) ∧ W.cell? ⟨b, off + k * 7 + 2, none⟩ = some (.int .i64 j.agg) ∧ W.cell? ⟨b, off + k * 7 + 3, none⟩ = some (.int .i64 j.bound) ∧ W.cell? ⟨b, off + k * 7 + 4, none⟩ = some (.int .i64 j.fuel) ∧ W.cell? ⟨b, off + k * 7 + 5, none⟩ = some (.slice ua l.length uc) ∧ W.cell? ⟨b, off + k * 7 + 6, none⟩ = some (.int .i64 j.parts)) ∧ Below w0.heap.size w0 W)
     (first | with_reducible assumption | with_reducible exact HKEEP.out _ _ (by assumption) (by assumption) | with_reducible exact HSS.out _ (Below.refl _ _).drew)
     (first
      | (go_at_call 18; refine (HWH.out _ (nxt HBEL.out (by first | exact (‹_ ∧ Below w0.heap.size w0 _›).2 | exact (Below.refl _ _).drew))).mono ?_; rintro e W4 ⟨rfl, hb4⟩))
    have HB4 := hidM (‹_ ∧ Below w0.heap.size w0 W4›).2
    clear a0 a1 a2 a3 a5 c0 c1 c2 c3 c4 c5 c6
    obtain ⟨⟨a0, a1, a2, a3, a5, c0, c1, c2, c3, c4, c5, c6⟩, -⟩ := HSS.out W4 HB4.out
    go_wp2_with fail
    go_region_held3 (fun W => (W.cell? ⟨w.heap.size, 0, none⟩ = some (.int .i64 c.sites) ∧ W.cell? ⟨w.heap.size, 1, none⟩ = some (.slice sa c.splits.length sc) ∧ W.cell? ⟨w.heap.size, 2, none⟩ = some (.int .i64 c.again) ∧ W.cell? ⟨w.heap.size, 3, none⟩ = some (.int .i64 c.over) ∧ W.cell? ⟨w.heap.size, 5, none⟩ = some (.slice (some ⟨b, off, none⟩) L.length jc) ∧ W.cell? ⟨b, off + k * 7, none⟩ = some (.int .i64 j.id) ∧ W.cell? ⟨b, off + k * 7 + 1, none⟩ = some (.string j.prog) ∧ W.cell? ⟨b, off + k * 7 + 2, none⟩ = some (.int .i64 j.agg) ∧ W.cell? ⟨b, off + k * 7 + 3, none⟩ = some (.int .i64 j.bound) ∧ W.cell? ⟨b, off + k * 7 + 4, none⟩ = some (.int .i64 j.fuel) ∧ W.cell? ⟨b, off + k * 7 + 5, none⟩ = some (.slice ua l.length uc) ∧ W.cell? ⟨b, off + k * 7 + 6, none⟩ = some (.int .i64 j.parts)) ∧ Below w0.heap.size w0 W)
     (first | with_reducible assumption | with_reducible exact HKEEP.out _ _ (by assumption) (by assumption) | with_reducible exact HSS.out _ HB4.out.drew)
     (first
      | (go_at_call 20; refine (HCO.out _ (nxt HBEL.out (by first | exact (‹_ ∧ Below w0.heap.size w0 _›).2 | exact HB4.out.drew))).mono ?_; rintro e W5 ⟨⟨v5, rfl, ho5⟩, hb5⟩; have n5 := hidM (NS.own ho5); obtain ⟨q5, qc5, rfl⟩ := ho5.shape; clear ho5))
    have HB5 := hidM (‹_ ∧ Below w0.heap.size w0 W5›).2
    clear a0 a1 a2 a3 a5 c0 c1 c2 c3 c4 c5 c6
    obtain ⟨⟨a0, a1, a2, a3, a5, c0, c1, c2, c3, c4, c5, c6⟩, -⟩ := HSS.out W5 HB5.out
    have HWC := hidM (whole_codes c j l)
    have HRI := hidM (codes_rise c j l)
    have hcl := codesRes_lenC c j l
    rw [← HCE.out] at HWC HRI hcl
    rw [← HRE.out] at HWC
    have hw1 := HWC.out
    simp only at hw1
    by_cases h0 : we = 0
    ·subst h0
     have hcl0 : cl = [] := hw1.1.1 rfl
     subst hcl0
     have HRS := hidM (rising_anyZ 1 64 (.slice q5 0 qc5) [] W5 n5.out (by simp))
     rw [show risL 1 64 ([] : List Int) = true from rfl] at HRS
     obtain ⟨rows, ho1, ho2, ho3, ho4, ho5, ho6⟩ := whole_out (c := c) (j := j) (l := l) (by rw [← HRE.out])
     rw [← HRE.out] at ho1
     injection ho1 with ho1
     have HRD := hidM (fun (W : World) (hW : Below W0.heap.size W0 W) => rread_back j.agg j.bound j.parts rows W ho2 ho3 ho4 ho5 ho6 (Nat.lt_of_lt_of_le H14.out.pos hW.size))
     rw [← ho1] at HRD
     have HRO := hidM (fun (W : World) (v : Value) (hv : WS W v rows) => rrows_any j.agg j.bound v rows W hv (okRows_parts ho2.ok).1 (by have := ho2.len; omega) (fun r hr => by have := (ho2.cell r hr).2.2; omega))
     rw [ho2.ok] at HRO
     clear hw1 ho1 ho2 ho3 ho4 ho5 ho6
     go_wp2_with (first
      | (go_at_call 10; refine (HN.out _ _).mono ?_; rintro e W9 ⟨rfl, hw9⟩; subst W9))
     refine HRS.out.mono ?_
     rintro e W6 ⟨rfl, hd6⟩
     have hb6 := hd6.below W5.heap.size
     have HB6 := hidM (nxt HB5.out hb6)
     clear hd6 hb6 a0 a1 a2 a3 a5 c0 c1 c2 c3 c4 c5 c6
     obtain ⟨⟨a0, a1, a2, a3, a5, c0, c1, c2, c3, c4, c5, c6⟩, -⟩ := HSS.out W6 HB6.out
     go_wp2_with (first
      | (go_at_call 10; refine (HN.out _ _).mono ?_; rintro e W9 ⟨rfl, hw9⟩; subst W9))
     go_region_held3 (fun W => (W.cell? ⟨w.heap.size, 0, none⟩ = some (.int .i64 c.sites) ∧ W.cell? ⟨w.heap.size, 1, none⟩ = some (.slice sa c.splits.length sc) ∧ W.cell? ⟨w.heap.size, 2, none⟩ = some (.int .i64 c.again) ∧ W.cell? ⟨w.heap.size, 3, none⟩ = some (.int .i64 c.over) ∧ W.cell? ⟨w.heap.size, 5, none⟩ = some (.slice (some ⟨b, off, none⟩) L.length jc) ∧ W.cell? ⟨b, off + k * 7, none⟩ = some (.int .i64 j.id) ∧ W.cell? ⟨b, off + k * 7 + 1, none⟩ = some (.string j.prog) ∧ W.cell? ⟨b, off + k * 7 + 2, none⟩ = some (.int .i64 j.agg) ∧ W.cell? ⟨b, off + k * 7 + 3, none⟩ = some (.int .i64 j.bound) ∧ W.cell? ⟨b, off + k * 7 + 4, none⟩ = some (.int .i64 j.fuel) ∧ W.cell? ⟨b, off + k * 7 + 5, none⟩ = some (.slice ua l.length uc) ∧ W.cell? ⟨b, off + k * 7 + 6, none⟩ = some (.int .i64 j.parts)) ∧ Below w0.heap.size w0 W)
      (first | with_reducible assumption | with_reducible exact HKEEP.out _ _ (by assumption) (by assumption) | with_reducible exact HSS.out _ HB6.out.drew)
      (first
       | (go_at_call 29; refine (HRD.out _ (nxt HBEL.out (by first | exact (‹_ ∧ Below w0.heap.size w0 _›).2 | exact HB6.out.drew))).mono ?_; rintro e W7 ⟨⟨v7, rfl, ho7⟩, hb7⟩; have n7 := hidM ho7.ws; obtain ⟨q7, qc7, rfl⟩ := id ho7.slice; clear ho7))
     have HB7 := hidM (‹_ ∧ Below w0.heap.size w0 W7›).2
     clear a0 a1 a2 a3 a5 c0 c1 c2 c3 c4 c5 c6
     obtain ⟨⟨a0, a1, a2, a3, a5, c0, c1, c2, c3, c4, c5, c6⟩, -⟩ := HSS.out W7 HB7.out
     have HRO7 := hidM (fun (W : World) (hW : Below W7.heap.size W7 W) => HRO.out W _ (n7.out.below hW))
     go_wp2_with fail
     go_region_held3 (fun W => (W.cell? ⟨w.heap.size, 0, none⟩ = some (.int .i64 c.sites) ∧ W.cell? ⟨w.heap.size, 1, none⟩ = some (.slice sa c.splits.length sc) ∧ W.cell? ⟨w.heap.size, 2, none⟩ = some (.int .i64 c.again) ∧ W.cell? ⟨w.heap.size, 3, none⟩ = some (.int .i64 c.over) ∧ W.cell? ⟨w.heap.size, 5, none⟩ = some (.slice (some ⟨b, off, none⟩) L.length jc) ∧ W.cell? ⟨b, off + k * 7, none⟩ = some (.int .i64 j.id) ∧ W.cell? ⟨b, off + k * 7 + 1, none⟩ = some (.string j.prog) ∧ W.cell? ⟨b, off + k * 7 + 2, none⟩ = some (.int .i64 j.agg) ∧ W.cell? ⟨b, off + k * 7 + 3, none⟩ = some (.int .i64 j.bound) ∧ W.cell? ⟨b, off + k * 7 + 4, none⟩ = some (.int .i64 j.fuel) ∧ W.cell? ⟨b, off + k * 7 + 5, none⟩ = some (.slice ua l.length uc) ∧ W.cell? ⟨b, off + k * 7 + 6, none⟩ = some (.int .i64 j.parts)) ∧ Below w0.heap.size w0 W)
      (first | with_reducible assumption | with_reducible exact HKEEP.out _ _ (by assumption) (by assumption) | with_reducible exact HSS.out _ HB7.out.drew)
      (first
       | (go_at_call 30; refine (HRO7.out _ (by first | exact (Below.refl _ _).drew | exact Below.refl _ _)).mono ?_; rintro e W8 ⟨rfl, hb8⟩))
     have HB8 := hidM (nxt HBEL.out (‹_ ∧ Below w0.heap.size w0 W8›).2)
     go_wp2
     go_roundw
     case rel => exact ⟨k + 1, by omega, by go_num, HB8.out⟩
     case measure => simp [intOf]; omega
    ·have hcl1 : cl ≠ [] := fun e => h0 (hw1.1.2 e)
     have hlen1 : 0 < cl.length := by cases cl with | nil => exact absurd rfl hcl1 | cons a b => simp
     have hne : ¬ (cl.length : Int) = 0 := by omega
     have hq1 : (we == 0) = false := by simpa using h0
     have hq2 : (we != 0) = true := by simpa using h0
     have hq3 : ((cl.length : Int) == 0) = false := by simpa using hne
     have hq4 : (cl.length == 0) = false := by simp; omega
     have hq5 : cl.length ≠ 0 := by omega
     obtain ⟨hws, hwe⟩ := hw1.2 h0
     subst hws
     have HRS := hidM (fun (W : World) (hW : Below W5.heap.size W5 W) => rising_anyZ 1 64 (.slice q5 cl.length qc5) cl W (n5.out.below hW) (by omega))
     rw [HRI.out] at HRS
     have HIN := hidM (fun (W : World) (hW : Below W5.heap.size W5 W) => rin_any (.slice q5 cl.length qc5) cl we W (n5.out.below hW) (by omega))
     have hmem : we ∈ cl → ¬ idxI cl we < 0 := fun h => idx_mem h
     clear hw1 hcl1
     go_wp2_with (first
      | (go_at_call 10; refine (HN.out _ _).mono ?_; rintro e W9 ⟨rfl, hw9⟩; subst W9))
     refine (HIN.out W5 (Below.refl _ _)).mono ?_
     rintro e W6 ⟨rfl, hw6⟩
     subst W6
     obtain ⟨ix, hix⟩ : ∃ ix, ix = idxI cl we := ⟨_, rfl⟩
     rw [← hix] at hmem ⊢
     have hcase : ¬ ix < 0 ∨ (ix < 0 ∧ we = 11) := by
      rcases hwe with h | h
      ·exact .inl (by have := hmem h; omega)
      ·by_cases hh : ix < 0
       ·exact .inr ⟨hh, h⟩
       ·exact .inl hh
     clear hix hmem hwe
     rcases hcase with hi | ⟨hi, h11⟩
     all_goals
      try subst h11
      go_wp2_with (first
       | (go_at_call 10; refine (HN.out _ _).mono ?_; rintro e W9 ⟨rfl, hw9⟩; subst W9))
      refine (HRS.out _ (Below.refl _ _)).mono ?_
      rintro e W6 ⟨rfl, hd6⟩
      have hb6 := hd6.below W5.heap.size
      have HB6 := hidM (nxt HBEL.out (nxt HB5.out hb6))
      clear hd6 hb6
      go_wp2_with (first
       | (go_at_call 10; refine (HN.out _ _).mono ?_; rintro e W9 ⟨rfl, hw9⟩; subst W9))
      go_roundw
      case rel => exact ⟨k + 1, by omega, by go_num, HB6.out⟩
      case measure => simp [intOf]; omega
   ·have hcs : (k < L.length ∧ ¬ k < 6) ∨ ¬ k < L.length := by omega
    clear hbel
    rcases hcs with ⟨hkl, hk6⟩ | hkl
    all_goals
     first
      | (have hkli : (k : Int) < (L.length : Int) := by omega
         have hk6i : ¬ (k : Int) < 6 := by omega
         go_wp2_with fail)
      | (have hkli : ¬ (k : Int) < (L.length : Int) := by omega
         go_wp2_with fail)
     refine (wakes14_any _ (H14.out.env _ HBEL.out) (H14.out.hal _ HBEL.out)).mono ?_
     rintro e W8 ⟨rfl, hb8⟩
     go_wp2
     go_ret
     exact ⟨rfl, nxt H14.out.low (nxt HBEL.out hb8)⟩
end Go.Proofs.YtclcgakfmcofaaaGreatDoor
