/- Texts laid together: JTog, JLaw, JSrt, JApt, JWho. -/
import Derived.Test.YtclcgakfmcofaaaGreatDoorMW31
import Derived.Test.YtclcgakfmcofaaaGreatDoorMW33
import Derived.Test.YtclcgakfmcofaaaGreatDoorMW42
import Derived.Test.YtclcgakfmcofaaaGreatDoorMW45
import Derived.Test.YtclcgakfmcofaaaGreatDoorMW28
import Derived.Test.YtclcgakfmcofaaaGreatDoorMW27
import Derived.Test.YtclcgakfmcofaaaGreatDoorMW3
import Derived.Test.YtclcgakfmcofaaaGreatDoorMW2
set_option linter.unusedVariables false
set_option maxRecDepth 100000
set_option maxHeartbeats 3200000
namespace Go.Proofs.YtclcgakfmcofaaaGreatDoor
open Go.RowKit
theorem togM_drop {c : aX} {j : Jb} {l : List Int} {k : Nat} {i : Int} (h : l[k]? = some i) (acc : List Rc) : eX c j (l.drop k) acc = if (ap j (dH c i)).2 ≠ 0 then ([], (ap j (dH c i)).2) else eX c j (l.drop (k + 1)) (acc ++ (ap j (dH c i)).1) := by
 obtain ⟨hk, rfl⟩ := List.getElem?_eq_some_iff.1 h
 rw [List.drop_eq_getElem_cons hk, eX]
theorem togM_end {c : aX} {j : Jb} {l : List Int} {k : Nat} (h : l.length ≤ k) (acc : List Rc) : eX c j (l.drop k) acc = (acc, 0) := by rw [List.drop_of_length_le h]; rfl
structure fP (c : aX) (j : Jb) (l : List Int) (k : Nat) (acc : List Rc) : Prop where
 eq : eX c j (l.drop k) acc = eX c j l []
 len : acc.length ≤ 256 * k
 wf : Wf acc
 keys : aU acc = true
theorem fP.start (c : aX) (j : Jb) (l : List Int) : fP c j l 0 [] := ⟨by rw [List.drop_zero], by simp, fun x hx => by simp at hx, rfl⟩
theorem fP.step {c : aX} {j : Jb} {l : List Int} {k : Nat} {acc : List Rc} {i : Int} (h : fP c j l k acc) (hi : l[k]? = some i) (h0 : (ap j (dH c i)).2 = 0) : fP c j l (k + 1) (acc ++ (ap j (dH c i)).1) := by
 have hm := kU (ft c i).1 h0
 refine ⟨?_, ?_, ?_, keysJ_app h.keys hm.keys⟩
 ·rw [← h.eq, togM_drop hi, if_neg (by simpa using h0)]
 ·have := h.len; have := hm.len; rw [List.length_append]; omega
 ·intro x hx
  rcases List.mem_append.1 hx with hx | hx
  ·exact h.wf x hx
  ·exact hm.wf x hx
theorem fP.bad {c : aX} {j : Jb} {l : List Int} {k : Nat} {acc : List Rc} {i : Int} (h : fP c j l k acc) (hi : l[k]? = some i) (h0 : (ap j (dH c i)).2 ≠ 0) : bf c j l = (⟨#[]⟩, (ap j (dH c i)).2) := by
 have e : eX c j l [] = ([], (ap j (dH c i)).2) := by rw [← h.eq, togM_drop hi, if_pos h0]
 unfold bf togP
 rw [e, if_pos h0]
theorem fP.fin {c : aX} {j : Jb} {l : List Int} {k : Nat} {acc : List Rc} (h : fP c j l k acc) (hk : l.length ≤ k) : eX c j l [] = (acc, 0) := by rw [← h.eq, togM_end hk]
theorem lH {c : aX} {j : Jb} {l : List Int} {acc : List Rc} (h : eX c j l [] = (acc, 0)) (h1 : (aB j.agg j.bound.toNat acc).2 ≠ 0) : bf c j l = (⟨#[]⟩, (aB j.agg j.bound.toNat acc).2) := by
 unfold bf togP
 rw [h, if_neg (by simp), if_pos h1]
theorem jf {c : aX} {j : Jb} {l : List Int} {acc : List Rc} (h : eX c j l [] = (acc, 0)) (h1 : (aB j.agg j.bound.toNat acc).2 = 0) : bf c j l = bM j.agg j.parts (aB j.agg j.bound.toNat acc).1 := by
 unfold bf togP
 rw [h, if_neg (by simp), if_neg (by simpa using h1)]
theorem own_rowM {w : World} {base : Nat} {v : Value} {l : List Rc} (h : bq w base v l) : ∀ k, v.ownBlock = some k → base ≤ k := by
 intro k hk
 rcases h.2 with ⟨rfl, -⟩ | ⟨g, cap, cur, rfl, hg, -⟩
 ·cases hk
 ·have e : some g = some k := hk
  injection e with e
  omega
abbrev fQ (j : Jb) (u : Value) : Obj := .cells #[.int .i64 j.id, .string j.prog, .int .i64 j.agg, .int .i64 j.bound, .int .i64 j.fuel, u, .int .i64 j.parts] 37
structure CJ (w W : World) (c : aX) (v : Value) (j : Jb) (u : Value) : Prop where
 q0 : W.cell? ⟨w.heap.size, 0, none⟩ = some (.int .i64 c.sites)
 q1 : W.cell? ⟨w.heap.size, 1, none⟩ = some v
 q2 : W.cell? ⟨w.heap.size, 2, none⟩ = some (.int .i64 c.again)
 q3 : W.cell? ⟨w.heap.size, 3, none⟩ = some (.int .i64 c.over)
 j0 : W.cell? ⟨w.heap.size + 1, 0, none⟩ = some (.int .i64 j.id)
 j1 : W.cell? ⟨w.heap.size + 1, 1, none⟩ = some (.string j.prog)
 j2 : W.cell? ⟨w.heap.size + 1, 2, none⟩ = some (.int .i64 j.agg)
 j3 : W.cell? ⟨w.heap.size + 1, 3, none⟩ = some (.int .i64 j.bound)
 j4 : W.cell? ⟨w.heap.size + 1, 4, none⟩ = some (.int .i64 j.fuel)
 j5 : W.cell? ⟨w.heap.size + 1, 5, none⟩ = some u
 j6 : W.cell? ⟨w.heap.size + 1, 6, none⟩ = some (.int .i64 j.parts)
theorem CJ.start (w : World) (c : aX) (v : Value) (j : Jb) (u : Value) : ∀ W, Below ((w.alloc (gq c v)).alloc (fQ j u)).heap.size ((w.alloc (gq c v)).alloc (fQ j u)) W → CJ w W c v j u := fun W hW => by
 have B0 : dg ((w.alloc (gq c v)).alloc (fQ j u)) w.heap.size (.int .i64 c.sites) v (.int .i64 c.again) (.int .i64 c.over) := (dg.new w _ _ _ _).below (dN _ _)
 have B1 : aG ((w.alloc (gq c v)).alloc (fQ j u)) (w.heap.size + 1) (.int .i64 j.id) (.string j.prog) (.int .i64 j.agg) (.int .i64 j.bound) (.int .i64 j.fuel) u (.int .i64 j.parts) := by simpa using aG.new (w.alloc (gq c v)) (.int .i64 j.id) (.string j.prog) (.int .i64 j.agg) (.int .i64 j.bound) (.int .i64 j.fuel) u (.int .i64 j.parts)
 obtain ⟨q0, q1, q2, q3⟩ := (B0.below hW).cells
 obtain ⟨j0, j1, j2, j3, j4, j5, j6⟩ := (B1.below hW).cells
 exact ⟨q0, q1, q2, q3, j0, j1, j2, j3, j4, j5, j6⟩
theorem jtog_any (c : aX) (v : Value) (j : Jb) (u : Value) (l : List Int) (w : World) (hc : nG w c v) (hj : InJ w j u l) (hJ : mO j l) (hE : iu w) (hH : bI w) : Calls Tryz.prog 50 #[cL c v, cJ j u] w (ByR w (bf c j l)) := by
 obtain ⟨va, vc, rfl, -⟩ := hc.ps
 obtain ⟨ua, uc, rfl⟩ := hj.slice
 obtain ⟨W0, hW0⟩ : ∃ W0 : World, W0 = (w.alloc (gq c (.slice va c.splits.length vc))).alloc (fQ j (.slice ua l.length uc)) := ⟨_, rfl⟩
 have hb0 : Below w.heap.size w W0 := by rw [hW0]; exact ag (dN w _) (dN _ _)
 have HCJ := ae (show ∀ W, Below W0.heap.size W0 W → CJ w W c (.slice va c.splits.length vc) j (.slice ua l.length uc) from fun W hW => CJ.start w c _ j _ W (by rw [← hW0]; exact hW))
 have HNS := ae (show ∀ W, Below W0.heap.size W0 W → NS W (.slice ua l.length uc) l from fun W hW => (hj.ns.below hb0).below hW)
 have HREC := ae (fun (W : World) (i : Int) (hW : Below W0.heap.size W0 W) => ph c (.slice va c.splits.length vc) i W ((hc.below hb0).below hW))
 have HMAP := ae (fun (W : World) (v1 : Value) (i : Int) (hW : Below W0.heap.size W0 W) (h1 : RS W v1 (dH c i)) => lmap_any j ua l.length uc v1 (dH c i) W h1 (ft c i).1 (by have := (ft c i).2; omega) (by have := hJ.prog; omega) (by have := hJ.fuel; omega) ((hE.low hb0).low hW))
 have HHV := ae (fun (W : World) (hW : Below W0.heap.size W0 W) => (hH.below hb0 hH.pos).below hW (by have := hH.pos; have := hb0.size; omega))
 have HW := ae hW0.symm
 have HB := ae hb0
 have HRF := ae (Below.refl W0.heap.size W0)
 have hl6 := hJ.len.2
 have HJ := ae hJ
 clear hW0 hb0 hc hj hE hH hJ
 go_enter Tryz.func50, Tryz.ntmps50
 obtain ⟨q0, q1, q2, q3, j0, j1, j2, j3, j4, j5, j6⟩ := HCJ.out W0 HRF.out
 go_wp2
 rw [HW.out]
 go_wp2
 clear q0 q1 q2 q3 j0 j1 j2 j3 j4 j5 j6
 go_loopw [6, 16] (fun x i wr => ∃ (k : Nat) (acc : List Rc), k ≤ l.length ∧ i = .int .i64 k ∧ Hid (fP c j l k acc) ∧ bq wr W0.heap.size x acc ∧ Below W0.heap.size W0 wr) (fun _ i _ => l.length - (intOf i).toNat)
 case atStart => exact ⟨0, [], by omega, rfl, fP.start c j l, World.ownsRow_nil _ _ _ _, HRF.out⟩
 case round =>
  rename World => w0
  obtain ⟨k, acc, hk, rfl, HT, hown, hbel⟩ := hrel
  have HBEL := ae hbel
  have HS := ae (show ∀ W, Below w0.heap.size w0 W → W.cell? ⟨w.heap.size, 0, none⟩ = some (.int .i64 c.sites) ∧ W.cell? ⟨w.heap.size, 1, none⟩ = some (.slice va c.splits.length vc) ∧ W.cell? ⟨w.heap.size, 2, none⟩ = some (.int .i64 c.again) ∧ W.cell? ⟨w.heap.size, 3, none⟩ = some (.int .i64 c.over) ∧ W.cell? ⟨w.heap.size + 1, 0, none⟩ = some (.int .i64 j.id) ∧ W.cell? ⟨w.heap.size + 1, 1, none⟩ = some (.string j.prog) ∧ W.cell? ⟨w.heap.size + 1, 2, none⟩ = some (.int .i64 j.agg) ∧ W.cell? ⟨w.heap.size + 1, 3, none⟩ = some (.int .i64 j.bound) ∧ W.cell? ⟨w.heap.size + 1, 4, none⟩ = some (.int .i64 j.fuel) ∧ W.cell? ⟨w.heap.size + 1, 5, none⟩ = some (.slice ua l.length uc) ∧ W.cell? ⟨w.heap.size + 1, 6, none⟩ = some (.int .i64 j.parts) ∧ Below w0.heap.size w0 W from fun W hW => by
   have h := HCJ.out W (ag HBEL.out hW)
   exact ⟨h.q0, h.q1, h.q2, h.q3, h.j0, h.j1, h.j2, h.j3, h.j4, h.j5, h.j6, hW⟩)
  have HKEEP := ae (fun (W W' : World) (hn : W.cell? ⟨w.heap.size, 0, none⟩ = some (.int .i64 c.sites) ∧ W.cell? ⟨w.heap.size, 1, none⟩ = some (.slice va c.splits.length vc) ∧ W.cell? ⟨w.heap.size, 2, none⟩ = some (.int .i64 c.again) ∧ W.cell? ⟨w.heap.size, 3, none⟩ = some (.int .i64 c.over) ∧ W.cell? ⟨w.heap.size + 1, 0, none⟩ = some (.int .i64 j.id) ∧ W.cell? ⟨w.heap.size + 1, 1, none⟩ = some (.string j.prog) ∧ W.cell? ⟨w.heap.size + 1, 2, none⟩ = some (.int .i64 j.agg) ∧ W.cell? ⟨w.heap.size + 1, 3, none⟩ = some (.int .i64 j.bound) ∧ W.cell? ⟨w.heap.size + 1, 4, none⟩ = some (.int .i64 j.fuel) ∧ W.cell? ⟨w.heap.size + 1, 5, none⟩ = some (.slice ua l.length uc) ∧ W.cell? ⟨w.heap.size + 1, 6, none⟩ = some (.int .i64 j.parts) ∧ Below w0.heap.size w0 W) (hb : Below W.heap.size W W') => HS.out W' (ag hn.2.2.2.2.2.2.2.2.2.2.2 hb))
  have HOWN := ae hown
  obtain ⟨ax, cx, rfl⟩ := hown.shape
  by_cases hlt : k < l.length
  ·obtain ⟨i, hi⟩ := ak hlt
   obtain ⟨a', c', e', hsh⟩ := HNS.out w0 hbel
   obtain rfl : a' = ua := by injection e' with e1; exact e1.symm
   rcases hsh with hnil | ⟨b, off, rfl, hb, hat⟩
   ·rw [hnil] at hlt; simp at hlt
   have c0 := hat k i hi
   have hki : (k : Int) < (l.length : Int) := by omega
   have hk0 : (0 : Int) ≤ (k : Int) := by omega
   obtain ⟨⟨M1, M2⟩, hM⟩ : ∃ M, M = ap j (dH c i) := ⟨_, rfl⟩
   have HMP := ae (fun (W : World) (v1 : Value) (hW : Below W0.heap.size W0 W) (h1 : RS W v1 (dH c i)) => HMAP.out W v1 i hW h1)
   rw [← hM] at HMP
   have HRC := ae (fun (W : World) (hW : Below W0.heap.size W0 W) => HREC.out W i hW)
   have hstep := fun h0 => HT.out.step hi h0
   have hbad := fun h0 => HT.out.bad hi h0
   rw [← hM] at hstep hbad
   have hlen := HT.out.len
   simp only at HMP hstep hbad
   clear hat hi hM e' hown hbel hb
   go_wp2
   go_region_held3 (fun W => W.cell? ⟨w.heap.size, 0, none⟩ = some (.int .i64 c.sites) ∧ W.cell? ⟨w.heap.size, 1, none⟩ = some (.slice va c.splits.length vc) ∧ W.cell? ⟨w.heap.size, 2, none⟩ = some (.int .i64 c.again) ∧ W.cell? ⟨w.heap.size, 3, none⟩ = some (.int .i64 c.over) ∧ W.cell? ⟨w.heap.size + 1, 0, none⟩ = some (.int .i64 j.id) ∧ W.cell? ⟨w.heap.size + 1, 1, none⟩ = some (.string j.prog) ∧ W.cell? ⟨w.heap.size + 1, 2, none⟩ = some (.int .i64 j.agg) ∧ W.cell? ⟨w.heap.size + 1, 3, none⟩ = some (.int .i64 j.bound) ∧ W.cell? ⟨w.heap.size + 1, 4, none⟩ = some (.int .i64 j.fuel) ∧ W.cell? ⟨w.heap.size + 1, 5, none⟩ = some (.slice (some ⟨b, off, none⟩) l.length uc) ∧ W.cell? ⟨w.heap.size + 1, 6, none⟩ = some (.int .i64 j.parts) ∧ Below w0.heap.size w0 W)
    (first | with_reducible exact HKEEP.out _ _ (by assumption) (by assumption) | with_reducible exact HS.out _ (Below.refl _ _).drew)
    (first
     | (go_at_call 86; refine (HRC.out _ (ag HBEL.out (by first | exact (‹_ ∧ _ ∧ _ ∧ _ ∧ _ ∧ _ ∧ _ ∧ _ ∧ _ ∧ _ ∧ _ ∧ Below w0.heap.size w0 _›).2.2.2.2.2.2.2.2.2.2.2 | exact (Below.refl _ _).drew))).mono ?_; rintro e W2 ⟨⟨v2, rfl, ho2⟩, hb2⟩; have n2 := ae (RS.own ho2); obtain ⟨a2, c2, rfl⟩ := ho2.shape; clear ho2)
     | (go_at_call 85; refine (HMP.out _ _ (ag HBEL.out (by exact (‹_ ∧ _ ∧ _ ∧ _ ∧ _ ∧ _ ∧ _ ∧ _ ∧ _ ∧ _ ∧ _ ∧ Below w0.heap.size w0 _›).2.2.2.2.2.2.2.2.2.2.2)) n2.out).mono ?_; rintro e W3 ⟨⟨v3, rfl, ho3⟩, hb3⟩; have n3 := ae ho3; obtain ⟨a3, c3, rfl⟩ := ho3.shape; clear ho3))
   obtain ⟨x0, x1, x2, x3, y0, y1, y2, y3, y4, y5, y6, hbX⟩ := ‹_ ∧ _ ∧ _ ∧ _ ∧ _ ∧ _ ∧ _ ∧ _ ∧ _ ∧ _ ∧ _ ∧ Below w0.heap.size w0 _›
   have HBX := ae (ag HBEL.out hbX)
   have HOX := ae (HOWN.out.below hbX)
   clear hbX
   by_cases hm : M2 = 0
   ·subst hm
    have hmm : ((0 : Int) != 0) = false := rfl
    have hT2 := hstep rfl
    have hl2 := hT2.len
    rw [List.length_append] at hl2
    obtain ⟨v8, W8, q1, q2, q3⟩ := iq 97 HOX.out (RS.own n3.out) (by omega) HBX.out.size
    have U1 := ae q1
    have HO8 := ae q2
    have HB8 := ae (HBX.out.grown q3 HBX.out.size (own_rowM HOX.out))
    have HT2 := ae hT2
    clear q1 q2 q3 hT2 hbad hstep hl2 hlen
    go_wp2_with (first
     | (at_builtin; refine wpList_append_run _ rfl _ _ _ rfl _ _ v8 W8 rfl rfl U1.out ?_))
    go_roundw
    case rel => exact ⟨k + 1, _, by omega, by go_num, HT2, HO8.out, HB8.out⟩
    case measure => simp [intOf]; omega
   ·have hme : (M2 != 0) = true := by simpa using hm
    have hme2 : (M2 == 0) = false := by simpa using hm
    have HRt := ae (hbad hm)
    clear hbad hstep hm
    go_wp2
    go_ret2
    exact ⟨by rw [HRt.out]; rfl, ag HB.out HBX.out⟩
  ·have hki : ¬ (k : Int) < (l.length : Int) := by omega
   have hlen := HT.out.len
   have hTF := HT.out.fin (by omega)
   have hfine := iv (agg := j.agg) (bound := j.bound) HJ.out.way HT.out.keys HT.out.wf (by omega)
   have hR1 := fun h1 => lH hTF h1
   have hR2 := fun h1 => jf hTF h1
   have HFO := ae (mA j.agg j.bound _ acc w0 (RS.own hown) HT.out.wf (by omega))
   rw [lF HJ.out.way (by omega) HT.out.keys] at HFO
   obtain ⟨j0, j1, j2, j3, j4, j5, j6⟩ : w0.cell? ⟨w.heap.size + 1, 0, none⟩ = some (.int .i64 j.id) ∧ w0.cell? ⟨w.heap.size + 1, 1, none⟩ = some (.string j.prog) ∧ w0.cell? ⟨w.heap.size + 1, 2, none⟩ = some (.int .i64 j.agg) ∧ w0.cell? ⟨w.heap.size + 1, 3, none⟩ = some (.int .i64 j.bound) ∧ w0.cell? ⟨w.heap.size + 1, 4, none⟩ = some (.int .i64 j.fuel) ∧ w0.cell? ⟨w.heap.size + 1, 5, none⟩ = some (.slice ua l.length uc) ∧ w0.cell? ⟨w.heap.size + 1, 6, none⟩ = some (.int .i64 j.parts) := by
    have h := HCJ.out w0 hbel
    exact ⟨h.j0, h.j1, h.j2, h.j3, h.j4, h.j5, h.j6⟩
   obtain ⟨⟨F1, F2⟩, hF⟩ : ∃ F, F = aB j.agg j.bound.toNat acc := ⟨_, rfl⟩
   rw [← hF] at HFO hR1 hR2 hfine
   simp only at HFO hR1 hR2 hfine
   clear hTF hown hbel hlt hlen HS HKEEP
   by_cases hf2 : F2 = 0
   ·subst hf2
    rw [show fin (F1, (0 : Int)) = (F1, 0) from rfl] at HFO
    have HRt := ae (hR2 rfl)
    have HOU := ae (fun (W : World) (v2 : Value) (hv : WS W v2 F1) (hc2 : iD v2) (hW : Below W0.heap.size W0 W) => output_any j.agg j.bound j.parts v2 F1 W hv hc2 hfine (fineJ_wf hfine) HJ.out.parts (HHV.out W hW))
    have HFI := ae hfine
    clear hR1 hR2 hF hfine
    go_wp2_with fail
    refine HFO.out.mono ?_
    rintro e W2 ⟨⟨v2, rfl, ho2⟩, hb2⟩
    have HB2 := ae (ag HBEL.out hb2)
    have HO2 := ae ho2
    obtain ⟨a2, c2, rfl, -⟩ := id (aQ.ws ho2)
    obtain ⟨j0, j1, j2, j3, j4, j5, j6⟩ : W2.cell? ⟨w.heap.size + 1, 0, none⟩ = some (.int .i64 j.id) ∧ W2.cell? ⟨w.heap.size + 1, 1, none⟩ = some (.string j.prog) ∧ W2.cell? ⟨w.heap.size + 1, 2, none⟩ = some (.int .i64 j.agg) ∧ W2.cell? ⟨w.heap.size + 1, 3, none⟩ = some (.int .i64 j.bound) ∧ W2.cell? ⟨w.heap.size + 1, 4, none⟩ = some (.int .i64 j.fuel) ∧ W2.cell? ⟨w.heap.size + 1, 5, none⟩ = some (.slice ua l.length uc) ∧ W2.cell? ⟨w.heap.size + 1, 6, none⟩ = some (.int .i64 j.parts) := by
     have h := HCJ.out W2 HB2.out
     exact ⟨h.j0, h.j1, h.j2, h.j3, h.j4, h.j5, h.j6⟩
    clear ho2 hb2 HFO
    go_wp2_with fail
    refine (HOU.out W2 _ (aQ.ws HO2.out) (aQ.cap HO2.out) HB2.out).mono ?_
    rw [← HRt.out]
    rintro e W3 ⟨rfl, hb3⟩
    go_wp2
    go_ret2
    exact ⟨rfl, ag HB.out (ag HB2.out hb3)⟩
   ·have hme : (F2 != 0) = true := by simpa using hf2
    have hme2 : (F2 == 0) = false := by simpa using hf2
    have HRt := ae (hR1 hf2)
    rw [show fin (F1, F2) = ([], F2) from fS hf2] at HFO
    clear hR1 hR2 hF hfine hf2
    go_wp2_with fail
    refine HFO.out.mono ?_
    rintro e W2 ⟨⟨v2, rfl, ho2⟩, hb2⟩
    go_wp2
    go_ret2
    exact ⟨by rw [HRt.out]; rfl, ag HB.out (ag HBEL.out hb2)⟩
theorem num14_any (e : Int) (w : World) : Calls Tryz.prog 10 #[.int .i64 e] w fun r w' => r = .returned (.int .i64 e) ∧ w' = w := by
 go_enter Tryz.func10, Tryz.ntmps10
 go_wp2
 go_ret
 exact ⟨rfl, rfl⟩
def gU (c : aX) : Prop := c.splits.length ≤ 20000 ∧ ∀ s ∈ c.splits, s.2.2.length ≤ 20000
def WeighC (c : aX) (n : Int) : Prop := n ≤ 20000 → gU c
theorem nR (c : aX) (v : Value) (w : World) (h : nG w c v) :
  Calls Tryz.prog 74 #[cL c v] w fun e w' => (∃ n : Int, e = .returned (.int .i64 n) ∧ WeighC c n) ∧ Below w.heap.size w w' := by
 have hlen := h.len
 have hwf := h.wf
 obtain ⟨va, vc, rfl, hsh⟩ := h.ps
 clear h
 obtain ⟨W0, hW0⟩ : ∃ W0 : World, W0 = w.alloc (.cells #[.int .i64 c.sites, .slice va c.splits.length vc, .int .i64 c.again, .int .i64 c.over] 24) := ⟨_, rfl⟩
 have hb0 : Below w.heap.size w W0 := by rw [hW0]; exact (Below.refl _ _).alloc (Nat.le_refl _) _
 have B0 : dg W0 w.heap.size (.int .i64 c.sites) (.slice va c.splits.length vc) (.int .i64 c.again) (.int .i64 c.over) := by rw [hW0]; exact dg.new w _ _ _ _
 obtain ⟨r0, r1, r2, r3⟩ := B0.cells
 have HW := ae hW0.symm
 have HB0 := ae hb0
 have HF0 := ae B0
 clear hW0 hb0 B0
 go_enter Tryz.func74, Tryz.ntmps74
 go_wp2
 rw [HW.out]
 clear r0 r1 r2 r3
 go_loopw [3, 4] (fun nv i wr => ∃ (k : Nat) (n : Int), k ≤ c.splits.length ∧ i = .int .i64 k ∧ nv = .int .i64 n ∧ 1 ≤ n ∧ n ≤ 200000000000000 ∧ Hid (((c.splits.length : Nat) : Int) ≤ n ∧ ∀ s ∈ c.splits.take k, ((s.2.2.length : Nat) : Int) ≤ n) ∧ aE W0 wr) (fun _ i _ => c.splits.length - (intOf i).toNat)
 case atStart => exact ⟨0, _, by omega, rfl, rfl, by omega, by omega, ae ⟨by omega, fun s hs => by simp at hs⟩, aE.refl _⟩
 case round =>
  obtain ⟨k, n, hk, rfl, rfl, hn1, hn2, HN, hD⟩ := hrel
  obtain ⟨r0, r1, r2, r3⟩ := (HF0.out.below (hD.below _)).cells
  by_cases hlt : k < c.splits.length
  ·obtain ⟨⟨si, st, sl⟩, hy⟩ := ak hlt
   have hw1 := hwf _ (List.mem_of_getElem? hy)
   have htx : st.size ≤ 140737488351232 := hw1.txt
   have hsl : sl.length ≤ 17592186043904 := hw1.len
   rcases hsh with hnil | ⟨b, off, rfl, hb, hat⟩
   ·rw [hnil] at hlt; simp at hlt
   obtain ⟨c0, c1, sa, sc, c2, -⟩ := ((hat.below HB0.out hb).below (hD.below _) (Nat.lt_of_lt_of_le hb HB0.out.size)) k _ hy
   simp only at c0 c1 c2
   have hki0 : (0 : Int) ≤ (k : Int) := by omega
   have hki : (k : Int) < (c.splits.length : Int) := by omega
   have HN2 := ae (show ((c.splits.length : Nat) : Int) ≤ n + st.size + sl.length ∧ ∀ s ∈ c.splits.take (k + 1), ((s.2.2.length : Nat) : Int) ≤ n + st.size + sl.length from ⟨by have := HN.out.1; omega, fun s hs => by
    rw [List.take_add_one, hy] at hs
    rcases List.mem_append.1 hs with hs | hs
    ·have := HN.out.2 s hs; omega
    ·simp at hs; subst hs; simp only; omega⟩)
   clear hat hy hw1
   by_cases hn : n < 1048576
   ·go_wp2
    go_quiet (fail)
    go_wp2
    go_roundw
    case rel => exact ⟨k + 1, n + st.size + sl.length, by omega, by go_num, by go_num, by omega, by omega, HN2, hD.step _⟩
    case measure => simp [intOf]; omega
   ·have HQ := ae (show WeighC c n from fun h => absurd h (by omega))
    go_wp2
    go_ret
    exact ⟨⟨_, rfl, HQ.out⟩, ag HB0.out (hD.below _)⟩
  ·have hlt' : ¬ (k : Int) < (c.splits.length : Int) := by omega
   have HQ := ae (show WeighC c n from fun h => ⟨by have := HN.out.1; omega, fun s hs => by have := HN.out.2 s (by rwa [List.take_of_length_le (by omega)]); omega⟩)
   go_wp2
   go_ret
   exact ⟨⟨_, rfl, HQ.out⟩, ag HB0.out (hD.below _)⟩
def HvyC (c : aX) (e : Ending) : Prop := ∃ r : Bool, e = .returned (.bool r) ∧ (r = false → gU c)
theorem heavy12b_any (c : aX) (vp vl : Value) (l : List Int) (w : World) (h : In12 w c vp vl l) :
  Calls Tryz.prog 32 #[askV12 c vp vl] w fun e w' => HvyC c e ∧ Below w.heap.size w w' := by
 obtain ⟨W0, hW0⟩ : ∃ W0 : World, W0 = w.alloc (askO12 c vp vl) := ⟨_, rfl⟩
 have hb0 : Below w.heap.size w W0 := by rw [hW0]; exact (Below.refl _ _).alloc (Nat.le_refl _) _
 have B0 : kQ W0 w.heap.size c vp vl := by rw [hW0]; exact kQ.new w _ _ _
 have HC := ae (nR c vp W0 (h.cfg.below hb0))
 obtain ⟨a, k, rfl, -⟩ := h.lcap
 have HW := ae hW0.symm
 have HB0 := ae hb0
 have HF := ae B0
 clear hW0 hb0 B0 h
 go_enter Tryz.func32, Tryz.ntmps32
 go_wp2_with fail
 rw [HW.out]
 refine HC.out.mono ?_
 rintro e W1 ⟨⟨n, rfl, hq⟩, hb1⟩
 obtain ⟨r0, r1, r2, r3, r4⟩ := (HF.out.below hb1).cells
 have HQ := ae hq
 clear hq
 by_cases hn : 20000 < n
 ·go_wp2
  go_ret
  exact ⟨⟨_, rfl, fun h => by cases h⟩, ag HB0.out hb1⟩
 ·have HS := ae (HQ.out (by omega))
  go_wp2
  go_ret
  exact ⟨⟨_, rfl, fun _ => HS.out⟩, ag HB0.out hb1⟩
theorem jweight_any (x : Jl) (a : Option Addr) (c : Nat) (w : World) (hw : WfJ x) : Calls Tryz.prog 31 #[cJ x.1 (.slice a x.2.length c)] w fun e w' => e = .returned (.int .i64 (1 + x.1.prog.size + x.2.length)) ∧ Below w.heap.size w w' := by
 obtain ⟨W0, hW0⟩ : ∃ W0 : World, W0 = w.alloc (fQ x.1 (.slice a x.2.length c)) := ⟨_, rfl⟩
 have hb0 : Below w.heap.size w W0 := by rw [hW0]; exact dN w _
 have B0 := aG.new w (.int .i64 x.1.id) (.string x.1.prog) (.int .i64 x.1.agg) (.int .i64 x.1.bound) (.int .i64 x.1.fuel) (.slice a x.2.length c) (.int .i64 x.1.parts)
 rw [← hW0] at B0
 obtain ⟨r0, r1, r2, r3, r4, r5, r6⟩ := B0.cells
 have h1 := hw.prog
 have h2 := hw.len
 have hp1 : ((x.1.prog.size : Nat) : Int) ≤ 140737488351232 := by omega
 have hp2 : ((x.2.length : Nat) : Int) ≤ 17592186043904 := by omega
 have HW := ae hW0.symm
 have HB0 := ae hb0
 clear hW0 hb0 B0 hw
 go_enter Tryz.func31, Tryz.ntmps31
 go_wp2
 go_ret
 rw [HW.out]
 exact ⟨by go_num, HB0.out⟩
abbrev jg (c : aX) (vp vl vj : Value) (x : ByteArray) : Obj := .cells #[.int .i64 c.sites, vp, .int .i64 c.again, .int .i64 c.over, vl, vj, .string x] 30
structure A14 (w W : World) (c : aX) (vp vl vj : Value) (x : ByteArray) : Prop where
 a0 : W.cell? ⟨w.heap.size, 0, none⟩ = some (.int .i64 c.sites)
 a1 : W.cell? ⟨w.heap.size, 1, none⟩ = some vp
 a2 : W.cell? ⟨w.heap.size, 2, none⟩ = some (.int .i64 c.again)
 a3 : W.cell? ⟨w.heap.size, 3, none⟩ = some (.int .i64 c.over)
 a4 : W.cell? ⟨w.heap.size, 4, none⟩ = some vl
 a5 : W.cell? ⟨w.heap.size, 5, none⟩ = some vj
 a6 : W.cell? ⟨w.heap.size, 6, none⟩ = some (.string x)
theorem A14.start (w : World) (c : aX) (vp vl vj : Value) (x : ByteArray) : ∀ W, Below (w.alloc (jg c vp vl vj x)).heap.size (w.alloc (jg c vp vl vj x)) W → A14 w W c vp vl vj x := fun W hW => by
 have h : (w.alloc (jg c vp vl vj x)).heap[w.heap.size]? = some (.cells #[.int .i64 c.sites, vp, .int .i64 c.again, .int .i64 c.over, vl, vj, .string x] 30 (0, 0)) := heap_alloc_new w _
 have h2 : W.heap[w.heap.size]? = some (.cells #[.int .i64 c.sites, vp, .int .i64 c.again, .int .i64 c.over, vl, vj, .string x] 30 (0, 0)) := by rw [hW.block _ (Array.getElem?_eq_some_iff.1 h).1]; exact h
 refine ⟨?_, ?_, ?_, ?_, ?_, ?_, ?_⟩ <;> simp [World.cell?, h2]
structure Small14 (c : aX) (L : List Jl) (x : ByteArray) : Prop where
 cfg : gU c
 x : x.size ≤ 8000
 jobs : ∀ y ∈ L, y.1.prog.size ≤ 8000 ∧ y.2.length ≤ 8000
def HvyJ (c : aX) (L : List Jl) (x : ByteArray) (e : Ending) : Prop := ∃ r : Bool, e = .returned (.bool r) ∧ (r = false → Small14 c L x)
theorem heavy14_any (c : aX) (vp vl vj : Value) (ids : List Int) (L : List Jl) (x : ByteArray) (w : World) (h : In14 w c vp vl vj ids L x) :
  Calls Tryz.prog 6 #[askV14 c vp vl vj x] w fun e w' => HvyJ c L x e ∧ Below w.heap.size w w' := by
 obtain ⟨W0, hW0⟩ : ∃ W0 : World, W0 = w.alloc (jg c vp vl vj x) := ⟨_, rfl⟩
 have hb0 : Below w.heap.size w W0 := by rw [hW0]; exact dN w _
 have HA := ae (show ∀ W, Below W0.heap.size W0 W → A14 w W c vp vl vj x from fun W hW => A14.start w c vp vl vj x W (by rw [← hW0]; exact hW))
 have HJS := ae (show ∀ W, Below W0.heap.size W0 W → JS W vj L from fun W hW => (h.js.below hb0).below hW)
 have H12 := ae (fun (W : World) (hW : Below W0.heap.size W0 W) => heavy12b_any c vp vl ids W ((h.s.below hb0).below hW))
 have hxs := h.x
 have HWF := ae h.wf
 have hLlen := h.len
 obtain ⟨ja, jc, rfl, -⟩ := h.jcap
 obtain ⟨sa, sc, rfl, -⟩ := h.s.cap
 obtain ⟨la, lc, rfl, -⟩ := h.s.lcap
 have HW := ae hW0.symm
 have HB0 := ae hb0
 have HRF := ae (Below.refl W0.heap.size W0)
 clear hW0 hb0 h
 obtain ⟨a0, a1, a2, a3, a4, a5, a6⟩ := HA.out W0 HRF.out
 have hx0 : ((x.size : Nat) : Int) ≤ 140737488351232 := by omega
 go_enter Tryz.func6, Tryz.ntmps6
 go_wp2
 rw [HW.out]
 clear a0 a1 a2 a3 a4 a5 a6
 go_loopw [3, 4] (fun nv i wr => ∃ (k : Nat) (n : Int), k ≤ L.length ∧ i = .int .i64 k ∧ nv = .int .i64 n ∧ 0 ≤ n ∧ n ≤ 200000000000000 ∧ Hid ((x.size : Int) ≤ n ∧ ∀ y ∈ L.take k, (y.1.prog.size : Int) ≤ n ∧ (y.2.length : Int) ≤ n) ∧ Below W0.heap.size W0 wr) (fun _ i _ => L.length - (intOf i).toNat)
 case atStart => exact ⟨0, _, by omega, rfl, rfl, by omega, by omega, ae ⟨by omega, fun y hy => by simp at hy⟩, HRF.out⟩
 case round =>
  rename World => w0
  obtain ⟨k, n, hk, rfl, rfl, hn1, hn2, HN, hbel⟩ := hrel
  obtain ⟨a0, a1, a2, a3, a4, a5, a6⟩ := HA.out w0 hbel
  have HBEL := ae hbel
  by_cases hgo : k < L.length ∧ n < 1048576
  ·obtain ⟨hlt, hn⟩ := hgo
   obtain ⟨y, hy⟩ := ak hlt
   have hwy := HWF.out y (List.mem_of_getElem? hy)
   obtain ⟨a', c', e', hsh⟩ := HJS.out w0 hbel
   obtain rfl : a' = ja := by injection e' with e1; exact e1.symm
   rcases hsh with hnil | ⟨b, off, rfl, hb, hat⟩
   ·rw [hnil] at hlt; simp at hlt
   obtain ⟨ua, uc, c0, c1, c2, c3, c4, c5, c6, -⟩ := hat k y hy
   have hki : (k : Int) < (L.length : Int) := by omega
   have hk0 : (0 : Int) ≤ (k : Int) := by omega
   have hnd : decide (n < 1048576) = true := decide_eq_true hn
   have HJW := ae (jweight_any y ua uc w0 hwy)
   have hyp : ((y.1.prog.size : Nat) : Int) ≤ 140737488351232 := by have := hwy.prog; omega
   have hyl : ((y.2.length : Nat) : Int) ≤ 17592186043904 := by have := hwy.len; omega
   have HN2 := ae (show (x.size : Int) ≤ n + (1 + y.1.prog.size + y.2.length) ∧ ∀ z ∈ L.take (k + 1), (z.1.prog.size : Int) ≤ n + (1 + y.1.prog.size + y.2.length) ∧ (z.2.length : Int) ≤ n + (1 + y.1.prog.size + y.2.length) from ⟨by have := HN.out.1; omega, fun z hz => by
    rw [List.take_add_one, hy] at hz
    rcases List.mem_append.1 hz with hz | hz
    ·have := HN.out.2 z hz; omega
    ·simp at hz; subst hz; omega⟩)
   obtain ⟨m, hm⟩ : ∃ m : Int, m = 1 + (y.1.prog.size : Int) + (y.2.length : Int) := ⟨_, rfl⟩
   have hm1 : 0 ≤ m := by omega
   have hm2 : m ≤ 160000000000000 := by omega
   rw [← hm] at HJW HN2
   clear hat hy hwy e' hbel hb hm hyp hyl
   go_wp2_with (first
    | (go_at_call 31; refine HJW.out.mono ?_; rintro e W1 ⟨rfl, hb1⟩))
   go_roundw
   case rel => exact ⟨k + 1, n + m, by omega, by go_num, by go_num, by omega, by omega, HN2, ag HBEL.out hb1⟩
   case measure => simp [intOf]; omega
  ·clear hbel
   by_cases hbig : 8000 < n
   ·have hbd : decide (8000 < n) = true := decide_eq_true hbig
    by_cases hlt : k < L.length
    ·have hki : (k : Int) < (L.length : Int) := by omega
     have hnd : ¬ n < 1048576 := fun h => hgo ⟨hlt, h⟩
     have hnd2 : decide (n < 1048576) = false := decide_eq_false hnd
     clear hgo
     go_wp2
     go_ret
     exact ⟨⟨_, rfl, fun h => by cases h⟩, ag HB0.out HBEL.out⟩
    ·have hki : ¬ (k : Int) < (L.length : Int) := by omega
     clear hgo
     go_wp2
     go_ret
     exact ⟨⟨_, rfl, fun h => by cases h⟩, ag HB0.out HBEL.out⟩
   ·have hlt : ¬ k < L.length := fun h => hgo ⟨h, by omega⟩
    have hki : ¬ (k : Int) < (L.length : Int) := by omega
    have hbd : decide (8000 < n) = false := decide_eq_false hbig
    have HSM := ae (show x.size ≤ 8000 ∧ ∀ y ∈ L, y.1.prog.size ≤ 8000 ∧ y.2.length ≤ 8000 from ⟨by have := HN.out.1; omega, fun y hy => by have := HN.out.2 y (by rwa [List.take_of_length_le (by omega)]); omega⟩)
    have H1 := ae (H12.out w0 HBEL.out)
    clear hgo
    go_wp2_with fail
    refine H1.out.mono ?_
    rintro e W1 ⟨⟨r, rfl, hr⟩, hb1⟩
    have HRr := ae hr
    clear hr
    go_wp2
    go_ret
    exact ⟨⟨_, rfl, fun h => ⟨HRr.out h, HSM.out.1, HSM.out.2⟩⟩, ag HB0.out (ag HBEL.out hb1)⟩
end Go.Proofs.YtclcgakfmcofaaaGreatDoor
namespace Go.Proofs.YtclcgakfmcofaaaGreatDoor
open Go.RowKit Go.Shelf
open Go.Sort (grow putRow putCells Holds)
open Go.Lib (compactUpTo)
shelf_lay_g SlLaysN.n53 Slgn 53 at Tryz 91 as Tryz.sortI
shelf_lay_g SlLaysE.n43 Slgn 43 at Tryz 92 as Tryz.compactI
theorem aM.nilI (w : World) (base : Nat) : aM w base (.slice none 0 0) [] := World.ownsRow_nil _ _ _ _
theorem sortI_own (v : Value) (base : Nat) (l : List Int) (w : World) (h : aM w base v l) (hl : l.length ≤ 100000) :
  Calls Tryz.prog 91 #[v] w fun e w' => e = .returned (.tuple #[]) ∧ aM w' base v (l.mergeSort jn) ∧ w.grownBy w' v.ownBlock := by
 rcases h.2 with ⟨rfl, h0⟩ | ⟨g, cap, cur, rfl, hg, hbk, hn, hm, hs, ht⟩
 ·obtain rfl : l = [] := List.length_eq_zero_iff.1 h0
  have hc := AnyG.slices_Sort_int_none Tryz.sortI none 0 w
  exact hc.mono fun e w' ⟨he, hw⟩ => ⟨he, by subst hw; rw [List.mergeSort_nil]; exact aM.nilI _ _, by subst hw; exact World.grownBy.refl _ _⟩
 ·have hc := calls_of_every_depth fun D => AnySG.slices_Sort_int_in Tryz.sortI D g 0 cap l w (ig hbk ht) (Array.getElem?_eq_some_iff.1 hbk).1 (by omega)
  change Calls Tryz.prog 91 _ _ _ at hc
  refine hc.mono fun e w' ⟨he, n, os, hw⟩ => ⟨he, ?_, ?_⟩
  ·have hp := (List.mergeSort_perm l jn).length_eq
   subst hw
   refine ⟨by simp, .inr ⟨g, cap, _, by rw [hp], hg, jF _ hbk, by omega, hm, by simp [putCells, hs], ?_⟩⟩
   rw [Nat.mul_one]
   have := jG cur (l.mergeSort jn) [] (by simp only [List.length_nil]; omega)
   rwa [List.append_nil] at this
  ·subst hw
   exact fc _
theorem compactI_own (v : Value) (base : Nat) (l : List Int) (w : World) (h : aM w base v l) (hl : l.length ≤ 100000) :
  Calls Tryz.prog 92 #[v] w fun e w' => (∃ v', e = .returned v' ∧ aM w' base v' (compactUpTo l.toArray l.toArray.size)) ∧ w.grownBy w' v.ownBlock := by
 rcases h.2 with ⟨rfl, h0⟩ | ⟨g, cap, cur, rfl, hg, hbk, hn, hm, hs, ht⟩
 ·obtain rfl : l = [] := List.length_eq_zero_iff.1 h0
  go_enter Tryz.func92, Tryz.ntmps92
  go_wp2
  go_ret
  exact ⟨⟨_, rfl, aM.nilI _ _⟩, World.grownBy.refl _ _⟩
 ·have hc := AnyE.slices_Compact Tryz.compactI lN (fun _ => rfl) (EqlAt.intD _ _ .i64) (NeqAt.intD _ _ .i64) 0 Tryz.zeroValue3 g 0 cap l.toArray w (ig hbk ht) (by simp; omega) (by simpa using hn)
  change Calls Tryz.prog 92 _ _ _ at hc
  have hc' : Calls Tryz.prog 92 #[.slice (some ⟨g, 0, none⟩) l.length cap] w _ := hc
  refine hc'.mono fun e w' ⟨he, q, hw⟩ => ⟨⟨_, he, ?_⟩, ?_⟩
  ·have hle : (compactUpTo l.toArray l.toArray.size).length ≤ l.length := by
    have := List.length_filter_le (Go.Lib.keeps l.toArray) (List.range l.toArray.size)
    unfold compactUpTo
    simpa using this
   have hw' : w' = grow (putRow lN (Go.Sort.ahead w q) g 0 (compactUpTo l.toArray l.toArray.size ++ List.replicate (l.toArray.size - (compactUpTo l.toArray l.toArray.size).length) 0).toArray) #[] := by rw [hw, Go.Sort.grow_empty]
   subst hw'
   generalize compactUpTo l.toArray l.toArray.size = ts at *
   refine ⟨by simp, .inr ⟨g, cap, _, rfl, hg, jF _ hbk, by omega, hm, by simp [putCells, hs], ?_⟩⟩
   rw [Nat.mul_one]
   exact jG cur ts _ (by rw [List.length_replicate, List.size_toArray]; omega)
  ·rw [← Go.Sort.grow_empty w', hw]
   exact fc _
def gV (l : List Int) (x : Int) : Int := match l.findIdx? (· == x) with
 | some k => (k : Int)
 | none => -1
theorem jh : ∀ {l : List Int} {x y : Int} {k : Nat}, l[k]? = some y → (∀ z ∈ l.take k, z ≠ x) → y = x → l.findIdx? (· == x) = some k
 | [], x, y, k, h, _, _ => by simp at h
 | a :: l, x, y, 0, h, _, hy => by
  simp at h
  subst h hy
  simp [List.findIdx?_cons]
 | a :: l, x, y, k + 1, h, hn, hy => by
  have ha : a ≠ x := hn a (by simp)
  have ih := jh (l := l) (x := x) (y := y) (k := k) (by simpa using h) (fun z hz => hn z (by simp [hz])) hy
  rw [List.findIdx?_cons, ih]
  simp [ha]
theorem nl {l : List Int} {x : Int} (hn : ∀ z ∈ l, z ≠ x) : l.findIdx? (· == x) = none := by
 rw [List.findIdx?_eq_none_iff]
 intro z hz
 simpa using hn z hz
theorem idxI_in (l : List Int) (x : Int) : decide (0 ≤ gV l x) = decide (x ∈ l) := by
 unfold gV
 cases h : l.findIdx? (· == x) with
 | none =>
  rw [List.findIdx?_eq_none_iff] at h
  have : x ∉ l := fun hx => by have := h x hx; simp at this
  simp [this]
 | some k =>
  have hx : x ∈ l := by
   obtain ⟨hk, h1, -⟩ := List.findIdx?_eq_some_iff_getElem.1 h
   have : l[k] = x := by simpa using h1
   rw [← this]
   exact List.getElem_mem hk
  simp [hx]
theorem indexI_any (v : Value) (l : List Int) (x : Int) (w : World) (h : NS w v l) (hl : l.length ≤ 100000) :
  Calls Tryz.prog 89 #[v, .int .i64 x] w fun e w' => e = .returned (.int .i64 (gV l x)) ∧ w' = w := by
 obtain ⟨a, cap, rfl, hsh⟩ := h
 go_enter Tryz.func89, Tryz.ntmps89
 go_wp2
 go_loop [8] (fun i => ∃ k : Nat, k ≤ l.length ∧ i = .int .i64 k ∧ Hid (∀ z ∈ l.take k, z ≠ x)) (fun i => l.length - (intOf i).toNat)
 case atStart => exact ⟨0, by omega, rfl, fun z hz => by simp at hz⟩
 case round =>
  obtain ⟨k, hk, rfl, HN⟩ := hrel
  by_cases hlt : k < l.length
  ·obtain ⟨y, hy⟩ := ak hlt
   rcases hsh with hnil | ⟨b, off, rfl, hb, hat⟩
   ·rw [hnil] at hlt; simp at hlt
   have c0 := hat k y hy
   have hki : (k : Int) < (l.length : Int) := by omega
   have hk0 : (0 : Int) ≤ (k : Int) := by omega
   by_cases hyx : y = x
   ·have HF := ae (show gV l x = (k : Int) by unfold gV; rw [jh hy HN.out hyx])
    subst hyx
    have hbe : (y == y) = true := by simp
    clear hat hy
    go_wp2
    go_ret
    exact ⟨by rw [HF.out]; rfl, rfl⟩
   ·have hbe : (x == y) = false := by simp; exact fun h => hyx h.symm
    have HN2 := ae (show ∀ z ∈ l.take (k + 1), z ≠ x from fun z hz => by
     rw [List.take_add_one, hy] at hz
     rcases List.mem_append.1 hz with hz | hz
     ·exact HN.out z hz
     ·simp at hz; subst hz; exact hyx)
    clear hat hy
    go_wp2
    go_round
    case rel => exact ⟨k + 1, by omega, by go_num, HN2⟩
    case measure => simp [intOf]; omega
  ·have hki : ¬ (k : Int) < (l.length : Int) := by omega
   have HF := ae (show gV l x = -1 by unfold gV; rw [nl (fun z hz => HN.out z (by rwa [List.take_of_length_le (by omega)]))])
   go_wp2
   go_ret
   exact ⟨by rw [HF.out]; rfl, rfl⟩
theorem nS (v : Value) (l : List Int) (x : Int) (w : World) (h : NS w v l) (hl : l.length ≤ 100000) :
  Calls Tryz.prog 51 #[v, .int .i64 x] w fun e w' => e = .returned (.bool (decide (x ∈ l))) ∧ w' = w := by
 have H := ae (indexI_any v l x w h hl)
 have HE := ae (idxI_in l x)
 obtain ⟨a, cap, rfl, -⟩ := h
 generalize gV l x = q at H HE
 rw [← HE.out]
 go_enter Tryz.func51, Tryz.ntmps51
 go_wp2_with (first | (go_at_call 89; refine H.out.mono ?_; rintro e w1 ⟨rfl, rfl⟩))
 go_ret
 exact ⟨rfl, rfl⟩
end Go.Proofs.YtclcgakfmcofaaaGreatDoor
namespace Go.Proofs.YtclcgakfmcofaaaGreatDoor
open Go.RowKit
theorem apG_step {c : aX} {j : Jb} {l : List Int} {k : Nat} {i : Int} (h : l[k]? = some i) : iI c j (l.take (k + 1)) = iI c j (l.take k) ++ (if (aI j (dH c i)).2 ≠ 0 then [(aI j (dH c i)).2] else []) := by
 rw [List.take_add_one, h]
 unfold iI
 show ((l.take k ++ [i]).map _).filter _ = _
 rw [List.map_append, List.filter_append]
 congr 1
 by_cases h0 : (aI j (dH c i)).2 = 0
 ·simp [h0]
 ·simp [h0]
theorem apG_len (c : aX) (j : Jb) (l : List Int) : (iI c j l).length ≤ l.length := by
 unfold iI
 have := List.length_filter_le (fun e => decide (e ≠ 0)) (l.map fun i => (aI j (dH c i)).2)
 rwa [List.length_map] at this
theorem kV (l : List Int) : Go.Lib.compactUpTo (l.mergeSort jn).toArray (l.mergeSort jn).toArray.size = once l := by
 have := jC l [] bl.nil
 rw [List.append_nil] at this
 exact this
theorem nm {w : World} {base : Nat} {v : Value} {l : List Int} (h : aM w base v l) : ∀ k, v.ownBlock = some k → base ≤ k := by
 intro k hk
 rcases h.2 with ⟨rfl, -⟩ | ⟨g, cap, cur, rfl, hg, -⟩
 ·cases hk
 ·have e : some g = some k := hk
  injection e with e
  omega
theorem np (c : aX) (v : Value) (j : Jb) (u : Value) (l : List Int) (w : World) (hc : nG w c v) (hj : InJ w j u l) (hJ : mO j l) (hE : iu w) (hH : bI w) : Calls Tryz.prog 52 #[cL c v, cJ j u] w fun e w' => (∃ v', e = .returned v' ∧ aM w' w.heap.size v' (cX c j l)) ∧ Below w.heap.size w w' := by
 obtain ⟨va, vc, rfl, -⟩ := hc.ps
 obtain ⟨ua, uc, rfl⟩ := hj.slice
 obtain ⟨W0, hW0⟩ : ∃ W0 : World, W0 = (w.alloc (gq c (.slice va c.splits.length vc))).alloc (fQ j (.slice ua l.length uc)) := ⟨_, rfl⟩
 have hb0 : Below w.heap.size w W0 := by rw [hW0]; exact ag (dN w _) (dN _ _)
 have HCJ := ae (show ∀ W, Below W0.heap.size W0 W → CJ w W c (.slice va c.splits.length vc) j (.slice ua l.length uc) from fun W hW => CJ.start w c _ j _ W (by rw [← hW0]; exact hW))
 have HNS := ae (show ∀ W, Below W0.heap.size W0 W → NS W (.slice ua l.length uc) l from fun W hW => (hj.ns.below hb0).below hW)
 have HREC := ae (fun (W : World) (i : Int) (hW : Below W0.heap.size W0 W) => ph c (.slice va c.splits.length vc) i W ((hc.below hb0).below hW))
 have HGA := ae (fun (W : World) (v1 : Value) (i : Int) (hW : Below W0.heap.size W0 W) (h1 : RS W v1 (dH c i)) => lgath_any j ua l.length uc v1 (dH c i) W h1 (ft c i).1 (by have := (ft c i).2; omega) (by have := hJ.prog; omega) (by have := hJ.fuel; omega) ((hE.low hb0).low hW) ((hH.below hb0 hH.pos).below hW (by have := hH.pos; have := hb0.size; omega)))
 have HW := ae hW0.symm
 have HB := ae hb0
 have HRF := ae (Below.refl W0.heap.size W0)
 have hl6 := hJ.len.2
 clear hW0 hb0 hc hj hE hH hJ
 go_enter Tryz.func52, Tryz.ntmps52
 obtain ⟨j0, j1, j2, j3, j4, j5, j6⟩ : W0.cell? ⟨w.heap.size + 1, 0, none⟩ = some (.int .i64 j.id) ∧ W0.cell? ⟨w.heap.size + 1, 1, none⟩ = some (.string j.prog) ∧ W0.cell? ⟨w.heap.size + 1, 2, none⟩ = some (.int .i64 j.agg) ∧ W0.cell? ⟨w.heap.size + 1, 3, none⟩ = some (.int .i64 j.bound) ∧ W0.cell? ⟨w.heap.size + 1, 4, none⟩ = some (.int .i64 j.fuel) ∧ W0.cell? ⟨w.heap.size + 1, 5, none⟩ = some (.slice ua l.length uc) ∧ W0.cell? ⟨w.heap.size + 1, 6, none⟩ = some (.int .i64 j.parts) := by
  have h := HCJ.out W0 HRF.out
  exact ⟨h.j0, h.j1, h.j2, h.j3, h.j4, h.j5, h.j6⟩
 go_wp2
 rw [HW.out]
 go_wp2
 clear j0 j1 j2 j3 j4 j5 j6
 go_loopw [4, 12] (fun x i wr => ∃ k : Nat, k ≤ l.length ∧ i = .int .i64 k ∧ aM wr W0.heap.size x (iI c j (l.take k)) ∧ Below W0.heap.size W0 wr) (fun _ i _ => l.length - (intOf i).toNat)
 case atStart => exact ⟨0, by omega, rfl, by rw [List.take_zero]; exact aM.nilI _ _, HRF.out⟩
 case round =>
  rename World => w0
  obtain ⟨k, hk, rfl, hown, hbel⟩ := hrel
  have HBEL := ae hbel
  have HS := ae (show ∀ W, Below w0.heap.size w0 W → W.cell? ⟨w.heap.size, 0, none⟩ = some (.int .i64 c.sites) ∧ W.cell? ⟨w.heap.size, 1, none⟩ = some (.slice va c.splits.length vc) ∧ W.cell? ⟨w.heap.size, 2, none⟩ = some (.int .i64 c.again) ∧ W.cell? ⟨w.heap.size, 3, none⟩ = some (.int .i64 c.over) ∧ W.cell? ⟨w.heap.size + 1, 0, none⟩ = some (.int .i64 j.id) ∧ W.cell? ⟨w.heap.size + 1, 1, none⟩ = some (.string j.prog) ∧ W.cell? ⟨w.heap.size + 1, 2, none⟩ = some (.int .i64 j.agg) ∧ W.cell? ⟨w.heap.size + 1, 3, none⟩ = some (.int .i64 j.bound) ∧ W.cell? ⟨w.heap.size + 1, 4, none⟩ = some (.int .i64 j.fuel) ∧ W.cell? ⟨w.heap.size + 1, 5, none⟩ = some (.slice ua l.length uc) ∧ W.cell? ⟨w.heap.size + 1, 6, none⟩ = some (.int .i64 j.parts) ∧ Below w0.heap.size w0 W from fun W hW => by
   have h := HCJ.out W (ag HBEL.out hW)
   exact ⟨h.q0, h.q1, h.q2, h.q3, h.j0, h.j1, h.j2, h.j3, h.j4, h.j5, h.j6, hW⟩)
  have HKEEP := ae (fun (W W' : World) (hn : W.cell? ⟨w.heap.size, 0, none⟩ = some (.int .i64 c.sites) ∧ W.cell? ⟨w.heap.size, 1, none⟩ = some (.slice va c.splits.length vc) ∧ W.cell? ⟨w.heap.size, 2, none⟩ = some (.int .i64 c.again) ∧ W.cell? ⟨w.heap.size, 3, none⟩ = some (.int .i64 c.over) ∧ W.cell? ⟨w.heap.size + 1, 0, none⟩ = some (.int .i64 j.id) ∧ W.cell? ⟨w.heap.size + 1, 1, none⟩ = some (.string j.prog) ∧ W.cell? ⟨w.heap.size + 1, 2, none⟩ = some (.int .i64 j.agg) ∧ W.cell? ⟨w.heap.size + 1, 3, none⟩ = some (.int .i64 j.bound) ∧ W.cell? ⟨w.heap.size + 1, 4, none⟩ = some (.int .i64 j.fuel) ∧ W.cell? ⟨w.heap.size + 1, 5, none⟩ = some (.slice ua l.length uc) ∧ W.cell? ⟨w.heap.size + 1, 6, none⟩ = some (.int .i64 j.parts) ∧ Below w0.heap.size w0 W) (hb : Below W.heap.size W W') => HS.out W' (ag hn.2.2.2.2.2.2.2.2.2.2.2 hb))
  have HOWN := ae hown
  have hclen := apG_len c j (l.take k)
  rw [List.length_take, Nat.min_eq_left hk] at hclen
  obtain ⟨ax, cx, rfl⟩ := hown.shape
  by_cases hlt : k < l.length
  ·obtain ⟨i, hi⟩ := ak hlt
   obtain ⟨a', c', e', hsh⟩ := HNS.out w0 hbel
   obtain rfl : a' = ua := by injection e' with e1; exact e1.symm
   rcases hsh with hnil | ⟨b, off, rfl, hb, hat⟩
   ·rw [hnil] at hlt; simp at hlt
   have c0 := hat k i hi
   have hki : (k : Int) < (l.length : Int) := by omega
   have hk0 : (0 : Int) ≤ (k : Int) := by omega
   obtain ⟨⟨G1, G2⟩, hG⟩ : ∃ G, G = aI j (dH c i) := ⟨_, rfl⟩
   have HGP := ae (fun (W : World) (v1 : Value) (hW : Below W0.heap.size W0 W) (h1 : RS W v1 (dH c i)) => HGA.out W v1 i hW h1)
   rw [← hG] at HGP
   have HRC := ae (fun (W : World) (hW : Below W0.heap.size W0 W) => HREC.out W i hW)
   have hstep := apG_step (c := c) (j := j) hi
   rw [← hG] at hstep
   simp only at HGP hstep
   obtain ⟨A0, hA0⟩ : ∃ A0, A0 = iI c j (l.take k) := ⟨_, rfl⟩
   rw [← hA0] at hstep HOWN hclen ⊢
   clear hat hi hG e' hown hbel hb hA0
   go_wp2
   go_region_held3 (fun W => W.cell? ⟨w.heap.size, 0, none⟩ = some (.int .i64 c.sites) ∧ W.cell? ⟨w.heap.size, 1, none⟩ = some (.slice va c.splits.length vc) ∧ W.cell? ⟨w.heap.size, 2, none⟩ = some (.int .i64 c.again) ∧ W.cell? ⟨w.heap.size, 3, none⟩ = some (.int .i64 c.over) ∧ W.cell? ⟨w.heap.size + 1, 0, none⟩ = some (.int .i64 j.id) ∧ W.cell? ⟨w.heap.size + 1, 1, none⟩ = some (.string j.prog) ∧ W.cell? ⟨w.heap.size + 1, 2, none⟩ = some (.int .i64 j.agg) ∧ W.cell? ⟨w.heap.size + 1, 3, none⟩ = some (.int .i64 j.bound) ∧ W.cell? ⟨w.heap.size + 1, 4, none⟩ = some (.int .i64 j.fuel) ∧ W.cell? ⟨w.heap.size + 1, 5, none⟩ = some (.slice (some ⟨b, off, none⟩) l.length uc) ∧ W.cell? ⟨w.heap.size + 1, 6, none⟩ = some (.int .i64 j.parts) ∧ Below w0.heap.size w0 W)
    (first | with_reducible exact HKEEP.out _ _ (by assumption) (by assumption) | with_reducible exact HS.out _ (Below.refl _ _).drew)
    (first
     | (go_at_call 86; refine (HRC.out _ (ag HBEL.out (by first | exact (‹_ ∧ _ ∧ _ ∧ _ ∧ _ ∧ _ ∧ _ ∧ _ ∧ _ ∧ _ ∧ _ ∧ Below w0.heap.size w0 _›).2.2.2.2.2.2.2.2.2.2.2 | exact (Below.refl _ _).drew))).mono ?_; rintro e W2 ⟨⟨v2, rfl, ho2⟩, hb2⟩; have n2 := ae (RS.own ho2); obtain ⟨a2, c2, rfl⟩ := ho2.shape; clear ho2)
     | (go_at_call 90; refine (HGP.out _ _ (ag HBEL.out (by exact (‹_ ∧ _ ∧ _ ∧ _ ∧ _ ∧ _ ∧ _ ∧ _ ∧ _ ∧ _ ∧ _ ∧ Below w0.heap.size w0 _›).2.2.2.2.2.2.2.2.2.2.2)) n2.out).mono ?_; rintro e W3 ⟨rfl, hb3⟩))
   obtain ⟨x0, x1, x2, x3, y0, y1, y2, y3, y4, y5, y6, hbX⟩ := ‹_ ∧ _ ∧ _ ∧ _ ∧ _ ∧ _ ∧ _ ∧ _ ∧ _ ∧ _ ∧ _ ∧ Below w0.heap.size w0 _›
   have HBX := ae (ag HBEL.out hbX)
   have HOX := ae (HOWN.out.below hbX)
   clear hbX
   by_cases hm : G2 = 0
   ·subst hm
    have hmm : ((0 : Int) != 0) = false := rfl
    have HST := ae (show iI c j (l.take (k + 1)) = A0 by rw [hstep]; simp)
    clear hstep
    go_wp2
    go_roundw
    case rel => exact ⟨k + 1, by omega, by go_num, by rw [HST.out]; exact HOX.out, HBX.out⟩
    case measure => simp [intOf]; omega
   ·have hme : (G2 != 0) = true := by simpa using hm
    have hme2 : (G2 == 0) = false := by simpa using hm
    have HST := ae (show iI c j (l.take (k + 1)) = A0 ++ [G2] by rw [hstep, if_pos hm])
    have hal := dN W3 (.cells #[.int .i64 G2] 3)
    obtain ⟨v8, W8, q1, q2, q3, -⟩ := kS 25 (HOX.out.below hal) (ni W3 G2) (by simp; omega) (ag HBX.out hal).size
    have U1 := ae q1
    have HO8 := ae q2
    have HB8 := ae ((ag HBX.out hal).grown q3 (ag HBX.out hal).size (nm HOX.out))
    clear q1 q2 q3 hstep hm hal
    go_wp2_with (first
     | (at_builtin; refine wpList_append_run _ rfl _ _ _ rfl _ _ v8 W8 rfl rfl U1.out ?_))
    go_roundw
    case rel => exact ⟨k + 1, by omega, by go_num, by rw [HST.out]; exact HO8.out, HB8.out⟩
    case measure => simp [intOf]; omega
  ·have hki : ¬ (k : Int) < (l.length : Int) := by omega
   have e5 : l.take k = l := List.take_of_length_le (by omega)
   rw [e5] at HOWN hclen ⊢
   have HON := ae (kV (iI c j l))
   have hml := (List.mergeSort_perm (iI c j l) jn).length_eq
   have HSO := ae (sortI_own _ _ (iI c j l) w0 HOWN.out (by omega))
   have HCO := ae (fun (W : World) (hW : aM W W0.heap.size (.slice ax (iI c j l).length cx) ((iI c j l).mergeSort jn)) => compactI_own (.slice ax (iI c j l).length cx) W0.heap.size ((iI c j l).mergeSort jn) W hW (by omega))
   rw [HON.out] at HCO
   have HOB := ae (nm HOWN.out)
   have HAP := ae (show once (iI c j l) = cX c j l from rfl)
   rw [HAP.out] at HCO
   generalize (iI c j l).length = n9 at HSO HCO HOB HOWN hclen hml ⊢
   clear hown hbel hlt e5 HS HKEEP
   go_wp2_with fail
   refine HSO.out.mono ?_
   rintro e W2 ⟨rfl, ho2, hg2⟩
   have HB2 := ae (HBEL.out.grown hg2 HBEL.out.size HOB.out)
   have HO2 := ae ho2
   clear ho2 hg2
   go_wp2_with fail
   refine (HCO.out W2 HO2.out).mono ?_
   rintro e W3 ⟨⟨v3, rfl, ho3⟩, hg3⟩
   have HB3 := ae (HB2.out.grown hg3 HB2.out.size HOB.out)
   have HO3 := ae (aM.down ho3 HB.out.size)
   obtain ⟨a3, c3, rfl⟩ := ho3.shape
   clear ho3 hg3
   go_wp2
   go_ret
   exact ⟨⟨_, rfl, HO3.out⟩, ag HB.out HB3.out⟩
theorem dj {c : aX} {j : Jb} {l : List Int} (h : al c j l = 0) : cU c = true ∧ fL j l = true := by
 cases hc : (cU c && fL j l) with
 | false => rw [di hc] at h; cases h
 | true => rw [Bool.and_eq_true] at hc; exact hc
theorem lI {c : aX} {j : Jb} {l : List Int} (h : al c j l ≠ 0) : dV c j l = (⟨#[]⟩, al c j l) := by unfold dV; rw [if_pos h]
theorem ez {c : aX} {j : Jb} {l : List Int} (h : al c j l = 0) : dV c j l = dq c j l := by unfold dV; rw [if_neg (by simpa using h)]
theorem fm {c : aX} {j : Jb} {l : List Int} (h : (bf c j l).2 ≠ 0) : dq c j l = bf c j l := by unfold dq; rw [if_neg (fun e => h e.1)]
theorem kh {c : aX} {j : Jb} {l : List Int} (h : (bf c j l).2 = 0) (h2 : 2 ∈ cX c j l) : dq c j l = (⟨#[]⟩, 2) := by unfold dq; rw [if_pos ⟨h, h2⟩]
theorem gy {c : aX} {j : Jb} {l : List Int} (h2 : 2 ∉ cX c j l) : dq c j l = bf c j l := by unfold dq; rw [if_neg (fun e => h2 e.2)]
theorem lJ {c : aX} {j : Jb} {l : List Int} (h : al c j l ≠ 0) : dh c j l = [al c j l] := by unfold dh; rw [if_pos h]
theorem ki {c : aX} {j : Jb} {l : List Int} (h : al c j l = 0) : dh c j l = ey c j l := by unfold dh; rw [if_neg (by simpa using h)]
theorem nr {c : aX} {j : Jb} {l : List Int} (h : cX c j l ≠ []) : ey c j l = cX c j l := by unfold ey; rw [if_pos h]
theorem lK {c : aX} {j : Jb} {l : List Int} (h : cX c j l = []) (h2 : (bf c j l).2 ≠ 0) : ey c j l = [(bf c j l).2] := by unfold ey; rw [if_neg (by simpa using h), if_pos h2]
theorem lL {c : aX} {j : Jb} {l : List Int} (h : cX c j l = []) (h2 : (bf c j l).2 = 0) : ey c j l = [] := by unfold ey; rw [if_neg (by simpa using h), if_neg (by simpa using h2)]
theorem apRes_len (c : aX) (j : Jb) (l : List Int) : (cX c j l).length ≤ l.length := by
 have h1 := apG_len c j l
 have h2 : (cX c j l).length ≤ (iI c j l).length := by
  rw [← show once (iI c j l) = cX c j l from rfl, ← kV]
  have := List.length_filter_le (Go.Lib.keeps ((iI c j l).mergeSort jn).toArray) (List.range ((iI c j l).mergeSort jn).toArray.size)
  have h3 := (List.mergeSort_perm (iI c j l) jn).length_eq
  unfold Go.Lib.compactUpTo
  simp only [List.length_map, List.length_range, List.size_toArray] at *
  omega
 omega
theorem lZ (W : World) (x : Int) (base : Nat) (hb : base ≤ W.heap.size) : aM (W.alloc (.cells #[.int .i64 x] 3)) base (.slice (some ⟨W.heap.size, 0, none⟩) 1 1) [x] :=
 ⟨rfl, .inr ⟨W.heap.size, 1, #[.int .i64 x], rfl, hb, heap_alloc_new W _, Nat.le_refl _, by unfold maxLen; omega, rfl, rfl⟩⟩
structure Job14 (w : World) (c : aX) (v : Value) (j : Jb) (u : Value) (l : List Int) : Prop where
 cfg : nG w c v
 job : InJ w j u l
 env : iu w
 hal : bI w
theorem nt (c : aX) (v : Value) (j : Jb) (u : Value) (l : List Int) (w : World) (h : Job14 w c v j u l) : Calls Tryz.prog 18 #[cL c v, cJ j u] w (ByR w (dV c j l)) := by
 obtain ⟨hc, hj, hE, hH⟩ := h
 obtain ⟨va, vc, rfl, -⟩ := hc.ps
 obtain ⟨ua, uc, rfl⟩ := hj.slice
 obtain ⟨W0, hW0⟩ : ∃ W0 : World, W0 = (w.alloc (gq c (.slice va c.splits.length vc))).alloc (fQ j (.slice ua l.length uc)) := ⟨_, rfl⟩
 have hb0 : Below w.heap.size w W0 := by rw [hW0]; exact ag (dN w _) (dN _ _)
 have HCJ := ae (show ∀ W, Below W0.heap.size W0 W → CJ w W c (.slice va c.splits.length vc) j (.slice ua l.length uc) from fun W hW => CJ.start w c _ j _ W (by rw [← hW0]; exact hW))
 have HVA := ae (fun (W : World) (hW : Below W0.heap.size W0 W) => gu c (.slice va c.splits.length vc) j (.slice ua l.length uc) l W ((hc.below hb0).below hW) ((hj.below hb0).below hW) ((hE.low hb0).low hW))
 have HTO := ae (fun (W : World) (hJ : mO j l) (hW : Below W0.heap.size W0 W) => jtog_any c (.slice va c.splits.length vc) j (.slice ua l.length uc) l W ((hc.below hb0).below hW) ((hj.below hb0).below hW) hJ ((hE.low hb0).low hW) ((hH.below hb0 hH.pos).below hW (by have := hH.pos; have := hb0.size; omega)))
 have HAP := ae (fun (W : World) (hJ : mO j l) (hW : Below W0.heap.size W0 W) => np c (.slice va c.splits.length vc) j (.slice ua l.length uc) l W ((hc.below hb0).below hW) ((hj.below hb0).below hW) hJ ((hE.low hb0).low hW) ((hH.below hb0 hH.pos).below hW (by have := hH.pos; have := hb0.size; omega)))
 have hapl := apRes_len c j l
 have HW := ae hW0.symm
 have HB := ae hb0
 have HRF := ae (Below.refl W0.heap.size W0)
 clear hW0 hb0 hc hj hE hH
 obtain ⟨q0, q1, q2, q3, j0, j1, j2, j3, j4, j5, j6⟩ := HCJ.out W0 HRF.out
 by_cases hv : al c j l = 0
 ·have hJ := fk (dj hv).2
  have hl6 := hJ.len.2
  have HJ := ae hJ
  have HY := ae (ez hv)
  rw [hv] at HVA
  have hE1 := fun h => fm (c := c) (j := j) (l := l) h
  have hE2 := fun h h2 => kh (c := c) (j := j) (l := l) h h2
  have hE3 := fun h2 => gy (c := c) (j := j) (l := l) h2
  obtain ⟨⟨T1, T2⟩, hT⟩ : ∃ T, T = bf c j l := ⟨_, rfl⟩
  obtain ⟨A, hA⟩ : ∃ A, A = cX c j l := ⟨_, rfl⟩
  rw [← hT] at HTO hE1 hE2 hE3
  rw [← hA] at HAP hE2 hE3 hapl
  simp only at HTO hE1 hE2 hE3
  clear hv hJ hT hA
  go_enter Tryz.func18, Tryz.ntmps18
  go_wp2_with fail
  rw [HW.out]
  refine (HVA.out W0 HRF.out).mono ?_
  rintro e W1 ⟨rfl, hb1⟩
  obtain ⟨q0, q1, q2, q3, j0, j1, j2, j3, j4, j5, j6⟩ := HCJ.out W1 hb1
  have HB1 := ae hb1
  clear hb1
  go_wp2_with fail
  refine (HTO.out W1 HJ.out HB1.out).mono ?_
  rintro e W2 ⟨rfl, hb2⟩
  have HB2 := ae (ag HB1.out hb2)
  obtain ⟨q0, q1, q2, q3, j0, j1, j2, j3, j4, j5, j6⟩ := HCJ.out W2 HB2.out
  clear hb2
  by_cases ht : T2 = 0
  ·subst ht
   have hd : ((0 : Int) == 0) = true := rfl
   have HCO := ae (fun (W : World) (v3 : Value) (hv : NS W v3 A) => nS v3 A 2 W hv (by omega))
   have hE2 := fun h2 => hE2 rfl h2
   by_cases h2 : (2 : Int) ∈ A
   ·have HRt := ae (hE2 h2)
    rw [decide_eq_true h2] at HCO
    clear hE1 hE2 hE3 h2
    go_wp2_with fail
    refine (HAP.out W2 HJ.out HB2.out).mono ?_
    rintro e W3 ⟨⟨v3, rfl, ho3⟩, hb3⟩
    have HN3 := ae (NS.own ho3)
    obtain ⟨a3, c3, rfl⟩ := ho3.shape
    have HB3 := ae (ag HB2.out hb3)
    clear ho3 hb3
    go_wp2_with fail
    refine (HCO.out W3 _ HN3.out).mono ?_
    rintro e W4 ⟨rfl, rfl⟩
    go_wp2
    go_ret2
    exact ⟨by rw [HY.out, HRt.out]; rfl, ag HB.out HB3.out⟩
   ·have HRt := ae (hE3 h2)
    rw [decide_eq_false h2] at HCO
    clear hE1 hE2 hE3 h2
    go_wp2_with fail
    refine (HAP.out W2 HJ.out HB2.out).mono ?_
    rintro e W3 ⟨⟨v3, rfl, ho3⟩, hb3⟩
    have HN3 := ae (NS.own ho3)
    obtain ⟨a3, c3, rfl⟩ := ho3.shape
    have HB3 := ae (ag HB2.out hb3)
    clear ho3 hb3
    go_wp2_with fail
    refine (HCO.out W3 _ HN3.out).mono ?_
    rintro e W4 ⟨rfl, rfl⟩
    go_wp2
    go_ret2
    exact ⟨by rw [HY.out, HRt.out]; rfl, ag HB.out HB3.out⟩
  ·have hd : (T2 == 0) = false := by simpa using ht
   have hd2 : (T2 != 0) = true := by simpa using ht
   have HRt := ae (hE1 ht)
   clear hE1 hE2 hE3 ht
   go_wp2
   go_ret2
   exact ⟨by rw [HY.out, HRt.out]; rfl, ag HB.out HB2.out⟩
 ·have HRt := ae (lI hv)
  have hd : (al c j l != 0) = true := by simpa using hv
  have hd2 : (al c j l == 0) = false := by simpa using hv
  generalize al c j l = x at HVA HRt hd hd2
  clear hv
  go_enter Tryz.func18, Tryz.ntmps18
  go_wp2_with fail
  rw [HW.out]
  refine (HVA.out W0 HRF.out).mono ?_
  rintro e W1 ⟨rfl, hb1⟩
  go_wp2
  go_ret2
  exact ⟨by rw [HRt.out]; rfl, ag HB.out hb1⟩
def CodR (w : World) (r : List Int) (e : Ending) (w' : World) : Prop := (∃ v', e = .returned v' ∧ aM w' w.heap.size v' r) ∧ Below w.heap.size w w'
theorem jcodes_any (c : aX) (v : Value) (j : Jb) (u : Value) (l : List Int) (w : World) (h : Job14 w c v j u l) : Calls Tryz.prog 20 #[cL c v, cJ j u] w (CodR w (dh c j l)) := by
 obtain ⟨hc, hj, hE, hH⟩ := h
 obtain ⟨va, vc, rfl, -⟩ := hc.ps
 obtain ⟨ua, uc, rfl⟩ := hj.slice
 obtain ⟨W0, hW0⟩ : ∃ W0 : World, W0 = (w.alloc (gq c (.slice va c.splits.length vc))).alloc (fQ j (.slice ua l.length uc)) := ⟨_, rfl⟩
 have hb0 : Below w.heap.size w W0 := by rw [hW0]; exact ag (dN w _) (dN _ _)
 have HCJ := ae (show ∀ W, Below W0.heap.size W0 W → CJ w W c (.slice va c.splits.length vc) j (.slice ua l.length uc) from fun W hW => CJ.start w c _ j _ W (by rw [← hW0]; exact hW))
 have HVA := ae (fun (W : World) (hW : Below W0.heap.size W0 W) => gu c (.slice va c.splits.length vc) j (.slice ua l.length uc) l W ((hc.below hb0).below hW) ((hj.below hb0).below hW) ((hE.low hb0).low hW))
 have HTO := ae (fun (W : World) (hJ : mO j l) (hW : Below W0.heap.size W0 W) => jtog_any c (.slice va c.splits.length vc) j (.slice ua l.length uc) l W ((hc.below hb0).below hW) ((hj.below hb0).below hW) hJ ((hE.low hb0).low hW) ((hH.below hb0 hH.pos).below hW (by have := hH.pos; have := hb0.size; omega)))
 have HAP := ae (fun (W : World) (hJ : mO j l) (hW : Below W0.heap.size W0 W) => np c (.slice va c.splits.length vc) j (.slice ua l.length uc) l W ((hc.below hb0).below hW) ((hj.below hb0).below hW) hJ ((hE.low hb0).low hW) ((hH.below hb0 hH.pos).below hW (by have := hH.pos; have := hb0.size; omega)))
 have HW := ae hW0.symm
 have HB := ae hb0
 have HRF := ae (Below.refl W0.heap.size W0)
 clear hW0 hb0 hc hj hE hH
 obtain ⟨q0, q1, q2, q3, j0, j1, j2, j3, j4, j5, j6⟩ := HCJ.out W0 HRF.out
 by_cases hv : al c j l = 0
 ·have HJ := ae (fk (dj hv).2)
  have HY := ae (ki hv)
  rw [hv] at HVA
  have hE1 := fun h => nr (c := c) (j := j) (l := l) h
  have hE2 := fun h h2 => lK (c := c) (j := j) (l := l) h h2
  have hE3 := fun h h2 => lL (c := c) (j := j) (l := l) h h2
  obtain ⟨⟨T1, T2⟩, hT⟩ : ∃ T, T = bf c j l := ⟨_, rfl⟩
  obtain ⟨A, hA⟩ : ∃ A, A = cX c j l := ⟨_, rfl⟩
  rw [← hT] at HTO hE2 hE3
  rw [← hA] at HAP hE1 hE2 hE3
  simp only at HTO hE1 hE2 hE3
  clear hv hT hA
  go_enter Tryz.func20, Tryz.ntmps20
  go_wp2_with fail
  rw [HW.out]
  refine (HVA.out W0 HRF.out).mono ?_
  rintro e W1 ⟨rfl, hb1⟩
  obtain ⟨q0, q1, q2, q3, j0, j1, j2, j3, j4, j5, j6⟩ := HCJ.out W1 hb1
  have HB1 := ae hb1
  clear hb1
  go_wp2_with fail
  refine (HAP.out W1 HJ.out HB1.out).mono ?_
  rintro e W2 ⟨⟨v2, rfl, ho2⟩, hb2⟩
  have HB2 := ae (ag HB1.out hb2)
  have HO2 := ae (aM.down ho2 (ag HB.out HB1.out).size)
  obtain ⟨a2, c2, rfl⟩ := ho2.shape
  obtain ⟨q0, q1, q2, q3, j0, j1, j2, j3, j4, j5, j6⟩ := HCJ.out W2 HB2.out
  clear hb2 ho2
  by_cases ha : A = []
  ·subst ha
   have HE2 := ae (fun h2 => hE2 rfl h2)
   have HE3 := ae (fun h2 => hE3 rfl h2)
   simp only [List.length_nil] at HO2 ⊢
   clear hE1 hE2 hE3
   go_wp2_with fail
   refine (HTO.out W2 HJ.out HB2.out).mono ?_
   rintro e W3 ⟨rfl, hb3⟩
   have HB3 := ae (ag HB2.out hb3)
   clear hb3
   by_cases ht : T2 = 0
   ·subst ht
    have HRt := ae (HE3.out rfl)
    clear HE2 HE3
    go_wp2
    go_ret
    exact ⟨⟨_, rfl, by rw [HY.out, HRt.out]; exact aM.nilI _ _⟩, ag HB.out HB3.out⟩
   ·have hd : (T2 != 0) = true := by simpa using ht
    have hd2 : (T2 == 0) = false := by simpa using ht
    have HRt := ae (HE2.out ht)
    have HOO := ae (lZ W3 T2 w.heap.size (ag HB.out HB3.out).size)
    have HBB := ae (ag (ag HB.out HB3.out) (dN W3 (.cells #[.int .i64 T2] 3)))
    clear HE2 HE3 ht
    go_wp2
    go_ret
    exact ⟨⟨_, rfl, by rw [HY.out, HRt.out]; exact HOO.out⟩, HBB.out⟩
  ·have hpos : 0 < A.length := List.length_pos_iff.2 ha
   have hposi : (0 : Int) < (A.length : Int) := by omega
   have hpd : decide ((0 : Int) < (A.length : Int)) = true := decide_eq_true hposi
   have hpd2 : decide (0 < A.length) = true := decide_eq_true hpos
   have HRt := ae (hE1 ha)
   clear hE1 hE2 hE3 ha
   go_wp2
   go_ret
   exact ⟨⟨_, rfl, by rw [HY.out, HRt.out]; exact HO2.out⟩, ag HB.out HB2.out⟩
 ·have HRt := ae (lJ hv)
  have hd : (al c j l != 0) = true := by simpa using hv
  have hd2 : (al c j l == 0) = false := by simpa using hv
  generalize al c j l = x at HVA HRt hd hd2
  clear hv
  go_enter Tryz.func20, Tryz.ntmps20
  go_wp2_with fail
  rw [HW.out]
  refine (HVA.out W0 HRF.out).mono ?_
  rintro e W1 ⟨rfl, hb1⟩
  have HOO := ae (lZ W1 x w.heap.size (ag HB.out hb1).size)
  have HBB := ae (ag (ag HB.out hb1) (dN W1 (.cells #[.int .i64 x] 3)))
  clear hb1
  go_wp2
  go_ret
  exact ⟨⟨_, rfl, by rw [HRt.out]; exact HOO.out⟩, HBB.out⟩
end Go.Proofs.YtclcgakfmcofaaaGreatDoor
