/- Texts laid together: SChkA, SApp, SContr. -/
import Derived.Test.YtclcgakfmcofaaaGreatDoorMW27
import Derived.Test.YtclcgakfmcofaaaGreatDoorMW18
set_option linter.unusedVariables false
set_option maxRecDepth 100000
set_option maxHeartbeats 800000
namespace Go.Proofs.YtclcgakfmcofaaaGreatDoor
open Go.RowKit
def spT (n : Int) (s : cM) : Bool := decide ((bi s.2.1).2 = 0) && (decide (0 < s.2.2.length) && cr 1 n s.2.2)
def jY (L : List cM) : List Int := L.map (fun s => s.1)
def dO (n : Int) (L : List cM) : Bool := decide (L.length ≤ 6) && (L.all (spT n) && cr 1 1048576 (jY L))
theorem splitsB_long {n : Int} {L : List cM} (h : ¬ L.length ≤ 6) : dO n L = false := by unfold dO; rw [decide_eq_false h]; rfl
theorem gT {n : Int} {L : List cM} {k : Nat} {s : cM} (hs : L[k]? = some s) (h : spT n s = false) : dO n L = false := by
 have : L.all (spT n) = false := by
  rw [List.all_eq_false]
  exact ⟨s, List.mem_of_getElem? hs, by rw [h]; simp⟩
 unfold dO
 rw [this, Bool.false_and, Bool.and_false]
theorem lD {n : Int} {L : List cM} (h1 : L.length ≤ 6) (h : ∀ s ∈ L, spT n s = true) : dO n L = cr 1 1048576 (jY L) := by
 unfold dO
 rw [decide_eq_true h1, List.all_eq_true.2 h, Bool.true_and, Bool.true_and]
theorem cfgB_parts (c : aX) : cU c = (decide (1 ≤ c.sites ∧ c.sites ≤ 3) && (je c.again c.over && dO c.sites c.splits)) := by
 rw [Bool.eq_iff_iff]
 constructor
 ·intro h
  obtain ⟨hh, hs, hr⟩ := cfgB_of h
  obtain ⟨h1, h2, h3, h4, h5⟩ := dG hh
  have ha : ∀ s ∈ c.splits, spT c.sites s = true := fun s hm => by
   obtain ⟨-, g1, g2, g3⟩ := kL (hs s hm)
   unfold spT
   rw [decide_eq_true g1, decide_eq_true g2, g3]
   rfl
  have hi : cr 1 1048576 (jY c.splits) = true := by
   unfold cr jY
   rw [Bool.and_eq_true, List.all_eq_true, decide_eq_true_eq, List.pairwise_map]
   refine ⟨fun x hx => ?_, hr⟩
   obtain ⟨s, hm, rfl⟩ := List.mem_map.1 hx
   exact decide_eq_true (kL (hs s hm)).1
  rw [lD h2 ha, hi]
  unfold je
  rw [decide_eq_true h1, decide_eq_true h3, decide_eq_true h4, decide_eq_true h5]
  rfl
 ·intro h
  unfold je dO at h
  simp only [Bool.and_eq_true, decide_eq_true_eq, List.all_eq_true] at h
  obtain ⟨h1, ⟨h3, h4, h5⟩, h2, hs, hr⟩ := h
  obtain ⟨hr1, hr2⟩ := gh hr
  unfold jY at hr1 hr2
  rw [List.pairwise_map] at hr2
  unfold cU
  rw [headB_mk ⟨h1, h2, h3, h4, h5⟩, decide_eq_true hr2, List.all_eq_true.2 (fun s hm => by
   have h := hs s hm
   unfold spT at h
   simp only [Bool.and_eq_true, decide_eq_true_eq] at h
   obtain ⟨g1, g2, g3⟩ := h
   unfold spB
   rw [decide_eq_true (hr1 _ (List.mem_map.2 ⟨s, hm, rfl⟩)), decide_eq_true g1, decide_eq_true g2, g3]
   rfl)]
  rfl
theorem ids_take {L : List cM} {k : Nat} {s : cM} (h : L[k]? = some s) : jY (L.take (k + 1)) = jY (L.take k) ++ [s.1] := by
 rw [List.take_add_one, h]
 simp [jY]
theorem spT_step {n : Int} {L : List cM} {k : Nat} {s : cM} (h : L[k]? = some s) (ha : ∀ x ∈ L.take k, spT n x = true) (hs : spT n s = true) : ∀ x ∈ L.take (k + 1), spT n x = true := fun x hx => by
 rw [List.take_add_one, h] at hx
 rcases List.mem_append.1 hx with hx | hx
 ·exact ha x hx
 ·simp at hx; subst hx; exact hs
theorem nO (n : Int) (v : Value) (L : List cM) (w : World) (h : PS w v L) (hlen : L.length ≤ 17592186043904) (hwf : ∀ s ∈ L, WfSp s) :
  Calls Tryz.prog 101 #[v, .int .i64 n] w fun e w' => e = .returned (.bool (dO n L)) ∧ Below w.heap.size w w' := by
 have HWF := ah hwf
 clear hwf
 obtain ⟨va, vc, rfl, hsh⟩ := h
 by_cases h6 : L.length ≤ 6
 ·have d6 : decide ((6 : Int) < (L.length : Int)) = false := decide_eq_false (by omega)
  have HL6 := ah h6
  clear h6
  go_enter Tryz.func101, Tryz.ntmps101
  go_wp2
  go_loopw [5, 15] (fun u i wr => ∃ k : Nat, k ≤ L.length ∧ i = .int .i64 k ∧ Hid (∀ x ∈ L.take k, spT n x = true) ∧ aM wr w.heap.size u (jY (L.take k)) ∧ Below w.heap.size w wr) (fun _ i _ => L.length - (intOf i).toNat)
  case atStart => exact ⟨0, by omega, rfl, (fun x hx => by simp at hx), World.ownsRow_nil _ _ _ _, Below.refl _ _⟩
  case round =>
   rename World => w0
   obtain ⟨k, hk, rfl, HO, hown, hbel⟩ := hrel
   by_cases hlt : k < L.length
   ·obtain ⟨⟨si, st, sl⟩, hy⟩ := cA hlt
    have hwf := HWF.out _ (List.mem_of_getElem? hy)
    have htx : st.size ≤ 140737488351232 := hwf.txt
    have hsl : sl.length ≤ 17592186043904 := hwf.len
    rcases hsh with hnil | ⟨b, off, rfl, hb, hat⟩
    ·rw [hnil] at hlt; simp at hlt
    have hat0 := hat.below hbel hb
    obtain ⟨c0, c1, sa, sc, c2, ns, hcap⟩ := hat0 k _ hy
    simp only at c0 c1 c2 ns hcap
    have hki0 : (0 : Int) ≤ (k : Int) := by omega
    have hki : (k : Int) < (L.length : Int) := by omega
    obtain ⟨Wa, hWa⟩ : ∃ Wa : World, Wa = w0.alloc (.cells #[.int .i64 si, .string st, .slice sa sl.length sc] 93) := ⟨_, rfl⟩
    have hba : Below w0.heap.size w0 Wa := by rw [hWa]; exact (Below.refl _ _).alloc (Nat.le_refl _) _
    have BP : ct Wa w0.heap.size (.int .i64 si) (.string st) (.slice sa sl.length sc) := by rw [hWa]; exact ct.new w0 _ _ _
    have HA := ah hWa.symm
    have HAL := ah (fun W => (mT st W (by unfold maxLen; omega)).mono (R' := fun e w' => (∃ v', e = .returned (.tuple #[v', .int .i64 (bi st).2]) ∧ ∃ a n k, v' = .slice a n k) ∧ Below W.heap.size W w') (fun e w' ⟨v', q1, q2, q3⟩ => by
     obtain ⟨a, k, e2⟩ := q2.shape
     exact ⟨⟨v', q1, a, _, k, e2⟩, q3⟩))
    have HRIS := ah (fun (W : World) (hn : NS W (.slice sa sl.length sc) sl) => mV n _ sl W hn hsl)
    have HFA := ah (show ∀ W1, Below Wa.heap.size Wa W1 → W1.cell? ⟨w0.heap.size, 0, none⟩ = some (.int .i64 si) ∧ W1.cell? ⟨w0.heap.size, 1, none⟩ = some (.string st) ∧ W1.cell? ⟨w0.heap.size, 2, none⟩ = some (.slice sa sl.length sc) ∧ NS W1 (.slice sa sl.length sc) sl ∧ aM W1 w.heap.size u5 (jY (L.take k)) ∧ Below w.heap.size w W1 from fun W1 h1 => by
     obtain ⟨y0, y1, y2⟩ := (BP.below h1).cells
     exact ⟨y0, y1, y2, (ns.below hba).below h1, (hown.below hba).below h1, bJ hbel (bJ hba h1)⟩)
    obtain ⟨x0, x1, x2⟩ := BP.cells
    by_cases he : (bi st).2 = 0
    ·have hbe : ((bi st).2 != 0) = false := by rw [he]; rfl
     rw [he] at HAL
     by_cases hs0 : sl.length = 0
     ·have HF := ah (gT (n := n) hy (by unfold spT; rw [decide_eq_false (show ¬ 0 < sl.length by omega), Bool.false_and, Bool.and_false]))
      have hl0 : ((sl.length : Int) == 0) = true := by rw [hs0]; rfl
      clear hs0 hWa hba BP hat hat0 ns hcap hwf hbel HO hy hown
      go_wp2_with (first | (go_at_call 107; rw [HA.out]; refine (HAL.out _).mono ?_; rintro e W1 ⟨⟨v1, rfl, a1, n1, k1, rfl⟩, hb1⟩; obtain ⟨d0, d1, d2, nsS, ho1, hb2⟩ := HFA.out W1 hb1))
      go_ret
      exact ⟨by rw [HF.out]; rfl, hb2⟩
     ·have hl0 : ((sl.length : Int) == 0) = false := beq_eq_false_iff_ne.2 (by omega)
      cases hr : cr 1 n sl with
      | false =>
       have HF := ah (gT (n := n) hy (by unfold spT; simp only; rw [hr, Bool.and_false, Bool.and_false]))
       rw [hr] at HRIS
       clear hWa hba BP hat hat0 ns hcap hwf hbel HO hy hown
       go_wp2_with (first
        | (go_at_call 107; rw [HA.out]; refine (HAL.out _).mono ?_; rintro e W1 ⟨⟨v1, rfl, a1, n1, k1, rfl⟩, hb1⟩; obtain ⟨d0, d1, d2, nsS, ho1, hb2⟩ := HFA.out W1 hb1)
        | (go_at_call 146; refine (HRIS.out _ nsS).mono ?_; rintro e W2 ⟨rfl, hw2⟩; subst W2))
       go_ret
       exact ⟨by rw [HF.out]; rfl, hb2⟩
      | true =>
       have HO2 := ah (spT_step (n := n) hy HO.out (by unfold spT; simp only; rw [decide_eq_true he, decide_eq_true (show 0 < sl.length by omega), hr]; rfl))
       rw [hr] at HRIS
       have HAP := ah (show ∀ (W : World), aM W w.heap.size u5 (jY (L.take k)) → Below w.heap.size w W → ∃ v4 W4, (Builtin.append_ #[25, 25] 25 #[u5, .slice (some ⟨W.heap.size, 0, none⟩) 1 1]).run Tryz.prog (W.alloc (.cells #[.int .i64 si] 3)) = .ok v4 W4 ∧ aM W4 w.heap.size v4 (jY (L.take (k + 1))) ∧ Below w.heap.size w W4 from fun W ho hb => by
        have hsz := hb.size
        have hst : Below W.heap.size W (W.alloc (.cells #[.int .i64 si] 3)) := (Below.refl _ _).alloc (Nat.le_refl _) _
        have hns : NS (W.alloc (.cells #[.int .i64 si] 3)) (.slice (some ⟨W.heap.size, 0, none⟩) 1 1) [si] := ⟨_, 1, rfl, .inr ⟨W.heap.size, 0, rfl, by simp, fun i x hx => by
         match i, hx with
         | 0, hx => simp at hx; subst hx; unfold World.cell?; rw [heap_alloc_new W _]; rfl⟩⟩
        obtain ⟨v4, W4, q1, q2, q3, q4⟩ := kS 25 (ho.below hst) hns (by simp [jY]; omega) (by have := hst.size; omega)
        exact ⟨v4, W4, q1, by rw [ids_take hy]; exact q2, (hb.trans (hst.mono (by omega))).grown q3 (by have := hst.size; omega) (own_rowN (ho.below hst))⟩)
       clear hWa hba BP hat hat0 ns hcap hwf hbel HO hy hown
       go_wp2_with (first
        | (go_at_call 107; rw [HA.out]; refine (HAL.out _).mono ?_; rintro e W1 ⟨⟨v1, rfl, a1, n1, k1, rfl⟩, hb1⟩; obtain ⟨d0, d1, d2, nsS, ho1, hb2⟩ := HFA.out W1 hb1; obtain ⟨v4, W4, q1, q2, q3⟩ := HAP.out W1 ho1 hb2; have U1 := ah q1; clear q1)
        | (go_at_call 146; refine (HRIS.out _ nsS).mono ?_; rintro e W2 ⟨rfl, hw2⟩; subst W2)
        | (at_builtin; refine eW _ rfl _ _ _ rfl _ _ v4 W4 rfl rfl U1.out ?_))
       go_roundw
       case rel => exact ⟨k + 1, by omega, by go_num, HO2.out, q2, q3⟩
       case measure => simp [intOf]; omega
    ·have hbe : ((bi st).2 != 0) = true := by simpa using he
     have HF := ah (gT (n := n) hy (by unfold spT; rw [decide_eq_false he]; rfl))
     generalize (bi st).2 = er at HAL hbe he
     clear hWa hba BP hat hat0 ns hcap hwf hbel HO hy hown
     go_wp2_with (first | (go_at_call 107; rw [HA.out]; refine (HAL.out _).mono ?_; rintro e W1 ⟨⟨v1, rfl, a1, n1, k1, rfl⟩, hb1⟩; obtain ⟨d0, d1, d2, nsS, ho1, hb2⟩ := HFA.out W1 hb1))
     go_ret
     exact ⟨by rw [HF.out]; rfl, hb2⟩
   ·have hkl : k = L.length := by omega
    have HF := ah (lD (n := n) HL6.out (fun s hs => HO.out s (by rw [List.take_of_length_le (by omega)]; exact hs)))
    have hlt' : ¬ (k : Int) < (L.length : Int) := by omega
    have HR := ah (mV 1048576 _ _ _ (NS.own hown) (by simp [jY]; omega))
    rw [List.take_of_length_le (by omega)] at HR
    clear hown HO hkl
    go_wp2_with (first | (go_at_call 146; refine HR.out.mono ?_; rintro e W2 ⟨rfl, hw2⟩; subst W2))
    go_ret
    exact ⟨by rw [HF.out]; rfl, hbel⟩
 ·have d6 : decide ((6 : Int) < (L.length : Int)) = true := decide_eq_true (by omega)
  have HF := ah (splitsB_long (n := n) h6)
  clear h6
  go_enter Tryz.func101, Tryz.ntmps101
  go_wp2
  go_ret
  exact ⟨by rw [HF.out]; rfl, Below.refl _ _⟩
theorem flatR_cellZ (l : List Rc) : ∀ u ∈ aP l, u.oneCell' = true := by
 intro u hu
 simp only [aP, List.mem_flatMap] at hu
 obtain ⟨x, _, hx⟩ := hu
 simp only [jy, List.mem_cons, List.not_mem_nil, or_false] at hx
 rcases hx with rfl | rfl | rfl <;> rfl
theorem ne : ∀ (l : List Rc) (j : Nat) (u : Value), (aP l)[j]? = some u → ∃ i x, l[i]? = some x ∧ (j = i * 3 ∧ u = .int .i64 x.1.1 ∨ j = i * 3 + 1 ∧ u = .string x.1.2 ∨ j = i * 3 + 2 ∧ u = .int .i64 x.2)
 | [], j, u, h => by simp [aP] at h
 | a :: l, j, u, h => by
  match j, h with
  | 0, h => simp [aP, jy] at h; exact ⟨0, a, rfl, .inl ⟨rfl, h.symm⟩⟩
  | 1, h => simp [aP, jy] at h; exact ⟨0, a, rfl, .inr (.inl ⟨rfl, h.symm⟩)⟩
  | 2, h => simp [aP, jy] at h; exact ⟨0, a, rfl, .inr (.inr ⟨rfl, h.symm⟩)⟩
  | j + 3, h =>
   have h' : (aP l)[j]? = some u := by simpa [aP, jy] using h
   obtain ⟨i, x, h1, h2⟩ := ne l j u h'
   exact ⟨i + 1, x, by simpa using h1, by
    rcases h2 with ⟨e, h2⟩ | ⟨e, h2⟩ | ⟨e, h2⟩
    ·exact .inl ⟨by omega, h2⟩
    ·exact .inr (.inl ⟨by omega, h2⟩)
    ·exact .inr (.inr ⟨by omega, h2⟩)⟩
theorem append_rsZ {W : World} {base : Nat} {v u : Value} {l m : List Rc} (ty : TypeId) (hown : bq W base v l) (hns : RS W u m) (hl : l.length + m.length ≤ 1000000) (hb : base ≤ W.heap.size) :
  ∃ v' W', (Builtin.append_ #[97, 97] ty #[v, u]).run Tryz.prog W = .ok v' W' ∧ bq W' base v' (l ++ m) ∧ W.grownBy W' v.ownBlock := by
 obtain ⟨i0, hi, hz0, hz1, hz2⟩ := info_parts Tryz.infoRec
 obtain ⟨a, cap, rfl, h⟩ := hns
 have hlen := flat_len m
 have go : ∀ (ad : Addr) (news : List Value), news = aP m → (∀ j u, news[j]? = some u → W.cell? (ad.add j) = some u) → ∃ v' W', (Builtin.append_ #[97, 97] ty #[v, .slice (some ad) m.length cap]).run Tryz.prog W = .ok v' W' ∧ bq W' base v' (l ++ m) ∧ W.grownBy W' v.ownBlock := by
  intro ad news hn hc
  obtain ⟨v', w', hr, h2, h3, _, h5⟩ := run_append_own_at (P := Tryz.prog) W base 97 ty 155 i0 _ 3 32 Tryz.underlying97 hi hz0 hz1 hz2 rfl (by decide) v l.length (aP l) hown ad m.length cap news (by subst hn; exact hlen) hc (by subst hn; exact flatR_cellZ m) (by unfold maxLen; omega) (by omega) hb
  refine ⟨v', w', hr, ?_, h3⟩
  subst hn
  unfold bq
  rw [mn, List.length_append]
  exact h2
 rcases h with rfl | ⟨b, off, rfl, hb, hat⟩
 ·cases a with
  | none =>
   refine ⟨v, W, ?_, by rw [List.append_nil]; exact hown, World.grownBy.refl _ _⟩
   rcases hown.2 with ⟨rfl, h0⟩ | ⟨g, cap', cur, rfl, _, _, hnc, _⟩
   ·simp [Builtin.append_, run_underlying Tryz.underlying97, sizeOf, typeInfo, hi, Builtin.lenOf, Builtin.firstCells]
   ·simp [Builtin.append_, run_underlying Tryz.underlying97, sizeOf, typeInfo, hi, Builtin.lenOf, Builtin.firstCells, hnc, storeCells]
  | some ad => exact go ad [] rfl (fun j u hj => by simp at hj)
 ·refine go ⟨b, off, none⟩ _ rfl fun j u hj => ?_
  rw [Addr.add_lit]
  obtain ⟨i, x, h1, h2⟩ := ne m j u hj
  obtain ⟨c0, c1, c2⟩ := hat i x h1
  rcases h2 with ⟨rfl, rfl⟩ | ⟨rfl, rfl⟩ | ⟨rfl, rfl⟩
  ·exact c0
  ·rw [← Nat.add_assoc]; exact c1
  ·rw [← Nat.add_assoc]; exact c2
theorem fN {S : List cM} {l : List Int} {k : Nat} {i : Int} (h : l[k]? = some i) : aR S (l.take (k + 1)) = mN S (aR S (l.take k)) i := by
 rw [List.take_add_one, h]
 exact recsL_snoc S _ i
theorem recs_bad {S : List cM} {l : List Int} {k : Nat} (h : (aR S (l.take k)).2 ≠ 0) : ∀ j, k ≤ j → aR S (l.take j) = ([], 3) := by
 intro j hj
 induction j with
 | zero =>
  obtain rfl : k = 0 := by omega
  exact absurd rfl h
 | succ j ih =>
  by_cases e : k = j + 1
  ·subst e
   rcases oN S (l.take (j + 1)) with e | e
   ·exact absurd e h
   ·exact e
  ·have h1 := ih (by omega)
   cases hx : l[j]? with
   | none =>
    have : l.take (j + 1) = l.take j := by rw [List.take_add_one, hx]; simp
    rw [this]
    exact h1
   | some x =>
    rw [fN hx, h1]
    rfl
theorem lE (c : aX) (v : Value) (w : World) (h : nG w c v) :
  Calls Tryz.prog 59 #[cL c v] w fun e w' => e = .returned (.int .i64 (eS c)) ∧ Below w.heap.size w w' := by
 have hps := h.ps
 obtain ⟨va, vc, rfl, -⟩ := h.ps
 obtain ⟨W0, hW0⟩ : ∃ W0 : World, W0 = w.alloc (.cells #[.int .i64 c.sites, .slice va c.splits.length vc, .int .i64 c.again, .int .i64 c.over] 24) := ⟨_, rfl⟩
 have hb0 : Below w.heap.size w W0 := by rw [hW0]; exact (Below.refl _ _).alloc (Nat.le_refl _) _
 have B0 : dg W0 w.heap.size (.int .i64 c.sites) (.slice va c.splits.length vc) (.int .i64 c.again) (.int .i64 c.over) := by rw [hW0]; exact dg.new w _ _ _ _
 obtain ⟨r0, r1, r2, r3⟩ := B0.cells
 have HAS := ah (nO c.sites _ c.splits W0 (hps.below hb0) h.len h.wf)
 have HAW := ah (fun W => areWaits_any c.again c.over W)
 have HW := ah hW0.symm
 have HB0 := ah hb0
 have hP := cfgB_parts c
 unfold eS
 clear hW0 hb0 B0 h hps
 by_cases h1 : 1 ≤ c.sites
 ·have d1 : decide (c.sites < 1) = false := decide_eq_false (by omega)
  by_cases h2 : c.sites ≤ 3
  ·have d2 : decide (3 < c.sites) = false := decide_eq_false (by omega)
   rw [decide_eq_true (show 1 ≤ c.sites ∧ c.sites ≤ 3 from ⟨h1, h2⟩), Bool.true_and] at hP
   cases hw : je c.again c.over with
   | false =>
    rw [hw, Bool.false_and] at hP
    rw [hw] at HAW
    rw [hP]
    clear hP h1 h2
    go_enter Tryz.func59, Tryz.ntmps59
    go_wp2_with (go_at_call 100; rw [HW.out]; refine (HAW.out _).mono ?_; rintro e W2 ⟨rfl, hw2⟩; subst W2)
    go_ret
    exact ⟨rfl, HB0.out⟩
   | true =>
    rw [hw, Bool.true_and] at hP
    rw [hw] at HAW
    rw [hP]
    generalize dO c.sites c.splits = bs at HAS
    clear hP h1 h2
    cases bs with
    | false =>
     go_enter Tryz.func59, Tryz.ntmps59
     go_wp2_with (first
      | (go_at_call 100; rw [HW.out]; refine (HAW.out _).mono ?_; rintro e W2 ⟨rfl, hw2⟩; subst W2)
      | (go_at_call 101; refine HAS.out.mono ?_; rintro e W2 ⟨rfl, hb2⟩))
     go_ret
     exact ⟨rfl, bJ HB0.out hb2⟩
    | true =>
     go_enter Tryz.func59, Tryz.ntmps59
     go_wp2_with (first
      | (go_at_call 100; rw [HW.out]; refine (HAW.out _).mono ?_; rintro e W2 ⟨rfl, hw2⟩; subst W2)
      | (go_at_call 101; refine HAS.out.mono ?_; rintro e W2 ⟨rfl, hb2⟩))
     go_ret
     exact ⟨rfl, bJ HB0.out hb2⟩
  ·have d2 : decide (3 < c.sites) = true := decide_eq_true (by omega)
   rw [decide_eq_false (show ¬ (1 ≤ c.sites ∧ c.sites ≤ 3) from fun e => h2 e.2), Bool.false_and] at hP
   rw [hP]
   clear hP h1 h2
   go_enter Tryz.func59, Tryz.ntmps59
   go_wp2
   rw [HW.out]
   go_ret
   exact ⟨rfl, HB0.out⟩
 ·have d1 : decide (c.sites < 1) = true := decide_eq_true (by omega)
  rw [decide_eq_false (show ¬ (1 ≤ c.sites ∧ c.sites ≤ 3) from fun e => h1 e.1), Bool.false_and] at hP
  rw [hP]
  clear hP h1
  go_enter Tryz.func59, Tryz.ntmps59
  go_wp2
  rw [HW.out]
  go_ret
  exact ⟨rfl, HB0.out⟩
theorem checkRes_bad {c : aX} (h : cU c = false) : eS c = 1 := by unfold eS; rw [h]; rfl
theorem checkRes_ok {c : aX} (h : cU c = true) : eS c = 0 := by unfold eS; rw [h]; rfl
theorem aM.down {w : World} {base base' : Nat} {v : Value} {l : List Int} (h : aM w base v l) (hb : base' ≤ base) : aM w base' v l := by
 refine ⟨h.1, ?_⟩
 rcases h.2 with ⟨h1, h2⟩ | ⟨g, cap, cur, h1, h2, h3, h4⟩
 ·exact .inl ⟨h1, h2⟩
 ·exact .inr ⟨g, cap, cur, h1, by omega, h3, h4⟩
theorem bq.down {w : World} {base base' : Nat} {v : Value} {l : List Rc} (h : bq w base v l) (hb : base' ≤ base) : bq w base' v l := by
 refine ⟨h.1, ?_⟩
 rcases h.2 with ⟨h1, h2⟩ | ⟨g, cap, cur, h1, h2, h3, h4⟩
 ·exact .inl ⟨h1, h2⟩
 ·exact .inr ⟨g, cap, cur, h1, by omega, h3, h4⟩
theorem recsRes_bad {c : aX} (h : cU c = false) (l : List Int) : cV c l = ([], 1) := by unfold cV; rw [h]; rfl
theorem nf {c : aX} (h : cU c = true) (l : List Int) : cV c l = aR c.splits l := by unfold cV; rw [h]; rfl
theorem ng (c : aX) (v vl : Value) (l : List Int) (w : World) (h : nG w c v) (hl : NS w vl l) (hlen : l.length ≤ 1000) :
  Calls Tryz.prog 62 #[cL c v, vl] w fun e w' => (∃ v', e = .returned (.tuple #[v', .int .i64 (cV c l).2]) ∧ bq w' w.heap.size v' (cV c l).1) ∧ Below w.heap.size w w' := by
 obtain ⟨va, vc, rfl, -⟩ := h.ps
 obtain ⟨la, lc, rfl, hsh⟩ := hl
 have st : ∀ (W : World) (o : Obj), Below W.heap.size W (W.alloc o) := fun W o => (Below.refl _ _).alloc (Nat.le_refl _) _
 obtain ⟨W0, hW0⟩ : ∃ W0 : World, W0 = w.alloc (.cells #[.int .i64 c.sites, .slice va c.splits.length vc, .int .i64 c.again, .int .i64 c.over] 24) := ⟨_, rfl⟩
 have hb0 : Below w.heap.size w W0 := by rw [hW0]; exact st _ _
 have B0 : dg W0 w.heap.size (.int .i64 c.sites) (.slice va c.splits.length vc) (.int .i64 c.again) (.int .i64 c.over) := by rw [hW0]; exact dg.new w _ _ _ _
 have HIN := ah h
 have HC := ah (lE c _ W0 (h.below hb0))
 have HW := ah hW0.symm
 have HB0 := ah hb0
 have HF0 := ah B0
 clear hW0 hb0 B0 h
 cases hcb : cU c with
 | false =>
  rw [recsRes_bad hcb]
  rw [checkRes_bad hcb] at HC
  have HBB := ah (fun W1 (h1 : Below W0.heap.size W0 W1) => bJ HB0.out h1)
  go_enter Tryz.func62, Tryz.ntmps62
  go_wp2_with (first
   | (go_at_call 59; rw [HW.out]; refine HC.out.mono ?_; rintro e W1 ⟨rfl, hb1⟩))
  go_ret2
  exact ⟨⟨_, rfl, World.ownsRow_nil _ _ _ _⟩, HBB.out _ hb1⟩
 | true =>
  rw [nf hcb]
  rw [checkRes_ok hcb] at HC
  have HFI := ah (fun (i : Int) (W : World) (hb : Below w.heap.size w W) => sfind_any c _ i W (HIN.out.below hb))
  unfold FndPost at HFI
  have HWF := ah (show ∀ (k : Nat) (s : cM), c.splits[k]? = some s → s.2.1.size ≤ maxLen from fun k s hs => by have := (HIN.out.wf _ (List.mem_of_getElem? hs)).txt; unfold maxLen; omega)
  go_enter Tryz.func62, Tryz.ntmps62
  go_wp2_with (first
   | (go_at_call 59; rw [HW.out]; refine HC.out.mono ?_; rintro e W1 ⟨rfl, hb1⟩))
  go_loopw [7, 21] (fun u i wr => ∃ k : Nat, k ≤ l.length ∧ i = .int .i64 k ∧ Hid ((aR c.splits (l.take k)).2 = 0) ∧ bq wr W0.heap.size u (aR c.splits (l.take k)).1 ∧ Below W0.heap.size W0 wr) (fun _ i _ => l.length - (intOf i).toNat)
  case atStart => exact ⟨0, by omega, rfl, rfl, World.ownsRow_nil _ _ _ _, hb1⟩
  case round =>
   rename World => w0
   obtain ⟨k, hk, rfl, HO, hown, hbel⟩ := hrel
   have hbw := bJ HB0.out hbel
   obtain ⟨z0, z1, z2, z3⟩ := (HF0.out.below hbel).cells
   obtain ⟨au, cu, rfl⟩ := hown.shape
   by_cases hlt : k < l.length
   ·obtain ⟨x, hx⟩ := cA hlt
    rcases hsh with hnil | ⟨b, off, rfl, hb, hat⟩
    ·rw [hnil] at hlt; simp at hlt
    have c0 := (hat.below hbw hb) k x hx
    have hki0 : (0 : Int) ≤ (k : Int) := by omega
    have hki : (k : Int) < (l.length : Int) := by omega
    have HF1 := ah (HFI.out x w0 hbw)
    cases hf : bX c.splits x with
    | none =>
     have HR := ah (recs_bad (S := c.splits) (l := l) (k := k + 1) (by rw [fN hx]; unfold mN; rw [if_pos HO.out, hf]; simp) l.length hlt)
     rw [List.take_length] at HR
     rw [fR_none hf] at HF1
     clear hat hx hown hb1
     go_wp2_with (first
      | (go_at_call 106; refine HF1.out.mono ?_; rintro e W2 ⟨⟨a, cap, rfl, hn⟩, hb2⟩))
     go_ret2
     exact ⟨⟨_, by rw [HR.out]; rfl, by rw [HR.out]; exact World.ownsRow_nil _ _ _ _⟩, bJ (bJ hbw hb2) (st _ _)⟩
    | some j =>
     obtain ⟨⟨si, tx, sl⟩, hy, -⟩ := iZ hf
     have hstep : aR c.splits (l.take (k + 1)) = ((aR c.splits (l.take k)).1 ++ (bi tx).1, 0) := by
      rw [fN hx]
      unfold mN
      rw [if_pos HO.out, hf]
      simp [List.getD_eq_getElem?_getD, hy, lu]
     have HST := ah hstep
     rw [fR_some hf hy] at HF1
     have htx := HWF.out _ _ hy
     have hlen1 := oO c.splits (l.take k)
     rw [List.length_take, Nat.min_eq_left hk] at hlen1
     have hlen2 := oM (si, tx, sl)
     unfold lu at hlen2
     simp only at HF1 htx hlen2
     have HFC := ah (show ∀ W2 (a : Option Addr) (cap : Nat), Below w0.heap.size w0 W2 → W2.heap.size = W2.heap.size ∧ ct (W2.alloc (.cells #[.int .i64 si, .string tx, .slice a sl.length cap] 93)) W2.heap.size (.int .i64 si) (.string tx) (.slice a sl.length cap) ∧
       Calls Tryz.prog 107 #[.string tx] (W2.alloc (.cells #[.int .i64 si, .string tx, .slice a sl.length cap] 93)) (fun e W4 => ∃ v' a7 n7 c7 v8 W8, e = .returned (.tuple #[v', .int .i64 (bi tx).2]) ∧ v' = .slice a7 n7 c7 ∧ (Builtin.append_ #[97, 97] 97 #[.slice au (aR c.splits (l.take k)).1.length cu, v']).run Tryz.prog W4 = .ok v8 W8 ∧ bq W8 W0.heap.size v8 (aR c.splits (l.take (k + 1))).1 ∧ Below W0.heap.size W0 W8) from fun W2 a cap h2 => by
      have hs := st W2 (.cells #[.int .i64 si, .string tx, .slice a sl.length cap] 93)
      refine ⟨rfl, ct.new _ _ _ _, (mT tx _ htx).mono ?_⟩
      rintro e W4 ⟨v', rfl, ho, hb4⟩
      obtain ⟨a7, c7, rfl⟩ := ho.shape
      have h04 := bJ h2 (bJ hs hb4)
      have ho0 := hown.below h04
      have hsz := (bJ hbel h04).size
      obtain ⟨v8, W8, q1, q2, q3⟩ := append_rsZ 97 ho0 (RS.own ho) (by omega) hsz
      refine ⟨_, a7, _, c7, v8, W8, rfl, rfl, q1, by rw [hstep]; exact q2, ?_⟩
      exact (bJ hbel h04).grown q3 hsz (own_rowN ho0))
     generalize (bi tx).2 = er at HFC
     clear hat hx hown hb1 hstep hlen1 hlen2
     go_wp2_with (first
      | (go_at_call 106; refine HF1.out.mono ?_; rintro e W2 ⟨⟨a, cap, rfl, hn⟩, hb2⟩; obtain ⟨-, BN, HAL⟩ := HFC.out W2 a cap hb2; obtain ⟨y0, y1, y2⟩ := BN.cells; clear hn BN)
      | (go_at_call 107; refine HAL.mono ?_; rintro e W4 ⟨v', a7, n7, c7, v8, W8, rfl, rfl, q1, ho8, hb8⟩; have U1 := ah q1; clear q1)
      | (at_builtin; refine eW _ rfl _ _ _ rfl _ _ v8 W8 rfl rfl U1.out ?_))
     go_roundw
     case rel => exact ⟨k + 1, by omega, by go_num, ah (by rw [HST.out]), ho8, hb8⟩
     case measure => simp [intOf]; omega
   ·have hkl : k = l.length := by omega
    have HR := ah (show aR c.splits l = ((aR c.splits (l.take k)).1, 0) from by rw [List.take_of_length_le (by omega)] at HO ⊢; exact Prod.ext rfl HO.out)
    have hlt' : ¬ (k : Int) < (l.length : Int) := by omega
    clear hkl HO
    go_wp2
    go_ret2
    exact ⟨⟨_, by rw [HR.out]; rfl, by rw [HR.out]; exact hown.down HB0.out.size⟩, hbw⟩
end Go.Proofs.YtclcgakfmcofaaaGreatDoor
