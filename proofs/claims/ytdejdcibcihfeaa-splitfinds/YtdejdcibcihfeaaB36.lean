/- split's contracts: Check, Find, Next, Recs. -/
import Derived.Test.YtdejdcibcihfeaaB34
import Derived.Test.YtdejdcibcihfeaaB35
namespace Go.Proofs.Ytdejdcibcihfeaa
open Go.RowKit
set_option linter.unusedVariables false
set_option maxRecDepth 100000

set_option maxHeartbeats 400000 in
theorem check12_any (c : Cfg) (v : Value) (w : World) (h : InC w c v) :
    Calls Try.prog 8 #[cfgV c v] w fun e w' => e = .returned (.int .i64 (checkRes c)) ∧ Below w.heap.size w w' := by
  have hps := h.ps
  obtain ⟨va, vc, rfl, -⟩ := h.ps
  obtain ⟨W0, hW0⟩ : ∃ W0 : World, W0 = w.alloc (.cells #[.int .i64 c.sites, .slice va c.splits.length vc, .int .i64 c.again, .int .i64 c.over] 24) := ⟨_, rfl⟩
  have hb0 : Below w.heap.size w W0 := by rw [hW0]; exact (Below.refl _ _).alloc (Nat.le_refl _) _
  have B0 : BlkF W0 w.heap.size (.int .i64 c.sites) (.slice va c.splits.length vc) (.int .i64 c.again) (.int .i64 c.over) := by rw [hW0]; exact BlkF.new w _ _ _ _
  obtain ⟨r0, r1, r2, r3⟩ := B0.cells
  have HAS := hidM (areSplits_any c.sites _ c.splits W0 (hps.below hb0) h.len h.wf)
  have HAW := hidM (fun W => areWaits_any c.again c.over W)
  have HW := hidM hW0.symm
  have HB0 := hidM hb0
  have hP := cfgB_parts c
  unfold checkRes
  clear hW0 hb0 B0 h hps
  by_cases h1 : 1 ≤ c.sites
  · have d1 : decide (c.sites < 1) = false := decide_eq_false (by omega)
    by_cases h2 : c.sites ≤ 3
    · have d2 : decide (3 < c.sites) = false := decide_eq_false (by omega)
      rw [decide_eq_true (show 1 ≤ c.sites ∧ c.sites ≤ 3 from ⟨h1, h2⟩), Bool.true_and] at hP
      cases hw : waitsB c.again c.over with
      | false =>
        rw [hw, Bool.false_and] at hP
        rw [hw] at HAW
        rw [hP]
        clear hP h1 h2
        go_enter Try.func8, Try.ntmps8
        go_wp2_with (go_at_call 24; rw [HW.out]; refine (HAW.out _).mono ?_; rintro e W2 ⟨rfl, hw2⟩; subst W2)
        go_ret
        exact ⟨rfl, HB0.out⟩
      | true =>
        rw [hw, Bool.true_and] at hP
        rw [hw] at HAW
        rw [hP]
        generalize splitsB c.sites c.splits = bs at HAS
        clear hP h1 h2
        cases bs with
        | false =>
          go_enter Try.func8, Try.ntmps8
          go_wp2_with (first
            | (go_at_call 24; rw [HW.out]; refine (HAW.out _).mono ?_; rintro e W2 ⟨rfl, hw2⟩; subst W2)
            | (go_at_call 25; refine HAS.out.mono ?_; rintro e W2 ⟨rfl, hb2⟩))
          go_ret
          exact ⟨rfl, nxt HB0.out hb2⟩
        | true =>
          go_enter Try.func8, Try.ntmps8
          go_wp2_with (first
            | (go_at_call 24; rw [HW.out]; refine (HAW.out _).mono ?_; rintro e W2 ⟨rfl, hw2⟩; subst W2)
            | (go_at_call 25; refine HAS.out.mono ?_; rintro e W2 ⟨rfl, hb2⟩))
          go_ret
          exact ⟨rfl, nxt HB0.out hb2⟩
    · have d2 : decide (3 < c.sites) = true := decide_eq_true (by omega)
      rw [decide_eq_false (show ¬ (1 ≤ c.sites ∧ c.sites ≤ 3) from fun e => h2 e.2), Bool.false_and] at hP
      rw [hP]
      clear hP h1 h2
      go_enter Try.func8, Try.ntmps8
      go_wp2
      rw [HW.out]
      go_ret
      exact ⟨rfl, HB0.out⟩
  · have d1 : decide (c.sites < 1) = true := decide_eq_true (by omega)
    rw [decide_eq_false (show ¬ (1 ≤ c.sites ∧ c.sites ≤ 3) from fun e => h1 e.1), Bool.false_and] at hP
    rw [hP]
    clear hP h1
    go_enter Try.func8, Try.ntmps8
    go_wp2
    rw [HW.out]
    go_ret
    exact ⟨rfl, HB0.out⟩
theorem BlkP.away {W : World} {b b' o : Nat} {x0 x1 x2 : Value} (h : BlkP W b x0 x1 x2) (hb : b ≠ b') (y : Value) : BlkP (W.setCell ⟨b', o, none⟩ y) b x0 x1 x2 := by
  unfold BlkP at h ⊢
  rw [heap_setCell_other _ _ _ _ hb]
  exact h
theorem checkRes_bad {c : Cfg} (h : cfgB c = false) : checkRes c = 1 := by unfold checkRes; rw [h]; rfl
theorem checkRes_ok {c : Cfg} (h : cfgB c = true) : checkRes c = 0 := by unfold checkRes; rw [h]; rfl
theorem findRes_ok {c : Cfg} (h : cfgB c = true) (i : Int) : findRes c i = fR c i := by unfold findRes fR; rw [h]; rfl
theorem OwnN.down {w : World} {base base' : Nat} {v : Value} {l : List Int} (h : OwnN w base v l) (hb : base' ≤ base) : OwnN w base' v l := by
  refine ⟨h.1, ?_⟩
  rcases h.2 with ⟨h1, h2⟩ | ⟨g, cap, cur, h1, h2, h3, h4⟩
  · exact .inl ⟨h1, h2⟩
  · exact .inr ⟨g, cap, cur, h1, by omega, h3, h4⟩
set_option maxHeartbeats 800000 in
theorem find12_any (c : Cfg) (v : Value) (i : Int) (w : World) (h : InC w c v) :
    Calls Try.prog 10 #[cfgV c v, .int .i64 i] w fun e w' => (∃ v', e = .returned (.tuple #[.agg #[.int .i64 (findRes c i).1.1, .string (findRes c i).1.2.1, v'], .int .i64 (findRes c i).2]) ∧ OwnN w' w.heap.size v' (findRes c i).1.2.2) ∧ Below w.heap.size w w' := by
  obtain ⟨va, vc, rfl, -⟩ := h.ps
  have st : ∀ (W : World) (o : Obj), Below W.heap.size W (W.alloc o) := fun W o => (Below.refl _ _).alloc (Nat.le_refl _) _
  obtain ⟨W0, hW0⟩ : ∃ W0 : World, W0 = (w.alloc (.cells #[.int .i64 c.sites, .slice va c.splits.length vc, .int .i64 c.again, .int .i64 c.over] 24)).alloc (.cells #[.int .i64 0, .string ⟨#[]⟩, .slice none 0 0] 35) := ⟨_, rfl⟩
  have hb0 : Below w.heap.size w W0 := by rw [hW0]; exact nxt (st _ _) (st _ _)
  have B0 : BlkF W0 w.heap.size (.int .i64 c.sites) (.slice va c.splits.length vc) (.int .i64 c.again) (.int .i64 c.over) := by rw [hW0]; exact (BlkF.new w _ _ _ _).below (st _ _)
  have B1 : BlkP W0 (w.heap.size + 1) (.int .i64 0) (.string ⟨#[]⟩) (.slice none 0 0) := by rw [hW0]; simpa using BlkP.new (w.alloc (.cells #[.int .i64 c.sites, .slice va c.splits.length vc, .int .i64 c.again, .int .i64 c.over] 24)) (.int .i64 0) (.string ⟨#[]⟩) (.slice none 0 0)
  obtain ⟨r0, r1, r2, r3⟩ := B0.cells
  have HIN := hidM h
  have HC := hidM (check12_any c _ W0 (h.below hb0))
  have HW := hidM hW0.symm
  have HB0 := hidM hb0
  have HF0 := hidM B0
  have HB1 := hidM B1
  clear hW0 hb0 B0 B1 h
  cases hcb : cfgB c with
  | false =>
    rw [findRes_bad hcb]
    rw [checkRes_bad hcb] at HC
    have HFA := hidM (show ∀ W1, Below W0.heap.size W0 W1 → BlkP W1 (w.heap.size + 1) (.int .i64 0) (.string ⟨#[]⟩) (.slice none 0 0) ∧ Below w.heap.size w W1 from fun W1 h1 => ⟨HB1.out.below h1, nxt HB0.out h1⟩)
    go_enter Try.func10, Try.ntmps10
    go_wp2_with (go_at_call 8; rw [HW.out]; refine HC.out.mono ?_; rintro e W1 ⟨rfl, hb1⟩; obtain ⟨B1, hb2⟩ := HFA.out W1 hb1; obtain ⟨a0, a1, a2⟩ := B1.cells; have f0 := B1.free 0; have f1 := (B1.set0 (.int .i64 0)).free 1; have f2 := ((B1.set0 (.int .i64 0)).set1 (.string ⟨#[]⟩)).free 2; obtain ⟨-, a1', a2'⟩ := (B1.set0 (.int .i64 0)).cells; obtain ⟨-, -, a2''⟩ := ((B1.set0 (.int .i64 0)).set1 (.string ⟨#[]⟩)).cells; have HR := hidM (((B1.set0 (.int .i64 0)).set1 (.string ⟨#[]⟩)).set2 (.slice none 0 0)); have HBB := hidM (put3 (.int .i64 0) (.string ⟨#[]⟩) (.slice none 0 0) hb2 (Nat.le_succ _ : w.heap.size ≤ w.heap.size + 1)); clear hb2 hb1 B1)
    refine bodyPost_ret (results_cellP rfl rfl (loadP HR.out)) rfl ?_
    exact ⟨⟨_, rfl, World.ownsRow_nil _ _ _ _⟩, HBB.out⟩
  | true =>
    rw [findRes_ok hcb]
    rw [checkRes_ok hcb] at HC
    have hwf : (fR c i).1.2.2.length ≤ 17592186043904 := by
      unfold fR
      cases hf : findC c.splits i with
      | none => simp
      | some k =>
        obtain ⟨s, hs, -⟩ := findC_some hf
        simp only [List.getD_eq_getElem?_getD, hs, Option.getD_some]
        exact (HIN.out.wf s (List.mem_of_getElem? hs)).len
    have HFI := hidM (fun (W : World) (hb : Below w.heap.size w W) => sfind_any c _ i W (HIN.out.below hb))
    unfold FndPost at HFI
    generalize fR c i = R at HFI hwf
    obtain ⟨⟨ri, rt, rl⟩, re⟩ := R
    simp only at HFI hwf ⊢
    have HFA := hidM (show ∀ W1, Below W0.heap.size W0 W1 → Below w.heap.size w W1 ∧ W1.cell? ⟨w.heap.size, 0, none⟩ = some (.int .i64 c.sites) ∧ W1.cell? ⟨w.heap.size, 1, none⟩ = some (.slice va c.splits.length vc) ∧ W1.cell? ⟨w.heap.size, 2, none⟩ = some (.int .i64 c.again) ∧ W1.cell? ⟨w.heap.size, 3, none⟩ = some (.int .i64 c.over) from fun W1 h1 => by
      obtain ⟨z0, z1, z2, z3⟩ := (HF0.out.below h1).cells
      exact ⟨nxt HB0.out h1, z0, z1, z2, z3⟩)
    have HFC := hidM (show ∀ W1 W2 (a : Option Addr) (cap : Nat), Below W0.heap.size W0 W1 → Below W1.heap.size W1 W2 → NS W2 (.slice a rl.length cap) rl → BlkP (W2.alloc (.cells #[.int .i64 ri, .string rt, .slice a rl.length cap] 35)) W2.heap.size (.int .i64 ri) (.string rt) (.slice a rl.length cap) ∧
        Calls Try.prog 27 #[.slice a rl.length cap] (W2.alloc (.cells #[.int .i64 ri, .string rt, .slice a rl.length cap] 35)) (fun e W4 => (∃ v', e = .returned v' ∧ OwnN W4 w.heap.size v' rl ∧ BlkP W4 W2.heap.size (.int .i64 ri) (.string rt) (.slice a rl.length cap) ∧ BlkP (W4.setCell ⟨W2.heap.size, 2, none⟩ v') W2.heap.size (.int .i64 ri) (.string rt) v' ∧ BlkP (W4.setCell ⟨W2.heap.size, 2, none⟩ v') (w.heap.size + 1) (.int .i64 0) (.string ⟨#[]⟩) (.slice none 0 0) ∧ Below w.heap.size w (W4.setCell ⟨W2.heap.size, 2, none⟩ v') ∧ OwnN ((((W4.setCell ⟨W2.heap.size, 2, none⟩ v').setCell ⟨w.heap.size + 1, 0, none⟩ (.int .i64 ri)).setCell ⟨w.heap.size + 1, 1, none⟩ (.string rt)).setCell ⟨w.heap.size + 1, 2, none⟩ v') w.heap.size v' rl)) from fun W1 W2 a cap h1 h2 hn => by
      have BN := BlkP.new W2 (.int .i64 ri) (.string rt) (.slice a rl.length cap)
      have hs := st W2 (.cells #[.int .i64 ri, .string rt, .slice a rl.length cap] 35)
      have hsz := (nxt HB0.out (nxt h1 h2)).size
      have hlt1 : w.heap.size + 1 < W2.heap.size := Nat.lt_of_lt_of_le HB1.out.lt (nxt h1 h2).size
      refine ⟨BN, (cloneN_any _ rl _ (hn.below hs) hwf).mono ?_⟩
      rintro e W4 ⟨⟨v', rfl, ho⟩, hb4⟩
      have B4 := BN.below hb4
      have B14 := (((HB1.out.below h1).below h2).below hs).below hb4
      have ho0 := ho.down (show w.heap.size ≤ _ by have := hs.size; omega)
      have hbw := nxt HB0.out (nxt h1 (nxt h2 (nxt hs hb4)))
      have hal : (W2.alloc (.cells #[.int .i64 ri, .string rt, .slice a rl.length cap] 35)).heap.size = W2.heap.size + 1 := by simp
      refine ⟨v', rfl, ho0, B4, B4.set2 v', B14.away (by omega) v', hbw.setCell (p := ⟨W2.heap.size, 2, none⟩) (by show w.heap.size ≤ W2.heap.size; omega) v', ?_⟩
      refine OwnN.down (base := (W2.alloc (.cells #[.int .i64 ri, .string rt, .slice a rl.length cap] 35)).heap.size) ?_ (by omega)
      exact ownsRow_setCell_below (ownsRow_setCell_below (ownsRow_setCell_below (ownsRow_setCell_below ho (a := ⟨W2.heap.size, 2, none⟩) (by show W2.heap.size < _; omega) _) (a := ⟨w.heap.size + 1, 0, none⟩) (by show w.heap.size + 1 < _; omega) _) (a := ⟨w.heap.size + 1, 1, none⟩) (by show w.heap.size + 1 < _; omega) _) (a := ⟨w.heap.size + 1, 2, none⟩) (by show w.heap.size + 1 < _; omega) _)
    clear r0 r1 r2 r3
    go_enter Try.func10, Try.ntmps10
    go_wp2_with (first
      | (go_at_call 8; rw [HW.out]; refine HC.out.mono ?_; rintro e W1 ⟨rfl, hb1⟩; obtain ⟨hbw1, z0, z1, z2, z3⟩ := HFA.out W1 hb1)
      | (go_at_call 26; refine (HFI.out _ hbw1).mono ?_; rintro e W2 ⟨⟨a, cap, rfl, hn⟩, hb2⟩; obtain ⟨BN, HCL⟩ := HFC.out W1 W2 a cap hb1 hb2 hn; obtain ⟨y0, y1, y2⟩ := BN.cells; clear BN hn)
      | (go_at_call 27; refine HCL.mono ?_; rintro e W4 ⟨v', rfl, ho, B4, B5, B6, hbb, ho'⟩; obtain ⟨a5, k5, rfl⟩ := ho.shape; obtain ⟨y0, y1, y2⟩ := B4.cells; have f2 := B4.free 2; obtain ⟨x0, x1, x2⟩ := B5.cells; obtain ⟨a0, a1, a2⟩ := B6.cells; have g0 := B6.free 0; have g1 := (B6.set0 (.int .i64 ri)).free 1; have g2 := ((B6.set0 (.int .i64 ri)).set1 (.string rt)).free 2; obtain ⟨-, a1', a2'⟩ := (B6.set0 (.int .i64 ri)).cells; obtain ⟨-, -, a2''⟩ := ((B6.set0 (.int .i64 ri)).set1 (.string rt)).cells; have HR := hidM (((B6.set0 (.int .i64 ri)).set1 (.string rt)).set2 (.slice a5 rl.length k5)); have HBB := hidM (put3 (.int .i64 ri) (.string rt) (.slice a5 rl.length k5) hbb (Nat.le_succ _ : w.heap.size ≤ w.heap.size + 1)); have HO := hidM ho'; clear hbb hb1 hb2 hbw1 B4 B5 B6 ho ho'))
    refine bodyPost_ret (results_cellP rfl rfl (loadP HR.out)) rfl ?_
    exact ⟨⟨_, rfl, HO.out⟩, HBB.out⟩
set_option maxHeartbeats 800000 in
theorem next12_any (c : Cfg) (v : Value) (i site : Int) (w : World) (h : InC w c v) :
    Calls Try.prog 13 #[cfgV c v, .int .i64 i, .int .i64 site] w fun e w' => e = .returned (.tuple #[.int .i64 (nextRes c i site).1, .int .i64 (nextRes c i site).2]) ∧ Below w.heap.size w w' := by
  obtain ⟨va, vc, rfl, -⟩ := h.ps
  have st : ∀ (W : World) (o : Obj), Below W.heap.size W (W.alloc o) := fun W o => (Below.refl _ _).alloc (Nat.le_refl _) _
  obtain ⟨W0, hW0⟩ : ∃ W0 : World, W0 = w.alloc (.cells #[.int .i64 c.sites, .slice va c.splits.length vc, .int .i64 c.again, .int .i64 c.over] 24) := ⟨_, rfl⟩
  have hb0 : Below w.heap.size w W0 := by rw [hW0]; exact st _ _
  have B0 : BlkF W0 w.heap.size (.int .i64 c.sites) (.slice va c.splits.length vc) (.int .i64 c.again) (.int .i64 c.over) := by rw [hW0]; exact BlkF.new w _ _ _ _
  have HIN := hidM h
  have HC := hidM (check12_any c _ W0 (h.below hb0))
  have HW := hidM hW0.symm
  have HB0 := hidM hb0
  have HF0 := hidM B0
  have HFA := hidM (show ∀ W1, Below W0.heap.size W0 W1 → Below w.heap.size w W1 ∧ W1.cell? ⟨w.heap.size, 0, none⟩ = some (.int .i64 c.sites) ∧ W1.cell? ⟨w.heap.size, 1, none⟩ = some (.slice va c.splits.length vc) ∧ W1.cell? ⟨w.heap.size, 2, none⟩ = some (.int .i64 c.again) ∧ W1.cell? ⟨w.heap.size, 3, none⟩ = some (.int .i64 c.over) from fun W1 h1 => by
    obtain ⟨z0, z1, z2, z3⟩ := (HF0.out.below h1).cells
    exact ⟨nxt HB0.out h1, z0, z1, z2, z3⟩)
  clear hW0 hb0 B0 h
  cases hcb : cfgB c with
  | false =>
    rw [nextRes_bad hcb]
    rw [checkRes_bad hcb] at HC
    go_enter Try.func13, Try.ntmps13
    go_wp2_with (first
      | (go_at_call 8; rw [HW.out]; refine HC.out.mono ?_; rintro e W1 ⟨rfl, hb1⟩; obtain ⟨hbw1, z0, z1, z2, z3⟩ := HFA.out W1 hb1))
    go_ret2
    exact ⟨rfl, hbw1⟩
  | true =>
    rw [checkRes_ok hcb] at HC
    by_cases h1 : 0 ≤ site
    · have d1 : decide (site < 0) = false := decide_eq_false (by omega)
      by_cases h2 : site ≤ c.sites
      · have d2 : decide (c.sites < site) = false := decide_eq_false (by omega)
        have HFI := hidM (fun (W : World) (hb : Below w.heap.size w W) => sfind_any c _ i W (HIN.out.below hb))
        unfold FndPost at HFI
        have HD1 := hidM d1
        have HD2 := hidM d2
        cases hf : findC c.splits i with
        | none =>
          rw [nextRes_none hcb ⟨h1, h2⟩ hf]
          rw [fR_none hf] at HFI
          clear h1 h2
          go_enter Try.func13, Try.ntmps13
          go_wp2_with (first
            | (go_at_call 8; rw [HW.out]; refine HC.out.mono ?_; rintro e W1 ⟨rfl, hb1⟩; obtain ⟨hbw1, z0, z1, z2, z3⟩ := HFA.out W1 hb1)
            | (go_at_call 26; refine (HFI.out _ hbw1).mono ?_; rintro e W2 ⟨⟨a, cap, rfl, hn⟩, hb2⟩))
          go_ret2
          exact ⟨rfl, nxt (nxt hbw1 hb2) (st _ _)⟩
        | some k =>
          obtain ⟨⟨si, tx, sl⟩, hy, -⟩ := findC_some hf
          rw [nextRes_some hcb ⟨h1, h2⟩ hf hy]
          rw [fR_some hf hy] at HFI
          have hsp := spB_of ((cfgB_of hcb).2.1 _ (List.mem_of_getElem? hy))
          have hl : 0 < sl.length := hsp.2.2.1
          have hl2 : sl.length ≤ 17592186043904 := (HIN.out.wf _ (List.mem_of_getElem? hy)).len
          have hl0 : (0 : Int) < (sl.length : Int) := by omega
          simp only at HFI ⊢
          clear h1 h2 hsp hy hf
          have HFC := hidM (show ∀ W1 W2 (a : Option Addr) (cap : Nat), Below w.heap.size w W1 → Below W1.heap.size W1 W2 → NS W2 (.slice a sl.length cap) sl → ∃ b off, a = some ⟨b, off, none⟩ ∧ NumsAt W2 b off sl ∧ NumsAt (W2.alloc (.cells #[.int .i64 si, .string tx, .slice a sl.length cap] 35)) b off sl ∧ W2.cell? ⟨b, off, none⟩ = some (.int .i64 (sl.headD 0)) ∧ BlkP (W2.alloc (.cells #[.int .i64 si, .string tx, .slice a sl.length cap] 35)) W2.heap.size (.int .i64 si) (.string tx) (.slice a sl.length cap) ∧ Below w.heap.size w (W2.alloc (.cells #[.int .i64 si, .string tx, .slice a sl.length cap] 35)) from fun W1 W2 a cap h1 h2 hn => by
            obtain ⟨a', cap', e, hsh⟩ := hn
            have ea : a = a' := by injection e
            subst ea
            rcases hsh with hnil | ⟨b, off, rfl, hb, hat⟩
            · rw [hnil] at hl; simp at hl
            refine ⟨b, off, rfl, hat, hat.below (st _ _) hb, ?_, BlkP.new _ _ _ _, nxt (nxt h1 h2) (st _ _)⟩
            cases sl with
            | nil => simp at hl
            | cons x xs => exact hat 0 x rfl)
          go_enter Try.func13, Try.ntmps13
          go_wp2_with (first
            | (go_at_call 8; rw [HW.out]; refine HC.out.mono ?_; rintro e W1 ⟨rfl, hb1⟩; obtain ⟨hbw1, z0, z1, z2, z3⟩ := HFA.out W1 hb1)
            | (go_at_call 26; refine (HFI.out _ hbw1).mono ?_; rintro e W2 ⟨⟨a, cap, rfl, hn⟩, hb2⟩; obtain ⟨b, off, rfl, hat0, hat1, hd0, BN, hbb⟩ := HFC.out W1 W2 a cap hbw1 hb2 hn; obtain ⟨y0, y1, y2⟩ := BN.cells; clear hn))
          go_loop [37] (fun i => ∃ k : Nat, k ≤ sl.length ∧ i = .int .i64 k ∧ Hid (∀ y ∈ sl.take k, ¬ site < y)) (fun i => sl.length - (intOf i).toNat)
          case atStart => exact ⟨0, by omega, rfl, fun x hx => by simp at hx⟩
          case round =>
            obtain ⟨k, hk, rfl, HO⟩ := hrel
            by_cases hlt : k < sl.length
            · obtain ⟨x, hx⟩ := getSome hlt
              have c0 := hat0 k x hx
              have c1 := hat1 k x hx
              have hki0 : (0 : Int) ≤ (k : Int) := by omega
              have hki : (k : Int) < (sl.length : Int) := by omega
              by_cases hs : site < x
              · have HF := hidM (nextL_hit hx hs HO.out)
                clear hat0 hat1 hx HO
                go_wp2
                go_ret2
                exact ⟨by rw [HF.out]; rfl, hbb⟩
              · have HO2 := hidM (show ∀ y ∈ sl.take (k + 1), ¬ site < y from fun y hy => by
                  rw [List.take_add_one, hx] at hy
                  rcases List.mem_append.1 hy with hy | hy
                  · exact HO.out y hy
                  · simp at hy; subst hy; exact hs)
                clear hat0 hat1 hx HO
                go_wp2
                go_round
                case rel => exact ⟨k + 1, by omega, by go_num, HO2.out⟩
                case measure => simp [intOf]; omega
            · obtain ⟨x, hx⟩ := getSome (l := sl) (i := 0) hl
              have c0 := hat0 0 x hx
              have c1 := hat1 0 x hx
              simp only [Nat.add_zero] at c0 c1
              have HF := hidM (nextL_miss (site := site) (fun y hy => HO.out y (by rw [List.take_of_length_le (by omega)]; exact hy)) hx)
              have hlt' : ¬ (k : Int) < (sl.length : Int) := by omega
              clear hat0 hat1 hx HO hd0
              go_wp2
              go_ret2
              exact ⟨by rw [HF.out]; rfl, hbb⟩
      · have d2 : decide (c.sites < site) = true := decide_eq_true (by omega)
        rw [nextRes_site (fun e => h2 e.2)]
        clear h1 h2
        go_enter Try.func13, Try.ntmps13
        go_wp2_with (first
          | (go_at_call 8; rw [HW.out]; refine HC.out.mono ?_; rintro e W1 ⟨rfl, hb1⟩; obtain ⟨hbw1, z0, z1, z2, z3⟩ := HFA.out W1 hb1))
        go_ret2
        exact ⟨rfl, hbw1⟩
    · have d1 : decide (site < 0) = true := decide_eq_true (by omega)
      rw [nextRes_site (fun e => h1 e.1)]
      clear h1
      go_enter Try.func13, Try.ntmps13
      go_wp2_with (first
        | (go_at_call 8; rw [HW.out]; refine HC.out.mono ?_; rintro e W1 ⟨rfl, hb1⟩; obtain ⟨hbw1, z0, z1, z2, z3⟩ := HFA.out W1 hb1))
      go_ret2
      exact ⟨rfl, hbw1⟩
theorem OwnR.down {w : World} {base base' : Nat} {v : Value} {l : List Rc} (h : OwnR w base v l) (hb : base' ≤ base) : OwnR w base' v l := by
  refine ⟨h.1, ?_⟩
  rcases h.2 with ⟨h1, h2⟩ | ⟨g, cap, cur, h1, h2, h3, h4⟩
  · exact .inl ⟨h1, h2⟩
  · exact .inr ⟨g, cap, cur, h1, by omega, h3, h4⟩
theorem recsRes_bad {c : Cfg} (h : cfgB c = false) (l : List Int) : recsRes c l = ([], 1) := by unfold recsRes; rw [h]; rfl
theorem recsRes_ok {c : Cfg} (h : cfgB c = true) (l : List Int) : recsRes c l = recsL c.splits l := by unfold recsRes; rw [h]; rfl
set_option maxHeartbeats 800000 in
theorem recs12_any (c : Cfg) (v vl : Value) (l : List Int) (w : World) (h : InC w c v) (hl : NS w vl l) (hlen : l.length ≤ 1000) :
    Calls Try.prog 16 #[cfgV c v, vl] w fun e w' => (∃ v', e = .returned (.tuple #[v', .int .i64 (recsRes c l).2]) ∧ OwnR w' w.heap.size v' (recsRes c l).1) ∧ Below w.heap.size w w' := by
  obtain ⟨va, vc, rfl, -⟩ := h.ps
  obtain ⟨la, lc, rfl, hsh⟩ := hl
  have st : ∀ (W : World) (o : Obj), Below W.heap.size W (W.alloc o) := fun W o => (Below.refl _ _).alloc (Nat.le_refl _) _
  obtain ⟨W0, hW0⟩ : ∃ W0 : World, W0 = w.alloc (.cells #[.int .i64 c.sites, .slice va c.splits.length vc, .int .i64 c.again, .int .i64 c.over] 24) := ⟨_, rfl⟩
  have hb0 : Below w.heap.size w W0 := by rw [hW0]; exact st _ _
  have B0 : BlkF W0 w.heap.size (.int .i64 c.sites) (.slice va c.splits.length vc) (.int .i64 c.again) (.int .i64 c.over) := by rw [hW0]; exact BlkF.new w _ _ _ _
  have HIN := hidM h
  have HC := hidM (check12_any c _ W0 (h.below hb0))
  have HW := hidM hW0.symm
  have HB0 := hidM hb0
  have HF0 := hidM B0
  clear hW0 hb0 B0 h
  cases hcb : cfgB c with
  | false =>
    rw [recsRes_bad hcb]
    rw [checkRes_bad hcb] at HC
    have HBB := hidM (fun W1 (h1 : Below W0.heap.size W0 W1) => nxt HB0.out h1)
    go_enter Try.func16, Try.ntmps16
    go_wp2_with (first
      | (go_at_call 8; rw [HW.out]; refine HC.out.mono ?_; rintro e W1 ⟨rfl, hb1⟩))
    go_ret2
    exact ⟨⟨_, rfl, World.ownsRow_nil _ _ _ _⟩, HBB.out _ hb1⟩
  | true =>
    rw [recsRes_ok hcb]
    rw [checkRes_ok hcb] at HC
    have HFI := hidM (fun (i : Int) (W : World) (hb : Below w.heap.size w W) => sfind_any c _ i W (HIN.out.below hb))
    unfold FndPost at HFI
    have HWF := hidM (show ∀ (k : Nat) (s : Sp), c.splits[k]? = some s → s.2.1.size ≤ maxLen from fun k s hs => by have := (HIN.out.wf _ (List.mem_of_getElem? hs)).txt; unfold maxLen; omega)
    go_enter Try.func16, Try.ntmps16
    go_wp2_with (first
      | (go_at_call 8; rw [HW.out]; refine HC.out.mono ?_; rintro e W1 ⟨rfl, hb1⟩))
    go_loopw [7, 21] (fun u i wr => ∃ k : Nat, k ≤ l.length ∧ i = .int .i64 k ∧ Hid ((recsL c.splits (l.take k)).2 = 0) ∧ OwnR wr W0.heap.size u (recsL c.splits (l.take k)).1 ∧ Below W0.heap.size W0 wr) (fun _ i _ => l.length - (intOf i).toNat)
    case atStart => exact ⟨0, by omega, rfl, rfl, World.ownsRow_nil _ _ _ _, hb1⟩
    case round =>
      rename World => w0
      obtain ⟨k, hk, rfl, HO, hown, hbel⟩ := hrel
      have hbw := nxt HB0.out hbel
      obtain ⟨z0, z1, z2, z3⟩ := (HF0.out.below hbel).cells
      obtain ⟨au, cu, rfl⟩ := hown.shape
      by_cases hlt : k < l.length
      · obtain ⟨x, hx⟩ := getSome hlt
        rcases hsh with hnil | ⟨b, off, rfl, hb, hat⟩
        · rw [hnil] at hlt; simp at hlt
        have c0 := (hat.below hbw hb) k x hx
        have hki0 : (0 : Int) ≤ (k : Int) := by omega
        have hki : (k : Int) < (l.length : Int) := by omega
        have HF1 := hidM (HFI.out x w0 hbw)
        cases hf : findC c.splits x with
        | none =>
          have HR := hidM (recs_bad (S := c.splits) (l := l) (k := k + 1) (by rw [recs_take hx]; unfold recsN; rw [if_pos HO.out, hf]; simp) l.length hlt)
          rw [List.take_length] at HR
          rw [fR_none hf] at HF1
          clear hat hx hown hb1
          go_wp2_with (first
            | (go_at_call 26; refine HF1.out.mono ?_; rintro e W2 ⟨⟨a, cap, rfl, hn⟩, hb2⟩))
          go_ret2
          exact ⟨⟨_, by rw [HR.out]; rfl, by rw [HR.out]; exact World.ownsRow_nil _ _ _ _⟩, nxt (nxt hbw hb2) (st _ _)⟩
        | some j =>
          obtain ⟨⟨si, tx, sl⟩, hy, -⟩ := findC_some hf
          have hstep : recsL c.splits (l.take (k + 1)) = ((recsL c.splits (l.take k)).1 ++ (allOf tx).1, 0) := by
            rw [recs_take hx]
            unfold recsN
            rw [if_pos HO.out, hf]
            simp [List.getD_eq_getElem?_getD, hy, recsS]
          have HST := hidM hstep
          rw [fR_some hf hy] at HF1
          have htx := HWF.out _ _ hy
          have hlen1 := recsL_len c.splits (l.take k)
          rw [List.length_take, Nat.min_eq_left hk] at hlen1
          have hlen2 := recsS_len (si, tx, sl)
          unfold recsS at hlen2
          simp only at HF1 htx hlen2
          have HFC := hidM (show ∀ W2 (a : Option Addr) (cap : Nat), Below w0.heap.size w0 W2 → W2.heap.size = W2.heap.size ∧ BlkP (W2.alloc (.cells #[.int .i64 si, .string tx, .slice a sl.length cap] 35)) W2.heap.size (.int .i64 si) (.string tx) (.slice a sl.length cap) ∧
              Calls Try.prog 29 #[.string tx] (W2.alloc (.cells #[.int .i64 si, .string tx, .slice a sl.length cap] 35)) (fun e W4 => ∃ v' a7 n7 c7 v8 W8, e = .returned (.tuple #[v', .int .i64 (allOf tx).2]) ∧ v' = .slice a7 n7 c7 ∧ (Builtin.append_ #[44, 44] 44 #[.slice au (recsL c.splits (l.take k)).1.length cu, v']).run Try.prog W4 = .ok v8 W8 ∧ OwnR W8 W0.heap.size v8 (recsL c.splits (l.take (k + 1))).1 ∧ Below W0.heap.size W0 W8) from fun W2 a cap h2 => by
            have hs := st W2 (.cells #[.int .i64 si, .string tx, .slice a sl.length cap] 35)
            refine ⟨rfl, BlkP.new _ _ _ _, (recall_any tx _ htx).mono ?_⟩
            rintro e W4 ⟨v', rfl, ho, hb4⟩
            obtain ⟨a7, c7, rfl⟩ := ho.shape
            have h04 := nxt h2 (nxt hs hb4)
            have ho0 := hown.below h04
            have hsz := (nxt hbel h04).size
            obtain ⟨v8, W8, q1, q2, q3⟩ := append_rs 44 ho0 (RS.own ho) (by omega) hsz
            refine ⟨_, a7, _, c7, v8, W8, rfl, rfl, q1, by rw [hstep]; exact q2, ?_⟩
            exact (nxt hbel h04).grown q3 hsz (own_rowN ho0))
          generalize (allOf tx).2 = er at HFC
          clear hat hx hown hb1 hstep hlen1 hlen2
          go_wp2_with (first
            | (go_at_call 26; refine HF1.out.mono ?_; rintro e W2 ⟨⟨a, cap, rfl, hn⟩, hb2⟩; obtain ⟨-, BN, HAL⟩ := HFC.out W2 a cap hb2; obtain ⟨y0, y1, y2⟩ := BN.cells; clear hn BN)
            | (go_at_call 29; refine HAL.mono ?_; rintro e W4 ⟨v', a7, n7, c7, v8, W8, rfl, rfl, q1, ho8, hb8⟩; have U1 := hidM q1; clear q1)
            | (at_builtin; refine wpList_append_run _ rfl _ _ _ rfl _ _ v8 W8 rfl rfl U1.out ?_))
          go_roundw
          case rel => exact ⟨k + 1, by omega, by go_num, hidM (by rw [HST.out]), ho8, hb8⟩
          case measure => simp [intOf]; omega
      · have hkl : k = l.length := by omega
        have HR := hidM (show recsL c.splits l = ((recsL c.splits (l.take k)).1, 0) from by rw [List.take_of_length_le (by omega)] at HO ⊢; exact Prod.ext rfl HO.out)
        have hlt' : ¬ (k : Int) < (l.length : Int) := by omega
        clear hkl HO
        go_wp2
        go_ret2
        exact ⟨⟨_, by rw [HR.out]; rfl, by rw [HR.out]; exact hown.down HB0.out.size⟩, hbw⟩
end Go.Proofs.Ytdejdcibcihfeaa
