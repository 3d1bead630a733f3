/- Texts laid together: EROps, ERPop, EROp, EROpB, EROpC, EROpD, EROpE, EROpF, ERRun, ERFn. -/
import Derived.Test.YtaagllbcmgnbnaaGreatDoorMB16
import Derived.StillTailTactics
import Derived.Deep.RegionHeld3
import Derived.Deep.AppendLies
import Derived.Test.YtaagllbcmgnbnaaGreatDoorMB18
/- The page's own: truth, divide, binary: what each answers, for all numbers. -/
namespace Go.Proofs.YtaagllbcmgnbnaaGreatDoor
open Go.RowKit
set_option linter.unusedVariables false
set_option maxRecDepth 100000

theorem hidP {p : Prop} (h : p) : Hid p := h
theorem truth_any (b : Bool) (w : World) : Calls Tryz.prog 191 #[.bool b] w fun e w' => e = .returned (.int .i64 (tru b)) ∧ w' = w := by
  cases b
  all_goals
    go_enter Tryz.func191, Tryz.ntmps191
    go_wp2
    go_ret
    exact ⟨rfl, rfl⟩
theorem minus_one (n : Int) : wrap64 (IntKind.u64.wrap (18446744073709551615 - IntKind.u64.wrap n + 1)) = wrap64 (n.tdiv (-1)) := by
  rw [Int.tdiv_neg, Int.tdiv_one]
  unfold wrap64
  rw [IntKind.wrap_u64, IntKind.wrap_u64]
  omega
def dvE (z y : Int) (w : World) (e : Ending) (w' : World) : Prop := e = .returned (.tuple #[.int .i64 z, .int .i64 y]) ∧ ∃ q, w' = w.drewN q
theorem rdivide_any (n m : Int) (w : World) : Calls Tryz.prog 216 #[.int .i64 n, .int .i64 m] w fun e w' => dvE (of2 8 n m) (of2 9 n m) w e w' := by
  rw [show of2 8 n m = (if m = 0 then 0 else wrap64 (n.tdiv m)) from rfl, show of2 9 n m = (if m = 0 then 0 else n.tmod m) from rfl]
  by_cases h : m = 0
  · subst h
    simp only [if_true]
    go_enter Tryz.func216, Tryz.ntmps216
    go_wp2
    go_ret2
    exact ⟨rfl, 0, rfl⟩
  · rw [if_neg h, if_neg h]
    have hne : (m == 0) = false := beq_eq_false_iff_ne.2 h
    by_cases h1 : m = -1
    · subst h1
      have hx := not_u64 (IntKind.u64.wrap n) (by rw [IntKind.wrap_u64]; omega) (by rw [IntKind.wrap_u64]; omega)
      have H : Hid (wrap64 (IntKind.u64.wrap (18446744073709551615 - IntKind.u64.wrap n + 1)) = wrap64 (n.tdiv (-1))) := minus_one n
      have H2 : Hid (n.tmod (-1) = 0) := by unfold Hid; rw [Int.tmod_neg, Int.tmod_one]
      obtain ⟨z, hz⟩ : ∃ z, wrap64 (n.tdiv (-1)) = z := ⟨_, rfl⟩
      obtain ⟨y, hy⟩ : ∃ y, n.tmod (-1) = y := ⟨_, rfl⟩
      rw [hz] at H ⊢
      rw [hy] at H2 ⊢
      clear h hz hy hne
      go_enter Tryz.func216, Tryz.ntmps216
      go_wp2
      go_ret2
      refine ⟨?_, 0, rfl⟩
      rw [H2.out, ← H.out]
      rfl
    · have hne1 : (m == -1) = false := beq_eq_false_iff_ne.2 h1
      clear h1
      go_enter Tryz.func216, Tryz.ntmps216
      go_wp2
      go_region
      go_wp2
      go_ret2
      exact ⟨rfl, 1, rfl⟩
theorem binary_5 (n m : Int) (w : World) : Calls Tryz.prog 190 #[.int .i64 5, .int .i64 n, .int .i64 m] w fun e w' => e = .returned (.int .i64 (of2 5 n m)) ∧ ∃ q, w' = w.drewN q := by
  have Hd := hidP (rdivide_any n m w)
  obtain ⟨z8, h8⟩ : ∃ z, of2 8 n m = z := ⟨_, rfl⟩
  obtain ⟨z9, h9⟩ : ∃ z, of2 9 n m = z := ⟨_, rfl⟩
  rw [h8, h9] at Hd
  skip
  clear h8 h9
  rw [show of2 5 n m = wrap64 (n + m) from rfl]
  go_enter Tryz.func190, Tryz.ntmps190
  go_wp2_with fail
  refine Hd.out.mono ?_
  rintro e w1 ⟨rfl, q, rfl⟩
  clear Hd
  obtain ⟨W, hW⟩ : ∃ W, w.drewN q = W := ⟨_, rfl⟩
  rw [hW]
  have HW := hidP hW
  clear hW
  go_wp2
  go_ret
  exact ⟨rfl, q, HW.out.symm⟩
theorem binary_6 (n m : Int) (w : World) : Calls Tryz.prog 190 #[.int .i64 6, .int .i64 n, .int .i64 m] w fun e w' => e = .returned (.int .i64 (of2 6 n m)) ∧ ∃ q, w' = w.drewN q := by
  have Hd := hidP (rdivide_any n m w)
  obtain ⟨z8, h8⟩ : ∃ z, of2 8 n m = z := ⟨_, rfl⟩
  obtain ⟨z9, h9⟩ : ∃ z, of2 9 n m = z := ⟨_, rfl⟩
  rw [h8, h9] at Hd
  skip
  clear h8 h9
  rw [show of2 6 n m = wrap64 (n - m) from rfl]
  go_enter Tryz.func190, Tryz.ntmps190
  go_wp2_with fail
  refine Hd.out.mono ?_
  rintro e w1 ⟨rfl, q, rfl⟩
  clear Hd
  obtain ⟨W, hW⟩ : ∃ W, w.drewN q = W := ⟨_, rfl⟩
  rw [hW]
  have HW := hidP hW
  clear hW
  go_wp2
  go_ret
  exact ⟨rfl, q, HW.out.symm⟩
theorem binary_7 (n m : Int) (w : World) : Calls Tryz.prog 190 #[.int .i64 7, .int .i64 n, .int .i64 m] w fun e w' => e = .returned (.int .i64 (of2 7 n m)) ∧ ∃ q, w' = w.drewN q := by
  have Hd := hidP (rdivide_any n m w)
  obtain ⟨z8, h8⟩ : ∃ z, of2 8 n m = z := ⟨_, rfl⟩
  obtain ⟨z9, h9⟩ : ∃ z, of2 9 n m = z := ⟨_, rfl⟩
  rw [h8, h9] at Hd
  skip
  clear h8 h9
  rw [show of2 7 n m = wrap64 (n * m) from rfl]
  go_enter Tryz.func190, Tryz.ntmps190
  go_wp2_with fail
  refine Hd.out.mono ?_
  rintro e w1 ⟨rfl, q, rfl⟩
  clear Hd
  obtain ⟨W, hW⟩ : ∃ W, w.drewN q = W := ⟨_, rfl⟩
  rw [hW]
  have HW := hidP hW
  clear hW
  go_wp2
  go_ret
  exact ⟨rfl, q, HW.out.symm⟩
theorem binary_8 (n m : Int) (w : World) : Calls Tryz.prog 190 #[.int .i64 8, .int .i64 n, .int .i64 m] w fun e w' => e = .returned (.int .i64 (of2 8 n m)) ∧ ∃ q, w' = w.drewN q := by
  have Hd := hidP (rdivide_any n m w)
  obtain ⟨z8, h8⟩ : ∃ z, of2 8 n m = z := ⟨_, rfl⟩
  obtain ⟨z9, h9⟩ : ∃ z, of2 9 n m = z := ⟨_, rfl⟩
  rw [h8, h9] at Hd
  rw [h8]
  clear h8 h9
  go_enter Tryz.func190, Tryz.ntmps190
  go_wp2_with fail
  refine Hd.out.mono ?_
  rintro e w1 ⟨rfl, q, rfl⟩
  clear Hd
  obtain ⟨W, hW⟩ : ∃ W, w.drewN q = W := ⟨_, rfl⟩
  rw [hW]
  have HW := hidP hW
  clear hW
  go_wp2
  go_ret
  exact ⟨rfl, q, HW.out.symm⟩
theorem binary_9 (n m : Int) (w : World) : Calls Tryz.prog 190 #[.int .i64 9, .int .i64 n, .int .i64 m] w fun e w' => e = .returned (.int .i64 (of2 9 n m)) ∧ ∃ q, w' = w.drewN q := by
  have Hd := hidP (rdivide_any n m w)
  obtain ⟨z8, h8⟩ : ∃ z, of2 8 n m = z := ⟨_, rfl⟩
  obtain ⟨z9, h9⟩ : ∃ z, of2 9 n m = z := ⟨_, rfl⟩
  rw [h8, h9] at Hd
  rw [h9]
  clear h8 h9
  go_enter Tryz.func190, Tryz.ntmps190
  go_wp2_with fail
  refine Hd.out.mono ?_
  rintro e w1 ⟨rfl, q, rfl⟩
  clear Hd
  obtain ⟨W, hW⟩ : ∃ W, w.drewN q = W := ⟨_, rfl⟩
  rw [hW]
  have HW := hidP hW
  clear hW
  go_wp2
  go_ret
  exact ⟨rfl, q, HW.out.symm⟩
theorem binary_10 (n m : Int) (w : World) : Calls Tryz.prog 190 #[.int .i64 10, .int .i64 n, .int .i64 m] w fun e w' => e = .returned (.int .i64 (of2 10 n m)) ∧ ∃ q, w' = w.drewN q := by
  have Hd := hidP (rdivide_any n m w)
  obtain ⟨z8, h8⟩ : ∃ z, of2 8 n m = z := ⟨_, rfl⟩
  obtain ⟨z9, h9⟩ : ∃ z, of2 9 n m = z := ⟨_, rfl⟩
  rw [h8, h9] at Hd
  skip
  clear h8 h9
  rw [show of2 10 n m = bits .and .i64 n m from rfl]
  go_enter Tryz.func190, Tryz.ntmps190
  go_wp2_with fail
  refine Hd.out.mono ?_
  rintro e w1 ⟨rfl, q, rfl⟩
  clear Hd
  obtain ⟨W, hW⟩ : ∃ W, w.drewN q = W := ⟨_, rfl⟩
  rw [hW]
  have HW := hidP hW
  clear hW
  go_wp2
  go_ret
  exact ⟨rfl, q, HW.out.symm⟩
theorem binary_11 (n m : Int) (w : World) : Calls Tryz.prog 190 #[.int .i64 11, .int .i64 n, .int .i64 m] w fun e w' => e = .returned (.int .i64 (of2 11 n m)) ∧ ∃ q, w' = w.drewN q := by
  have Hd := hidP (rdivide_any n m w)
  obtain ⟨z8, h8⟩ : ∃ z, of2 8 n m = z := ⟨_, rfl⟩
  obtain ⟨z9, h9⟩ : ∃ z, of2 9 n m = z := ⟨_, rfl⟩
  rw [h8, h9] at Hd
  skip
  clear h8 h9
  rw [show of2 11 n m = bits .or .i64 n m from rfl]
  go_enter Tryz.func190, Tryz.ntmps190
  go_wp2_with fail
  refine Hd.out.mono ?_
  rintro e w1 ⟨rfl, q, rfl⟩
  clear Hd
  obtain ⟨W, hW⟩ : ∃ W, w.drewN q = W := ⟨_, rfl⟩
  rw [hW]
  have HW := hidP hW
  clear hW
  go_wp2
  go_ret
  exact ⟨rfl, q, HW.out.symm⟩
theorem binary_12 (n m : Int) (w : World) : Calls Tryz.prog 190 #[.int .i64 12, .int .i64 n, .int .i64 m] w fun e w' => e = .returned (.int .i64 (of2 12 n m)) ∧ ∃ q, w' = w.drewN q := by
  have Hd := hidP (rdivide_any n m w)
  obtain ⟨z8, h8⟩ : ∃ z, of2 8 n m = z := ⟨_, rfl⟩
  obtain ⟨z9, h9⟩ : ∃ z, of2 9 n m = z := ⟨_, rfl⟩
  rw [h8, h9] at Hd
  skip
  clear h8 h9
  rw [show of2 12 n m = bits .xor .i64 n m from rfl]
  go_enter Tryz.func190, Tryz.ntmps190
  go_wp2_with fail
  refine Hd.out.mono ?_
  rintro e w1 ⟨rfl, q, rfl⟩
  clear Hd
  obtain ⟨W, hW⟩ : ∃ W, w.drewN q = W := ⟨_, rfl⟩
  rw [hW]
  have HW := hidP hW
  clear hW
  go_wp2
  go_ret
  exact ⟨rfl, q, HW.out.symm⟩
theorem binary_13 (n m : Int) (w : World) : Calls Tryz.prog 190 #[.int .i64 13, .int .i64 n, .int .i64 m] w fun e w' => e = .returned (.int .i64 (of2 13 n m)) ∧ ∃ q, w' = w.drewN q := by
  have Hd := hidP (rdivide_any n m w)
  obtain ⟨z8, h8⟩ : ∃ z, of2 8 n m = z := ⟨_, rfl⟩
  obtain ⟨z9, h9⟩ : ∃ z, of2 9 n m = z := ⟨_, rfl⟩
  rw [h8, h9] at Hd
  skip
  clear h8 h9
  rw [show of2 13 n m = shL n (m % 64).toNat from rfl]
  go_enter Tryz.func190, Tryz.ntmps190
  go_wp2_with fail
  refine Hd.out.mono ?_
  rintro e w1 ⟨rfl, q, rfl⟩
  clear Hd
  obtain ⟨W, hW⟩ : ∃ W, w.drewN q = W := ⟨_, rfl⟩
  rw [hW]
  have HW := hidP hW
  clear hW
  go_wp2_with (go_at_call 217; refine (rshift_0 _ _ _).mono ?_; rintro e w' ⟨rfl, rfl⟩)
  go_ret
  exact ⟨rfl, q, HW.out.symm⟩
theorem binary_14 (n m : Int) (w : World) : Calls Tryz.prog 190 #[.int .i64 14, .int .i64 n, .int .i64 m] w fun e w' => e = .returned (.int .i64 (of2 14 n m)) ∧ ∃ q, w' = w.drewN q := by
  have Hd := hidP (rdivide_any n m w)
  obtain ⟨z8, h8⟩ : ∃ z, of2 8 n m = z := ⟨_, rfl⟩
  obtain ⟨z9, h9⟩ : ∃ z, of2 9 n m = z := ⟨_, rfl⟩
  rw [h8, h9] at Hd
  skip
  clear h8 h9
  rw [show of2 14 n m = shR n (m % 64).toNat from rfl]
  go_enter Tryz.func190, Tryz.ntmps190
  go_wp2_with fail
  refine Hd.out.mono ?_
  rintro e w1 ⟨rfl, q, rfl⟩
  clear Hd
  obtain ⟨W, hW⟩ : ∃ W, w.drewN q = W := ⟨_, rfl⟩
  rw [hW]
  have HW := hidP hW
  clear hW
  go_wp2_with (go_at_call 217; refine (rshift_1 _ _ _).mono ?_; rintro e w' ⟨rfl, rfl⟩)
  go_ret
  exact ⟨rfl, q, HW.out.symm⟩
theorem binary_15 (n m : Int) (w : World) : Calls Tryz.prog 190 #[.int .i64 15, .int .i64 n, .int .i64 m] w fun e w' => e = .returned (.int .i64 (of2 15 n m)) ∧ ∃ q, w' = w.drewN q := by
  have Hd := hidP (rdivide_any n m w)
  obtain ⟨z8, h8⟩ : ∃ z, of2 8 n m = z := ⟨_, rfl⟩
  obtain ⟨z9, h9⟩ : ∃ z, of2 9 n m = z := ⟨_, rfl⟩
  rw [h8, h9] at Hd
  skip
  clear h8 h9
  rw [show of2 15 n m = shP n (m % 64).toNat from rfl]
  go_enter Tryz.func190, Tryz.ntmps190
  go_wp2_with fail
  refine Hd.out.mono ?_
  rintro e w1 ⟨rfl, q, rfl⟩
  clear Hd
  obtain ⟨W, hW⟩ : ∃ W, w.drewN q = W := ⟨_, rfl⟩
  rw [hW]
  have HW := hidP hW
  clear hW
  go_wp2_with (go_at_call 217; refine (rshift_2 _ _ _).mono ?_; rintro e w' ⟨rfl, rfl⟩)
  go_ret
  exact ⟨rfl, q, HW.out.symm⟩
theorem binary_16 (n m : Int) (w : World) : Calls Tryz.prog 190 #[.int .i64 16, .int .i64 n, .int .i64 m] w fun e w' => e = .returned (.int .i64 (of2 16 n m)) ∧ ∃ q, w' = w.drewN q := by
  have Hd := hidP (rdivide_any n m w)
  obtain ⟨z8, h8⟩ : ∃ z, of2 8 n m = z := ⟨_, rfl⟩
  obtain ⟨z9, h9⟩ : ∃ z, of2 9 n m = z := ⟨_, rfl⟩
  rw [h8, h9] at Hd
  skip
  clear h8 h9
  rw [show of2 16 n m = tru (decide (n < m)) from rfl]
  go_enter Tryz.func190, Tryz.ntmps190
  go_wp2_with fail
  refine Hd.out.mono ?_
  rintro e w1 ⟨rfl, q, rfl⟩
  clear Hd
  obtain ⟨W, hW⟩ : ∃ W, w.drewN q = W := ⟨_, rfl⟩
  rw [hW]
  have HW := hidP hW
  clear hW
  go_wp2_with (go_at_call 191; refine (truth_any _ _).mono ?_; rintro e w' ⟨rfl, rfl⟩)
  go_ret
  exact ⟨rfl, q, HW.out.symm⟩
theorem binary_17 (n m : Int) (w : World) : Calls Tryz.prog 190 #[.int .i64 17, .int .i64 n, .int .i64 m] w fun e w' => e = .returned (.int .i64 (of2 17 n m)) ∧ ∃ q, w' = w.drewN q := by
  have Hd := hidP (rdivide_any n m w)
  obtain ⟨z8, h8⟩ : ∃ z, of2 8 n m = z := ⟨_, rfl⟩
  obtain ⟨z9, h9⟩ : ∃ z, of2 9 n m = z := ⟨_, rfl⟩
  rw [h8, h9] at Hd
  skip
  clear h8 h9
  rw [show of2 17 n m = tru (n == m) from rfl]
  go_enter Tryz.func190, Tryz.ntmps190
  go_wp2_with fail
  refine Hd.out.mono ?_
  rintro e w1 ⟨rfl, q, rfl⟩
  clear Hd
  obtain ⟨W, hW⟩ : ∃ W, w.drewN q = W := ⟨_, rfl⟩
  rw [hW]
  have HW := hidP hW
  clear hW
  go_wp2_with (go_at_call 191; refine (truth_any _ _).mono ?_; rintro e w' ⟨rfl, rfl⟩)
  go_ret
  exact ⟨rfl, q, HW.out.symm⟩
theorem binary_any (k n m : Int) (w : World) (h5 : 5 ≤ k) (h17 : k ≤ 17) : Calls Tryz.prog 190 #[.int .i64 k, .int .i64 n, .int .i64 m] w fun e w' => e = .returned (.int .i64 (of2 k n m)) ∧ ∃ q, w' = w.drewN q := by
  have hk : k = 5 ∨ k = 6 ∨ k = 7 ∨ k = 8 ∨ k = 9 ∨ k = 10 ∨ k = 11 ∨ k = 12 ∨ k = 13 ∨ k = 14 ∨ k = 15 ∨ k = 16 ∨ k = 17 := by omega
  rcases hk with rfl | rfl | rfl | rfl | rfl | rfl | rfl | rfl | rfl | rfl | rfl | rfl | rfl
  · exact binary_5 n m w
  · exact binary_6 n m w
  · exact binary_7 n m w
  · exact binary_8 n m w
  · exact binary_9 n m w
  · exact binary_10 n m w
  · exact binary_11 n m w
  · exact binary_12 n m w
  · exact binary_13 n m w
  · exact binary_14 n m w
  · exact binary_15 n m w
  · exact binary_16 n m w
  · exact binary_17 n m w
end Go.Proofs.YtaagllbcmgnbnaaGreatDoor
/- The page's own: pop; one op at work. -/
namespace Go.Proofs.YtaagllbcmgnbnaaGreatDoor
open Go.RowKit
set_option linter.unusedVariables false
set_option maxRecDepth 100000

abbrev TR : TypeId := 207
theorem kt_R : Kt TR := by unfold Kt; decide
section
variable {lo : Nat} {x : Rc} {R : Nat} {w : World} {vs vo : Value} {s : St}
theorem pop_any {a : Int} {r : List Int} (h : Mach TR lo x R w vs vo s) (hs : s.st = a :: r) :
    Calls Tryz.prog 189 #[.pointer (some ⟨R, 0, none⟩)] w fun e w' => e = .returned (.int .i64 a) ∧ MR TR lo x R w vs vo w' ⟨s.fu, r, s.out⟩ := by
  obtain ⟨g, cap, rfl, ⟨hcap, hcm⟩, hc, hm⟩ := h.last hs
  obtain ⟨⟨c0, c1, c2, c3, c4, c5⟩, z3, z4, z5⟩ := h.blk.cells
  have HR : Hid (MR TR lo x R w (.slice (some ⟨g, 0, none⟩) (r.length + 1) cap) vo (w.setCell ⟨R, 4, none⟩ (.slice (some ⟨g, 0, none⟩) r.length cap)) ⟨s.fu, r, s.out⟩) := ⟨_, _, hm⟩
  obtain ⟨n, hn⟩ : ∃ n, r.length = n := ⟨_, rfl⟩
  rw [hn] at hcap hc c4 HR
  clear h hm hs
  rw [hn]
  unfold maxLen at hcm
  clear hn
  go_enter Tryz.func189, Tryz.ntmps189
  go_wp2
  go_ret
  exact ⟨rfl, HR.out⟩
/-- One number more: what is known of the row before, and behind. -/
theorem push_row {W : World} (z : Int) (h : Mach TR lo x R W vs vo s) : (W.alloc (.cells #[.int .i64 z] 2)).ownsRow lo 2 1 vs s.st.length (nums s.st) ∧ lo ≤ W.heap.size + 1 ∧ ∀ H, W.heap.size = H → ∀ j u, [Value.int .i64 z][j]? = some u → (W.alloc (.cells #[.int .i64 z] 2)).cell? ((⟨H, 0, none⟩ : Addr).add j) = some u := by
  refine ⟨(h.alloc _).st, by have := h.lw; have := h.blk.lt; omega, fun H hH => ?_⟩
  subst hH
  exact cell_one_new _ _ _
theorem push_done {W w2 : World} {z : Int} {v2 : Value} (h : Mach TR lo x R W vs vo s) (hown : w2.ownsRow lo 2 1 v2 (s.st.length + 1) (nums s.st ++ [.int .i64 z])) (hg : (W.alloc (.cells #[.int .i64 z] 2)).grownBy w2 vs.ownBlock) (hat : v2.ownBlock = vs.ownBlock ∨ v2.ownBlock = some (W.heap.size + 1)) :
    (w2.cell? ⟨R, 4, none⟩ = some vs ∧ w2.frozen? ⟨R, 4, none⟩ = false) ∧ Mach TR lo x R (w2.setCell ⟨R, 4, none⟩ v2) v2 vo ⟨s.fu, z :: s.st, s.out⟩ ∧ Fr R W vs vo (w2.setCell ⟨R, 4, none⟩ v2) v2 vo := by
  have h2 := h.alloc (.cells #[.int .i64 z] 2)
  have hr := h2.row4 (l := z :: s.st) (by rw [nums_cons]; exact hown) hg (by simpa using hat)
  have hb2 : BlkM TR w2 R x s.fu vs vo := h2.blk.keep (hg.block R h2.blk.lt (not_row h2.st h2.blk h2.ty.1))
  obtain ⟨⟨_, _, _, _, d4, _⟩, _, y4, _⟩ := hb2.cells
  exact ⟨⟨d4, y4⟩, hr.1, ((Fr.refl _ _ _ _).alloc _).trans hr.2⟩
end
end Go.Proofs.YtaagllbcmgnbnaaGreatDoor
/- The page's own: one op at work. -/
namespace Go.Proofs.YtaagllbcmgnbnaaGreatDoor
open Go.RowKit
set_option linter.unusedVariables false
set_option maxRecDepth 100000

section
variable {lo : Nat} {x : Rc} {R : Nat} {w : World} {vs vo : Value} {s : St}
set_option maxHeartbeats 1000000 in
theorem opg_1 (n : Int) (v : Value) (h : Mach TR lo x R w vs vo s)  (hl : s.st.length ≤ 50) :
    Calls Tryz.prog 164 #[.pointer (some ⟨R, 0, none⟩), .agg #[.int .i64 1, .int .i64 n, v]] w fun e w' => e = .returned (.int .i64 0) ∧ MR TR lo x R w vs vo w' ⟨s.fu, n :: s.st, s.out⟩ := by
  obtain ⟨i0, hi, hz0, hz1, hz2⟩ := info_parts Tryz.info2E
  have h0 := h.alloc (.cells #[.int .i64 1, .int .i64 n, v] 171)
  have HF0 : Hid (Fr R w vs vo (w.alloc (.cells #[.int .i64 1, .int .i64 n, v] 171)) vs vo) := (Fr.refl _ _ _ _).alloc _
  have HM0 := hidME h0
  have HX0 := hidME (BlkO.new w 1 n v)
  obtain ⟨⟨c0, c1, c2, c3, _, c5⟩, _⟩ := h0.blk.cells
  have hRl := h.blk.lt
  obtain ⟨fu, st, out⟩ := s
  simp only at *
  obtain ⟨ho1, hbs1, hnw1⟩ := push_row n HM0.out
  have hsz1 := hnw1 (w.heap.size + 1) (by simp)
  clear hnw1
  obtain ⟨a1, cap1, rfl⟩ := row_val HM0.out.st
  obtain ⟨⟨_, _, _, _, c4, _⟩, _, z4, _⟩ := HM0.out.blk.cells
  simp only at c4 ho1
  have hnl1 : st.length + 1 ≤ maxLen := by unfold maxLen; omega
  have hnb1 : (st.length + 1) * 8 ≤ 140737488355328 := by omega
  clear h h0
  go_enter Tryz.func164, Tryz.ntmps164
  go_wp2_with (at_builtin; refine wpList_append_own_at _ rfl _ _ 78 rfl lo 2 i0 _ 1 8 Tryz.underlying78 hi hz0 hz1 hz2 rfl (by decide) (.slice a1 (st).length cap1) (st).length (nums (st)) rfl ho1 ⟨w.heap.size + 1, 0, none⟩ 1 1 [.int .i64 n] rfl rfl hsz1 (one_int _) hnl1 hnb1 (by simpa using hbs1) ?_)
  intro v2 W1 hown2 hgrow2 hnil2 hat2
  obtain ⟨g2, cap2, rfl⟩ := row_succ hown2
  obtain ⟨⟨d4, y4⟩, hm1, hf1⟩ := push_done HM0.out hown2 hgrow2 (by simpa using hat2)
  have HM1 := hidME hm1
  have HF1 := hidME (HF0.out.trans hf1)
  clear hown2 hgrow2 hnil2 hat2 ho1 hbs1 hsz1 hm1 hf1 c4 z4
  have HR : Hid (MR TR lo x R w _ vo _ _) := ⟨_, _, HM1.out, HF1.out⟩
  go_wp2
  go_ret
  exact ⟨rfl, HR.out⟩
set_option maxHeartbeats 1000000 in
theorem opg_2 (n : Int) (v : Value) (h : Mach TR lo x R w vs vo s)  (hl : s.st.length ≤ 50) :
    Calls Tryz.prog 164 #[.pointer (some ⟨R, 0, none⟩), .agg #[.int .i64 2, .int .i64 n, v]] w fun e w' => e = .returned (.int .i64 0) ∧ MR TR lo x R w vs vo w' ⟨s.fu, x.1.1 :: s.st, s.out⟩ := by
  obtain ⟨i0, hi, hz0, hz1, hz2⟩ := info_parts Tryz.info2E
  have h0 := h.alloc (.cells #[.int .i64 2, .int .i64 n, v] 171)
  have HF0 : Hid (Fr R w vs vo (w.alloc (.cells #[.int .i64 2, .int .i64 n, v] 171)) vs vo) := (Fr.refl _ _ _ _).alloc _
  have HM0 := hidME h0
  have HX0 := hidME (BlkO.new w 2 n v)
  obtain ⟨⟨c0, c1, c2, c3, _, c5⟩, _⟩ := h0.blk.cells
  have hRl := h.blk.lt
  obtain ⟨fu, st, out⟩ := s
  simp only at *
  obtain ⟨ho1, hbs1, hnw1⟩ := push_row x.1.1 HM0.out
  have hsz1 := hnw1 (w.heap.size + 1) (by simp)
  clear hnw1
  obtain ⟨a1, cap1, rfl⟩ := row_val HM0.out.st
  obtain ⟨⟨_, _, _, _, c4, _⟩, _, z4, _⟩ := HM0.out.blk.cells
  simp only at c4 ho1
  have hnl1 : st.length + 1 ≤ maxLen := by unfold maxLen; omega
  have hnb1 : (st.length + 1) * 8 ≤ 140737488355328 := by omega
  clear h h0
  go_enter Tryz.func164, Tryz.ntmps164
  go_wp2_with (at_builtin; refine wpList_append_own_at _ rfl _ _ 78 rfl lo 2 i0 _ 1 8 Tryz.underlying78 hi hz0 hz1 hz2 rfl (by decide) (.slice a1 (st).length cap1) (st).length (nums (st)) rfl ho1 ⟨w.heap.size + 1, 0, none⟩ 1 1 [.int .i64 x.1.1] rfl rfl hsz1 (one_int _) hnl1 hnb1 (by simpa using hbs1) ?_)
  intro v2 W1 hown2 hgrow2 hnil2 hat2
  obtain ⟨g2, cap2, rfl⟩ := row_succ hown2
  obtain ⟨⟨d4, y4⟩, hm1, hf1⟩ := push_done HM0.out hown2 hgrow2 (by simpa using hat2)
  have HM1 := hidME hm1
  have HF1 := hidME (HF0.out.trans hf1)
  clear hown2 hgrow2 hnil2 hat2 ho1 hbs1 hsz1 hm1 hf1 c4 z4
  have HR : Hid (MR TR lo x R w _ vo _ _) := ⟨_, _, HM1.out, HF1.out⟩
  go_wp2
  go_ret
  exact ⟨rfl, HR.out⟩
set_option maxHeartbeats 1000000 in
theorem opg_3 (n : Int) (v : Value) (h : Mach TR lo x R w vs vo s) (hx : x.1.2.size ≤ 64) (hl : s.st.length ≤ 50) :
    Calls Tryz.prog 164 #[.pointer (some ⟨R, 0, none⟩), .agg #[.int .i64 3, .int .i64 n, v]] w fun e w' => e = .returned (.int .i64 0) ∧ MR TR lo x R w vs vo w' ⟨s.fu, (x.1.2.size : Int) :: s.st, s.out⟩ := by
  obtain ⟨i0, hi, hz0, hz1, hz2⟩ := info_parts Tryz.info2E
  have h0 := h.alloc (.cells #[.int .i64 3, .int .i64 n, v] 171)
  have HF0 : Hid (Fr R w vs vo (w.alloc (.cells #[.int .i64 3, .int .i64 n, v] 171)) vs vo) := (Fr.refl _ _ _ _).alloc _
  have HM0 := hidME h0
  have HX0 := hidME (BlkO.new w 3 n v)
  obtain ⟨⟨c0, c1, c2, c3, _, c5⟩, _⟩ := h0.blk.cells
  have hRl := h.blk.lt
  obtain ⟨fu, st, out⟩ := s
  simp only at *
  obtain ⟨ho1, hbs1, hnw1⟩ := push_row (x.1.2.size : Int) HM0.out
  have hsz1 := hnw1 (w.heap.size + 1) (by simp)
  clear hnw1
  obtain ⟨a1, cap1, rfl⟩ := row_val HM0.out.st
  obtain ⟨⟨_, _, _, _, c4, _⟩, _, z4, _⟩ := HM0.out.blk.cells
  simp only at c4 ho1
  have hnl1 : st.length + 1 ≤ maxLen := by unfold maxLen; omega
  have hnb1 : (st.length + 1) * 8 ≤ 140737488355328 := by omega
  clear h h0
  go_enter Tryz.func164, Tryz.ntmps164
  go_wp2_with (at_builtin; refine wpList_append_own_at _ rfl _ _ 78 rfl lo 2 i0 _ 1 8 Tryz.underlying78 hi hz0 hz1 hz2 rfl (by decide) (.slice a1 (st).length cap1) (st).length (nums (st)) rfl ho1 ⟨w.heap.size + 1, 0, none⟩ 1 1 [.int .i64 (x.1.2.size : Int)] rfl rfl hsz1 (one_int _) hnl1 hnb1 (by simpa using hbs1) ?_)
  intro v2 W1 hown2 hgrow2 hnil2 hat2
  obtain ⟨g2, cap2, rfl⟩ := row_succ hown2
  obtain ⟨⟨d4, y4⟩, hm1, hf1⟩ := push_done HM0.out hown2 hgrow2 (by simpa using hat2)
  have HM1 := hidME hm1
  have HF1 := hidME (HF0.out.trans hf1)
  clear hown2 hgrow2 hnil2 hat2 ho1 hbs1 hsz1 hm1 hf1 c4 z4
  have HR : Hid (MR TR lo x R w _ vo _ _) := ⟨_, _, HM1.out, HF1.out⟩
  go_wp2
  go_ret
  exact ⟨rfl, HR.out⟩
set_option maxHeartbeats 1000000 in
theorem opg_4 (n : Int) (v : Value) (h : Mach TR lo x R w vs vo s)  (hl : s.st.length ≤ 50) :
    Calls Tryz.prog 164 #[.pointer (some ⟨R, 0, none⟩), .agg #[.int .i64 4, .int .i64 n, v]] w fun e w' => e = .returned (.int .i64 0) ∧ MR TR lo x R w vs vo w' ⟨s.fu, x.2 :: s.st, s.out⟩ := by
  obtain ⟨i0, hi, hz0, hz1, hz2⟩ := info_parts Tryz.info2E
  have h0 := h.alloc (.cells #[.int .i64 4, .int .i64 n, v] 171)
  have HF0 : Hid (Fr R w vs vo (w.alloc (.cells #[.int .i64 4, .int .i64 n, v] 171)) vs vo) := (Fr.refl _ _ _ _).alloc _
  have HM0 := hidME h0
  have HX0 := hidME (BlkO.new w 4 n v)
  obtain ⟨⟨c0, c1, c2, c3, _, c5⟩, _⟩ := h0.blk.cells
  have hRl := h.blk.lt
  obtain ⟨fu, st, out⟩ := s
  simp only at *
  obtain ⟨ho1, hbs1, hnw1⟩ := push_row x.2 HM0.out
  have hsz1 := hnw1 (w.heap.size + 1) (by simp)
  clear hnw1
  obtain ⟨a1, cap1, rfl⟩ := row_val HM0.out.st
  obtain ⟨⟨_, _, _, _, c4, _⟩, _, z4, _⟩ := HM0.out.blk.cells
  simp only at c4 ho1
  have hnl1 : st.length + 1 ≤ maxLen := by unfold maxLen; omega
  have hnb1 : (st.length + 1) * 8 ≤ 140737488355328 := by omega
  clear h h0
  go_enter Tryz.func164, Tryz.ntmps164
  go_wp2_with (at_builtin; refine wpList_append_own_at _ rfl _ _ 78 rfl lo 2 i0 _ 1 8 Tryz.underlying78 hi hz0 hz1 hz2 rfl (by decide) (.slice a1 (st).length cap1) (st).length (nums (st)) rfl ho1 ⟨w.heap.size + 1, 0, none⟩ 1 1 [.int .i64 x.2] rfl rfl hsz1 (one_int _) hnl1 hnb1 (by simpa using hbs1) ?_)
  intro v2 W1 hown2 hgrow2 hnil2 hat2
  obtain ⟨g2, cap2, rfl⟩ := row_succ hown2
  obtain ⟨⟨d4, y4⟩, hm1, hf1⟩ := push_done HM0.out hown2 hgrow2 (by simpa using hat2)
  have HM1 := hidME hm1
  have HF1 := hidME (HF0.out.trans hf1)
  clear hown2 hgrow2 hnil2 hat2 ho1 hbs1 hsz1 hm1 hf1 c4 z4
  have HR : Hid (MR TR lo x R w _ vo _ _) := ⟨_, _, HM1.out, HF1.out⟩
  go_wp2
  go_ret
  exact ⟨rfl, HR.out⟩
end
end Go.Proofs.YtaagllbcmgnbnaaGreatDoor
/- The page's own: one op at work (two numbers). -/
namespace Go.Proofs.YtaagllbcmgnbnaaGreatDoor
open Go.RowKit
set_option linter.unusedVariables false
set_option maxRecDepth 100000

section
variable {lo : Nat} {x : Rc} {R : Nat} {w : World} {vs vo : Value} {s : St}
set_option maxHeartbeats 1000000 in
theorem op_b (k : Int) (n : Int) (v : Value) (h : Mach TR lo x R w vs vo s) {a b : Int} {r : List Int} (h5 : 5 ≤ k) (h17 : k ≤ 17) (hs : s.st = a :: b :: r) (hl : s.st.length ≤ 50) :
    Calls Tryz.prog 164 #[.pointer (some ⟨R, 0, none⟩), .agg #[.int .i64 k, .int .i64 n, v]] w fun e w' => e = .returned (.int .i64 0) ∧ MR TR lo x R w vs vo w' ⟨s.fu, of2 k b a :: r, s.out⟩ := by
  obtain ⟨i0, hi, hz0, hz1, hz2⟩ := info_parts Tryz.info2E
  have h0 := h.alloc (.cells #[.int .i64 k, .int .i64 n, v] 171)
  have HF0 : Hid (Fr R w vs vo (w.alloc (.cells #[.int .i64 k, .int .i64 n, v] 171)) vs vo) := (Fr.refl _ _ _ _).alloc _
  have HM0 := hidME h0
  have HX0 := hidME (BlkO.new w k n v)
  have hrl : r.length ≤ 50 := by rw [hs] at hl; simp at hl; omega
  have Ht := hidME (pop_any h0 hs)
  have Ho := hidME (fun W => binary_any k b a W h5 h17)
  generalize of2 k b a = z at Ho ⊢
  obtain ⟨fu, st, out⟩ := s
  clear h h0 hs hl
  go_enter Tryz.func164, Tryz.ntmps164
  go_wp2_with fail
  refine Ht.out.mono ?_
  rintro e w1 ⟨rfl, vsA, voA, hmA, hfA⟩
  have HFA := hidME (HF0.out.trans hfA)
  have hbxA := HM0.out.boxO hfA HX0.out
  obtain ⟨b0, b1, b2⟩ := hbxA.cells
  have HXA := hidME hbxA
  have HMA := hidME hmA
  have H1 : Hid (Calls Tryz.prog 189 #[.pointer (some ⟨R, 0, none⟩)] w1.drew fun e w' => e = .returned (.int .i64 b) ∧ MR TR lo x R (w1.drewN 1) vsA voA w' ⟨fu, r, out⟩) := pop_any (hmA.drew 1) rfl
  clear hmA hfA Ht hbxA b1 b2
  go_wp2
  go_region_held3 (fun W' => W'.cell? ⟨w.heap.size, 0, none⟩ = some (.int .i64 k))
    (first | assumption | exact b0)
    (first
      | (go_at_call 189; refine H1.out.mono ?_; rintro e w2 ⟨rfl, vs1, vo1, hm2, hf2⟩; have b0' := (HMA.out.drew 1).boxO hf2 HXA.out; have b0 := b0'.cells.1; clear b0')
      | (go_at_call 190; refine (Ho.out _).mono ?_; rintro e w3 ⟨rfl, q3, rfl⟩))
  all_goals
    have HF2 := hidME (((HFA.out.drew 1).trans hf2).drew q3)
    have hm3 := hm2.drew q3
    have HM2 := hidME hm3
    clear hf2 hm2 H1
    clear hm3
    generalize w2.drewN q3 = W at HF2 HM2 ⊢
    obtain ⟨ho1, hbs1, hnw1⟩ := push_row z HM2.out
    have hsz1 := hnw1 (W.heap.size) (by simp)
    clear hnw1
    obtain ⟨a1, cap1, hv1⟩ := row_val HM2.out.st
    have hv1' : vs1 = .slice a1 (r).length cap1 := hv1
    subst hv1'
    clear hv1
    obtain ⟨⟨_, _, _, _, c4, _⟩, _, z4, _⟩ := HM2.out.blk.cells
    have hnl1 : (r).length + 1 ≤ maxLen := by (try simp only [List.length_cons, List.length_nil]); unfold maxLen; omega
    have hnb1 : ((r).length + 1) * 8 ≤ 140737488355328 := by (try simp only [List.length_cons, List.length_nil]); omega
    go_wp2_with (at_builtin; refine wpList_append_own_at _ rfl _ _ 78 rfl lo 2 i0 _ 1 8 Tryz.underlying78 hi hz0 hz1 hz2 rfl (by decide) (.slice a1 (r).length cap1) (r).length (nums (r)) rfl ho1 ⟨W.heap.size, 0, none⟩ 1 1 [.int .i64 z] rfl rfl hsz1 (one_int _) hnl1 hnb1 (by simpa using hbs1) ?_)
    intro v2 W1 hown2 hgrow2 hnil2 hat2
    obtain ⟨g2, cap2, rfl⟩ := row_succ hown2
    obtain ⟨⟨d4, y4⟩, hm1, hf1⟩ := push_done HM2.out hown2 hgrow2 (by simpa using hat2)
    have HM1 := hidME hm1
    have HF1 := hidME (HF2.out.trans hf1)
    clear hown2 hgrow2 hnil2 hat2 ho1 hbs1 hsz1 hm1 hf1 c4 z4
    have HR : Hid (MR TR lo x R w _ vo _ _) := ⟨_, _, HM1.out, HF1.out⟩
    go_wp2
    go_ret
    exact ⟨rfl, HR.out⟩
end
end Go.Proofs.YtaagllbcmgnbnaaGreatDoor
/- The page's own: one op at work (one number; moves). -/
namespace Go.Proofs.YtaagllbcmgnbnaaGreatDoor
open Go.RowKit
set_option linter.unusedVariables false
set_option maxRecDepth 100000

section
variable {lo : Nat} {x : Rc} {R : Nat} {w : World} {vs vo : Value} {s : St}
set_option maxHeartbeats 1000000 in
theorem op_18 (n : Int) (v : Value) (h : Mach TR lo x R w vs vo s) {a : Int} {r : List Int} (hs : s.st = a :: r) (hl : s.st.length ≤ 50) :
    Calls Tryz.prog 164 #[.pointer (some ⟨R, 0, none⟩), .agg #[.int .i64 18, .int .i64 n, v]] w fun e w' => e = .returned (.int .i64 0) ∧ MR TR lo x R w vs vo w' ⟨s.fu, of1 18 a :: r, s.out⟩ := by
  obtain ⟨i0, hi, hz0, hz1, hz2⟩ := info_parts Tryz.info2E
  have h0 := h.alloc (.cells #[.int .i64 18, .int .i64 n, v] 171)
  have HF0 : Hid (Fr R w vs vo (w.alloc (.cells #[.int .i64 18, .int .i64 n, v] 171)) vs vo) := (Fr.refl _ _ _ _).alloc _
  have HM0 := hidME h0
  have HX0 := hidME (BlkO.new w 18 n v)
  have hrl : r.length ≤ 50 := by rw [hs] at hl; simp at hl; omega
  have Ht := hidME (pop_any h0 hs)
  obtain ⟨fu, st, out⟩ := s
  obtain ⟨z, hz⟩ : ∃ z, of1 18 a = z := ⟨_, rfl⟩
  rw [hz]
  have Ho := hidME (fun W => truth_any (a == 0) W)
  rw [show tru (a == 0) = of1 18 a from rfl, hz] at Ho
  clear h h0 hs hl hz
  go_enter Tryz.func164, Tryz.ntmps164
  go_wp2_with fail
  refine Ht.out.mono ?_
  rintro e w1 ⟨rfl, vs1, vo1, hmA, hfA⟩
  have HFA := hidME (HF0.out.trans hfA)
  have HMA := hidME hmA
  clear hmA hfA Ht
  go_wp2_with fail
  refine (Ho.out _).mono ?_
  rintro e w' ⟨rfl, rfl⟩
  obtain ⟨ho1, hbs1, hnw1⟩ := push_row z HMA.out
  have hsz1 := hnw1 (w'.heap.size) (by simp)
  clear hnw1
  obtain ⟨a1, cap1, hv1⟩ := row_val HMA.out.st
  have hv1' : vs1 = .slice a1 (r).length cap1 := hv1
  subst hv1'
  clear hv1
  obtain ⟨⟨_, _, _, _, c4, _⟩, _, z4, _⟩ := HMA.out.blk.cells
  have hnl1 : (r).length + 1 ≤ maxLen := by (try simp only [List.length_cons, List.length_nil]); unfold maxLen; omega
  have hnb1 : ((r).length + 1) * 8 ≤ 140737488355328 := by (try simp only [List.length_cons, List.length_nil]); omega
  go_wp2_with (at_builtin; refine wpList_append_own_at _ rfl _ _ 78 rfl lo 2 i0 _ 1 8 Tryz.underlying78 hi hz0 hz1 hz2 rfl (by decide) (.slice a1 (r).length cap1) (r).length (nums (r)) rfl ho1 ⟨w'.heap.size, 0, none⟩ 1 1 [.int .i64 z] rfl rfl hsz1 (one_int _) hnl1 hnb1 (by simpa using hbs1) ?_)
  intro v2 W1 hown2 hgrow2 hnil2 hat2
  obtain ⟨g2, cap2, rfl⟩ := row_succ hown2
  obtain ⟨⟨d4, y4⟩, hm1, hf1⟩ := push_done HMA.out hown2 hgrow2 (by simpa using hat2)
  have HM1 := hidME hm1
  have HF1 := hidME (HFA.out.trans hf1)
  clear hown2 hgrow2 hnil2 hat2 ho1 hbs1 hsz1 hm1 hf1 c4 z4
  have HR : Hid (MR TR lo x R w _ vo _ _) := ⟨_, _, HM1.out, HF1.out⟩
  go_wp2
  go_ret
  exact ⟨rfl, HR.out⟩
set_option maxHeartbeats 1000000 in
theorem op_19 (n : Int) (v : Value) (h : Mach TR lo x R w vs vo s) {a : Int} {r : List Int} (hs : s.st = a :: r) (hl : s.st.length ≤ 50) :
    Calls Tryz.prog 164 #[.pointer (some ⟨R, 0, none⟩), .agg #[.int .i64 19, .int .i64 n, v]] w fun e w' => e = .returned (.int .i64 0) ∧ MR TR lo x R w vs vo w' ⟨s.fu, of1 19 a :: r, s.out⟩ := by
  obtain ⟨i0, hi, hz0, hz1, hz2⟩ := info_parts Tryz.info2E
  have h0 := h.alloc (.cells #[.int .i64 19, .int .i64 n, v] 171)
  have HF0 : Hid (Fr R w vs vo (w.alloc (.cells #[.int .i64 19, .int .i64 n, v] 171)) vs vo) := (Fr.refl _ _ _ _).alloc _
  have HM0 := hidME h0
  have HX0 := hidME (BlkO.new w 19 n v)
  have hrl : r.length ≤ 50 := by rw [hs] at hl; simp at hl; omega
  obtain ⟨fu, st, out⟩ := s
  obtain ⟨z, hz⟩ : ∃ z, of1 19 a = z := ⟨_, rfl⟩
  rw [hz]
  have Ho := hidME (fun W => rcut_8f a W)
  rw [show a % 256 = of1 19 a from rfl, hz] at Ho
  have Ht : Hid (Calls Tryz.prog 189 #[.pointer (some ⟨R, 0, none⟩)] (w.alloc (.cells #[.int .i64 19, .int .i64 n, v] 171)).drew fun e w' => e = .returned (.int .i64 a) ∧ MR TR lo x R ((w.alloc (.cells #[.int .i64 19, .int .i64 n, v] 171)).drewN 1) vs vo w' ⟨fu, r, out⟩) := pop_any (h0.drew 1) hs
  clear h h0 hs hl hz
  go_enter Tryz.func164, Tryz.ntmps164
  go_wp2
  go_region_held3 (fun W' => True) (trivial)
    (first
      | (go_at_call 189; refine Ht.out.mono ?_; rintro e w1 ⟨rfl, vs1, vo1, hmA, hfA⟩)
      | (go_at_call 192; refine (Ho.out _).mono ?_; rintro e w' ⟨rfl, rfl⟩))
  have HFA := hidME ((HF0.out.drew 1).trans hfA)
  have HMA := hidME hmA
  clear hmA hfA Ht
  obtain ⟨ho1, hbs1, hnw1⟩ := push_row z HMA.out
  have hsz1 := hnw1 (w'.heap.size) (by simp)
  clear hnw1
  obtain ⟨a1, cap1, hv1⟩ := row_val HMA.out.st
  have hv1' : vs1 = .slice a1 (r).length cap1 := hv1
  subst hv1'
  clear hv1
  obtain ⟨⟨_, _, _, _, c4, _⟩, _, z4, _⟩ := HMA.out.blk.cells
  have hnl1 : (r).length + 1 ≤ maxLen := by (try simp only [List.length_cons, List.length_nil]); unfold maxLen; omega
  have hnb1 : ((r).length + 1) * 8 ≤ 140737488355328 := by (try simp only [List.length_cons, List.length_nil]); omega
  go_wp2_with (at_builtin; refine wpList_append_own_at _ rfl _ _ 78 rfl lo 2 i0 _ 1 8 Tryz.underlying78 hi hz0 hz1 hz2 rfl (by decide) (.slice a1 (r).length cap1) (r).length (nums (r)) rfl ho1 ⟨w'.heap.size, 0, none⟩ 1 1 [.int .i64 z] rfl rfl hsz1 (one_int _) hnl1 hnb1 (by simpa using hbs1) ?_)
  intro v2 W1 hown2 hgrow2 hnil2 hat2
  obtain ⟨g2, cap2, rfl⟩ := row_succ hown2
  obtain ⟨⟨d4, y4⟩, hm1, hf1⟩ := push_done HMA.out hown2 hgrow2 (by simpa using hat2)
  have HM1 := hidME hm1
  have HF1 := hidME (HFA.out.trans hf1)
  clear hown2 hgrow2 hnil2 hat2 ho1 hbs1 hsz1 hm1 hf1 c4 z4
  have HR : Hid (MR TR lo x R w _ vo _ _) := ⟨_, _, HM1.out, HF1.out⟩
  go_wp2
  go_ret
  exact ⟨rfl, HR.out⟩
set_option maxHeartbeats 1000000 in
theorem op_20 (n : Int) (v : Value) (h : Mach TR lo x R w vs vo s) {a : Int} {r : List Int} (hs : s.st = a :: r) (hl : s.st.length ≤ 50) :
    Calls Tryz.prog 164 #[.pointer (some ⟨R, 0, none⟩), .agg #[.int .i64 20, .int .i64 n, v]] w fun e w' => e = .returned (.int .i64 0) ∧ MR TR lo x R w vs vo w' ⟨s.fu, of1 20 a :: r, s.out⟩ := by
  obtain ⟨i0, hi, hz0, hz1, hz2⟩ := info_parts Tryz.info2E
  have h0 := h.alloc (.cells #[.int .i64 20, .int .i64 n, v] 171)
  have HF0 : Hid (Fr R w vs vo (w.alloc (.cells #[.int .i64 20, .int .i64 n, v] 171)) vs vo) := (Fr.refl _ _ _ _).alloc _
  have HM0 := hidME h0
  have HX0 := hidME (BlkO.new w 20 n v)
  have hrl : r.length ≤ 50 := by rw [hs] at hl; simp at hl; omega
  obtain ⟨fu, st, out⟩ := s
  obtain ⟨z, hz⟩ : ∃ z, of1 20 a = z := ⟨_, rfl⟩
  rw [hz]
  have Ho := hidME (fun W => rcut_16f a W)
  rw [show wrap64 (IntKind.u16.wrap a) = of1 20 a from rfl, hz] at Ho
  have Ht : Hid (Calls Tryz.prog 189 #[.pointer (some ⟨R, 0, none⟩)] (w.alloc (.cells #[.int .i64 20, .int .i64 n, v] 171)).drew fun e w' => e = .returned (.int .i64 a) ∧ MR TR lo x R ((w.alloc (.cells #[.int .i64 20, .int .i64 n, v] 171)).drewN 1) vs vo w' ⟨fu, r, out⟩) := pop_any (h0.drew 1) hs
  clear h h0 hs hl hz
  go_enter Tryz.func164, Tryz.ntmps164
  go_wp2
  go_region_held3 (fun W' => True) (trivial)
    (first
      | (go_at_call 189; refine Ht.out.mono ?_; rintro e w1 ⟨rfl, vs1, vo1, hmA, hfA⟩)
      | (go_at_call 192; refine (Ho.out _).mono ?_; rintro e w' ⟨rfl, rfl⟩))
  have HFA := hidME ((HF0.out.drew 1).trans hfA)
  have HMA := hidME hmA
  clear hmA hfA Ht
  obtain ⟨ho1, hbs1, hnw1⟩ := push_row z HMA.out
  have hsz1 := hnw1 (w'.heap.size) (by simp)
  clear hnw1
  obtain ⟨a1, cap1, hv1⟩ := row_val HMA.out.st
  have hv1' : vs1 = .slice a1 (r).length cap1 := hv1
  subst hv1'
  clear hv1
  obtain ⟨⟨_, _, _, _, c4, _⟩, _, z4, _⟩ := HMA.out.blk.cells
  have hnl1 : (r).length + 1 ≤ maxLen := by (try simp only [List.length_cons, List.length_nil]); unfold maxLen; omega
  have hnb1 : ((r).length + 1) * 8 ≤ 140737488355328 := by (try simp only [List.length_cons, List.length_nil]); omega
  go_wp2_with (at_builtin; refine wpList_append_own_at _ rfl _ _ 78 rfl lo 2 i0 _ 1 8 Tryz.underlying78 hi hz0 hz1 hz2 rfl (by decide) (.slice a1 (r).length cap1) (r).length (nums (r)) rfl ho1 ⟨w'.heap.size, 0, none⟩ 1 1 [.int .i64 z] rfl rfl hsz1 (one_int _) hnl1 hnb1 (by simpa using hbs1) ?_)
  intro v2 W1 hown2 hgrow2 hnil2 hat2
  obtain ⟨g2, cap2, rfl⟩ := row_succ hown2
  obtain ⟨⟨d4, y4⟩, hm1, hf1⟩ := push_done HMA.out hown2 hgrow2 (by simpa using hat2)
  have HM1 := hidME hm1
  have HF1 := hidME (HFA.out.trans hf1)
  clear hown2 hgrow2 hnil2 hat2 ho1 hbs1 hsz1 hm1 hf1 c4 z4
  have HR : Hid (MR TR lo x R w _ vo _ _) := ⟨_, _, HM1.out, HF1.out⟩
  go_wp2
  go_ret
  exact ⟨rfl, HR.out⟩
set_option maxHeartbeats 1000000 in
theorem op_21 (n : Int) (v : Value) (h : Mach TR lo x R w vs vo s) {a : Int} {r : List Int} (hs : s.st = a :: r) (hl : s.st.length ≤ 50) :
    Calls Tryz.prog 164 #[.pointer (some ⟨R, 0, none⟩), .agg #[.int .i64 21, .int .i64 n, v]] w fun e w' => e = .returned (.int .i64 0) ∧ MR TR lo x R w vs vo w' ⟨s.fu, of1 21 a :: r, s.out⟩ := by
  obtain ⟨i0, hi, hz0, hz1, hz2⟩ := info_parts Tryz.info2E
  have h0 := h.alloc (.cells #[.int .i64 21, .int .i64 n, v] 171)
  have HF0 : Hid (Fr R w vs vo (w.alloc (.cells #[.int .i64 21, .int .i64 n, v] 171)) vs vo) := (Fr.refl _ _ _ _).alloc _
  have HM0 := hidME h0
  have HX0 := hidME (BlkO.new w 21 n v)
  have hrl : r.length ≤ 50 := by rw [hs] at hl; simp at hl; omega
  obtain ⟨fu, st, out⟩ := s
  obtain ⟨z, hz⟩ : ∃ z, of1 21 a = z := ⟨_, rfl⟩
  rw [hz]
  have Ho := hidME (fun W => rcut_32f a W)
  rw [show a % 4294967296 = of1 21 a from rfl, hz] at Ho
  have Ht : Hid (Calls Tryz.prog 189 #[.pointer (some ⟨R, 0, none⟩)] (w.alloc (.cells #[.int .i64 21, .int .i64 n, v] 171)).drew fun e w' => e = .returned (.int .i64 a) ∧ MR TR lo x R ((w.alloc (.cells #[.int .i64 21, .int .i64 n, v] 171)).drewN 1) vs vo w' ⟨fu, r, out⟩) := pop_any (h0.drew 1) hs
  clear h h0 hs hl hz
  go_enter Tryz.func164, Tryz.ntmps164
  go_wp2
  go_region_held3 (fun W' => True) (trivial)
    (first
      | (go_at_call 189; refine Ht.out.mono ?_; rintro e w1 ⟨rfl, vs1, vo1, hmA, hfA⟩)
      | (go_at_call 192; refine (Ho.out _).mono ?_; rintro e w' ⟨rfl, rfl⟩))
  have HFA := hidME ((HF0.out.drew 1).trans hfA)
  have HMA := hidME hmA
  clear hmA hfA Ht
  obtain ⟨ho1, hbs1, hnw1⟩ := push_row z HMA.out
  have hsz1 := hnw1 (w'.heap.size) (by simp)
  clear hnw1
  obtain ⟨a1, cap1, hv1⟩ := row_val HMA.out.st
  have hv1' : vs1 = .slice a1 (r).length cap1 := hv1
  subst hv1'
  clear hv1
  obtain ⟨⟨_, _, _, _, c4, _⟩, _, z4, _⟩ := HMA.out.blk.cells
  have hnl1 : (r).length + 1 ≤ maxLen := by (try simp only [List.length_cons, List.length_nil]); unfold maxLen; omega
  have hnb1 : ((r).length + 1) * 8 ≤ 140737488355328 := by (try simp only [List.length_cons, List.length_nil]); omega
  go_wp2_with (at_builtin; refine wpList_append_own_at _ rfl _ _ 78 rfl lo 2 i0 _ 1 8 Tryz.underlying78 hi hz0 hz1 hz2 rfl (by decide) (.slice a1 (r).length cap1) (r).length (nums (r)) rfl ho1 ⟨w'.heap.size, 0, none⟩ 1 1 [.int .i64 z] rfl rfl hsz1 (one_int _) hnl1 hnb1 (by simpa using hbs1) ?_)
  intro v2 W1 hown2 hgrow2 hnil2 hat2
  obtain ⟨g2, cap2, rfl⟩ := row_succ hown2
  obtain ⟨⟨d4, y4⟩, hm1, hf1⟩ := push_done HMA.out hown2 hgrow2 (by simpa using hat2)
  have HM1 := hidME hm1
  have HF1 := hidME (HFA.out.trans hf1)
  clear hown2 hgrow2 hnil2 hat2 ho1 hbs1 hsz1 hm1 hf1 c4 z4
  have HR : Hid (MR TR lo x R w _ vo _ _) := ⟨_, _, HM1.out, HF1.out⟩
  go_wp2
  go_ret
  exact ⟨rfl, HR.out⟩
set_option maxHeartbeats 1000000 in
theorem op_22 (n : Int) (v : Value) (h : Mach TR lo x R w vs vo s) {a : Int} {r : List Int} (hs : s.st = a :: r) (hl : s.st.length ≤ 50) :
    Calls Tryz.prog 164 #[.pointer (some ⟨R, 0, none⟩), .agg #[.int .i64 22, .int .i64 n, v]] w fun e w' => e = .returned (.int .i64 0) ∧ MR TR lo x R w vs vo w' ⟨s.fu, of1 22 a :: r, s.out⟩ := by
  obtain ⟨i0, hi, hz0, hz1, hz2⟩ := info_parts Tryz.info2E
  have h0 := h.alloc (.cells #[.int .i64 22, .int .i64 n, v] 171)
  have HF0 : Hid (Fr R w vs vo (w.alloc (.cells #[.int .i64 22, .int .i64 n, v] 171)) vs vo) := (Fr.refl _ _ _ _).alloc _
  have HM0 := hidME h0
  have HX0 := hidME (BlkO.new w 22 n v)
  have hrl : r.length ≤ 50 := by rw [hs] at hl; simp at hl; omega
  obtain ⟨fu, st, out⟩ := s
  obtain ⟨z, hz⟩ : ∃ z, of1 22 a = z := ⟨_, rfl⟩
  rw [hz]
  have Ho := hidME (fun W => rcut_8t a W)
  rw [show wrap64 (IntKind.i8.wrap a) = of1 22 a from rfl, hz] at Ho
  have Ht : Hid (Calls Tryz.prog 189 #[.pointer (some ⟨R, 0, none⟩)] (w.alloc (.cells #[.int .i64 22, .int .i64 n, v] 171)).drew fun e w' => e = .returned (.int .i64 a) ∧ MR TR lo x R ((w.alloc (.cells #[.int .i64 22, .int .i64 n, v] 171)).drewN 1) vs vo w' ⟨fu, r, out⟩) := pop_any (h0.drew 1) hs
  clear h h0 hs hl hz
  go_enter Tryz.func164, Tryz.ntmps164
  go_wp2
  go_region_held3 (fun W' => True) (trivial)
    (first
      | (go_at_call 189; refine Ht.out.mono ?_; rintro e w1 ⟨rfl, vs1, vo1, hmA, hfA⟩)
      | (go_at_call 192; refine (Ho.out _).mono ?_; rintro e w' ⟨rfl, rfl⟩))
  have HFA := hidME ((HF0.out.drew 1).trans hfA)
  have HMA := hidME hmA
  clear hmA hfA Ht
  obtain ⟨ho1, hbs1, hnw1⟩ := push_row z HMA.out
  have hsz1 := hnw1 (w'.heap.size) (by simp)
  clear hnw1
  obtain ⟨a1, cap1, hv1⟩ := row_val HMA.out.st
  have hv1' : vs1 = .slice a1 (r).length cap1 := hv1
  subst hv1'
  clear hv1
  obtain ⟨⟨_, _, _, _, c4, _⟩, _, z4, _⟩ := HMA.out.blk.cells
  have hnl1 : (r).length + 1 ≤ maxLen := by (try simp only [List.length_cons, List.length_nil]); unfold maxLen; omega
  have hnb1 : ((r).length + 1) * 8 ≤ 140737488355328 := by (try simp only [List.length_cons, List.length_nil]); omega
  go_wp2_with (at_builtin; refine wpList_append_own_at _ rfl _ _ 78 rfl lo 2 i0 _ 1 8 Tryz.underlying78 hi hz0 hz1 hz2 rfl (by decide) (.slice a1 (r).length cap1) (r).length (nums (r)) rfl ho1 ⟨w'.heap.size, 0, none⟩ 1 1 [.int .i64 z] rfl rfl hsz1 (one_int _) hnl1 hnb1 (by simpa using hbs1) ?_)
  intro v2 W1 hown2 hgrow2 hnil2 hat2
  obtain ⟨g2, cap2, rfl⟩ := row_succ hown2
  obtain ⟨⟨d4, y4⟩, hm1, hf1⟩ := push_done HMA.out hown2 hgrow2 (by simpa using hat2)
  have HM1 := hidME hm1
  have HF1 := hidME (HFA.out.trans hf1)
  clear hown2 hgrow2 hnil2 hat2 ho1 hbs1 hsz1 hm1 hf1 c4 z4
  have HR : Hid (MR TR lo x R w _ vo _ _) := ⟨_, _, HM1.out, HF1.out⟩
  go_wp2
  go_ret
  exact ⟨rfl, HR.out⟩
set_option maxHeartbeats 1000000 in
theorem op_23 (n : Int) (v : Value) (h : Mach TR lo x R w vs vo s) {a : Int} {r : List Int} (hs : s.st = a :: r) (hl : s.st.length ≤ 50) :
    Calls Tryz.prog 164 #[.pointer (some ⟨R, 0, none⟩), .agg #[.int .i64 23, .int .i64 n, v]] w fun e w' => e = .returned (.int .i64 0) ∧ MR TR lo x R w vs vo w' ⟨s.fu, of1 23 a :: r, s.out⟩ := by
  obtain ⟨i0, hi, hz0, hz1, hz2⟩ := info_parts Tryz.info2E
  have h0 := h.alloc (.cells #[.int .i64 23, .int .i64 n, v] 171)
  have HF0 : Hid (Fr R w vs vo (w.alloc (.cells #[.int .i64 23, .int .i64 n, v] 171)) vs vo) := (Fr.refl _ _ _ _).alloc _
  have HM0 := hidME h0
  have HX0 := hidME (BlkO.new w 23 n v)
  have hrl : r.length ≤ 50 := by rw [hs] at hl; simp at hl; omega
  obtain ⟨fu, st, out⟩ := s
  obtain ⟨z, hz⟩ : ∃ z, of1 23 a = z := ⟨_, rfl⟩
  rw [hz]
  have Ho := hidME (fun W => rcut_16t a W)
  rw [show wrap64 (IntKind.i16.wrap a) = of1 23 a from rfl, hz] at Ho
  have Ht : Hid (Calls Tryz.prog 189 #[.pointer (some ⟨R, 0, none⟩)] (w.alloc (.cells #[.int .i64 23, .int .i64 n, v] 171)).drew fun e w' => e = .returned (.int .i64 a) ∧ MR TR lo x R ((w.alloc (.cells #[.int .i64 23, .int .i64 n, v] 171)).drewN 1) vs vo w' ⟨fu, r, out⟩) := pop_any (h0.drew 1) hs
  clear h h0 hs hl hz
  go_enter Tryz.func164, Tryz.ntmps164
  go_wp2
  go_region_held3 (fun W' => True) (trivial)
    (first
      | (go_at_call 189; refine Ht.out.mono ?_; rintro e w1 ⟨rfl, vs1, vo1, hmA, hfA⟩)
      | (go_at_call 192; refine (Ho.out _).mono ?_; rintro e w' ⟨rfl, rfl⟩))
  have HFA := hidME ((HF0.out.drew 1).trans hfA)
  have HMA := hidME hmA
  clear hmA hfA Ht
  obtain ⟨ho1, hbs1, hnw1⟩ := push_row z HMA.out
  have hsz1 := hnw1 (w'.heap.size) (by simp)
  clear hnw1
  obtain ⟨a1, cap1, hv1⟩ := row_val HMA.out.st
  have hv1' : vs1 = .slice a1 (r).length cap1 := hv1
  subst hv1'
  clear hv1
  obtain ⟨⟨_, _, _, _, c4, _⟩, _, z4, _⟩ := HMA.out.blk.cells
  have hnl1 : (r).length + 1 ≤ maxLen := by (try simp only [List.length_cons, List.length_nil]); unfold maxLen; omega
  have hnb1 : ((r).length + 1) * 8 ≤ 140737488355328 := by (try simp only [List.length_cons, List.length_nil]); omega
  go_wp2_with (at_builtin; refine wpList_append_own_at _ rfl _ _ 78 rfl lo 2 i0 _ 1 8 Tryz.underlying78 hi hz0 hz1 hz2 rfl (by decide) (.slice a1 (r).length cap1) (r).length (nums (r)) rfl ho1 ⟨w'.heap.size, 0, none⟩ 1 1 [.int .i64 z] rfl rfl hsz1 (one_int _) hnl1 hnb1 (by simpa using hbs1) ?_)
  intro v2 W1 hown2 hgrow2 hnil2 hat2
  obtain ⟨g2, cap2, rfl⟩ := row_succ hown2
  obtain ⟨⟨d4, y4⟩, hm1, hf1⟩ := push_done HMA.out hown2 hgrow2 (by simpa using hat2)
  have HM1 := hidME hm1
  have HF1 := hidME (HFA.out.trans hf1)
  clear hown2 hgrow2 hnil2 hat2 ho1 hbs1 hsz1 hm1 hf1 c4 z4
  have HR : Hid (MR TR lo x R w _ vo _ _) := ⟨_, _, HM1.out, HF1.out⟩
  go_wp2
  go_ret
  exact ⟨rfl, HR.out⟩
set_option maxHeartbeats 1000000 in
theorem op_24 (n : Int) (v : Value) (h : Mach TR lo x R w vs vo s) {a : Int} {r : List Int} (hs : s.st = a :: r) (hl : s.st.length ≤ 50) :
    Calls Tryz.prog 164 #[.pointer (some ⟨R, 0, none⟩), .agg #[.int .i64 24, .int .i64 n, v]] w fun e w' => e = .returned (.int .i64 0) ∧ MR TR lo x R w vs vo w' ⟨s.fu, of1 24 a :: r, s.out⟩ := by
  obtain ⟨i0, hi, hz0, hz1, hz2⟩ := info_parts Tryz.info2E
  have h0 := h.alloc (.cells #[.int .i64 24, .int .i64 n, v] 171)
  have HF0 : Hid (Fr R w vs vo (w.alloc (.cells #[.int .i64 24, .int .i64 n, v] 171)) vs vo) := (Fr.refl _ _ _ _).alloc _
  have HM0 := hidME h0
  have HX0 := hidME (BlkO.new w 24 n v)
  have hrl : r.length ≤ 50 := by rw [hs] at hl; simp at hl; omega
  obtain ⟨fu, st, out⟩ := s
  obtain ⟨z, hz⟩ : ∃ z, of1 24 a = z := ⟨_, rfl⟩
  rw [hz]
  have Ho := hidME (fun W => rcut_32t a W)
  rw [show wrap64 (wrap32 a) = of1 24 a from rfl, hz] at Ho
  have Ht : Hid (Calls Tryz.prog 189 #[.pointer (some ⟨R, 0, none⟩)] (w.alloc (.cells #[.int .i64 24, .int .i64 n, v] 171)).drew fun e w' => e = .returned (.int .i64 a) ∧ MR TR lo x R ((w.alloc (.cells #[.int .i64 24, .int .i64 n, v] 171)).drewN 1) vs vo w' ⟨fu, r, out⟩) := pop_any (h0.drew 1) hs
  clear h h0 hs hl hz
  go_enter Tryz.func164, Tryz.ntmps164
  go_wp2
  go_region_held3 (fun W' => True) (trivial)
    (first
      | (go_at_call 189; refine Ht.out.mono ?_; rintro e w1 ⟨rfl, vs1, vo1, hmA, hfA⟩)
      | (go_at_call 192; refine (Ho.out _).mono ?_; rintro e w' ⟨rfl, rfl⟩))
  have HFA := hidME ((HF0.out.drew 1).trans hfA)
  have HMA := hidME hmA
  clear hmA hfA Ht
  obtain ⟨ho1, hbs1, hnw1⟩ := push_row z HMA.out
  have hsz1 := hnw1 (w'.heap.size) (by simp)
  clear hnw1
  obtain ⟨a1, cap1, hv1⟩ := row_val HMA.out.st
  have hv1' : vs1 = .slice a1 (r).length cap1 := hv1
  subst hv1'
  clear hv1
  obtain ⟨⟨_, _, _, _, c4, _⟩, _, z4, _⟩ := HMA.out.blk.cells
  have hnl1 : (r).length + 1 ≤ maxLen := by (try simp only [List.length_cons, List.length_nil]); unfold maxLen; omega
  have hnb1 : ((r).length + 1) * 8 ≤ 140737488355328 := by (try simp only [List.length_cons, List.length_nil]); omega
  go_wp2_with (at_builtin; refine wpList_append_own_at _ rfl _ _ 78 rfl lo 2 i0 _ 1 8 Tryz.underlying78 hi hz0 hz1 hz2 rfl (by decide) (.slice a1 (r).length cap1) (r).length (nums (r)) rfl ho1 ⟨w'.heap.size, 0, none⟩ 1 1 [.int .i64 z] rfl rfl hsz1 (one_int _) hnl1 hnb1 (by simpa using hbs1) ?_)
  intro v2 W1 hown2 hgrow2 hnil2 hat2
  obtain ⟨g2, cap2, rfl⟩ := row_succ hown2
  obtain ⟨⟨d4, y4⟩, hm1, hf1⟩ := push_done HMA.out hown2 hgrow2 (by simpa using hat2)
  have HM1 := hidME hm1
  have HF1 := hidME (HFA.out.trans hf1)
  clear hown2 hgrow2 hnil2 hat2 ho1 hbs1 hsz1 hm1 hf1 c4 z4
  have HR : Hid (MR TR lo x R w _ vo _ _) := ⟨_, _, HM1.out, HF1.out⟩
  go_wp2
  go_ret
  exact ⟨rfl, HR.out⟩
end
end Go.Proofs.YtaagllbcmgnbnaaGreatDoor
/- The page's own: one op at work (moves). -/
namespace Go.Proofs.YtaagllbcmgnbnaaGreatDoor
open Go.RowKit
set_option linter.unusedVariables false
set_option maxRecDepth 100000

section
variable {lo : Nat} {x : Rc} {R : Nat} {w : World} {vs vo : Value} {s : St}
set_option maxHeartbeats 1000000 in
theorem op_25 (n : Int) (v : Value) (h : Mach TR lo x R w vs vo s) {a : Int} {r : List Int} (hs : s.st = a :: r) (hl : s.st.length ≤ 50) :
    Calls Tryz.prog 164 #[.pointer (some ⟨R, 0, none⟩), .agg #[.int .i64 25, .int .i64 n, v]] w fun e w' => e = .returned (.int .i64 0) ∧ MR TR lo x R w vs vo w' ⟨s.fu, a :: a :: r, s.out⟩ := by
  obtain ⟨i0, hi, hz0, hz1, hz2⟩ := info_parts Tryz.info2E
  have h0 := h.alloc (.cells #[.int .i64 25, .int .i64 n, v] 171)
  have HF0 : Hid (Fr R w vs vo (w.alloc (.cells #[.int .i64 25, .int .i64 n, v] 171)) vs vo) := (Fr.refl _ _ _ _).alloc _
  have HM0 := hidME h0
  have HX0 := hidME (BlkO.new w 25 n v)
  have hrl : r.length ≤ 50 := by rw [hs] at hl; simp at hl; omega
  have Ht := hidME (pop_any h0 hs)
  obtain ⟨fu, st, out⟩ := s
  clear h h0 hs hl
  go_enter Tryz.func164, Tryz.ntmps164
  go_wp2_with fail
  refine Ht.out.mono ?_
  rintro e w1 ⟨rfl, vs1, vo1, hmA, hfA⟩
  have HFA := hidME (HF0.out.trans hfA)
  have HMA := hidME hmA
  clear hmA hfA Ht
  obtain ⟨ho1, hbs1, hnw1⟩ := push_row a HMA.out
  have hsz1 := hnw1 (w1.heap.size) (by simp)
  clear hnw1
  obtain ⟨a1, cap1, hv1⟩ := row_val HMA.out.st
  have hv1' : vs1 = .slice a1 (r).length cap1 := hv1
  subst hv1'
  clear hv1
  obtain ⟨⟨_, _, _, _, c4, _⟩, _, z4, _⟩ := HMA.out.blk.cells
  have hnl1 : (r).length + 1 ≤ maxLen := by (try simp only [List.length_cons, List.length_nil]); unfold maxLen; omega
  have hnb1 : ((r).length + 1) * 8 ≤ 140737488355328 := by (try simp only [List.length_cons, List.length_nil]); omega
  go_wp2_with (at_builtin; refine wpList_append_own_at _ rfl _ _ 78 rfl lo 2 i0 _ 1 8 Tryz.underlying78 hi hz0 hz1 hz2 rfl (by decide) (.slice a1 (r).length cap1) (r).length (nums (r)) rfl ho1 ⟨w1.heap.size, 0, none⟩ 1 1 [.int .i64 a] rfl rfl hsz1 (one_int _) hnl1 hnb1 (by simpa using hbs1) ?_)
  intro v2 W1 hown2 hgrow2 hnil2 hat2
  obtain ⟨g2, cap2, rfl⟩ := row_succ hown2
  obtain ⟨⟨d4, y4⟩, hm1, hf1⟩ := push_done HMA.out hown2 hgrow2 (by simpa using hat2)
  have HM1 := hidME hm1
  have HF1 := hidME (HFA.out.trans hf1)
  clear hown2 hgrow2 hnil2 hat2 ho1 hbs1 hsz1 hm1 hf1 c4 z4
  obtain ⟨ho2, hbs2, hnw2⟩ := push_row a HM1.out
  have hsz2 := hnw2 W1.heap.size (by simp)
  have ho2' : ((W1.setCell ⟨R, 4, none⟩ (.slice (some ⟨g2, 0, none⟩) (r.length + 1) cap2)).alloc (.cells #[.int .i64 a] 2)).ownsRow lo 2 1 (.slice (some ⟨g2, 0, none⟩) (r.length + 1) cap2) (r.length + 1) (nums (a :: r)) := ho2
  have hbs2' : lo ≤ W1.heap.size + 1 := by simpa using hbs2
  have hnl2 : r.length + 1 + 1 ≤ maxLen := by unfold maxLen; omega
  have hnb2 : (r.length + 1 + 1) * 8 ≤ 140737488355328 := by omega
  clear hnw2 ho2 hbs2
  go_wp2_with (at_builtin; refine wpList_append_own_at _ rfl _ _ 78 rfl lo 2 i0 _ 1 8 Tryz.underlying78 hi hz0 hz1 hz2 rfl (by decide) (.slice (some ⟨g2, 0, none⟩) (r.length + 1) cap2) (r.length + 1) (nums (a :: r)) rfl ho2' ⟨W1.heap.size, 0, none⟩ 1 1 [.int .i64 a] rfl rfl hsz2 (one_int _) hnl2 hnb2 (by simpa using hbs2') ?_)
  intro v3 W2 hown3 hgrow3 hnil3 hat3
  obtain ⟨g3, cap3, rfl⟩ := row_succ hown3
  obtain ⟨⟨d4', y4'⟩, hm2, hf2⟩ := push_done HM1.out (by simpa [nums] using hown3) hgrow3 (by simpa using hat3)
  have HM2 := hidME hm2
  have HF2 := hidME (HF1.out.trans hf2)
  clear hown3 hgrow3 hnil3 hat3 ho2' hbs2' hsz2 hm2 hf2 d4 y4
  have HR : Hid (MR TR lo x R w _ vo _ _) := ⟨_, _, HM2.out, HF2.out⟩
  go_wp2
  go_ret
  exact ⟨rfl, HR.out⟩
set_option maxHeartbeats 1000000 in
theorem op_26 (n : Int) (v : Value) (h : Mach TR lo x R w vs vo s) {a b : Int} {r : List Int} (hs : s.st = a :: b :: r) (hl : s.st.length ≤ 50) :
    Calls Tryz.prog 164 #[.pointer (some ⟨R, 0, none⟩), .agg #[.int .i64 26, .int .i64 n, v]] w fun e w' => e = .returned (.int .i64 0) ∧ MR TR lo x R w vs vo w' ⟨s.fu, b :: a :: r, s.out⟩ := by
  obtain ⟨i0, hi, hz0, hz1, hz2⟩ := info_parts Tryz.info2E
  have h0 := h.alloc (.cells #[.int .i64 26, .int .i64 n, v] 171)
  have HF0 : Hid (Fr R w vs vo (w.alloc (.cells #[.int .i64 26, .int .i64 n, v] 171)) vs vo) := (Fr.refl _ _ _ _).alloc _
  have HM0 := hidME h0
  have HX0 := hidME (BlkO.new w 26 n v)
  have hrl : r.length ≤ 50 := by rw [hs] at hl; simp at hl; omega
  have Ht := hidME (pop_any h0 hs)
  obtain ⟨fu, st, out⟩ := s
  clear h h0 hs hl
  go_enter Tryz.func164, Tryz.ntmps164
  go_wp2_with fail
  refine Ht.out.mono ?_
  rintro e w1 ⟨rfl, vsA, voA, hmA, hfA⟩
  have HFA := hidME (HF0.out.trans hfA)
  have HtA := hidME (pop_any hmA rfl)
  have hbA := (HM0.out.boxO hfA HX0.out).cells
  obtain ⟨b0, b1, b2⟩ := hbA
  clear hmA hfA Ht
  go_wp2_with fail
  refine HtA.out.mono ?_
  rintro e w2 ⟨rfl, vs1, vo1, hmB, hfB⟩
  have HFB := hidME (HFA.out.trans hfB)
  have HMB := hidME hmB
  clear hmB hfB HtA b0 b1 b2
  obtain ⟨ho1, hbs1, hnw1⟩ := push_row a HMB.out
  have hsz1 := hnw1 (w2.heap.size) (by simp)
  clear hnw1
  obtain ⟨a1, cap1, hv1⟩ := row_val HMB.out.st
  have hv1' : vs1 = .slice a1 (r).length cap1 := hv1
  subst hv1'
  clear hv1
  obtain ⟨⟨_, _, _, _, c4, _⟩, _, z4, _⟩ := HMB.out.blk.cells
  have hnl1 : (r).length + 1 ≤ maxLen := by (try simp only [List.length_cons, List.length_nil]); unfold maxLen; omega
  have hnb1 : ((r).length + 1) * 8 ≤ 140737488355328 := by (try simp only [List.length_cons, List.length_nil]); omega
  go_wp2_with (at_builtin; refine wpList_append_own_at _ rfl _ _ 78 rfl lo 2 i0 _ 1 8 Tryz.underlying78 hi hz0 hz1 hz2 rfl (by decide) (.slice a1 (r).length cap1) (r).length (nums (r)) rfl ho1 ⟨w2.heap.size, 0, none⟩ 1 1 [.int .i64 a] rfl rfl hsz1 (one_int _) hnl1 hnb1 (by simpa using hbs1) ?_)
  intro v2 W1 hown2 hgrow2 hnil2 hat2
  obtain ⟨g2, cap2, rfl⟩ := row_succ hown2
  obtain ⟨⟨d4, y4⟩, hm1, hf1⟩ := push_done HMB.out hown2 hgrow2 (by simpa using hat2)
  have HM1 := hidME hm1
  have HF1 := hidME (HFB.out.trans hf1)
  clear hown2 hgrow2 hnil2 hat2 ho1 hbs1 hsz1 hm1 hf1 c4 z4
  obtain ⟨ho2, hbs2, hnw2⟩ := push_row b HM1.out
  have hsz2 := hnw2 W1.heap.size (by simp)
  have ho2' : ((W1.setCell ⟨R, 4, none⟩ (.slice (some ⟨g2, 0, none⟩) (r.length + 1) cap2)).alloc (.cells #[.int .i64 b] 2)).ownsRow lo 2 1 (.slice (some ⟨g2, 0, none⟩) (r.length + 1) cap2) (r.length + 1) (nums (a :: r)) := ho2
  have hbs2' : lo ≤ W1.heap.size + 1 := by simpa using hbs2
  have hnl2 : r.length + 1 + 1 ≤ maxLen := by unfold maxLen; omega
  have hnb2 : (r.length + 1 + 1) * 8 ≤ 140737488355328 := by omega
  clear hnw2 ho2 hbs2
  go_wp2_with (at_builtin; refine wpList_append_own_at _ rfl _ _ 78 rfl lo 2 i0 _ 1 8 Tryz.underlying78 hi hz0 hz1 hz2 rfl (by decide) (.slice (some ⟨g2, 0, none⟩) (r.length + 1) cap2) (r.length + 1) (nums (a :: r)) rfl ho2' ⟨W1.heap.size, 0, none⟩ 1 1 [.int .i64 b] rfl rfl hsz2 (one_int _) hnl2 hnb2 (by simpa using hbs2') ?_)
  intro v3 W2 hown3 hgrow3 hnil3 hat3
  obtain ⟨g3, cap3, rfl⟩ := row_succ hown3
  obtain ⟨⟨d4', y4'⟩, hm2, hf2⟩ := push_done HM1.out (by simpa [nums] using hown3) hgrow3 (by simpa using hat3)
  have HM2 := hidME hm2
  have HF2 := hidME (HF1.out.trans hf2)
  clear hown3 hgrow3 hnil3 hat3 ho2' hbs2' hsz2 hm2 hf2 d4 y4
  have HR : Hid (MR TR lo x R w _ vo _ _) := ⟨_, _, HM2.out, HF2.out⟩
  go_wp2
  go_ret
  exact ⟨rfl, HR.out⟩
set_option maxHeartbeats 1000000 in
theorem op_27 (n : Int) (v : Value) (h : Mach TR lo x R w vs vo s) {a : Int} {r : List Int} (hs : s.st = a :: r) (hl : s.st.length ≤ 50) :
    Calls Tryz.prog 164 #[.pointer (some ⟨R, 0, none⟩), .agg #[.int .i64 27, .int .i64 n, v]] w fun e w' => e = .returned (.int .i64 0) ∧ MR TR lo x R w vs vo w' ⟨s.fu, r, s.out⟩ := by
  obtain ⟨i0, hi, hz0, hz1, hz2⟩ := info_parts Tryz.info2E
  have h0 := h.alloc (.cells #[.int .i64 27, .int .i64 n, v] 171)
  have HF0 : Hid (Fr R w vs vo (w.alloc (.cells #[.int .i64 27, .int .i64 n, v] 171)) vs vo) := (Fr.refl _ _ _ _).alloc _
  have HM0 := hidME h0
  have HX0 := hidME (BlkO.new w 27 n v)
  have Ht := hidME (pop_any h0 hs)
  obtain ⟨fu, st, out⟩ := s
  clear h h0 hs hl
  go_enter Tryz.func164, Tryz.ntmps164
  go_wp2_with fail
  refine Ht.out.mono ?_
  rintro e w1 ⟨rfl, vs1, vo1, hmA, hfA⟩
  have HFA := hidME (HF0.out.trans hfA)
  have HMA := hidME hmA
  clear hmA hfA Ht
  have HR : Hid (MR TR lo x R w _ vo _ _) := ⟨_, _, HMA.out, HFA.out⟩
  go_wp2
  go_ret
  exact ⟨rfl, HR.out⟩
end
end Go.Proofs.YtaagllbcmgnbnaaGreatDoor
/- The page's own: one op at work (emit). -/
namespace Go.Proofs.YtaagllbcmgnbnaaGreatDoor
open Go.RowKit
set_option linter.unusedVariables false
set_option maxRecDepth 100000

section
variable {lo : Nat} {x : Rc} {R : Nat} {w : World} {vs vo : Value} {s : St}
set_option maxHeartbeats 4000000 in
theorem op_30 (n : Int) (v : Value) {a b : Int} {r : List Int} (h : Mach TR lo x R w vs vo s) (hs : s.st = a :: b :: r) (ho : s.out.length ≤ 256) :
    Calls Tryz.prog 164 #[.pointer (some ⟨R, 0, none⟩), .agg #[.int .i64 30, .int .i64 n, v]] w fun e w' => EmR TR lo x R w vs vo s a b r e w' := by
  obtain ⟨i0, hi, hz0, hz1, hz2⟩ := info_parts Tryz.infoRec
  have h0 := h.alloc (.cells #[.int .i64 30, .int .i64 n, v] 171)
  have HF0 : Hid (Fr R w vs vo (w.alloc (.cells #[.int .i64 30, .int .i64 n, v] 171)) vs vo) := (Fr.refl _ _ _ _).alloc _
  have HM := hidME h
  have Ht := hidME (pop_any h0 hs)
  clear h h0 hs
  go_enter Tryz.func164, Tryz.ntmps164
  go_wp2_with fail
  refine Ht.out.mono ?_
  rintro e w1 ⟨rfl, vsA, voA, hmA, hfA⟩
  have HFA := hidME (HF0.out.trans hfA)
  have HtA := hidME (pop_any hmA rfl)
  clear hmA hfA Ht
  go_wp2_with fail
  refine HtA.out.mono ?_
  rintro e w2 ⟨rfl, vs2, vo2, hm2, hfB⟩
  have HFB := hidME (HFA.out.trans hfB)
  have HMB := hidME hm2
  obtain ⟨⟨c0, c1, c2, c3, c4, c5⟩, z3, z4, z5⟩ := hm2.blk.cells
  obtain ⟨ao2, capo2, hvo2⟩ := row_val hm2.out
  have hvo2' : vo2 = .slice ao2 s.out.length capo2 := hvo2
  subst hvo2'
  have ho2 : w2.ownsRow lo 68 3 (.slice ao2 s.out.length capo2) s.out.length (flatR s.out) := hm2.out
  have hRl := hm2.blk.lt
  have hlo := hm2.lw
  have h63 : s.out.length + 1 ≤ maxLen := by unfold maxLen; omega
  have hby : (s.out.length + 1) * 32 ≤ 140737488355328 := by omega
  have hbs : lo ≤ w2.heap.size + 1 := by omega
  clear hm2 hfB hvo2 HtA
  by_cases h256 : s.out.length = 256
  · have HC : Hid (EmR TR lo x R w vs vo s a b r (.returned (.int .i64 2)) w2) := .inl ⟨h256, rfl, HM.out.below HFB.out⟩
    rw [h256] at c5
    clear h256
    go_wp2
    go_ret
    exact HC.out
  · have hne : ((s.out.length : Int) == 256) = false := beq_eq_false_iff_ne.2 (by omega)
    have HN := hidME h256
    clear h256
    go_wp2
    refine wp_region_any (by kernel_rfl) ?_
    change wpAny _ _ _ _ _ _ _ (World.drew _)
    refine wpAny_take (i := 0) (v := ?v0x1) rfl (by kernel_rfl) (by kernel_rfl) (by kernel_rfl) (fun _ _ _ h => h) (Or.inl ⟨by rfl, ?h0x1⟩) ?r0x1
    case h0x1 => (intro W; go_simp; try with_reducible rfl)
    refine wpAny_take (i := 1) (v := ?v1x2) rfl (by kernel_rfl) (by kernel_rfl) (by kernel_rfl) (fun _ _ _ h => h) (Or.inl ⟨by rfl, ?h1x2⟩) ?r1x2
    case h1x2 => (intro W; go_simp; try with_reducible rfl)
    refine wpAny_take (i := 2) (v := ?v2x3) rfl (by kernel_rfl) (by kernel_rfl) (by kernel_rfl) (fun _ _ _ h => h) (Or.inl ⟨by rfl, ?h2x3⟩) ?r2x3
    case h2x3 => (intro W; go_simp; try with_reducible rfl)
    refine wpAny_take (i := 3) (v := ?v3x4) rfl (by kernel_rfl) (by kernel_rfl) (by kernel_rfl) (fun _ _ _ h => h) (Or.inl ⟨by rfl, ?h3x4⟩) ?r3x4
    case h3x4 => (intro W; go_simp; try with_reducible rfl)
    refine wpAny_take (i := 5) (v := ?v5x5) rfl (by kernel_rfl) (by kernel_rfl) (by kernel_rfl) (fun _ _ _ h => h) (Or.inl ⟨by rfl, ?h5x5⟩) ?r5x5
    case h5x5 => (intro W; go_simp; try with_reducible rfl)
    refine wpAny_take (i := 6) (v := ?v6x6) rfl (by kernel_rfl) (by kernel_rfl) (by kernel_rfl) (fun _ _ _ h => h) (Or.inl ⟨by rfl, ?h6x6⟩) ?r6x6
    case h6x6 => (intro W; go_simp; try with_reducible rfl)
    refine wpAny_take (i := 7) (v := ?v7x7) rfl (by kernel_rfl) (by kernel_rfl) (by kernel_rfl) (fun _ _ _ h => h) (Or.inl ⟨by rfl, ?h7x7⟩) ?r7x7
    case h7x7 => (intro W; go_simp; try with_reducible rfl)
    refine wpAny_take (i := 8) (v := ?v8x8) rfl (by kernel_rfl) (by kernel_rfl) (by kernel_rfl) (fun _ _ _ h => h) (Or.inl ⟨by rfl, ?h8x8⟩) ?r8x8
    case h8x8 => (intro W; go_simp; try with_reducible rfl)
    refine wpAny_take (i := 9) (v := ?v9x9) rfl (by kernel_rfl) (by kernel_rfl) (by kernel_rfl) (fun _ _ _ h => h) (Or.inl ⟨by rfl, ?h9x9⟩) ?r9x9
    case h9x9 => (intro W; go_simp; try with_reducible rfl)
    refine wpAny_take (i := 10) (v := ?v10x10) rfl (by kernel_rfl) (by kernel_rfl) (by kernel_rfl) (fun _ _ _ h => h) (Or.inl ⟨by rfl, ?h10x10⟩) ?r10x10
    case h10x10 => (intro W; go_simp; try with_reducible rfl)
    refine wpAny_take (i := 13) (v := ?v13x11) rfl (by kernel_rfl) (by kernel_rfl) (by kernel_rfl) (fun _ _ _ h => h) (Or.inl ⟨by rfl, ?h13x11⟩) ?r13x11
    case h13x11 => (intro W; go_simp; try with_reducible rfl)
    refine wpAny_ready (rs := [4, 11]) (by kernel_rfl) (by simp) ?_
    refine AllReady.cons rfl (fun K hK => ?_) (AllReady.cons rfl (fun K hK => ?_) AllReady.nil)
    · go_simp
      refine hK _ _ ?_
      clear hK K
      refine wpAny_ready (rs := [11]) (by kernel_rfl) (by simp) ?_
      refine AllReady.cons rfl (fun K hK => ?_) AllReady.nil
      go_simp
      refine hK _ _ ?_
      clear hK K
      refine wpAny_take (i := 12) (v := ?v12x12) rfl (by kernel_rfl) (by kernel_rfl) (by kernel_rfl) (fun _ _ _ h => h) (Or.inl ⟨by rfl, ?h12x12⟩) ?r12x12
      case h12x12 => (intro W; go_simp; try with_reducible rfl)
      refine wpAny_take (i := 14) (v := ?v14x13) rfl (by kernel_rfl) (by kernel_rfl) (by kernel_rfl) (fun _ _ _ h => h) (Or.inl ⟨by rfl, ?h14x13⟩) ?r14x13
      case h14x13 => (intro W; go_simp; try with_reducible rfl)
      refine wpAny_ready (rs := [15]) (by kernel_rfl) (by simp) ?_
      refine AllReady.cons rfl (fun K hK => ?_) AllReady.nil
      go_simp
      refine hK _ _ ?_
      clear hK K
      refine wpAny_ready (rs := [16]) (by kernel_rfl) (by simp) ?_
      refine AllReady.cons rfl (fun K hK => ?_) AllReady.nil
      refine step_append_lies _ (by rfl) _ _ _ (by rfl) lo 68 i0 _ 3 32 Tryz.underlying23 hi hz0 hz1 hz2 rfl (by decide) _ _ _ (by rfl) (ho2.alloc _) _ 1 1 [.int .i64 b, .string x.1.2, .int .i64 a] (by rfl) (by rfl) (news3 (new3 _ _ _ _ _)) (rec_cells _ _ _) (by decide) h63 hby (by simpa using hbs) _ rfl ?_
      intro gg cap2 w3 hown3 hgrow3 hat3 hlt3
      obtain ⟨d5, y5, d1⟩ := (HMB.out.drew 1).after5 hgrow3
      have HR := hidME (emit_mr (HMB.out.drew 1) hown3 hgrow3 hat3)
      clear hown3 hgrow3 hat3 hlt3
      refine hK _ _ ?_
      clear hK K
      refine wpAny_take (i := 17) (v := ?v17x14) rfl (by kernel_rfl) (by kernel_rfl) (by kernel_rfl) (fun _ _ _ h => h) (Or.inl ⟨by rfl, ?h17x14⟩) ?r17x14
      case h17x14 => (intro W; go_simp; try with_reducible rfl)
      refine wpAny_take (i := 18) (v := ?v18x15) rfl (by kernel_rfl) (by kernel_rfl) (by kernel_rfl) (fun _ _ _ h => h) (Or.inl ⟨by rfl, ?h18x15⟩) ?r18x15
      case h18x15 => (intro W; go_simp; try with_reducible rfl)
      refine wpAny_ready (rs := [19]) (by kernel_rfl) (by simp) ?_
      refine AllReady.cons rfl (fun K hK => ?_) AllReady.nil
      go_simp
      refine hK _ _ ?_
      clear hK K
      refine wpAny_done (by kernel_rfl) ?_ _
      go_wp2
      go_ret
      exact .inr ⟨HN.out, rfl, MR.step (HFB.out.drew 1) HR.out⟩
    · go_simp
      refine hK _ _ ?_
      clear hK K
      refine wpAny_take (i := 12) (v := ?v12x20) rfl (by kernel_rfl) (by kernel_rfl) (by kernel_rfl) (fun _ _ _ h => h) (Or.inl ⟨by rfl, ?h12x20⟩) ?r12x20
      case h12x20 => (intro W; go_simp; try with_reducible rfl)
      refine wpAny_take (i := 14) (v := ?v14x21) rfl (by kernel_rfl) (by kernel_rfl) (by kernel_rfl) (fun _ _ _ h => h) (Or.inl ⟨by rfl, ?h14x21⟩) ?r14x21
      case h14x21 => (intro W; go_simp; try with_reducible rfl)
      refine wpAny_ready (rs := [4, 15]) (by kernel_rfl) (by simp) ?_
      refine AllReady.cons rfl (fun K hK => ?_) (AllReady.cons rfl (fun K hK => ?_) AllReady.nil)
      · go_simp
        refine hK _ _ ?_
        clear hK K
        refine wpAny_ready (rs := [15]) (by kernel_rfl) (by simp) ?_
        refine AllReady.cons rfl (fun K hK => ?_) AllReady.nil
        go_simp
        refine hK _ _ ?_
        clear hK K
        refine wpAny_ready (rs := [16]) (by kernel_rfl) (by simp) ?_
        refine AllReady.cons rfl (fun K hK => ?_) AllReady.nil
        refine step_append_lies _ (by rfl) _ _ _ (by rfl) lo 68 i0 _ 3 32 Tryz.underlying23 hi hz0 hz1 hz2 rfl (by decide) _ _ _ (by rfl) (ho2.alloc _) _ 1 1 [.int .i64 b, .string x.1.2, .int .i64 a] (by rfl) (by rfl) (news3 (new3 _ _ _ _ _)) (rec_cells _ _ _) (by decide) h63 hby (by simpa using hbs) _ rfl ?_
        intro gg cap2 w3 hown3 hgrow3 hat3 hlt3
        obtain ⟨d5, y5, d1⟩ := (HMB.out.drew 1).after5 hgrow3
        have HR := hidME (emit_mr (HMB.out.drew 1) hown3 hgrow3 hat3)
        clear hown3 hgrow3 hat3 hlt3
        refine hK _ _ ?_
        clear hK K
        refine wpAny_take (i := 17) (v := ?v17x16) rfl (by kernel_rfl) (by kernel_rfl) (by kernel_rfl) (fun _ _ _ h => h) (Or.inl ⟨by rfl, ?h17x16⟩) ?r17x16
        case h17x16 => (intro W; go_simp; try with_reducible rfl)
        refine wpAny_take (i := 18) (v := ?v18x17) rfl (by kernel_rfl) (by kernel_rfl) (by kernel_rfl) (fun _ _ _ h => h) (Or.inl ⟨by rfl, ?h18x17⟩) ?r18x17
        case h18x17 => (intro W; go_simp; try with_reducible rfl)
        refine wpAny_ready (rs := [19]) (by kernel_rfl) (by simp) ?_
        refine AllReady.cons rfl (fun K hK => ?_) AllReady.nil
        go_simp
        refine hK _ _ ?_
        clear hK K
        refine wpAny_done (by kernel_rfl) ?_ _
        go_wp2
        go_ret
        exact .inr ⟨HN.out, rfl, MR.step (HFB.out.drew 1) HR.out⟩
      · go_simp
        refine hK _ _ ?_
        clear hK K
        refine wpAny_ready (rs := [4]) (by kernel_rfl) (by simp) ?_
        refine AllReady.cons rfl (fun K hK => ?_) AllReady.nil
        go_simp
        refine hK _ _ ?_
        clear hK K
        refine wpAny_ready (rs := [16]) (by kernel_rfl) (by simp) ?_
        refine AllReady.cons rfl (fun K hK => ?_) AllReady.nil
        refine step_append_lies _ (by rfl) _ _ _ (by rfl) lo 68 i0 _ 3 32 Tryz.underlying23 hi hz0 hz1 hz2 rfl (by decide) _ _ _ (by rfl) (ho2.alloc _) _ 1 1 [.int .i64 b, .string x.1.2, .int .i64 a] (by rfl) (by rfl) (news3 (new3 _ _ _ _ _)) (rec_cells _ _ _) (by decide) h63 hby (by simpa using hbs) _ rfl ?_
        intro gg cap2 w3 hown3 hgrow3 hat3 hlt3
        obtain ⟨d5, y5, d1⟩ := (HMB.out.drew 1).after5 hgrow3
        have HR := hidME (emit_mr (HMB.out.drew 1) hown3 hgrow3 hat3)
        clear hown3 hgrow3 hat3 hlt3
        refine hK _ _ ?_
        clear hK K
        refine wpAny_take (i := 17) (v := ?v17x18) rfl (by kernel_rfl) (by kernel_rfl) (by kernel_rfl) (fun _ _ _ h => h) (Or.inl ⟨by rfl, ?h17x18⟩) ?r17x18
        case h17x18 => (intro W; go_simp; try with_reducible rfl)
        refine wpAny_take (i := 18) (v := ?v18x19) rfl (by kernel_rfl) (by kernel_rfl) (by kernel_rfl) (fun _ _ _ h => h) (Or.inl ⟨by rfl, ?h18x19⟩) ?r18x19
        case h18x19 => (intro W; go_simp; try with_reducible rfl)
        refine wpAny_ready (rs := [19]) (by kernel_rfl) (by simp) ?_
        refine AllReady.cons rfl (fun K hK => ?_) AllReady.nil
        go_simp
        refine hK _ _ ?_
        clear hK K
        refine wpAny_done (by kernel_rfl) ?_ _
        go_wp2
        go_ret
        exact .inr ⟨HN.out, rfl, MR.step (HFB.out.drew 1) HR.out⟩
end
end Go.Proofs.YtaagllbcmgnbnaaGreatDoor
/- The page's own: one op at work (if, rep). -/
namespace Go.Proofs.YtaagllbcmgnbnaaGreatDoor
open Go.RowKit
set_option linter.unusedVariables false
set_option maxRecDepth 100000

/-- What run is to do, by the ops that it is handed. -/
def ListR' (B : Nat) (f : Fo) : Prop := ∀ (v : Value) (w : World) (lo : Nat) (x : Rc) (R : Nat) (vs vo : Value) (s : St) (d : Nat) (h fl m l p : Int), FS (QB B) w v f → f.len ≤ 3518437208780 → WfB f → okF f d = true →
  nd f h fl m = some (l, p) → 0 ≤ fl → fl ≤ h → h ≤ m → m ≤ 16 → Mach TR lo x R w vs vo s → Ok h s → s.fu ≤ 2000 → B ≤ lo → x.1.2.size ≤ 64 →
  Calls Tryz.prog 128 #[.pointer (some ⟨R, 0, none⟩), v] w fun e w' => LResE TR lo x R w vs vo (ev x f s) e w'
set_option maxHeartbeats 2000000 in
theorem op_B (B : Nat) (b : Fo) (IH : ListR' B b) (k n : Int) (v : Value) (w : World) (lo : Nat) (x : Rc) (R : Nat) (vs vo : Value) (s : St) (d : Nat) (a : Int) (r : List Int) (m p : Int)
    (hf : FS (QB B) w v b) (hl : b.len ≤ 3518437208780) (hwf : WfB b) (hok : okF b d = true) (hs : s.st = a :: r) (hnd : nd b (r.length : Int) (r.length : Int) m = some ((r.length : Int), p)) (h1 : (r.length : Int) ≤ m) (h2 : m ≤ 16)
    (hM : Mach TR lo x R w vs vo s) (hout : s.out.length ≤ 256) (hfu : s.fu ≤ 2000) (hB : B ≤ lo) (hx : x.1.2.size ≤ 64) (hk : k = 28 ∨ k = 29) :
    Calls Tryz.prog 164 #[.pointer (some ⟨R, 0, none⟩), .agg #[.int .i64 k, .int .i64 n, v]] w fun e w' => LResE TR lo x R w vs vo (rep (ev x b) (often k a) ⟨s.fu, r, s.out⟩) e w' := by
  have hM0 := hM.alloc (.cells #[.int .i64 k, .int .i64 n, v] 171)
  have hbx0 := BlkO.new w k n v
  have Ht := hidME (pop_any hM0 hs)
  have HM0 := hidME hM0
  have HM := hidME hM
  have HX0 := hidME hbx0
  have hF0 : Fr R w vs vo (w.alloc (.cells #[.int .i64 k, .int .i64 n, v] 171)) vs vo := (Fr.refl _ _ _ _).alloc _
  have HF0 := hidME hF0
  have HFS := hidME hf
  have Hwf := hidME hwf
  have HIH := hidME IH
  have HND := hidME hnd
  obtain ⟨av, cap, rfl⟩ := hf.val
  have hbl := hM.blk.lt
  have hlw := hM.lw
  clear hM hM0 hbx0 hf hF0 hwf IH hnd
  obtain ⟨N, hN⟩ : ∃ N, often k a = N := ⟨_, rfl⟩
  rw [hN]
  have HNN := hidME hN
  clear hN
  rcases hk with rfl | rfl
  · by_cases ha : a = 0
    · subst ha
      have hN0 : N = 0 := by rw [← HNN.out]; rfl
      subst hN0
      clear HNN
      obtain ⟨Q, hQ⟩ : ∃ Q, rep (ev x b) 0 ⟨s.fu, r, s.out⟩ = Q := ⟨_, rfl⟩
      rw [hQ]
      have HQ := hidME hQ
      clear hQ
      go_enter Tryz.func164, Tryz.ntmps164
      go_wp2_with fail
      refine Ht.out.mono ?_
      rintro e w1 ⟨rfl, vs1, vo1, hm1, hf1⟩
      obtain ⟨b0, b1, b2⟩ := (HM0.out.boxO hf1 HX0.out).cells
      have HR : Hid (LResE TR lo x R w vs vo Q (.returned (.int .i64 0)) w1) := .inr ⟨_, HQ.out.symm, rfl, _, _, hm1, HF0.out.trans hf1⟩
      clear hm1 hf1
      go_wp2
      go_ret
      exact HR.out
    · have hN1 : N = 1 := by rw [← HNN.out]; unfold often; rw [if_pos rfl, if_neg ha]
      subst hN1
      have hne : (a == 0) = false := beq_eq_false_iff_ne.2 ha
      have hne2 : (a != 0) = true := by simpa using ha
      obtain ⟨Q, hQ⟩ : ∃ Q, rep (ev x b) 1 ⟨s.fu, r, s.out⟩ = Q := ⟨_, rfl⟩
      rw [hQ]
      have hQ2 : ev x b ⟨s.fu, r, s.out⟩ = Q := by
        rw [← hQ]
        cases hg : ev x b ⟨s.fu, r, s.out⟩ with
        | err c => rw [rep_err hg]
        | ok s' => rw [rep_ok hg]; rfl
      have HQ := hidME hQ2
      clear hQ hQ2 HNN ha
      go_enter Tryz.func164, Tryz.ntmps164
      go_wp2_with fail
      refine Ht.out.mono ?_
      rintro e w1 ⟨rfl, vs1, vo1, hm1, hf1⟩
      obtain ⟨b0, b1, b2⟩ := (HM0.out.boxO hf1 HX0.out).cells
      have HF1 := hidME (HF0.out.trans hf1)
      have hfs1 := HFS.out.belowB ((HM.out.below HF1.out).mono hB)
      have hc := HIH.out _ w1 lo x R vs1 vo1 ⟨s.fu, r, s.out⟩ d _ _ m _ _ hfs1 hl Hwf.out hok HND.out (by omega) (by omega) h1 h2 hm1 ⟨rfl, hout⟩ hfu hB hx
      rw [HQ.out] at hc
      have HC := hidME hc
      clear hm1 hf1 hc hfs1
      go_wp2_with fail
      refine HC.out.mono ?_
      rintro e w3 hr3
      have HE := hidME (LResE.step HM.out HF1.out hr3)
      obtain ⟨c, hce⟩ : ∃ c, e = .returned (.int .i64 c) := by
        rcases hr3 with ⟨c, _, _, h, _⟩ | ⟨_, _, h, _⟩
        · exact ⟨c, h⟩
        · exact ⟨0, h⟩
      subst hce
      clear hr3
      go_wp2
      go_ret
      exact HE.out
  · by_cases hb0 : b.len = 0
    · have hbn : b = .nil := Fo.len_nil hb0
      subst hbn
      clear hb0
      simp only [Fo.len] at *
      obtain ⟨Q, hQ⟩ : ∃ Q, rep (ev x .nil) N ⟨s.fu, r, s.out⟩ = Q := ⟨_, rfl⟩
      rw [hQ]
      have HQ := hidME hQ
      rw [rep_nil] at HQ
      clear hQ
      go_enter Tryz.func164, Tryz.ntmps164
      go_wp2_with fail
      refine Ht.out.mono ?_
      rintro e w1 ⟨rfl, vs1, vo1, hm1, hf1⟩
      obtain ⟨b0, b1, b2⟩ := (HM0.out.boxO hf1 HX0.out).cells
      have HR : Hid (LResE TR lo x R w vs vo Q (.returned (.int .i64 0)) w1) := .inr ⟨_, HQ.out.symm, rfl, _, _, hm1, HF0.out.trans hf1⟩
      clear hm1 hf1
      go_wp2
      go_loop [10, 11] (fun i _ => i = .int .i64 0) (fun _ _ => 0)
      case atStart => exact rfl
      case round =>
        subst hrel
        by_cases h0 : 0 < a
        · go_wp2
          go_ret
          exact HR.out
        · have h0' : a ≤ 0 := by omega
          clear h0
          go_wp2
          go_ret
          exact HR.out
    have hbp : 1 ≤ b.len := by omega
    clear hb0
    have hz : N = a.toNat := by rw [← HNN.out]; rfl
    clear HNN
    go_enter Tryz.func164, Tryz.ntmps164
    go_wp2_with fail
    refine Ht.out.mono ?_
    rintro e w1 ⟨rfl, vs1, vo1, hm1, hf1⟩
    have hbx1 := HM0.out.boxO hf1 HX0.out
    obtain ⟨b0, b1, b2⟩ := hbx1.cells
    have HR0 : Hid (RK (ev x b) TR lo x R w vs vo w.heap.size N 29 n (.slice av b.len cap) (r.length : Int) ⟨s.fu, r, s.out⟩ 0 w1) := ⟨⟨_, _, _, ⟨hm1, HF0.out.trans hf1⟩, ⟨rfl, hout⟩, by simp, rfl⟩, hbx1⟩
    clear hm1 hf1 hbx1 Ht
    go_wp2
    clear b0 b1 b2
    go_loopw [10, 11] (fun i _ wr => ∃ j : Nat, j ≤ N ∧ j ≤ 2000 ∧ i = .int .i64 j ∧ RK (ev x b) TR lo x R w vs vo w.heap.size N 29 n (.slice av b.len cap) (r.length : Int) ⟨s.fu, r, s.out⟩ j wr) (fun i _ _ => N - (intOf i).toNat)
    case atStart => exact ⟨0, by omega, by omega, rfl, HR0.out⟩
    case round =>
      obtain ⟨j, hj, hj2, rfl, hRK⟩ := hrel
      obtain ⟨vs2, vo2, s2, ⟨hm2, hf2⟩, hok2, hju, hrep⟩ := hRK.mr
      obtain ⟨b0, b1, b2⟩ := hRK.box.cells
      have HX2 := hidME hRK.box
      have HM2 := hidME hm2
      have HF2 := hidME hf2
      have HOK := hidME hok2
      have HREP := hidME hrep
      simp only at hju
      clear hRK hok2 hrep
      by_cases hlt : (j : Int) < a
      · have hfs2 := HFS.out.belowB ((HM.out.below hf2).mono hB)
        have hc := HIH.out _ wr lo x R vs2 vo2 s2 d _ _ m _ _ hfs2 hl Hwf.out hok HND.out (by omega) (by omega) h1 h2 hm2 HOK.out (by omega) hB hx
        have HC := hidME hc
        clear hm2 hf2 hc hfs2
        go_wp2_with fail
        refine HC.out.mono ?_
        rintro e w3 hr3
        rcases hr3 with ⟨c, hq, hc0, rfl, hb3⟩ | ⟨s3, hq, rfl, vs3, vo3, hm3, hf3⟩
        · have HE : Hid (LResE TR lo x R w vs vo (rep (ev x b) N ⟨s.fu, r, s.out⟩) (.returned (.int .i64 c)) w3) := .inl ⟨c, by rw [HREP.out, show N - j = (N - j - 1) + 1 by omega, rep_err hq], hc0, rfl, (HM.out.below HF2.out).trans hb3⟩
          have hce : (c == 0) = false := beq_eq_false_iff_ne.2 hc0
          clear hq hc0 hb3 b0 b1 b2
          go_wp2
          go_ret
          exact HE.out
        · have hk3 := ev_keeps x b d _ _ m _ _ s2 s3 hok HND.out (by omega) HOK.out hq
          have HL : Hid (RK (ev x b) TR lo x R w vs vo w.heap.size N 29 n (.slice av b.len cap) (r.length : Int) ⟨s.fu, r, s.out⟩ (j + 1) w3) := ⟨⟨_, _, _, ⟨hm3, HF2.out.trans hf3⟩, hk3.1, by have := hk3.2; simp only; omega, by rw [HREP.out, show N - j = (N - (j + 1)) + 1 by omega, rep_ok hq]⟩, HM2.out.boxO hf3 HX2.out⟩
          have hj3 : j + 1 ≤ N := by omega
          have hj4 : j + 1 ≤ 2000 := by have := hk3.2; omega
          clear hq hm3 hf3 hk3 b0 b1 b2
          go_wp2
          go_roundw
          case rel => exact ⟨j + 1, hj3, hj4, by go_num, HL.out⟩
          case measure => simp [intOf]; omega
      · have hlt' : a ≤ (j : Int) := by omega
        have HE : Hid (LResE TR lo x R w vs vo (rep (ev x b) N ⟨s.fu, r, s.out⟩) (.returned (.int .i64 0)) wr) := .inr ⟨s2, by rw [HREP.out, show N - j = 0 by omega]; rfl, rfl, _, _, hm2, hf2⟩
        clear hm2 hf2 b0 b1 b2 hlt
        go_wp2
        go_ret
        have h9 := HE.out
        rw [hz] at h9
        exact h9
end Go.Proofs.YtaagllbcmgnbnaaGreatDoor
/- The page's own: run, Run, MayRun. -/
namespace Go.Proofs.YtaagllbcmgnbnaaGreatDoor
open Go.RowKit
set_option linter.unusedVariables false
set_option maxRecDepth 100000

/-- One op. -/
theorem op_anyE (B : Nat) (b : Fo) (IH : ListR' B b) (k n : Int) (v : Value) (w : World) (lo : Nat) (x : Rc) (R : Nat) (vs vo : Value) (s : St) (d : Nat) (h fl m m2 : Int)
    (hf : FS (QB B) w v b) (hl : b.len ≤ 3518437208780) (hwf : WfB b) (hal : alone k n b = true) (hok : hasB k = true → okF b d = true) (h0 : 0 ≤ fl) (h1 : fl ≤ h - tk k) (h2 : h - tk k + lv k ≤ 16)
    (hnd : nd b (h - tk k + lv k) (h - tk k + lv k) (max m (h - tk k + lv k)) = some (h - tk k + lv k, m2)) (h3 : h ≤ m) (h4 : m ≤ 16)
    (hM : Mach TR lo x R w vs vo s) (hO : Ok h s) (hfu : s.fu ≤ 2000) (hB : B ≤ lo) (hx : x.1.2.size ≤ 64) :
    Calls Tryz.prog 164 #[.pointer (some ⟨R, 0, none⟩), .agg #[.int .i64 k, .int .i64 n, v]] w fun e w' => LResE TR lo x R w vs vo (stp x k n (ev x b) s) e w' := by
  have hkb := alone_bd hal
  have hlen := hO.len
  have ht := tk_bd k
  have hlv := lv_bd k
  have hl50 : s.st.length ≤ 50 := by omega
  by_cases a1 : k ≤ 4
  · have hk : k = 1 ∨ k = 2 ∨ k = 3 ∨ k = 4 := by omega
    rcases hk with rfl | rfl | rfl | rfl
    · exact (opg_1 n v hM hl50).mono fun e w' h => lres_ok (stp_1 (by decide)) h
    · exact (opg_2 n v hM hl50).mono fun e w' h => lres_ok (stp_1 (by decide)) h
    · exact (opg_3 n v hM hx hl50).mono fun e w' h => lres_ok (stp_1 (by decide)) h
    · exact (opg_4 n v hM hl50).mono fun e w' h => lres_ok (stp_1 (by decide)) h
  by_cases a2 : k ≤ 17
  · have e1 : tk k = 2 := by unfold tk; rw [if_neg a1, if_pos a2]
    obtain ⟨a, b', r, hs⟩ := two_of (l := s.st) (by omega)
    exact (op_b k n v hM (by omega) a2 hs hl50).mono fun e w' h => lres_ok (stp_2 (by omega) a2 hs) h
  by_cases a3 : k ≤ 24
  · have e1 : tk k = 1 := by unfold tk; rw [if_neg a1, if_neg a2, if_pos (by omega)]
    obtain ⟨a, r, hs⟩ := one_of (l := s.st) (by omega)
    have hk : k = 18 ∨ k = 19 ∨ k = 20 ∨ k = 21 ∨ k = 22 ∨ k = 23 ∨ k = 24 := by omega
    rcases hk with rfl | rfl | rfl | rfl | rfl | rfl | rfl
    · exact (op_18 n v hM hs hl50).mono fun e w' h => lres_ok (stp_3 (by decide) (by decide) hs) h
    · exact (op_19 n v hM hs hl50).mono fun e w' h => lres_ok (stp_3 (by decide) (by decide) hs) h
    · exact (op_20 n v hM hs hl50).mono fun e w' h => lres_ok (stp_3 (by decide) (by decide) hs) h
    · exact (op_21 n v hM hs hl50).mono fun e w' h => lres_ok (stp_3 (by decide) (by decide) hs) h
    · exact (op_22 n v hM hs hl50).mono fun e w' h => lres_ok (stp_3 (by decide) (by decide) hs) h
    · exact (op_23 n v hM hs hl50).mono fun e w' h => lres_ok (stp_3 (by decide) (by decide) hs) h
    · exact (op_24 n v hM hs hl50).mono fun e w' h => lres_ok (stp_3 (by decide) (by decide) hs) h
  have hk : k = 25 ∨ k = 26 ∨ k = 27 ∨ (k = 28 ∨ k = 29) ∨ k = 30 := by omega
  rcases hk with rfl | rfl | rfl | hk | rfl
  · have e1 : tk 25 = 1 := by decide
    obtain ⟨a, r, hs⟩ := one_of (l := s.st) (by omega)
    exact (op_25 n v hM hs hl50).mono fun e w' h => lres_ok (stp_25 hs) h
  · have e1 : tk 26 = 2 := by decide
    obtain ⟨a, b', r, hs⟩ := two_of (l := s.st) (by omega)
    exact (op_26 n v hM hs hl50).mono fun e w' h => lres_ok (stp_26 hs) h
  · have e1 : tk 27 = 1 := by decide
    obtain ⟨a, r, hs⟩ := one_of (l := s.st) (by omega)
    exact (op_27 n v hM hs hl50).mono fun e w' h => lres_ok (stp_27 hs) h
  · have e1 : tk k = 1 ∧ lv k = 0 ∧ hasB k = true := by rcases hk with rfl | rfl <;> decide
    obtain ⟨a, r, hs⟩ := one_of (l := s.st) (by omega)
    have hrl : (r.length : Int) = h - tk k + lv k := by rw [hs] at hlen; simp only [List.length_cons] at hlen; omega
    rw [stp_B hk hs]
    exact op_B B b IH k n v _ lo x R vs vo s d a r (max m (h - tk k + lv k)) m2 hf hl hwf (hok e1.2.2) hs (by rw [hrl]; exact hnd) (by omega) (by omega) hM hO.out hfu hB hx hk
  · have e1 : tk 30 = 2 := by decide
    obtain ⟨a, b', r, hs⟩ := two_of (l := s.st) (by omega)
    rw [stp_30 hs]
    exact (op_30 n v hM hs hO.out).mono fun e w' h => by
      rcases h with ⟨h1, h2, h3⟩ | ⟨h1, h2, h3⟩
      · exact .inl ⟨2, by rw [if_pos h1], by decide, h2, h3⟩
      · exact .inr ⟨_, by rw [if_neg h1], h2, h3⟩
set_option maxHeartbeats 2000000 in
theorem rrun_list (B : Nat) : ∀ (z : Nat) (f : Fo), f.sz ≤ z → ListR' B f := by
  intro z
  induction z with
  | zero =>
    intro f hz v w lo x R vs vo s d h fl m l p hf hl hwf hok hnd h0 h1 h2 h3 hM hO hfu hB hx
    obtain rfl : f = .nil := by cases f with
      | nil => rfl
      | cons k n b r => simp [Fo.sz] at hz
    obtain ⟨a, cap, rfl⟩ := hf.val
    have HR : Hid (LResE TR lo x R w vs vo (ev x .nil s) (.returned (.int .i64 0)) w) := .inr ⟨s, rfl, rfl, _, _, hM, Fr.refl _ _ _ _⟩
    simp only [Fo.len]
    generalize ev x .nil s = q at HR ⊢
    clear hz hf hl hwf hok hnd hM hO
    go_enter Tryz.func128, Tryz.ntmps128
    go_wp2
    go_loop [5, 6] (fun i _ => i = .int .i64 0) (fun _ _ => 0)
    case atStart => exact rfl
    case round =>
      subst hrel
      go_wp2
      go_ret
      exact HR.out
  | succ z ih =>
    intro f hz v w lo x R vs vo s d h fl m l p hf hl hwf hok hnd h0 h1 h2 h3 hM hO hfu hB hx
    rcases hf.shape with ⟨a1, cap, rfl, hfn⟩ | ⟨g, o, cap, rfl, hq, hat⟩
    · subst hfn
      exact ih .nil (by simp [Fo.sz]) _ w lo x R vs vo s d h fl m l p hf hl hwf hok hnd h0 h1 h2 h3 hM hO hfu hB hx
    obtain ⟨n, hn⟩ : ∃ n, f.len = n := ⟨_, rfl⟩
    have hBw : B ≤ w.heap.size := by have := hM.lw; have := hM.blk.lt; omega
    have hstart := hidME (EK.mk (f := f) (d := d) (T := TR) (lo := lo) (x := x) (R := R) (w := w) (vs := vs) (vo := vo) (s := s) (h := h) (fl := fl) (m := m) (l := l) (p := p) (k := 0) ⟨vs, vo, s, h, m, ⟨hM, Fr.refl _ _ _ _⟩, hO, Nat.le_refl _, by cases f <;> rfl, by cases f <;> exact hnd, h1, h2, h3⟩)
    rw [hn] at hl ⊢
    have HN : Hid (f.len = n) := hn
    have HI := hidME ih
    have hgB : g < B := hq
    have Hat := hidME hat
    have Hwf := hidME hwf
    have HSZ := hidME hz
    have HM := hidME hM
    have HOK := hidME hok
    obtain ⟨Q, hQ⟩ : ∃ Q, ev x f s = Q := ⟨_, rfl⟩
    rw [hQ]
    have HQ := hidME hQ
    clear hn ih hat hwf hf hq hz hM hO hnd hok hQ
    go_enter Tryz.func128, Tryz.ntmps128
    go_wp2
    go_loopw [5, 6] (fun i _ wr => ∃ k : Nat, k ≤ n ∧ i = .int .i64 k ∧ EK f d TR lo x R w vs vo s h fl m l p k wr) (fun i _ _ => n - (intOf i).toNat)
    case atStart => exact ⟨0, by omega, rfl, hstart.out⟩
    case round =>
      obtain ⟨k, hk, rfl, hEK⟩ := hrel
      obtain ⟨vs1, vo1, s1, h', m', ⟨hm1, hf1⟩, hO1, hfu1, hev1, hnd1, hh1, hh2, hh3⟩ := hEK.mr
      clear hEK
      by_cases hlt : k < n
      · have hbw := (HM.out.below hf1).mono hB
        have hat' : FoAt (QB B) wr f g o := Hat.out.move (fun b o hq => ⟨hbw.block b hq, hq⟩) (hbw.block g hgB)
        obtain ⟨kk, nn, b, r, sv, e1, e2, e3, c0', c1', c2', hsv⟩ := hat'.at (i := k) (by rw [HN.out]; exact hlt)
        obtain ⟨hb1, hb2⟩ := Hwf.out.at e1
        have hbs := Fo.sz_blk e1
        have hbz : b.sz ≤ z := by have := HSZ.out; omega
        have hLb := HI.out b hbz
        obtain ⟨hal, hbo⟩ := okF_at HOK.out e1
        rw [e1] at hev1 hnd1
        obtain ⟨n1, n2, m2, n3, n4⟩ := nd_cons hnd1
        have hlv := lv_bd kk
        have hbd := nd_bd _ _ _ _ _ _ n3 (Int.le_refl _) (by omega) (by omega)
        obtain ⟨a1, cap1, rfl⟩ := hsv.val
        obtain ⟨⟨_, _, _, d3, _, _⟩, y3, _, _⟩ := hm1.blk.cells
        have hgr : g < wr.heap.size := by have := hm1.lw; have := hm1.blk.lt; omega
        have hRr := hm1.blk.lt
        by_cases hz0 : s1.fu = 0
        · have HE : Hid (LResE TR lo x R w vs vo Q (.returned (.int .i64 10)) wr) := .inl ⟨10, by rw [← HQ.out, hev1, ev_no hz0], by decide, rfl, HM.out.below hf1⟩
          rw [hz0] at d3
          clear hm1 hf1 hO1 hev1 hnd1 hat' e1 e2 e3 hsv n1 n2 n3 n4 hbd hLb hbo hal hb2 hbw
          go_wp2
          go_ret
          exact HE.out
        · obtain ⟨q, hq⟩ : ∃ q, s1.fu = q + 1 := ⟨s1.fu - 1, by omega⟩
          have hst := hm1.fuel q
          have hfB := hf1.trans hst.2
          have hmB := hst.1
          have hbB := (hm1.below hst.2).mono hB
          have hsvB : FS (QB B) (wr.setCell ⟨R, 3, none⟩ (.int .i64 (q : Int))) (.slice a1 b.len cap1) b := hsv.belowB hbB
          have x0 := (hbB.cell (p := ⟨g, o + k * 3, none⟩) hgB).trans c0'
          have x1 := (hbB.cell (p := ⟨g, o + k * 3 + 1, none⟩) hgB).trans c1'
          have x2 := (hbB.cell (p := ⟨g, o + k * 3 + 2, none⟩) hgB).trans c2'
          have hdo := op_anyE B b hLb kk nn (.slice a1 b.len cap1) _ lo x R vs1 vo1 ⟨q, s1.st, s1.out⟩ (d + 1) h' fl m' m2 hsvB hb1 hb2 hal hbo h0 n1 n2 n3 hh2 hh3 hmB ⟨hO1.len, hO1.out⟩ (by show q ≤ 2000; omega) hB hx
          have HDO := hidME hdo
          have HFB := hidME hfB
          have HSB := hidME hmB
          have HEV := hidME hev1
          have HD := hidME e2
          have HO1 := hidME hO1
          have HN1 := hidME n1
          have HN4 := hidME n4
          have HN3 := hidME n3
          have HB5 := hidME (And.intro hal hbo)
          have hd3 : wr.cell? ⟨R, 3, none⟩ = some (.int .i64 ((q : Int) + 1)) := by rw [d3, hq]; rfl
          clear hm1 hf1 hO1 hev1 hnd1 hat' e1 e2 e3 hsv n1 n3 n4 hLb hbo hal hb2 hbw hst hmB hfB hsvB hdo d3 hbB c0' c1' c2'
          go_wp2_with fail
          refine HDO.out.mono ?_
          rintro e w3 hr3
          rcases hr3 with ⟨c, hc, hc0, rfl, hb3⟩ | ⟨s3, hc, rfl, vs3, vo3, hm3, hf3⟩
          · have HE : Hid (LResE TR lo x R w vs vo Q (.returned (.int .i64 c)) w3) := .inl ⟨c, by rw [← HQ.out, HEV.out, ev_err (by omega) (by rw [hq]; exact hc)], hc0, rfl, (HM.out.below HFB.out).trans hb3⟩
            have hce : (c == 0) = false := beq_eq_false_iff_ne.2 hc0
            clear hc hc0 hb3
            go_wp2
            go_ret
            exact HE.out
          · have hal := alone_bd HB5.out.1
            have hk3 := stp_keeps (s := ⟨q, s1.st, s1.out⟩) hal.1 hal.2 ⟨HO1.out.len, HO1.out.out⟩ (by have := HN1.out; omega) (fun t t' ht e => by
              cases hb : hasB kk with
              | true => have := ev_keeps x b _ _ _ _ _ _ _ _ (HB5.out.2 hb) HN3.out (by have := HN1.out; omega) ht e; exact ⟨this.1, by omega⟩
              | false =>
                rw [hasB_alone HB5.out.1 hb, ev] at e
                injection e with e
                subst e
                exact ⟨ht, Nat.le_refl _⟩) hc
            have hk4 : s3.fu ≤ q := hk3.2
            have HL : Hid (EK f d TR lo x R w vs vo s h fl m l p (k + 1) w3) := ⟨⟨vs3, vo3, s3, _, m2, ⟨hm3, HFB.out.trans hf3⟩, hk3.1, by omega, by rw [HEV.out, ev_ok (s' := s3) (by omega) (by rw [hq]; exact hc), HD.out], by rw [HD.out]; exact HN4.out, by have := HN1.out; omega, by omega, by omega⟩⟩
            clear hc hm3 hf3 hk3 hal
            go_wp2
            go_roundw
            case rel => exact ⟨k + 1, by omega, by go_num, HL.out⟩
            case measure => simp [intOf]; omega
      · have hlt' : n ≤ k := by omega
        have HE : Hid (LResE TR lo x R w vs vo Q (.returned (.int .i64 0)) wr) := .inr ⟨s1, by rw [← HQ.out, hev1, Fo.drop_all _ _ (by rw [HN.out]; exact hlt')]; rfl, rfl, _, _, hm1, hf1⟩
        clear hm1 hf1 hO1 hev1 hnd1
        go_wp2
        go_ret
        exact HE.out
end Go.Proofs.YtaagllbcmgnbnaaGreatDoor
/- The page's own: Run, MayRun. -/
namespace Go.Proofs.YtaagllbcmgnbnaaGreatDoor
open Go.RowKit
set_option linter.unusedVariables false
set_option maxRecDepth 100000

set_option maxHeartbeats 1000000 in
theorem rRun_any (f : Fo) (v : Value) (w : World) (x : Rc) (q : Nat) (h : FS QA w v f) (hl : f.len ≤ 3518437208780) (hwf : WfB f) (hc : cE f = 0) (hx : x.1.2.size ≤ 64) (hq : q ≤ 2000) :
    Calls Tryz.prog 103 #[v, .agg #[.int .i64 x.1.1, .string x.1.2, .int .i64 x.2], .int .i64 (q : Int)] w fun e w' => RunR w (runR f x (q : Int)) e w' := by
  have hB0 := (Below.refl w.heap.size w).alloc (Nat.le_refl _) (.cells #[.int .i64 x.1.1, .string x.1.2, .int .i64 x.2] 68)
  have Hf := hidME (h.below hB0)
  have Hwf := hidME hwf
  have HB0 := hidME hB0
  have HC := hidME hc
  obtain ⟨a, cap, rfl⟩ := h.val
  obtain ⟨⟨xa, xb⟩, xv⟩ := x
  simp only at hx HB0 Hf hB0
  obtain ⟨W, hW⟩ : ∃ W, w.alloc (.cells #[.int .i64 xa, .string xb, .int .i64 xv] 68) = W := ⟨_, rfl⟩
  have hWs : W.heap.size = w.heap.size + 1 := by rw [← hW]; simp
  obtain ⟨T, hT⟩ : ∃ T, runR f ((xa, xb), xv) (q : Int) = T := ⟨_, rfl⟩
  rw [hT]
  have HT := hidME hT
  obtain ⟨hmay, p, hneed⟩ := cE_zero HC.out
  have hmB : Mach TR W.heap.size ((xa, xb), xv) W.heap.size (W.alloc (.cells #[.int .i64 xa, .string xb, .int .i64 xv, .int .i64 (q : Int), .slice none 0 0, .slice none 0 0] TR)) (.slice none 0 0) (.slice none 0 0) ⟨q, [], []⟩ := ⟨kt_R, Nat.le_refl _, BlkM.new TR W ((xa, xb), xv) q _ _, World.ownsRow_nil _ _ _ _, World.ownsRow_nil _ _ _ _⟩
  rw [hW] at Hf HB0
  have hfB : FS (QB W.heap.size) (W.alloc (.cells #[.int .i64 xa, .string xb, .int .i64 xv, .int .i64 (q : Int), .slice none 0 0, .slice none 0 0] TR)) (.slice a f.len cap) f := (Hf.out.toB).belowB ((Below.refl _ _).alloc (Nat.le_refl _) _)
  have hL := rrun_list W.heap.size f.sz f (Nat.le_refl _) _ _ W.heap.size ((xa, xb), xv) W.heap.size _ _ ⟨q, [], []⟩ 0 0 0 0 0 p hfB hl Hwf.out hmay.1 hneed (by omega) (by omega) (by omega) (by omega) hmB ⟨rfl, by simp⟩ hq (Nat.le_refl _) hx
  have hbA : Below w.heap.size w (W.alloc (.cells #[.int .i64 xa, .string xb, .int .i64 xv, .int .i64 (q : Int), .slice none 0 0, .slice none 0 0] TR)) := HB0.out.alloc (by omega) _
  have HBA := hidME hbA
  have HMB := hidME hmB
  rw [← hW] at hL
  have HL := hidME hL
  have HW := hidME hW
  have HWS := hidME hWs
  clear h hwf hB0 hT hc hL hmB hfB hmay hneed hbA hW hWs Hf HB0
  go_enter Tryz.func103, Tryz.ntmps103
  go_wp2_with fail
  rw [show w.heap.size + 1 = (w.alloc (.cells #[.int .i64 xa, .string xb, .int .i64 xv] 68)).heap.size by simp]
  refine HL.out.mono ?_
  rw [show (w.alloc (.cells #[.int .i64 xa, .string xb, .int .i64 xv] 68)).heap.size = w.heap.size + 1 by simp]
  rintro e w2 hr
  rw [HW.out] at hr
  rcases hr with ⟨c, hq', hc0, rfl, hb3⟩ | ⟨s3, hq', rfl, vs3, vo3, hm3, hf3⟩
  · have hR := runR_3 HC.out hx hq hq'
    rw [HT.out] at hR
    have HE : Hid (RunR w T (.returned (.tuple #[.slice none 0 0, .int .i64 0, .int .i64 c])) w2) := ⟨_, by rw [hR], by rw [hR]; exact World.ownsRow_nil _ _ _ _, HBA.out.trans (hb3.mono (by have := HWS.out; omega))⟩
    have hce : (c == 0) = false := beq_eq_false_iff_ne.2 hc0
    clear hq' hc0 hb3 hR
    go_wp2
    go_ret3
    exact HE.out
  · have hR := runR_4 HC.out hx hq hq'
    rw [HT.out] at hR
    have hb3 := HMB.out.below (by rw [HWS.out]; exact hf3)
    try rw [HWS.out] at hm3
    obtain ⟨⟨_, _, _, d3, _, d5⟩, _⟩ := hm3.blk.cells
    have HE : Hid (RunR w T (.returned (.tuple #[vo3, .int .i64 (s3.fu : Int), .int .i64 0])) (w2.drewN 1)) := ⟨vo3, by rw [hR], by rw [hR]; exact row_lower (w := w2.drewN 1) (hm3.drew 1).out (by omega), below_drewN (HBA.out.trans (hb3.mono (by have := HWS.out; omega))) 1⟩
    obtain ⟨ao, capo, hvo⟩ := row_val hm3.out
    subst hvo
    clear hq' hb3 hR hm3 hf3
    go_wp2
    go_region
    go_wp2
    go_ret3
    exact HE.out
end Go.Proofs.YtaagllbcmgnbnaaGreatDoor
