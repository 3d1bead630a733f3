/- Texts laid together: EROps, ERPop, EROp, EROpB, EROpC. -/
import Derived.Test.YtkmnpaiippgnmabQ5
import Derived.Test.YtkmnpaiippgnmabQ4
import Derived.StillTailTactics
import Derived.Test.YtkmnpaiippgnmabQ6
import Derived.Deep.RegionHeld3
import Derived.Deep.AppendLies
/- The page's own: truth, divide, binary: what each answers, for all numbers. -/
namespace Go.Proofs.Ytkmnpaiippgnmab
open Go.RowKit
set_option linter.unusedVariables false
set_option maxRecDepth 100000

theorem hidP {p : Prop} (h : p) : Hid p := h
theorem truth_any (b : Bool) (w : World) : Calls Try.prog 43 #[.bool b] w fun e w' => e = .returned (.int .i64 (tru b)) ∧ w' = w := by
  cases b
  all_goals
    go_enter Try.func43, Try.ntmps43
    go_wp2
    go_ret
    exact ⟨rfl, rfl⟩
theorem minus_one (n : Int) : wrap64 (IntKind.u64.wrap (18446744073709551615 - IntKind.u64.wrap n + 1)) = wrap64 (n.tdiv (-1)) := by
  rw [Int.tdiv_neg, Int.tdiv_one]
  unfold wrap64
  rw [IntKind.wrap_u64, IntKind.wrap_u64]
  omega
def dvE (z y : Int) (w : World) (e : Ending) (w' : World) : Prop := e = .returned (.tuple #[.int .i64 z, .int .i64 y]) ∧ ∃ q, w' = w.drewN q
theorem rdivide_any (n m : Int) (w : World) : Calls Try.prog 52 #[.int .i64 n, .int .i64 m] w fun e w' => dvE (of2 8 n m) (of2 9 n m) w e w' := by
  rw [show of2 8 n m = (if m = 0 then 0 else wrap64 (n.tdiv m)) from rfl, show of2 9 n m = (if m = 0 then 0 else n.tmod m) from rfl]
  by_cases h : m = 0
  · subst h
    simp only [if_true]
    go_enter Try.func52, Try.ntmps52
    go_wp2
    go_ret2
    exact ⟨rfl, 0, rfl⟩
  · rw [if_neg h, if_neg h]
    have hne : (m == 0) = false := beq_eq_false_iff_ne.2 h
    by_cases h1 : m = -1
    · subst h1
      have hx := not_u64 (IntKind.u64.wrap n) (by rw [IntKind.wrap_u64]; omega) (by rw [IntKind.wrap_u64]; omega)
      have H : Hid (wrap64 (IntKind.u64.wrap (18446744073709551615 - IntKind.u64.wrap n + 1)) = wrap64 (n.tdiv (-1))) := minus_one n
      have H2 : Hid (n.tmod (-1) = 0) := by unfold Hid; rw [Int.tmod_neg, Int.tmod_one]
      obtain ⟨z, hz⟩ : ∃ z, wrap64 (n.tdiv (-1)) = z := ⟨_, rfl⟩
      obtain ⟨y, hy⟩ : ∃ y, n.tmod (-1) = y := ⟨_, rfl⟩
      rw [hz] at H ⊢
      rw [hy] at H2 ⊢
      clear h hz hy hne
      go_enter Try.func52, Try.ntmps52
      go_wp2
      go_ret2
      refine ⟨?_, 0, rfl⟩
      rw [H2.out, ← H.out]
      rfl
    · have hne1 : (m == -1) = false := beq_eq_false_iff_ne.2 h1
      clear h1
      go_enter Try.func52, Try.ntmps52
      go_wp2
      go_region
      go_wp2
      go_ret2
      exact ⟨rfl, 1, rfl⟩
theorem binary_5 (n m : Int) (w : World) : Calls Try.prog 42 #[.int .i64 5, .int .i64 n, .int .i64 m] w fun e w' => e = .returned (.int .i64 (of2 5 n m)) ∧ ∃ q, w' = w.drewN q := by
  have Hd := hidP (rdivide_any n m w)
  obtain ⟨z8, h8⟩ : ∃ z, of2 8 n m = z := ⟨_, rfl⟩
  obtain ⟨z9, h9⟩ : ∃ z, of2 9 n m = z := ⟨_, rfl⟩
  rw [h8, h9] at Hd
  skip
  clear h8 h9
  rw [show of2 5 n m = wrap64 (n + m) from rfl]
  go_enter Try.func42, Try.ntmps42
  go_wp2_with fail
  refine Hd.out.mono ?_
  rintro e w1 ⟨rfl, q, rfl⟩
  clear Hd
  obtain ⟨W, hW⟩ : ∃ W, w.drewN q = W := ⟨_, rfl⟩
  rw [hW]
  have HW := hidP hW
  clear hW
  go_wp2
  go_ret
  exact ⟨rfl, q, HW.out.symm⟩
theorem binary_6 (n m : Int) (w : World) : Calls Try.prog 42 #[.int .i64 6, .int .i64 n, .int .i64 m] w fun e w' => e = .returned (.int .i64 (of2 6 n m)) ∧ ∃ q, w' = w.drewN q := by
  have Hd := hidP (rdivide_any n m w)
  obtain ⟨z8, h8⟩ : ∃ z, of2 8 n m = z := ⟨_, rfl⟩
  obtain ⟨z9, h9⟩ : ∃ z, of2 9 n m = z := ⟨_, rfl⟩
  rw [h8, h9] at Hd
  skip
  clear h8 h9
  rw [show of2 6 n m = wrap64 (n - m) from rfl]
  go_enter Try.func42, Try.ntmps42
  go_wp2_with fail
  refine Hd.out.mono ?_
  rintro e w1 ⟨rfl, q, rfl⟩
  clear Hd
  obtain ⟨W, hW⟩ : ∃ W, w.drewN q = W := ⟨_, rfl⟩
  rw [hW]
  have HW := hidP hW
  clear hW
  go_wp2
  go_ret
  exact ⟨rfl, q, HW.out.symm⟩
theorem binary_7 (n m : Int) (w : World) : Calls Try.prog 42 #[.int .i64 7, .int .i64 n, .int .i64 m] w fun e w' => e = .returned (.int .i64 (of2 7 n m)) ∧ ∃ q, w' = w.drewN q := by
  have Hd := hidP (rdivide_any n m w)
  obtain ⟨z8, h8⟩ : ∃ z, of2 8 n m = z := ⟨_, rfl⟩
  obtain ⟨z9, h9⟩ : ∃ z, of2 9 n m = z := ⟨_, rfl⟩
  rw [h8, h9] at Hd
  skip
  clear h8 h9
  rw [show of2 7 n m = wrap64 (n * m) from rfl]
  go_enter Try.func42, Try.ntmps42
  go_wp2_with fail
  refine Hd.out.mono ?_
  rintro e w1 ⟨rfl, q, rfl⟩
  clear Hd
  obtain ⟨W, hW⟩ : ∃ W, w.drewN q = W := ⟨_, rfl⟩
  rw [hW]
  have HW := hidP hW
  clear hW
  go_wp2
  go_ret
  exact ⟨rfl, q, HW.out.symm⟩
theorem binary_8 (n m : Int) (w : World) : Calls Try.prog 42 #[.int .i64 8, .int .i64 n, .int .i64 m] w fun e w' => e = .returned (.int .i64 (of2 8 n m)) ∧ ∃ q, w' = w.drewN q := by
  have Hd := hidP (rdivide_any n m w)
  obtain ⟨z8, h8⟩ : ∃ z, of2 8 n m = z := ⟨_, rfl⟩
  obtain ⟨z9, h9⟩ : ∃ z, of2 9 n m = z := ⟨_, rfl⟩
  rw [h8, h9] at Hd
  rw [h8]
  clear h8 h9
  go_enter Try.func42, Try.ntmps42
  go_wp2_with fail
  refine Hd.out.mono ?_
  rintro e w1 ⟨rfl, q, rfl⟩
  clear Hd
  obtain ⟨W, hW⟩ : ∃ W, w.drewN q = W := ⟨_, rfl⟩
  rw [hW]
  have HW := hidP hW
  clear hW
  go_wp2
  go_ret
  exact ⟨rfl, q, HW.out.symm⟩
theorem binary_9 (n m : Int) (w : World) : Calls Try.prog 42 #[.int .i64 9, .int .i64 n, .int .i64 m] w fun e w' => e = .returned (.int .i64 (of2 9 n m)) ∧ ∃ q, w' = w.drewN q := by
  have Hd := hidP (rdivide_any n m w)
  obtain ⟨z8, h8⟩ : ∃ z, of2 8 n m = z := ⟨_, rfl⟩
  obtain ⟨z9, h9⟩ : ∃ z, of2 9 n m = z := ⟨_, rfl⟩
  rw [h8, h9] at Hd
  rw [h9]
  clear h8 h9
  go_enter Try.func42, Try.ntmps42
  go_wp2_with fail
  refine Hd.out.mono ?_
  rintro e w1 ⟨rfl, q, rfl⟩
  clear Hd
  obtain ⟨W, hW⟩ : ∃ W, w.drewN q = W := ⟨_, rfl⟩
  rw [hW]
  have HW := hidP hW
  clear hW
  go_wp2
  go_ret
  exact ⟨rfl, q, HW.out.symm⟩
theorem binary_10 (n m : Int) (w : World) : Calls Try.prog 42 #[.int .i64 10, .int .i64 n, .int .i64 m] w fun e w' => e = .returned (.int .i64 (of2 10 n m)) ∧ ∃ q, w' = w.drewN q := by
  have Hd := hidP (rdivide_any n m w)
  obtain ⟨z8, h8⟩ : ∃ z, of2 8 n m = z := ⟨_, rfl⟩
  obtain ⟨z9, h9⟩ : ∃ z, of2 9 n m = z := ⟨_, rfl⟩
  rw [h8, h9] at Hd
  skip
  clear h8 h9
  rw [show of2 10 n m = bits .and .i64 n m from rfl]
  go_enter Try.func42, Try.ntmps42
  go_wp2_with fail
  refine Hd.out.mono ?_
  rintro e w1 ⟨rfl, q, rfl⟩
  clear Hd
  obtain ⟨W, hW⟩ : ∃ W, w.drewN q = W := ⟨_, rfl⟩
  rw [hW]
  have HW := hidP hW
  clear hW
  go_wp2
  go_ret
  exact ⟨rfl, q, HW.out.symm⟩
theorem binary_11 (n m : Int) (w : World) : Calls Try.prog 42 #[.int .i64 11, .int .i64 n, .int .i64 m] w fun e w' => e = .returned (.int .i64 (of2 11 n m)) ∧ ∃ q, w' = w.drewN q := by
  have Hd := hidP (rdivide_any n m w)
  obtain ⟨z8, h8⟩ : ∃ z, of2 8 n m = z := ⟨_, rfl⟩
  obtain ⟨z9, h9⟩ : ∃ z, of2 9 n m = z := ⟨_, rfl⟩
  rw [h8, h9] at Hd
  skip
  clear h8 h9
  rw [show of2 11 n m = bits .or .i64 n m from rfl]
  go_enter Try.func42, Try.ntmps42
  go_wp2_with fail
  refine Hd.out.mono ?_
  rintro e w1 ⟨rfl, q, rfl⟩
  clear Hd
  obtain ⟨W, hW⟩ : ∃ W, w.drewN q = W := ⟨_, rfl⟩
  rw [hW]
  have HW := hidP hW
  clear hW
  go_wp2
  go_ret
  exact ⟨rfl, q, HW.out.symm⟩
theorem binary_12 (n m : Int) (w : World) : Calls Try.prog 42 #[.int .i64 12, .int .i64 n, .int .i64 m] w fun e w' => e = .returned (.int .i64 (of2 12 n m)) ∧ ∃ q, w' = w.drewN q := by
  have Hd := hidP (rdivide_any n m w)
  obtain ⟨z8, h8⟩ : ∃ z, of2 8 n m = z := ⟨_, rfl⟩
  obtain ⟨z9, h9⟩ : ∃ z, of2 9 n m = z := ⟨_, rfl⟩
  rw [h8, h9] at Hd
  skip
  clear h8 h9
  rw [show of2 12 n m = bits .xor .i64 n m from rfl]
  go_enter Try.func42, Try.ntmps42
  go_wp2_with fail
  refine Hd.out.mono ?_
  rintro e w1 ⟨rfl, q, rfl⟩
  clear Hd
  obtain ⟨W, hW⟩ : ∃ W, w.drewN q = W := ⟨_, rfl⟩
  rw [hW]
  have HW := hidP hW
  clear hW
  go_wp2
  go_ret
  exact ⟨rfl, q, HW.out.symm⟩
theorem binary_13 (n m : Int) (w : World) : Calls Try.prog 42 #[.int .i64 13, .int .i64 n, .int .i64 m] w fun e w' => e = .returned (.int .i64 (of2 13 n m)) ∧ ∃ q, w' = w.drewN q := by
  have Hd := hidP (rdivide_any n m w)
  obtain ⟨z8, h8⟩ : ∃ z, of2 8 n m = z := ⟨_, rfl⟩
  obtain ⟨z9, h9⟩ : ∃ z, of2 9 n m = z := ⟨_, rfl⟩
  rw [h8, h9] at Hd
  skip
  clear h8 h9
  rw [show of2 13 n m = shL n (m % 64).toNat from rfl]
  go_enter Try.func42, Try.ntmps42
  go_wp2_with fail
  refine Hd.out.mono ?_
  rintro e w1 ⟨rfl, q, rfl⟩
  clear Hd
  obtain ⟨W, hW⟩ : ∃ W, w.drewN q = W := ⟨_, rfl⟩
  rw [hW]
  have HW := hidP hW
  clear hW
  go_wp2_with (go_at_call 53; refine (rshift_0 _ _ _).mono ?_; rintro e w' ⟨rfl, rfl⟩)
  go_ret
  exact ⟨rfl, q, HW.out.symm⟩
theorem binary_14 (n m : Int) (w : World) : Calls Try.prog 42 #[.int .i64 14, .int .i64 n, .int .i64 m] w fun e w' => e = .returned (.int .i64 (of2 14 n m)) ∧ ∃ q, w' = w.drewN q := by
  have Hd := hidP (rdivide_any n m w)
  obtain ⟨z8, h8⟩ : ∃ z, of2 8 n m = z := ⟨_, rfl⟩
  obtain ⟨z9, h9⟩ : ∃ z, of2 9 n m = z := ⟨_, rfl⟩
  rw [h8, h9] at Hd
  skip
  clear h8 h9
  rw [show of2 14 n m = shR n (m % 64).toNat from rfl]
  go_enter Try.func42, Try.ntmps42
  go_wp2_with fail
  refine Hd.out.mono ?_
  rintro e w1 ⟨rfl, q, rfl⟩
  clear Hd
  obtain ⟨W, hW⟩ : ∃ W, w.drewN q = W := ⟨_, rfl⟩
  rw [hW]
  have HW := hidP hW
  clear hW
  go_wp2_with (go_at_call 53; refine (rshift_1 _ _ _).mono ?_; rintro e w' ⟨rfl, rfl⟩)
  go_ret
  exact ⟨rfl, q, HW.out.symm⟩
theorem binary_15 (n m : Int) (w : World) : Calls Try.prog 42 #[.int .i64 15, .int .i64 n, .int .i64 m] w fun e w' => e = .returned (.int .i64 (of2 15 n m)) ∧ ∃ q, w' = w.drewN q := by
  have Hd := hidP (rdivide_any n m w)
  obtain ⟨z8, h8⟩ : ∃ z, of2 8 n m = z := ⟨_, rfl⟩
  obtain ⟨z9, h9⟩ : ∃ z, of2 9 n m = z := ⟨_, rfl⟩
  rw [h8, h9] at Hd
  skip
  clear h8 h9
  rw [show of2 15 n m = shP n (m % 64).toNat from rfl]
  go_enter Try.func42, Try.ntmps42
  go_wp2_with fail
  refine Hd.out.mono ?_
  rintro e w1 ⟨rfl, q, rfl⟩
  clear Hd
  obtain ⟨W, hW⟩ : ∃ W, w.drewN q = W := ⟨_, rfl⟩
  rw [hW]
  have HW := hidP hW
  clear hW
  go_wp2_with (go_at_call 53; refine (rshift_2 _ _ _).mono ?_; rintro e w' ⟨rfl, rfl⟩)
  go_ret
  exact ⟨rfl, q, HW.out.symm⟩
theorem binary_16 (n m : Int) (w : World) : Calls Try.prog 42 #[.int .i64 16, .int .i64 n, .int .i64 m] w fun e w' => e = .returned (.int .i64 (of2 16 n m)) ∧ ∃ q, w' = w.drewN q := by
  have Hd := hidP (rdivide_any n m w)
  obtain ⟨z8, h8⟩ : ∃ z, of2 8 n m = z := ⟨_, rfl⟩
  obtain ⟨z9, h9⟩ : ∃ z, of2 9 n m = z := ⟨_, rfl⟩
  rw [h8, h9] at Hd
  skip
  clear h8 h9
  rw [show of2 16 n m = tru (decide (n < m)) from rfl]
  go_enter Try.func42, Try.ntmps42
  go_wp2_with fail
  refine Hd.out.mono ?_
  rintro e w1 ⟨rfl, q, rfl⟩
  clear Hd
  obtain ⟨W, hW⟩ : ∃ W, w.drewN q = W := ⟨_, rfl⟩
  rw [hW]
  have HW := hidP hW
  clear hW
  go_wp2_with (go_at_call 43; refine (truth_any _ _).mono ?_; rintro e w' ⟨rfl, rfl⟩)
  go_ret
  exact ⟨rfl, q, HW.out.symm⟩
theorem binary_17 (n m : Int) (w : World) : Calls Try.prog 42 #[.int .i64 17, .int .i64 n, .int .i64 m] w fun e w' => e = .returned (.int .i64 (of2 17 n m)) ∧ ∃ q, w' = w.drewN q := by
  have Hd := hidP (rdivide_any n m w)
  obtain ⟨z8, h8⟩ : ∃ z, of2 8 n m = z := ⟨_, rfl⟩
  obtain ⟨z9, h9⟩ : ∃ z, of2 9 n m = z := ⟨_, rfl⟩
  rw [h8, h9] at Hd
  skip
  clear h8 h9
  rw [show of2 17 n m = tru (n == m) from rfl]
  go_enter Try.func42, Try.ntmps42
  go_wp2_with fail
  refine Hd.out.mono ?_
  rintro e w1 ⟨rfl, q, rfl⟩
  clear Hd
  obtain ⟨W, hW⟩ : ∃ W, w.drewN q = W := ⟨_, rfl⟩
  rw [hW]
  have HW := hidP hW
  clear hW
  go_wp2_with (go_at_call 43; refine (truth_any _ _).mono ?_; rintro e w' ⟨rfl, rfl⟩)
  go_ret
  exact ⟨rfl, q, HW.out.symm⟩
theorem binary_any (k n m : Int) (w : World) (h5 : 5 ≤ k) (h17 : k ≤ 17) : Calls Try.prog 42 #[.int .i64 k, .int .i64 n, .int .i64 m] w fun e w' => e = .returned (.int .i64 (of2 k n m)) ∧ ∃ q, w' = w.drewN q := by
  have hk : k = 5 ∨ k = 6 ∨ k = 7 ∨ k = 8 ∨ k = 9 ∨ k = 10 ∨ k = 11 ∨ k = 12 ∨ k = 13 ∨ k = 14 ∨ k = 15 ∨ k = 16 ∨ k = 17 := by omega
  rcases hk with rfl | rfl | rfl | rfl | rfl | rfl | rfl | rfl | rfl | rfl | rfl | rfl | rfl
  · exact binary_5 n m w
  · exact binary_6 n m w
  · exact binary_7 n m w
  · exact binary_8 n m w
  · exact binary_9 n m w
  · exact binary_10 n m w
  · exact binary_11 n m w
  · exact binary_12 n m w
  · exact binary_13 n m w
  · exact binary_14 n m w
  · exact binary_15 n m w
  · exact binary_16 n m w
  · exact binary_17 n m w
theorem rcut_any (k n : Int) (w : World) (h19 : 19 ≤ k) (h24 : k ≤ 24) (bt : Int) (sg : Bool) (hb : bt = 8 * 2 ^ ((k - 19) % 3).toNat) (hs : sg = decide (22 ≤ k)) : Calls Try.prog 44 #[.int .i64 n, .int .i64 bt, .bool sg] w fun e w' => e = .returned (.int .i64 (of1 k n)) ∧ w' = w := by
  have hk : k = 19 ∨ k = 20 ∨ k = 21 ∨ k = 22 ∨ k = 23 ∨ k = 24 := by omega
  subst hb hs
  rcases hk with rfl | rfl | rfl | rfl | rfl | rfl
  · exact rcut_8f n w
  · exact rcut_16f n w
  · exact rcut_32f n w
  · exact rcut_8t n w
  · exact rcut_16t n w
  · exact rcut_32t n w
end Go.Proofs.Ytkmnpaiippgnmab
/- The page's own: pop; one op at work. -/
namespace Go.Proofs.Ytkmnpaiippgnmab
open Go.RowKit
set_option linter.unusedVariables false
set_option maxRecDepth 100000

abbrev TR : TypeId := 64
theorem kt_R : Kt TR := by unfold Kt; decide
section
variable {lo : Nat} {x : Rc} {R : Nat} {w : World} {vs vo : Value} {s : St}
theorem pop_any {a : Int} {r : List Int} (h : Mach TR lo x R w vs vo s) (hs : s.st = a :: r) :
    Calls Try.prog 41 #[.pointer (some ⟨R, 0, none⟩)] w fun e w' => e = .returned (.int .i64 a) ∧ MR TR lo x R w vs vo w' ⟨s.fu, r, s.out⟩ := by
  obtain ⟨g, cap, rfl, ⟨hcap, hcm⟩, hc, hm⟩ := h.last hs
  obtain ⟨⟨c0, c1, c2, c3, c4, c5⟩, z3, z4, z5⟩ := h.blk.cells
  have HR : Hid (MR TR lo x R w (.slice (some ⟨g, 0, none⟩) (r.length + 1) cap) vo (w.setCell ⟨R, 4, none⟩ (.slice (some ⟨g, 0, none⟩) r.length cap)) ⟨s.fu, r, s.out⟩) := ⟨_, _, hm⟩
  obtain ⟨n, hn⟩ : ∃ n, r.length = n := ⟨_, rfl⟩
  rw [hn] at hcap hc c4 HR
  clear h hm hs
  rw [hn]
  unfold maxLen at hcm
  clear hn
  go_enter Try.func41, Try.ntmps41
  go_wp2
  go_ret
  exact ⟨rfl, HR.out⟩
/-- One number more: what is known of the row before, and behind. -/
theorem push_row {W : World} (z : Int) (h : Mach TR lo x R W vs vo s) : (W.alloc (.cells #[.int .i64 z] 2)).ownsRow lo 2 1 vs s.st.length (nums s.st) ∧ lo ≤ W.heap.size + 1 ∧ ∀ H, W.heap.size = H → ∀ j u, [Value.int .i64 z][j]? = some u → (W.alloc (.cells #[.int .i64 z] 2)).cell? ((⟨H, 0, none⟩ : Addr).add j) = some u := by
  refine ⟨(h.alloc _).st, by have := h.lw; have := h.blk.lt; omega, fun H hH => ?_⟩
  subst hH
  exact cell_one_new _ _ _
theorem push_done {W w2 : World} {z : Int} {v2 : Value} (h : Mach TR lo x R W vs vo s) (hown : w2.ownsRow lo 2 1 v2 (s.st.length + 1) (nums s.st ++ [.int .i64 z])) (hg : (W.alloc (.cells #[.int .i64 z] 2)).grownBy w2 vs.ownBlock) (hat : v2.ownBlock = vs.ownBlock ∨ v2.ownBlock = some (W.heap.size + 1)) :
    (w2.cell? ⟨R, 4, none⟩ = some vs ∧ w2.frozen? ⟨R, 4, none⟩ = false) ∧ Mach TR lo x R (w2.setCell ⟨R, 4, none⟩ v2) v2 vo ⟨s.fu, z :: s.st, s.out⟩ ∧ Fr R W vs vo (w2.setCell ⟨R, 4, none⟩ v2) v2 vo := by
  have h2 := h.alloc (.cells #[.int .i64 z] 2)
  have hr := h2.row4 (l := z :: s.st) (by rw [nums_cons]; exact hown) hg (by simpa using hat)
  have hb2 : BlkM TR w2 R x s.fu vs vo := h2.blk.keep (hg.block R h2.blk.lt (not_row h2.st h2.blk h2.ty.1))
  obtain ⟨⟨_, _, _, _, d4, _⟩, _, y4, _⟩ := hb2.cells
  exact ⟨⟨d4, y4⟩, hr.1, ((Fr.refl _ _ _ _).alloc _).trans hr.2⟩
end
end Go.Proofs.Ytkmnpaiippgnmab
/- The page's own: one op at work. -/
namespace Go.Proofs.Ytkmnpaiippgnmab
open Go.RowKit
set_option linter.unusedVariables false
set_option maxRecDepth 100000

section
variable {lo : Nat} {x : Rc} {R : Nat} {w : World} {vs vo : Value} {s : St}
set_option maxHeartbeats 1000000 in
theorem opg_1 (n : Int) (v : Value) (h : Mach TR lo x R w vs vo s)  (hl : s.st.length ≤ 50) :
    Calls Try.prog 30 #[.pointer (some ⟨R, 0, none⟩), .agg #[.int .i64 1, .int .i64 n, v]] w fun e w' => e = .returned (.int .i64 0) ∧ MR TR lo x R w vs vo w' ⟨s.fu, n :: s.st, s.out⟩ := by
  obtain ⟨i0, hi, hz0, hz1, hz2⟩ := info_parts Try.info2
  have h0 := h.alloc (.cells #[.int .i64 1, .int .i64 n, v] 33)
  have HF0 : Hid (Fr R w vs vo (w.alloc (.cells #[.int .i64 1, .int .i64 n, v] 33)) vs vo) := (Fr.refl _ _ _ _).alloc _
  have HM0 := hidM h0
  have HX0 := hidM (BlkO.new w 1 n v)
  obtain ⟨⟨c0, c1, c2, c3, _, c5⟩, _⟩ := h0.blk.cells
  have hRl := h.blk.lt
  obtain ⟨fu, st, out⟩ := s
  simp only at *
  obtain ⟨ho1, hbs1, hnw1⟩ := push_row n HM0.out
  have hsz1 := hnw1 (w.heap.size + 1) (by simp)
  clear hnw1
  obtain ⟨a1, cap1, rfl⟩ := row_val HM0.out.st
  obtain ⟨⟨_, _, _, _, c4, _⟩, _, z4, _⟩ := HM0.out.blk.cells
  simp only at c4 ho1
  have hnl1 : st.length + 1 ≤ maxLen := by unfold maxLen; omega
  have hnb1 : (st.length + 1) * 8 ≤ 140737488355328 := by omega
  clear h h0
  go_enter Try.func30, Try.ntmps30
  go_wp2_with (at_builtin; refine wpList_append_own_at _ rfl _ _ 50 rfl lo 2 i0 _ 1 8 Try.underlying50 hi hz0 hz1 hz2 rfl (by decide) (.slice a1 (st).length cap1) (st).length (nums (st)) rfl ho1 ⟨w.heap.size + 1, 0, none⟩ 1 1 [.int .i64 n] rfl rfl hsz1 (one_int _) hnl1 hnb1 (by simpa using hbs1) ?_)
  intro v2 W1 hown2 hgrow2 hnil2 hat2
  obtain ⟨g2, cap2, rfl⟩ := row_succ hown2
  obtain ⟨⟨d4, y4⟩, hm1, hf1⟩ := push_done HM0.out hown2 hgrow2 (by simpa using hat2)
  have HM1 := hidM hm1
  have HF1 := hidM (HF0.out.trans hf1)
  clear hown2 hgrow2 hnil2 hat2 ho1 hbs1 hsz1 hm1 hf1 c4 z4
  have HR : Hid (MR TR lo x R w _ vo _ _) := ⟨_, _, HM1.out, HF1.out⟩
  go_wp2
  go_ret
  exact ⟨rfl, HR.out⟩
set_option maxHeartbeats 1000000 in
theorem opg_2 (n : Int) (v : Value) (h : Mach TR lo x R w vs vo s)  (hl : s.st.length ≤ 50) :
    Calls Try.prog 30 #[.pointer (some ⟨R, 0, none⟩), .agg #[.int .i64 2, .int .i64 n, v]] w fun e w' => e = .returned (.int .i64 0) ∧ MR TR lo x R w vs vo w' ⟨s.fu, x.1.1 :: s.st, s.out⟩ := by
  obtain ⟨i0, hi, hz0, hz1, hz2⟩ := info_parts Try.info2
  have h0 := h.alloc (.cells #[.int .i64 2, .int .i64 n, v] 33)
  have HF0 : Hid (Fr R w vs vo (w.alloc (.cells #[.int .i64 2, .int .i64 n, v] 33)) vs vo) := (Fr.refl _ _ _ _).alloc _
  have HM0 := hidM h0
  have HX0 := hidM (BlkO.new w 2 n v)
  obtain ⟨⟨c0, c1, c2, c3, _, c5⟩, _⟩ := h0.blk.cells
  have hRl := h.blk.lt
  obtain ⟨fu, st, out⟩ := s
  simp only at *
  obtain ⟨ho1, hbs1, hnw1⟩ := push_row x.1.1 HM0.out
  have hsz1 := hnw1 (w.heap.size + 1) (by simp)
  clear hnw1
  obtain ⟨a1, cap1, rfl⟩ := row_val HM0.out.st
  obtain ⟨⟨_, _, _, _, c4, _⟩, _, z4, _⟩ := HM0.out.blk.cells
  simp only at c4 ho1
  have hnl1 : st.length + 1 ≤ maxLen := by unfold maxLen; omega
  have hnb1 : (st.length + 1) * 8 ≤ 140737488355328 := by omega
  clear h h0
  go_enter Try.func30, Try.ntmps30
  go_wp2_with (at_builtin; refine wpList_append_own_at _ rfl _ _ 50 rfl lo 2 i0 _ 1 8 Try.underlying50 hi hz0 hz1 hz2 rfl (by decide) (.slice a1 (st).length cap1) (st).length (nums (st)) rfl ho1 ⟨w.heap.size + 1, 0, none⟩ 1 1 [.int .i64 x.1.1] rfl rfl hsz1 (one_int _) hnl1 hnb1 (by simpa using hbs1) ?_)
  intro v2 W1 hown2 hgrow2 hnil2 hat2
  obtain ⟨g2, cap2, rfl⟩ := row_succ hown2
  obtain ⟨⟨d4, y4⟩, hm1, hf1⟩ := push_done HM0.out hown2 hgrow2 (by simpa using hat2)
  have HM1 := hidM hm1
  have HF1 := hidM (HF0.out.trans hf1)
  clear hown2 hgrow2 hnil2 hat2 ho1 hbs1 hsz1 hm1 hf1 c4 z4
  have HR : Hid (MR TR lo x R w _ vo _ _) := ⟨_, _, HM1.out, HF1.out⟩
  go_wp2
  go_ret
  exact ⟨rfl, HR.out⟩
set_option maxHeartbeats 1000000 in
theorem opg_3 (n : Int) (v : Value) (h : Mach TR lo x R w vs vo s) (hx : x.1.2.size ≤ 64) (hl : s.st.length ≤ 50) :
    Calls Try.prog 30 #[.pointer (some ⟨R, 0, none⟩), .agg #[.int .i64 3, .int .i64 n, v]] w fun e w' => e = .returned (.int .i64 0) ∧ MR TR lo x R w vs vo w' ⟨s.fu, (x.1.2.size : Int) :: s.st, s.out⟩ := by
  obtain ⟨i0, hi, hz0, hz1, hz2⟩ := info_parts Try.info2
  have h0 := h.alloc (.cells #[.int .i64 3, .int .i64 n, v] 33)
  have HF0 : Hid (Fr R w vs vo (w.alloc (.cells #[.int .i64 3, .int .i64 n, v] 33)) vs vo) := (Fr.refl _ _ _ _).alloc _
  have HM0 := hidM h0
  have HX0 := hidM (BlkO.new w 3 n v)
  obtain ⟨⟨c0, c1, c2, c3, _, c5⟩, _⟩ := h0.blk.cells
  have hRl := h.blk.lt
  obtain ⟨fu, st, out⟩ := s
  simp only at *
  obtain ⟨ho1, hbs1, hnw1⟩ := push_row (x.1.2.size : Int) HM0.out
  have hsz1 := hnw1 (w.heap.size + 1) (by simp)
  clear hnw1
  obtain ⟨a1, cap1, rfl⟩ := row_val HM0.out.st
  obtain ⟨⟨_, _, _, _, c4, _⟩, _, z4, _⟩ := HM0.out.blk.cells
  simp only at c4 ho1
  have hnl1 : st.length + 1 ≤ maxLen := by unfold maxLen; omega
  have hnb1 : (st.length + 1) * 8 ≤ 140737488355328 := by omega
  clear h h0
  go_enter Try.func30, Try.ntmps30
  go_wp2_with (at_builtin; refine wpList_append_own_at _ rfl _ _ 50 rfl lo 2 i0 _ 1 8 Try.underlying50 hi hz0 hz1 hz2 rfl (by decide) (.slice a1 (st).length cap1) (st).length (nums (st)) rfl ho1 ⟨w.heap.size + 1, 0, none⟩ 1 1 [.int .i64 (x.1.2.size : Int)] rfl rfl hsz1 (one_int _) hnl1 hnb1 (by simpa using hbs1) ?_)
  intro v2 W1 hown2 hgrow2 hnil2 hat2
  obtain ⟨g2, cap2, rfl⟩ := row_succ hown2
  obtain ⟨⟨d4, y4⟩, hm1, hf1⟩ := push_done HM0.out hown2 hgrow2 (by simpa using hat2)
  have HM1 := hidM hm1
  have HF1 := hidM (HF0.out.trans hf1)
  clear hown2 hgrow2 hnil2 hat2 ho1 hbs1 hsz1 hm1 hf1 c4 z4
  have HR : Hid (MR TR lo x R w _ vo _ _) := ⟨_, _, HM1.out, HF1.out⟩
  go_wp2
  go_ret
  exact ⟨rfl, HR.out⟩
set_option maxHeartbeats 1000000 in
theorem opg_4 (n : Int) (v : Value) (h : Mach TR lo x R w vs vo s)  (hl : s.st.length ≤ 50) :
    Calls Try.prog 30 #[.pointer (some ⟨R, 0, none⟩), .agg #[.int .i64 4, .int .i64 n, v]] w fun e w' => e = .returned (.int .i64 0) ∧ MR TR lo x R w vs vo w' ⟨s.fu, x.2 :: s.st, s.out⟩ := by
  obtain ⟨i0, hi, hz0, hz1, hz2⟩ := info_parts Try.info2
  have h0 := h.alloc (.cells #[.int .i64 4, .int .i64 n, v] 33)
  have HF0 : Hid (Fr R w vs vo (w.alloc (.cells #[.int .i64 4, .int .i64 n, v] 33)) vs vo) := (Fr.refl _ _ _ _).alloc _
  have HM0 := hidM h0
  have HX0 := hidM (BlkO.new w 4 n v)
  obtain ⟨⟨c0, c1, c2, c3, _, c5⟩, _⟩ := h0.blk.cells
  have hRl := h.blk.lt
  obtain ⟨fu, st, out⟩ := s
  simp only at *
  obtain ⟨ho1, hbs1, hnw1⟩ := push_row x.2 HM0.out
  have hsz1 := hnw1 (w.heap.size + 1) (by simp)
  clear hnw1
  obtain ⟨a1, cap1, rfl⟩ := row_val HM0.out.st
  obtain ⟨⟨_, _, _, _, c4, _⟩, _, z4, _⟩ := HM0.out.blk.cells
  simp only at c4 ho1
  have hnl1 : st.length + 1 ≤ maxLen := by unfold maxLen; omega
  have hnb1 : (st.length + 1) * 8 ≤ 140737488355328 := by omega
  clear h h0
  go_enter Try.func30, Try.ntmps30
  go_wp2_with (at_builtin; refine wpList_append_own_at _ rfl _ _ 50 rfl lo 2 i0 _ 1 8 Try.underlying50 hi hz0 hz1 hz2 rfl (by decide) (.slice a1 (st).length cap1) (st).length (nums (st)) rfl ho1 ⟨w.heap.size + 1, 0, none⟩ 1 1 [.int .i64 x.2] rfl rfl hsz1 (one_int _) hnl1 hnb1 (by simpa using hbs1) ?_)
  intro v2 W1 hown2 hgrow2 hnil2 hat2
  obtain ⟨g2, cap2, rfl⟩ := row_succ hown2
  obtain ⟨⟨d4, y4⟩, hm1, hf1⟩ := push_done HM0.out hown2 hgrow2 (by simpa using hat2)
  have HM1 := hidM hm1
  have HF1 := hidM (HF0.out.trans hf1)
  clear hown2 hgrow2 hnil2 hat2 ho1 hbs1 hsz1 hm1 hf1 c4 z4
  have HR : Hid (MR TR lo x R w _ vo _ _) := ⟨_, _, HM1.out, HF1.out⟩
  go_wp2
  go_ret
  exact ⟨rfl, HR.out⟩
end
end Go.Proofs.Ytkmnpaiippgnmab
/- The page's own: one op at work (two numbers). -/
namespace Go.Proofs.Ytkmnpaiippgnmab
open Go.RowKit
set_option linter.unusedVariables false
set_option maxRecDepth 100000

section
variable {lo : Nat} {x : Rc} {R : Nat} {w : World} {vs vo : Value} {s : St}
set_option maxHeartbeats 1000000 in
theorem op_b (k : Int) (n : Int) (v : Value) (h : Mach TR lo x R w vs vo s) {a b : Int} {r : List Int} (h5 : 5 ≤ k) (h17 : k ≤ 17) (hs : s.st = a :: b :: r) (hl : s.st.length ≤ 50) :
    Calls Try.prog 30 #[.pointer (some ⟨R, 0, none⟩), .agg #[.int .i64 k, .int .i64 n, v]] w fun e w' => e = .returned (.int .i64 0) ∧ MR TR lo x R w vs vo w' ⟨s.fu, of2 k b a :: r, s.out⟩ := by
  obtain ⟨i0, hi, hz0, hz1, hz2⟩ := info_parts Try.info2
  have h0 := h.alloc (.cells #[.int .i64 k, .int .i64 n, v] 33)
  have HF0 : Hid (Fr R w vs vo (w.alloc (.cells #[.int .i64 k, .int .i64 n, v] 33)) vs vo) := (Fr.refl _ _ _ _).alloc _
  have HM0 := hidM h0
  have HX0 := hidM (BlkO.new w k n v)
  have hrl : r.length ≤ 50 := by rw [hs] at hl; simp at hl; omega
  have Ht := hidM (pop_any h0 hs)
  have Ho := hidM (fun W => binary_any k b a W h5 h17)
  generalize of2 k b a = z at Ho ⊢
  obtain ⟨fu, st, out⟩ := s
  clear h h0 hs hl
  go_enter Try.func30, Try.ntmps30
  go_wp2_with fail
  refine Ht.out.mono ?_
  rintro e w1 ⟨rfl, vsA, voA, hmA, hfA⟩
  have HFA := hidM (HF0.out.trans hfA)
  have hbxA := HM0.out.boxO hfA HX0.out
  obtain ⟨b0, b1, b2⟩ := hbxA.cells
  have HXA := hidM hbxA
  have HMA := hidM hmA
  have H1 : Hid (Calls Try.prog 41 #[.pointer (some ⟨R, 0, none⟩)] w1.drew fun e w' => e = .returned (.int .i64 b) ∧ MR TR lo x R (w1.drewN 1) vsA voA w' ⟨fu, r, out⟩) := pop_any (hmA.drew 1) rfl
  clear hmA hfA Ht hbxA b1 b2
  go_wp2
  go_region_held3 (fun W' => W'.cell? ⟨w.heap.size, 0, none⟩ = some (.int .i64 k))
    (first | assumption | exact b0)
    (first
      | (go_at_call 41; refine H1.out.mono ?_; rintro e w2 ⟨rfl, vs1, vo1, hm2, hf2⟩; have b0' := (HMA.out.drew 1).boxO hf2 HXA.out; have b0 := b0'.cells.1; clear b0')
      | (go_at_call 42; refine (Ho.out _).mono ?_; rintro e w3 ⟨rfl, q3, rfl⟩))
  all_goals
    have HF2 := hidM (((HFA.out.drew 1).trans hf2).drew q3)
    have hm3 := hm2.drew q3
    have HM2 := hidM hm3
    clear hf2 hm2 H1
    clear hm3
    generalize w2.drewN q3 = W at HF2 HM2 ⊢
    obtain ⟨ho1, hbs1, hnw1⟩ := push_row z HM2.out
    have hsz1 := hnw1 (W.heap.size) (by simp)
    clear hnw1
    obtain ⟨a1, cap1, hv1⟩ := row_val HM2.out.st
    have hv1' : vs1 = .slice a1 (r).length cap1 := hv1
    subst hv1'
    clear hv1
    obtain ⟨⟨_, _, _, _, c4, _⟩, _, z4, _⟩ := HM2.out.blk.cells
    have hnl1 : (r).length + 1 ≤ maxLen := by (try simp only [List.length_cons, List.length_nil]); unfold maxLen; omega
    have hnb1 : ((r).length + 1) * 8 ≤ 140737488355328 := by (try simp only [List.length_cons, List.length_nil]); omega
    go_wp2_with (at_builtin; refine wpList_append_own_at _ rfl _ _ 50 rfl lo 2 i0 _ 1 8 Try.underlying50 hi hz0 hz1 hz2 rfl (by decide) (.slice a1 (r).length cap1) (r).length (nums (r)) rfl ho1 ⟨W.heap.size, 0, none⟩ 1 1 [.int .i64 z] rfl rfl hsz1 (one_int _) hnl1 hnb1 (by simpa using hbs1) ?_)
    intro v2 W1 hown2 hgrow2 hnil2 hat2
    obtain ⟨g2, cap2, rfl⟩ := row_succ hown2
    obtain ⟨⟨d4, y4⟩, hm1, hf1⟩ := push_done HM2.out hown2 hgrow2 (by simpa using hat2)
    have HM1 := hidM hm1
    have HF1 := hidM (HF2.out.trans hf1)
    clear hown2 hgrow2 hnil2 hat2 ho1 hbs1 hsz1 hm1 hf1 c4 z4
    have HR : Hid (MR TR lo x R w _ vo _ _) := ⟨_, _, HM1.out, HF1.out⟩
    go_wp2
    go_ret
    exact ⟨rfl, HR.out⟩
end
end Go.Proofs.Ytkmnpaiippgnmab
/- The page's own: one op at work (one number; moves). -/
namespace Go.Proofs.Ytkmnpaiippgnmab
open Go.RowKit
set_option linter.unusedVariables false
set_option maxRecDepth 100000

section
variable {lo : Nat} {x : Rc} {R : Nat} {w : World} {vs vo : Value} {s : St}
set_option maxHeartbeats 1000000 in
theorem op_18 (n : Int) (v : Value) (h : Mach TR lo x R w vs vo s) {a : Int} {r : List Int} (hs : s.st = a :: r) (hl : s.st.length ≤ 50) :
    Calls Try.prog 30 #[.pointer (some ⟨R, 0, none⟩), .agg #[.int .i64 18, .int .i64 n, v]] w fun e w' => e = .returned (.int .i64 0) ∧ MR TR lo x R w vs vo w' ⟨s.fu, of1 18 a :: r, s.out⟩ := by
  obtain ⟨i0, hi, hz0, hz1, hz2⟩ := info_parts Try.info2
  have h0 := h.alloc (.cells #[.int .i64 18, .int .i64 n, v] 33)
  have HF0 : Hid (Fr R w vs vo (w.alloc (.cells #[.int .i64 18, .int .i64 n, v] 33)) vs vo) := (Fr.refl _ _ _ _).alloc _
  have HM0 := hidM h0
  have HX0 := hidM (BlkO.new w 18 n v)
  have hrl : r.length ≤ 50 := by rw [hs] at hl; simp at hl; omega
  have Ht := hidM (pop_any h0 hs)
  obtain ⟨fu, st, out⟩ := s
  obtain ⟨z, hz⟩ : ∃ z, of1 18 a = z := ⟨_, rfl⟩
  rw [hz]
  have Ho := hidM (fun W => truth_any (a == 0) W)
  rw [show tru (a == 0) = of1 18 a from rfl, hz] at Ho
  clear h h0 hs hl hz
  go_enter Try.func30, Try.ntmps30
  go_wp2_with fail
  refine Ht.out.mono ?_
  rintro e w1 ⟨rfl, vs1, vo1, hmA, hfA⟩
  have HFA := hidM (HF0.out.trans hfA)
  have HMA := hidM hmA
  clear hmA hfA Ht
  go_wp2_with fail
  refine (Ho.out _).mono ?_
  rintro e w' ⟨rfl, rfl⟩
  obtain ⟨ho1, hbs1, hnw1⟩ := push_row z HMA.out
  have hsz1 := hnw1 (w'.heap.size) (by simp)
  clear hnw1
  obtain ⟨a1, cap1, hv1⟩ := row_val HMA.out.st
  have hv1' : vs1 = .slice a1 (r).length cap1 := hv1
  subst hv1'
  clear hv1
  obtain ⟨⟨_, _, _, _, c4, _⟩, _, z4, _⟩ := HMA.out.blk.cells
  have hnl1 : (r).length + 1 ≤ maxLen := by (try simp only [List.length_cons, List.length_nil]); unfold maxLen; omega
  have hnb1 : ((r).length + 1) * 8 ≤ 140737488355328 := by (try simp only [List.length_cons, List.length_nil]); omega
  go_wp2_with (at_builtin; refine wpList_append_own_at _ rfl _ _ 50 rfl lo 2 i0 _ 1 8 Try.underlying50 hi hz0 hz1 hz2 rfl (by decide) (.slice a1 (r).length cap1) (r).length (nums (r)) rfl ho1 ⟨w'.heap.size, 0, none⟩ 1 1 [.int .i64 z] rfl rfl hsz1 (one_int _) hnl1 hnb1 (by simpa using hbs1) ?_)
  intro v2 W1 hown2 hgrow2 hnil2 hat2
  obtain ⟨g2, cap2, rfl⟩ := row_succ hown2
  obtain ⟨⟨d4, y4⟩, hm1, hf1⟩ := push_done HMA.out hown2 hgrow2 (by simpa using hat2)
  have HM1 := hidM hm1
  have HF1 := hidM (HFA.out.trans hf1)
  clear hown2 hgrow2 hnil2 hat2 ho1 hbs1 hsz1 hm1 hf1 c4 z4
  have HR : Hid (MR TR lo x R w _ vo _ _) := ⟨_, _, HM1.out, HF1.out⟩
  go_wp2
  go_ret
  exact ⟨rfl, HR.out⟩
set_option maxHeartbeats 1000000 in
theorem op_19 (n : Int) (v : Value) (h : Mach TR lo x R w vs vo s) {a : Int} {r : List Int} (hs : s.st = a :: r) (hl : s.st.length ≤ 50) :
    Calls Try.prog 30 #[.pointer (some ⟨R, 0, none⟩), .agg #[.int .i64 19, .int .i64 n, v]] w fun e w' => e = .returned (.int .i64 0) ∧ MR TR lo x R w vs vo w' ⟨s.fu, of1 19 a :: r, s.out⟩ := by
  obtain ⟨i0, hi, hz0, hz1, hz2⟩ := info_parts Try.info2
  have h0 := h.alloc (.cells #[.int .i64 19, .int .i64 n, v] 33)
  have HF0 : Hid (Fr R w vs vo (w.alloc (.cells #[.int .i64 19, .int .i64 n, v] 33)) vs vo) := (Fr.refl _ _ _ _).alloc _
  have HM0 := hidM h0
  have HX0 := hidM (BlkO.new w 19 n v)
  have hrl : r.length ≤ 50 := by rw [hs] at hl; simp at hl; omega
  obtain ⟨fu, st, out⟩ := s
  obtain ⟨z, hz⟩ : ∃ z, of1 19 a = z := ⟨_, rfl⟩
  rw [hz]
  have Ho := hidM (fun W => rcut_8f a W)
  rw [show a % 256 = of1 19 a from rfl, hz] at Ho
  have Ht : Hid (Calls Try.prog 41 #[.pointer (some ⟨R, 0, none⟩)] (w.alloc (.cells #[.int .i64 19, .int .i64 n, v] 33)).drew fun e w' => e = .returned (.int .i64 a) ∧ MR TR lo x R ((w.alloc (.cells #[.int .i64 19, .int .i64 n, v] 33)).drewN 1) vs vo w' ⟨fu, r, out⟩) := pop_any (h0.drew 1) hs
  clear h h0 hs hl hz
  go_enter Try.func30, Try.ntmps30
  go_wp2
  go_region_held3 (fun W' => True) (trivial)
    (first
      | (go_at_call 41; refine Ht.out.mono ?_; rintro e w1 ⟨rfl, vs1, vo1, hmA, hfA⟩)
      | (go_at_call 44; refine (Ho.out _).mono ?_; rintro e w' ⟨rfl, rfl⟩))
  have HFA := hidM ((HF0.out.drew 1).trans hfA)
  have HMA := hidM hmA
  clear hmA hfA Ht
  obtain ⟨ho1, hbs1, hnw1⟩ := push_row z HMA.out
  have hsz1 := hnw1 (w'.heap.size) (by simp)
  clear hnw1
  obtain ⟨a1, cap1, hv1⟩ := row_val HMA.out.st
  have hv1' : vs1 = .slice a1 (r).length cap1 := hv1
  subst hv1'
  clear hv1
  obtain ⟨⟨_, _, _, _, c4, _⟩, _, z4, _⟩ := HMA.out.blk.cells
  have hnl1 : (r).length + 1 ≤ maxLen := by (try simp only [List.length_cons, List.length_nil]); unfold maxLen; omega
  have hnb1 : ((r).length + 1) * 8 ≤ 140737488355328 := by (try simp only [List.length_cons, List.length_nil]); omega
  go_wp2_with (at_builtin; refine wpList_append_own_at _ rfl _ _ 50 rfl lo 2 i0 _ 1 8 Try.underlying50 hi hz0 hz1 hz2 rfl (by decide) (.slice a1 (r).length cap1) (r).length (nums (r)) rfl ho1 ⟨w'.heap.size, 0, none⟩ 1 1 [.int .i64 z] rfl rfl hsz1 (one_int _) hnl1 hnb1 (by simpa using hbs1) ?_)
  intro v2 W1 hown2 hgrow2 hnil2 hat2
  obtain ⟨g2, cap2, rfl⟩ := row_succ hown2
  obtain ⟨⟨d4, y4⟩, hm1, hf1⟩ := push_done HMA.out hown2 hgrow2 (by simpa using hat2)
  have HM1 := hidM hm1
  have HF1 := hidM (HFA.out.trans hf1)
  clear hown2 hgrow2 hnil2 hat2 ho1 hbs1 hsz1 hm1 hf1 c4 z4
  have HR : Hid (MR TR lo x R w _ vo _ _) := ⟨_, _, HM1.out, HF1.out⟩
  go_wp2
  go_ret
  exact ⟨rfl, HR.out⟩
set_option maxHeartbeats 1000000 in
theorem op_20 (n : Int) (v : Value) (h : Mach TR lo x R w vs vo s) {a : Int} {r : List Int} (hs : s.st = a :: r) (hl : s.st.length ≤ 50) :
    Calls Try.prog 30 #[.pointer (some ⟨R, 0, none⟩), .agg #[.int .i64 20, .int .i64 n, v]] w fun e w' => e = .returned (.int .i64 0) ∧ MR TR lo x R w vs vo w' ⟨s.fu, of1 20 a :: r, s.out⟩ := by
  obtain ⟨i0, hi, hz0, hz1, hz2⟩ := info_parts Try.info2
  have h0 := h.alloc (.cells #[.int .i64 20, .int .i64 n, v] 33)
  have HF0 : Hid (Fr R w vs vo (w.alloc (.cells #[.int .i64 20, .int .i64 n, v] 33)) vs vo) := (Fr.refl _ _ _ _).alloc _
  have HM0 := hidM h0
  have HX0 := hidM (BlkO.new w 20 n v)
  have hrl : r.length ≤ 50 := by rw [hs] at hl; simp at hl; omega
  obtain ⟨fu, st, out⟩ := s
  obtain ⟨z, hz⟩ : ∃ z, of1 20 a = z := ⟨_, rfl⟩
  rw [hz]
  have Ho := hidM (fun W => rcut_16f a W)
  rw [show wrap64 (IntKind.u16.wrap a) = of1 20 a from rfl, hz] at Ho
  have Ht : Hid (Calls Try.prog 41 #[.pointer (some ⟨R, 0, none⟩)] (w.alloc (.cells #[.int .i64 20, .int .i64 n, v] 33)).drew fun e w' => e = .returned (.int .i64 a) ∧ MR TR lo x R ((w.alloc (.cells #[.int .i64 20, .int .i64 n, v] 33)).drewN 1) vs vo w' ⟨fu, r, out⟩) := pop_any (h0.drew 1) hs
  clear h h0 hs hl hz
  go_enter Try.func30, Try.ntmps30
  go_wp2
  go_region_held3 (fun W' => True) (trivial)
    (first
      | (go_at_call 41; refine Ht.out.mono ?_; rintro e w1 ⟨rfl, vs1, vo1, hmA, hfA⟩)
      | (go_at_call 44; refine (Ho.out _).mono ?_; rintro e w' ⟨rfl, rfl⟩))
  have HFA := hidM ((HF0.out.drew 1).trans hfA)
  have HMA := hidM hmA
  clear hmA hfA Ht
  obtain ⟨ho1, hbs1, hnw1⟩ := push_row z HMA.out
  have hsz1 := hnw1 (w'.heap.size) (by simp)
  clear hnw1
  obtain ⟨a1, cap1, hv1⟩ := row_val HMA.out.st
  have hv1' : vs1 = .slice a1 (r).length cap1 := hv1
  subst hv1'
  clear hv1
  obtain ⟨⟨_, _, _, _, c4, _⟩, _, z4, _⟩ := HMA.out.blk.cells
  have hnl1 : (r).length + 1 ≤ maxLen := by (try simp only [List.length_cons, List.length_nil]); unfold maxLen; omega
  have hnb1 : ((r).length + 1) * 8 ≤ 140737488355328 := by (try simp only [List.length_cons, List.length_nil]); omega
  go_wp2_with (at_builtin; refine wpList_append_own_at _ rfl _ _ 50 rfl lo 2 i0 _ 1 8 Try.underlying50 hi hz0 hz1 hz2 rfl (by decide) (.slice a1 (r).length cap1) (r).length (nums (r)) rfl ho1 ⟨w'.heap.size, 0, none⟩ 1 1 [.int .i64 z] rfl rfl hsz1 (one_int _) hnl1 hnb1 (by simpa using hbs1) ?_)
  intro v2 W1 hown2 hgrow2 hnil2 hat2
  obtain ⟨g2, cap2, rfl⟩ := row_succ hown2
  obtain ⟨⟨d4, y4⟩, hm1, hf1⟩ := push_done HMA.out hown2 hgrow2 (by simpa using hat2)
  have HM1 := hidM hm1
  have HF1 := hidM (HFA.out.trans hf1)
  clear hown2 hgrow2 hnil2 hat2 ho1 hbs1 hsz1 hm1 hf1 c4 z4
  have HR : Hid (MR TR lo x R w _ vo _ _) := ⟨_, _, HM1.out, HF1.out⟩
  go_wp2
  go_ret
  exact ⟨rfl, HR.out⟩
set_option maxHeartbeats 1000000 in
theorem op_21 (n : Int) (v : Value) (h : Mach TR lo x R w vs vo s) {a : Int} {r : List Int} (hs : s.st = a :: r) (hl : s.st.length ≤ 50) :
    Calls Try.prog 30 #[.pointer (some ⟨R, 0, none⟩), .agg #[.int .i64 21, .int .i64 n, v]] w fun e w' => e = .returned (.int .i64 0) ∧ MR TR lo x R w vs vo w' ⟨s.fu, of1 21 a :: r, s.out⟩ := by
  obtain ⟨i0, hi, hz0, hz1, hz2⟩ := info_parts Try.info2
  have h0 := h.alloc (.cells #[.int .i64 21, .int .i64 n, v] 33)
  have HF0 : Hid (Fr R w vs vo (w.alloc (.cells #[.int .i64 21, .int .i64 n, v] 33)) vs vo) := (Fr.refl _ _ _ _).alloc _
  have HM0 := hidM h0
  have HX0 := hidM (BlkO.new w 21 n v)
  have hrl : r.length ≤ 50 := by rw [hs] at hl; simp at hl; omega
  obtain ⟨fu, st, out⟩ := s
  obtain ⟨z, hz⟩ : ∃ z, of1 21 a = z := ⟨_, rfl⟩
  rw [hz]
  have Ho := hidM (fun W => rcut_32f a W)
  rw [show a % 4294967296 = of1 21 a from rfl, hz] at Ho
  have Ht : Hid (Calls Try.prog 41 #[.pointer (some ⟨R, 0, none⟩)] (w.alloc (.cells #[.int .i64 21, .int .i64 n, v] 33)).drew fun e w' => e = .returned (.int .i64 a) ∧ MR TR lo x R ((w.alloc (.cells #[.int .i64 21, .int .i64 n, v] 33)).drewN 1) vs vo w' ⟨fu, r, out⟩) := pop_any (h0.drew 1) hs
  clear h h0 hs hl hz
  go_enter Try.func30, Try.ntmps30
  go_wp2
  go_region_held3 (fun W' => True) (trivial)
    (first
      | (go_at_call 41; refine Ht.out.mono ?_; rintro e w1 ⟨rfl, vs1, vo1, hmA, hfA⟩)
      | (go_at_call 44; refine (Ho.out _).mono ?_; rintro e w' ⟨rfl, rfl⟩))
  have HFA := hidM ((HF0.out.drew 1).trans hfA)
  have HMA := hidM hmA
  clear hmA hfA Ht
  obtain ⟨ho1, hbs1, hnw1⟩ := push_row z HMA.out
  have hsz1 := hnw1 (w'.heap.size) (by simp)
  clear hnw1
  obtain ⟨a1, cap1, hv1⟩ := row_val HMA.out.st
  have hv1' : vs1 = .slice a1 (r).length cap1 := hv1
  subst hv1'
  clear hv1
  obtain ⟨⟨_, _, _, _, c4, _⟩, _, z4, _⟩ := HMA.out.blk.cells
  have hnl1 : (r).length + 1 ≤ maxLen := by (try simp only [List.length_cons, List.length_nil]); unfold maxLen; omega
  have hnb1 : ((r).length + 1) * 8 ≤ 140737488355328 := by (try simp only [List.length_cons, List.length_nil]); omega
  go_wp2_with (at_builtin; refine wpList_append_own_at _ rfl _ _ 50 rfl lo 2 i0 _ 1 8 Try.underlying50 hi hz0 hz1 hz2 rfl (by decide) (.slice a1 (r).length cap1) (r).length (nums (r)) rfl ho1 ⟨w'.heap.size, 0, none⟩ 1 1 [.int .i64 z] rfl rfl hsz1 (one_int _) hnl1 hnb1 (by simpa using hbs1) ?_)
  intro v2 W1 hown2 hgrow2 hnil2 hat2
  obtain ⟨g2, cap2, rfl⟩ := row_succ hown2
  obtain ⟨⟨d4, y4⟩, hm1, hf1⟩ := push_done HMA.out hown2 hgrow2 (by simpa using hat2)
  have HM1 := hidM hm1
  have HF1 := hidM (HFA.out.trans hf1)
  clear hown2 hgrow2 hnil2 hat2 ho1 hbs1 hsz1 hm1 hf1 c4 z4
  have HR : Hid (MR TR lo x R w _ vo _ _) := ⟨_, _, HM1.out, HF1.out⟩
  go_wp2
  go_ret
  exact ⟨rfl, HR.out⟩
set_option maxHeartbeats 1000000 in
theorem op_22 (n : Int) (v : Value) (h : Mach TR lo x R w vs vo s) {a : Int} {r : List Int} (hs : s.st = a :: r) (hl : s.st.length ≤ 50) :
    Calls Try.prog 30 #[.pointer (some ⟨R, 0, none⟩), .agg #[.int .i64 22, .int .i64 n, v]] w fun e w' => e = .returned (.int .i64 0) ∧ MR TR lo x R w vs vo w' ⟨s.fu, of1 22 a :: r, s.out⟩ := by
  obtain ⟨i0, hi, hz0, hz1, hz2⟩ := info_parts Try.info2
  have h0 := h.alloc (.cells #[.int .i64 22, .int .i64 n, v] 33)
  have HF0 : Hid (Fr R w vs vo (w.alloc (.cells #[.int .i64 22, .int .i64 n, v] 33)) vs vo) := (Fr.refl _ _ _ _).alloc _
  have HM0 := hidM h0
  have HX0 := hidM (BlkO.new w 22 n v)
  have hrl : r.length ≤ 50 := by rw [hs] at hl; simp at hl; omega
  obtain ⟨fu, st, out⟩ := s
  obtain ⟨z, hz⟩ : ∃ z, of1 22 a = z := ⟨_, rfl⟩
  rw [hz]
  have Ho := hidM (fun W => rcut_8t a W)
  rw [show wrap64 (IntKind.i8.wrap a) = of1 22 a from rfl, hz] at Ho
  have Ht : Hid (Calls Try.prog 41 #[.pointer (some ⟨R, 0, none⟩)] (w.alloc (.cells #[.int .i64 22, .int .i64 n, v] 33)).drew fun e w' => e = .returned (.int .i64 a) ∧ MR TR lo x R ((w.alloc (.cells #[.int .i64 22, .int .i64 n, v] 33)).drewN 1) vs vo w' ⟨fu, r, out⟩) := pop_any (h0.drew 1) hs
  clear h h0 hs hl hz
  go_enter Try.func30, Try.ntmps30
  go_wp2
  go_region_held3 (fun W' => True) (trivial)
    (first
      | (go_at_call 41; refine Ht.out.mono ?_; rintro e w1 ⟨rfl, vs1, vo1, hmA, hfA⟩)
      | (go_at_call 44; refine (Ho.out _).mono ?_; rintro e w' ⟨rfl, rfl⟩))
  have HFA := hidM ((HF0.out.drew 1).trans hfA)
  have HMA := hidM hmA
  clear hmA hfA Ht
  obtain ⟨ho1, hbs1, hnw1⟩ := push_row z HMA.out
  have hsz1 := hnw1 (w'.heap.size) (by simp)
  clear hnw1
  obtain ⟨a1, cap1, hv1⟩ := row_val HMA.out.st
  have hv1' : vs1 = .slice a1 (r).length cap1 := hv1
  subst hv1'
  clear hv1
  obtain ⟨⟨_, _, _, _, c4, _⟩, _, z4, _⟩ := HMA.out.blk.cells
  have hnl1 : (r).length + 1 ≤ maxLen := by (try simp only [List.length_cons, List.length_nil]); unfold maxLen; omega
  have hnb1 : ((r).length + 1) * 8 ≤ 140737488355328 := by (try simp only [List.length_cons, List.length_nil]); omega
  go_wp2_with (at_builtin; refine wpList_append_own_at _ rfl _ _ 50 rfl lo 2 i0 _ 1 8 Try.underlying50 hi hz0 hz1 hz2 rfl (by decide) (.slice a1 (r).length cap1) (r).length (nums (r)) rfl ho1 ⟨w'.heap.size, 0, none⟩ 1 1 [.int .i64 z] rfl rfl hsz1 (one_int _) hnl1 hnb1 (by simpa using hbs1) ?_)
  intro v2 W1 hown2 hgrow2 hnil2 hat2
  obtain ⟨g2, cap2, rfl⟩ := row_succ hown2
  obtain ⟨⟨d4, y4⟩, hm1, hf1⟩ := push_done HMA.out hown2 hgrow2 (by simpa using hat2)
  have HM1 := hidM hm1
  have HF1 := hidM (HFA.out.trans hf1)
  clear hown2 hgrow2 hnil2 hat2 ho1 hbs1 hsz1 hm1 hf1 c4 z4
  have HR : Hid (MR TR lo x R w _ vo _ _) := ⟨_, _, HM1.out, HF1.out⟩
  go_wp2
  go_ret
  exact ⟨rfl, HR.out⟩
set_option maxHeartbeats 1000000 in
theorem op_23 (n : Int) (v : Value) (h : Mach TR lo x R w vs vo s) {a : Int} {r : List Int} (hs : s.st = a :: r) (hl : s.st.length ≤ 50) :
    Calls Try.prog 30 #[.pointer (some ⟨R, 0, none⟩), .agg #[.int .i64 23, .int .i64 n, v]] w fun e w' => e = .returned (.int .i64 0) ∧ MR TR lo x R w vs vo w' ⟨s.fu, of1 23 a :: r, s.out⟩ := by
  obtain ⟨i0, hi, hz0, hz1, hz2⟩ := info_parts Try.info2
  have h0 := h.alloc (.cells #[.int .i64 23, .int .i64 n, v] 33)
  have HF0 : Hid (Fr R w vs vo (w.alloc (.cells #[.int .i64 23, .int .i64 n, v] 33)) vs vo) := (Fr.refl _ _ _ _).alloc _
  have HM0 := hidM h0
  have HX0 := hidM (BlkO.new w 23 n v)
  have hrl : r.length ≤ 50 := by rw [hs] at hl; simp at hl; omega
  obtain ⟨fu, st, out⟩ := s
  obtain ⟨z, hz⟩ : ∃ z, of1 23 a = z := ⟨_, rfl⟩
  rw [hz]
  have Ho := hidM (fun W => rcut_16t a W)
  rw [show wrap64 (IntKind.i16.wrap a) = of1 23 a from rfl, hz] at Ho
  have Ht : Hid (Calls Try.prog 41 #[.pointer (some ⟨R, 0, none⟩)] (w.alloc (.cells #[.int .i64 23, .int .i64 n, v] 33)).drew fun e w' => e = .returned (.int .i64 a) ∧ MR TR lo x R ((w.alloc (.cells #[.int .i64 23, .int .i64 n, v] 33)).drewN 1) vs vo w' ⟨fu, r, out⟩) := pop_any (h0.drew 1) hs
  clear h h0 hs hl hz
  go_enter Try.func30, Try.ntmps30
  go_wp2
  go_region_held3 (fun W' => True) (trivial)
    (first
      | (go_at_call 41; refine Ht.out.mono ?_; rintro e w1 ⟨rfl, vs1, vo1, hmA, hfA⟩)
      | (go_at_call 44; refine (Ho.out _).mono ?_; rintro e w' ⟨rfl, rfl⟩))
  have HFA := hidM ((HF0.out.drew 1).trans hfA)
  have HMA := hidM hmA
  clear hmA hfA Ht
  obtain ⟨ho1, hbs1, hnw1⟩ := push_row z HMA.out
  have hsz1 := hnw1 (w'.heap.size) (by simp)
  clear hnw1
  obtain ⟨a1, cap1, hv1⟩ := row_val HMA.out.st
  have hv1' : vs1 = .slice a1 (r).length cap1 := hv1
  subst hv1'
  clear hv1
  obtain ⟨⟨_, _, _, _, c4, _⟩, _, z4, _⟩ := HMA.out.blk.cells
  have hnl1 : (r).length + 1 ≤ maxLen := by (try simp only [List.length_cons, List.length_nil]); unfold maxLen; omega
  have hnb1 : ((r).length + 1) * 8 ≤ 140737488355328 := by (try simp only [List.length_cons, List.length_nil]); omega
  go_wp2_with (at_builtin; refine wpList_append_own_at _ rfl _ _ 50 rfl lo 2 i0 _ 1 8 Try.underlying50 hi hz0 hz1 hz2 rfl (by decide) (.slice a1 (r).length cap1) (r).length (nums (r)) rfl ho1 ⟨w'.heap.size, 0, none⟩ 1 1 [.int .i64 z] rfl rfl hsz1 (one_int _) hnl1 hnb1 (by simpa using hbs1) ?_)
  intro v2 W1 hown2 hgrow2 hnil2 hat2
  obtain ⟨g2, cap2, rfl⟩ := row_succ hown2
  obtain ⟨⟨d4, y4⟩, hm1, hf1⟩ := push_done HMA.out hown2 hgrow2 (by simpa using hat2)
  have HM1 := hidM hm1
  have HF1 := hidM (HFA.out.trans hf1)
  clear hown2 hgrow2 hnil2 hat2 ho1 hbs1 hsz1 hm1 hf1 c4 z4
  have HR : Hid (MR TR lo x R w _ vo _ _) := ⟨_, _, HM1.out, HF1.out⟩
  go_wp2
  go_ret
  exact ⟨rfl, HR.out⟩
set_option maxHeartbeats 1000000 in
theorem op_24 (n : Int) (v : Value) (h : Mach TR lo x R w vs vo s) {a : Int} {r : List Int} (hs : s.st = a :: r) (hl : s.st.length ≤ 50) :
    Calls Try.prog 30 #[.pointer (some ⟨R, 0, none⟩), .agg #[.int .i64 24, .int .i64 n, v]] w fun e w' => e = .returned (.int .i64 0) ∧ MR TR lo x R w vs vo w' ⟨s.fu, of1 24 a :: r, s.out⟩ := by
  obtain ⟨i0, hi, hz0, hz1, hz2⟩ := info_parts Try.info2
  have h0 := h.alloc (.cells #[.int .i64 24, .int .i64 n, v] 33)
  have HF0 : Hid (Fr R w vs vo (w.alloc (.cells #[.int .i64 24, .int .i64 n, v] 33)) vs vo) := (Fr.refl _ _ _ _).alloc _
  have HM0 := hidM h0
  have HX0 := hidM (BlkO.new w 24 n v)
  have hrl : r.length ≤ 50 := by rw [hs] at hl; simp at hl; omega
  obtain ⟨fu, st, out⟩ := s
  obtain ⟨z, hz⟩ : ∃ z, of1 24 a = z := ⟨_, rfl⟩
  rw [hz]
  have Ho := hidM (fun W => rcut_32t a W)
  rw [show wrap64 (wrap32 a) = of1 24 a from rfl, hz] at Ho
  have Ht : Hid (Calls Try.prog 41 #[.pointer (some ⟨R, 0, none⟩)] (w.alloc (.cells #[.int .i64 24, .int .i64 n, v] 33)).drew fun e w' => e = .returned (.int .i64 a) ∧ MR TR lo x R ((w.alloc (.cells #[.int .i64 24, .int .i64 n, v] 33)).drewN 1) vs vo w' ⟨fu, r, out⟩) := pop_any (h0.drew 1) hs
  clear h h0 hs hl hz
  go_enter Try.func30, Try.ntmps30
  go_wp2
  go_region_held3 (fun W' => True) (trivial)
    (first
      | (go_at_call 41; refine Ht.out.mono ?_; rintro e w1 ⟨rfl, vs1, vo1, hmA, hfA⟩)
      | (go_at_call 44; refine (Ho.out _).mono ?_; rintro e w' ⟨rfl, rfl⟩))
  have HFA := hidM ((HF0.out.drew 1).trans hfA)
  have HMA := hidM hmA
  clear hmA hfA Ht
  obtain ⟨ho1, hbs1, hnw1⟩ := push_row z HMA.out
  have hsz1 := hnw1 (w'.heap.size) (by simp)
  clear hnw1
  obtain ⟨a1, cap1, hv1⟩ := row_val HMA.out.st
  have hv1' : vs1 = .slice a1 (r).length cap1 := hv1
  subst hv1'
  clear hv1
  obtain ⟨⟨_, _, _, _, c4, _⟩, _, z4, _⟩ := HMA.out.blk.cells
  have hnl1 : (r).length + 1 ≤ maxLen := by (try simp only [List.length_cons, List.length_nil]); unfold maxLen; omega
  have hnb1 : ((r).length + 1) * 8 ≤ 140737488355328 := by (try simp only [List.length_cons, List.length_nil]); omega
  go_wp2_with (at_builtin; refine wpList_append_own_at _ rfl _ _ 50 rfl lo 2 i0 _ 1 8 Try.underlying50 hi hz0 hz1 hz2 rfl (by decide) (.slice a1 (r).length cap1) (r).length (nums (r)) rfl ho1 ⟨w'.heap.size, 0, none⟩ 1 1 [.int .i64 z] rfl rfl hsz1 (one_int _) hnl1 hnb1 (by simpa using hbs1) ?_)
  intro v2 W1 hown2 hgrow2 hnil2 hat2
  obtain ⟨g2, cap2, rfl⟩ := row_succ hown2
  obtain ⟨⟨d4, y4⟩, hm1, hf1⟩ := push_done HMA.out hown2 hgrow2 (by simpa using hat2)
  have HM1 := hidM hm1
  have HF1 := hidM (HFA.out.trans hf1)
  clear hown2 hgrow2 hnil2 hat2 ho1 hbs1 hsz1 hm1 hf1 c4 z4
  have HR : Hid (MR TR lo x R w _ vo _ _) := ⟨_, _, HM1.out, HF1.out⟩
  go_wp2
  go_ret
  exact ⟨rfl, HR.out⟩
end
end Go.Proofs.Ytkmnpaiippgnmab
