/- The cell of one number: the program's and the page's. -/
import Derived.Test.YticpaemmdfmbfaaGMay
namespace Go.Proofs.Yticpaemmdfmbfaa
open Go.RowKit
set_option linter.unusedVariables false
set_option maxRecDepth 100000

/-- A cell and an error. -/
abbrev CellR (w : World) (c : Cl) (e0 : Int) : Ending → World → Prop := fun e w' => (∃ v, e = .returned (.tuple #[v, .int .i64 e0]) ∧ OwnC w' w.heap.size v c) ∧ Below w.heap.size w w'
theorem ret_num {w : World} {n e0 : Int} : CellR w (n, []) e0 (.returned (.tuple #[.agg #[.int .i64 n, .slice none 0 0], .int .i64 e0])) (w.alloc (.cells #[.int .i64 n, .slice none 0 0] 60)) :=
  ⟨⟨_, rfl, OwnC.num _ _ _⟩, (Below.refl _ _).alloc (Nat.le_refl _) _⟩
theorem set_world (w : World) (n x : Int) (b : Nat) (hb : w.heap.size + 1 = b) : BlkC ((w.alloc (.cells #[.int .i64 n, .slice (some ⟨b, 0, none⟩) 1 1] 60)).alloc (.cells #[.int .i64 x] 2)) w.heap.size n (.slice (some ⟨b, 0, none⟩) 1 1) ∧
    OwnL ((w.alloc (.cells #[.int .i64 n, .slice (some ⟨b, 0, none⟩) 1 1] 60)).alloc (.cells #[.int .i64 x] 2)) w.heap.size (.slice (some ⟨b, 0, none⟩) 1 1) [x] ∧
    Below w.heap.size w ((w.alloc (.cells #[.int .i64 n, .slice (some ⟨b, 0, none⟩) 1 1] 60)).alloc (.cells #[.int .i64 x] 2)) := by
  have e1 := BlkC.new w n (.slice (some ⟨b, 0, none⟩) 1 1)
  refine ⟨e1.below ((Below.refl _ _).alloc (Nat.le_refl _) _), ⟨rfl, .inr ⟨b, 1, #[.int .i64 x], rfl, by omega, ?_, by simp, by unfold maxLen; omega, rfl, rfl⟩⟩, ((Below.refl _ _).alloc (Nat.le_refl _) _).alloc (by simp) _⟩
  have e2 := heap_alloc_new (w.alloc (.cells #[.int .i64 n, .slice (some ⟨b, 0, none⟩) 1 1] 60)) (.cells #[.int .i64 x] 2)
  rw [show (w.alloc (.cells #[.int .i64 n, .slice (some ⟨b, 0, none⟩) 1 1] 60)).heap.size = b by simp; omega] at e2
  exact e2
def oneR (agg bound v : Int) : Cl × Int := if wayC agg bound then (oneC agg v, 0) else ((0, []), 1)
theorem cone_any (agg bound x : Int) (w : World) : Calls Try.prog 33 #[.int .i64 agg, .int .i64 bound, .int .i64 x] w (CellR w (oneR agg bound x).1 (oneR agg bound x).2) := by
  have H1 := hidM (fun W => isWay_any agg bound W)
  unfold oneR
  cases hw : wayC agg bound with
  | false =>
    rw [hw] at H1
    go_enter Try.func33, Try.ntmps33
    go_wp2_with (go_at_call 49; refine (H1.out _).mono ?_; rintro e w' ⟨rfl, rfl⟩)
    exact bodyPost_ret (results_cell2 rfl rfl (BlkC.new w _ _).load) rfl ret_num
  | true =>
    rw [hw] at H1
    unfold oneC n1
    by_cases h6 : agg = 6
    · subst h6
      go_enter Try.func33, Try.ntmps33
      go_wp2_with (go_at_call 49; refine (H1.out _).mono ?_; rintro e w' ⟨rfl, rfl⟩)
      obtain ⟨h1, h2, h3⟩ := set_world w 0 x _ rfl
      exact bodyPost_ret (results_cell2 rfl rfl h1.load) rfl ⟨⟨_, rfl, _, _, rfl, h2⟩, h3⟩
    · have h6' : (agg == 6) = false := by simpa using h6
      by_cases h2 : agg = 2
      · subst h2
        go_enter Try.func33, Try.ntmps33
        go_wp2_with (go_at_call 49; refine (H1.out _).mono ?_; rintro e w' ⟨rfl, rfl⟩)
        exact bodyPost_ret (results_cell2 rfl rfl (BlkC.new w _ _).load) rfl ret_num
      · have h2' : (agg == 2) = false := by simpa using h2
        rw [if_neg h6, if_neg h2]
        go_enter Try.func33, Try.ntmps33
        go_wp2_with (go_at_call 49; refine (H1.out _).mono ?_; rintro e w' ⟨rfl, rfl⟩)
        exact bodyPost_ret (results_cell2 rfl rfl (BlkC.new w _ _).load) rfl ret_num
/-- A cell alone. -/
abbrev CellA (w : World) (c : Cl) : Ending → World → Prop := fun e w' => (∃ v, e = .returned v ∧ OwnC w' w.heap.size v c) ∧ Below w.heap.size w w'
theorem ret_numA {w : World} {n : Int} : CellA w (n, []) (.returned (.agg #[.int .i64 n, .slice none 0 0])) (w.alloc (.cells #[.int .i64 n, .slice none 0 0] 60)) :=
  ⟨⟨_, rfl, OwnC.num _ _ _⟩, (Below.refl _ _).alloc (Nat.le_refl _) _⟩
theorem rone_any (agg x : Int) (w : World) : Calls Try.prog 37 #[.int .i64 agg, .int .i64 x] w (CellA w (oneC agg x)) := by
  unfold oneC n1
  by_cases h6 : agg = 6
  · subst h6
    go_enter Try.func37, Try.ntmps37
    go_wp2
    obtain ⟨h1, h2, h3⟩ := set_world w 0 x _ rfl
    exact bodyPost_ret (results_cell1 rfl rfl h1.load) rfl ⟨⟨_, rfl, _, _, rfl, h2⟩, h3⟩
  · have h6' : (agg == 6) = false := by simpa using h6
    by_cases h2 : agg = 2
    · subst h2
      go_enter Try.func37, Try.ntmps37
      go_wp2
      exact bodyPost_ret (results_cell1 rfl rfl (BlkC.new w _ _).load) rfl ret_numA
    · have h2' : (agg == 2) = false := by simpa using h2
      rw [if_neg h6, if_neg h2]
      go_enter Try.func37, Try.ntmps37
      go_wp2
      exact bodyPost_ret (results_cell1 rfl rfl (BlkC.new w _ _).load) rfl ret_numA
end Go.Proofs.Yticpaemmdfmbfaa
