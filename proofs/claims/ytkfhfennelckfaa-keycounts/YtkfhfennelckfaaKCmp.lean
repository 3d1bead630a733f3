/- How two keys stand: cmp.Compare, strings.Compare, key.Cmp, the page's own Cmp, wakes. -/
import Derived.Test.YtkfhfennelckfaaRows
import Derived.Test.YtkfhfennelckfaaKPlain
import Derived.WalkKit
import Derived.WalkSpells
import Derived.Lib.Strings
import Derived.Lib.Walk
import Derived.Lib.Bytealg
import Derived.Shelf.SlGeneric
import Derived.Shelf.SlicesG.Cmp
import Derived.Ground.SlgcProg
import Derived.Laws.StructEq
import Derived.Sort.Grow
import Derived.Deep.QuietTactic
namespace Go.Proofs.Ytkfhfennelckfaa
open Go.RowKit Go.Shelf
open Go.Sort (grow)
set_option linter.unusedVariables false

shelf_lay_g SlLaysC2.n5 Slgc 5 at Try 33 as Try.cmpInt

theorem cmpint_any (x y : Int) (w : World) : Calls Try.prog 33 #[.int .i64 x, .int .i64 y] w fun e w' => e = .returned (.int .i64 (Lib.compareInt x y)) ∧ w' = w := by
  have h := AnyG.cmp_Compare_int Try.cmpInt x y w
  exact h

/-! ### == at keys -/
def eqB (x y : Ky) : Bool := decide (x = y)
theorem eqB_self (x : Ky) : eqB x x = true := by simp [eqB]
theorem eqK (a c : Int) (b d : ByteArray) (w : World) : (binOp .eql 30 (.agg #[.int .i64 a, .string b]) (.agg #[.int .i64 c, .string d])).run Try.prog w = .ok (.bool (eqB (a, b) (c, d))) w := by
  have u2 := Try.underlying2
  have u9 := Try.underlying9
  have a2 := Try.isAgg2
  have z2 := Try.sizeOf2
  have a9 := Try.isAgg9
  have z9 := Try.sizeOf9
  have hS : Try.prog.underlying 30 = some (.struct (Try.prog.fieldsOf 30)) := by kernel_rfl
  have hp : Try.prog.stoodInHeld 30 = false := by kernel_rfl
  rw [run_eql_struct, show (10000 : Nat) = 9999 + 1 from rfl, run_equalIn_agg w 9999 30 _ _ hS hp]
  simp only [Program.fieldsOf, Try.underlying30]
  go_simp
  have hiff : (b.data.toList = d.data.toList) ↔ b = d := ⟨ba_ext, fun e => by rw [e]⟩
  by_cases h1 : a = c <;> by_cases h2 : b = d <;> simp [eqB, h1, h2, ByteArray.toList_eq, hiff]
theorem neK (a c : Int) (b d : ByteArray) (w : World) : (binOp .neq 30 (.agg #[.int .i64 a, .string b]) (.agg #[.int .i64 c, .string d])).run Try.prog w = .ok (.bool (!eqB (a, b) (c, d))) w := by
  have h := eqK a c b d w
  rw [run_eql_struct] at h
  rw [run_neq_struct]
  cases h1 : (Op.equalIn 10000 30 (.agg #[.int .i64 a, .string b]) (.agg #[.int .i64 c, .string d])).run Try.prog w with
  | ok v w' => rw [h1] at h; simp only [Result.andThen] at h ⊢; injection h with h2 h3; injection h2 with h2; rw [h2, h3]
  | _ => rw [h1] at h; simp only [Result.andThen] at h; cases h
theorem guardK (op : BinOp) (p q : Operand) (xs ys : Array Value) (w : World) : (eqGuard op 30 p q (.agg xs) (.agg ys)).run Try.prog w = .ok () w :=
  run_eqGuard_agg w op 30 p q xs ys (by kernel_rfl)

/-! ### strings.Compare -/
set_option maxHeartbeats 1000000 in
set_option maxRecDepth 100000 in
theorem cmpString_any (a b : ByteArray) (w : World) :
    Calls Try.prog 40 #[.string a, .string b] w fun e w' => e = .returned (.int .i64 (Lib.compareBytes a.data.toList b.data.toList)) ∧ w' = w := by
  go_enter Try.func40, Try.ntmps40
  go_wp2
  rw [run_callFunc_extern Try.func51 (by kernel_rfl) (by kernel_rfl) (by kernel_rfl) (e := Extern.BytealgCompare.compare) (by kernel_rfl), Lib.run_compareString]
  simp only [Result.andThen]
  rw [Oper.upon_value]
  go_wp2
  go_ret
  exact ⟨rfl, rfl⟩
set_option maxHeartbeats 1000000 in
theorem scompare_any (a b : ByteArray) (w : World) :
    Calls Try.prog 34 #[.string a, .string b] w fun e w' => e = .returned (.int .i64 (Lib.compareBytes a.data.toList b.data.toList)) ∧ w' = w := by
  go_enter Try.func34, Try.ntmps34
  go_wp2_with (go_at_call 40; refine (cmpString_any _ _ _).mono ?_; rintro e w' ⟨rfl, rfl⟩)
  go_ret
  exact ⟨rfl, rfl⟩

/-! ### key.Cmp -/
set_option maxHeartbeats 1000000 in
theorem kcmp_any (x y : Ky) (W : World) : Calls Try.prog 23 #[.agg #[.int .i64 x.1, .string x.2], .agg #[.int .i64 y.1, .string y.2]] W fun e w' => e = .returned (.int .i64 (cfK x y)) ∧ ∃ q os', w' = grow (W.drewN q) os' := by
  have hcon := fun W' => cmpint_any x.1 y.1 W'
  have hcon2 := fun W' => scompare_any x.2 y.2 W'
  rw [cfK_eq]
  generalize Lib.compareInt x.1 y.1 = r at hcon ⊢
  generalize Lib.compareBytes x.2.data.toList y.2.data.toList = r2 at hcon2 ⊢
  by_cases hr : r = 0
  · subst hr
    go_enter Try.func23, Try.ntmps23
    go_wp2_with (first | (go_at_call 33; refine (hcon _).mono ?_; rintro e w' ⟨rfl, rfl⟩) | (go_at_call 34; refine (hcon2 _).mono ?_; rintro e w' ⟨rfl, rfl⟩))
    go_ret
    exact ⟨rfl, 0, _, by rw [Go.Sort.alloc_eq_grow, Go.Sort.alloc_eq_grow, Go.Sort.grow_grow]; rfl⟩
  · go_enter Try.func23, Try.ntmps23
    go_wp2_with (first | (go_at_call 33; refine (hcon _).mono ?_; rintro e w' ⟨rfl, rfl⟩) | (go_at_call 34; refine (hcon2 _).mono ?_; rintro e w' ⟨rfl, rfl⟩))
    go_ret
    exact ⟨rfl, 0, _, by rw [Go.Sort.alloc_eq_grow, Go.Sort.alloc_eq_grow, Go.Sort.grow_grow]; rfl⟩

theorem below_grow (W : World) (q : Nat) (os : Array Obj) : Below W.heap.size W (grow (W.drewN q) os) :=
  ⟨rfl, rfl, rfl, by simp [grow], fun k hk => by
    show (W.heap ++ os)[k]? = W.heap[k]?
    rw [Array.getElem?_append_left hk]⟩

/-- The page's own Cmp. -/
theorem rcmp_any (x y : Ky) (W : World) : Calls Try.prog 24 #[.agg #[.int .i64 x.1, .string x.2], .agg #[.int .i64 y.1, .string y.2]] W fun e w' => e = .returned (.int .i64 (cfK x y)) ∧ Below W.heap.size W w' := by
  obtain ⟨a, b⟩ := x
  obtain ⟨c, d⟩ := y
  have hg := guardK
  have he := eqK a c b d
  unfold cfK
  by_cases h1 : a < c
  · have hlt : ltK (a, b) (c, d) = true := by simp [ltK, h1]
    rw [hlt]
    go_enter Try.func24, Try.ntmps24
    go_wp2
    go_ret
    exact ⟨rfl, ((Below.refl _ _).alloc (Nat.le_refl _) _).alloc (by simp) _⟩
  · by_cases h2 : a = c
    · subst h2
      have hlt : ltK (a, b) (a, d) = Op.bytesLess b.toList d.toList := by simp [ltK, ByteArray.toList_eq]
      rw [hlt]
      have e2 : ((a, b) = (a, d)) = (eqB (a, b) (a, d) = true) := by simp [eqB]
      simp only [e2]
      clear hlt e2
      generalize eqB (a, b) (a, d) = r2 at he ⊢
      cases hr : Op.bytesLess b.toList d.toList
      · cases r2
        all_goals
          go_enter Try.func24, Try.ntmps24
          go_wp2
          go_ret
          exact ⟨rfl, ((Below.refl _ _).alloc (Nat.le_refl _) _).alloc (by simp) _⟩
      · go_enter Try.func24, Try.ntmps24
        go_wp2
        go_ret
        exact ⟨rfl, ((Below.refl _ _).alloc (Nat.le_refl _) _).alloc (by simp) _⟩
    · have hlt : ltK (a, b) (c, d) = false := by simp [ltK, h1, h2]
      have hne : ¬ ((a, b) = (c, d)) := fun e => h2 (by injection e)
      have he2 : eqB (a, b) (c, d) = false := by simp [eqB]; exact fun e => absurd e h2
      rw [hlt, if_neg (by decide), if_neg hne]
      rw [he2] at he
      go_enter Try.func24, Try.ntmps24
      go_wp2
      go_ret
      exact ⟨rfl, ((Below.refl _ _).alloc (Nat.le_refl _) _).alloc (by simp) _⟩

theorem wakes_any (w : World) : Calls Try.prog 14 #[] w fun e w' => e = .returned (.bool true) ∧ Below w.heap.size w w' := by
  have hc : cfK (1, ⟨#[98]⟩) (1, ⟨#[97]⟩) = 1 := by decide
  have hcon := fun W' => kcmp_any (1, ⟨#[98]⟩) (1, ⟨#[97]⟩) W'
  rw [hc] at hcon
  go_enter Try.func14, Try.ntmps14
  go_wp2_with (go_at_call 23; refine (hcon _).mono ?_; rintro e w' ⟨rfl, q, os, rfl⟩)
  go_ret
  exact ⟨rfl, below_grow _ _ _⟩
end Go.Proofs.Ytkfhfennelckfaa
