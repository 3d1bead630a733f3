/- == at keys. -/
import Derived.Test.YtejgcflcckjlpaaDoorRows
import Derived.Test.YtejgcflcckjlpaaDoorOC1M
import Derived.WalkKit
import Derived.WalkSpells
import Derived.Laws.StructEq
namespace Go.Proofs.YtejgcflcckjlpaaDoor
open Go.RowKit
set_option linter.unusedVariables false
set_option maxRecDepth 100000

/-! ### == at keys -/
def eqB (x y : Ky) : Bool := decide (x = y)
theorem eqB_self (x : Ky) : eqB x x = true := by simp [eqB]
theorem eqK (a c : Int) (b d : ByteArray) (w : World) : (binOp .eql 31 (.agg #[.int .i64 a, .string b]) (.agg #[.int .i64 c, .string d])).run Tryd.prog w = .ok (.bool (eqB (a, b) (c, d))) w := by
  have u2 := Tryd.underlying2
  have u9 := Tryd.underlying9
  have a2 := Tryd.isAgg2
  have z2 := Tryd.sizeOf2
  have a9 := Tryd.isAgg9
  have z9 := Tryd.sizeOf9
  have hS : Tryd.prog.underlying 31 = some (.struct (Tryd.prog.fieldsOf 31)) := by kernel_rfl
  have hp : Tryd.prog.stoodInHeld 31 = false := by kernel_rfl
  rw [run_eql_struct, show (10000 : Nat) = 9999 + 1 from rfl, run_equalIn_agg w 9999 31 _ _ hS hp]
  simp only [Program.fieldsOf, Tryd.underlying31]
  go_simp
  have hiff : (b.data.toList = d.data.toList) ↔ b = d := ⟨ba_ext, fun e => by rw [e]⟩
  by_cases h1 : a = c <;> by_cases h2 : b = d <;> simp [eqB, h1, h2, ByteArray.toList_eq, hiff]
theorem neK (a c : Int) (b d : ByteArray) (w : World) : (binOp .neq 31 (.agg #[.int .i64 a, .string b]) (.agg #[.int .i64 c, .string d])).run Tryd.prog w = .ok (.bool (!eqB (a, b) (c, d))) w := by
  have h := eqK a c b d w
  rw [run_eql_struct] at h
  rw [run_neq_struct]
  cases h1 : (Op.equalIn 10000 31 (.agg #[.int .i64 a, .string b]) (.agg #[.int .i64 c, .string d])).run Tryd.prog w with
  | ok v w' => rw [h1] at h; simp only [Result.andThen] at h ⊢; injection h with h2 h3; injection h2 with h2; rw [h2, h3]
  | _ => rw [h1] at h; simp only [Result.andThen] at h; cases h
theorem guardK (op : BinOp) (p q : Operand) (xs ys : Array Value) (w : World) : (eqGuard op 31 p q (.agg xs) (.agg ys)).run Tryd.prog w = .ok () w :=
  run_eqGuard_agg w op 31 p q xs ys (by kernel_rfl)

end Go.Proofs.YtejgcflcckjlpaaDoor
