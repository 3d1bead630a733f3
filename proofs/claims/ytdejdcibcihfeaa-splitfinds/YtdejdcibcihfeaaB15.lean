/- == at records. -/
import Derived.Test.YtdejdcibcihfeaaB14
import Derived.Test.YtdejdcibcihfeaaB6
namespace Go.Proofs.Ytdejdcibcihfeaa
open Go.RowKit
set_option linter.unusedVariables false
set_option maxRecDepth 100000

def eqC (x y : Rc) : Bool := decide (x = y)
theorem eqC_self (x : Rc) : eqC x x = true := by simp [eqC]
theorem eqR (a c v u : Int) (b d : ByteArray) (w : World) : (binOp .eql 62 (.agg #[.int .i64 a, .string b, .int .i64 v]) (.agg #[.int .i64 c, .string d, .int .i64 u])).run Try.prog w = .ok (.bool (eqC ((a, b), v) ((c, d), u))) w := by
  have u2 := Try.underlying2
  have u9 := Try.underlying9
  have a2 := Try.isAgg2
  have z2 := Try.sizeOf2
  have a9 := Try.isAgg9
  have z9 := Try.sizeOf9
  have ak := Try.isAgg60
  have zk := Try.sizeOf60
  have hS : Try.prog.underlying 62 = some (.struct (Try.prog.fieldsOf 62)) := by kernel_rfl
  have hp : Try.prog.stoodInHeld 62 = false := by kernel_rfl
  have hS2 : Try.prog.underlying 60 = some (.struct (Try.prog.fieldsOf 60)) := by kernel_rfl
  have hp2 : Try.prog.stoodInHeld 60 = false := by kernel_rfl
  have hk : ∀ W, (Op.equalIn 9999 60 (.agg #[.int .i64 a, .string b]) (.agg #[.int .i64 c, .string d])).run Try.prog W = .ok (eqB (a, b) (c, d)) W := fun W => by
    rw [show (9999 : Nat) = 9998 + 1 from rfl, run_equalIn_agg W 9998 60 _ _ hS2 hp2]
    simp only [Program.fieldsOf, Try.underlying60]
    go_simp
    have hiff : (b.data.toList = d.data.toList) ↔ b = d := ⟨ba_ext, fun e => by rw [e]⟩
    by_cases h1 : a = c <;> by_cases h2 : b = d <;> simp [eqB, h1, h2, ByteArray.toList_eq, hiff]
  rw [run_eql_struct, show (10000 : Nat) = 9999 + 1 from rfl, run_equalIn_agg w 9999 62 _ _ hS hp]
  simp only [Program.fieldsOf, Try.underlying62]
  go_simp
  by_cases h1 : (a, b) = (c, d) <;> by_cases h2 : v = u <;> simp [eqB, eqC, h1, h2]
theorem guardR (op : BinOp) (p q : Operand) (xs ys : Array Value) (w : World) : (eqGuard op 62 p q (.agg xs) (.agg ys)).run Try.prog w = .ok () w :=
  run_eqGuard_agg w op 62 p q xs ys (by kernel_rfl)
theorem neR (a c v u : Int) (b d : ByteArray) (w : World) : (binOp .neq 62 (.agg #[.int .i64 a, .string b, .int .i64 v]) (.agg #[.int .i64 c, .string d, .int .i64 u])).run Try.prog w = .ok (.bool (!eqC ((a, b), v) ((c, d), u))) w := by
  have h := eqR a c v u b d w
  rw [run_eql_struct] at h
  rw [run_neq_struct]
  cases h1 : (Op.equalIn 10000 62 (.agg #[.int .i64 a, .string b, .int .i64 v]) (.agg #[.int .i64 c, .string d, .int .i64 u])).run Try.prog w with
  | ok v w' => rw [h1] at h; simp only [Result.andThen] at h ⊢; injection h with h2 h3; injection h2 with h2; rw [h2, h3]
  | _ => rw [h1] at h; simp only [Result.andThen] at h; cases h
end Go.Proofs.Ytdejdcibcihfeaa
