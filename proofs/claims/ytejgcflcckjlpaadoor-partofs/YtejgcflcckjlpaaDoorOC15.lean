/- Two numbers together. -/
import Derived.Test.YtejgcflcckjlpaaDoorOC12
import Derived.Test.YtejgcflcckjlpaaDoorOC14
namespace Go.Proofs.YtejgcflcckjlpaaDoor
open Go.RowKit
set_option linter.unusedVariables false
set_option maxRecDepth 100000

theorem conv_sum (a b : Int) : wrap64 (IntKind.u64.wrap (IntKind.u64.wrap a + IntKind.u64.wrap b)) = sumF a b := by
  rw [IntKind.wrap_u64, IntKind.wrap_u64, IntKind.wrap_u64]
  unfold sumF wrap64
  omega
theorem num_sum (a b : Int) : Num64 (sumF a b) := by unfold Num64 sumF wrap64; omega
theorem num_or (a b : Int) : Num64 (orF a b) := by
  show Num64 (IntKind.i64.wrap ((BitVec.ofInt 64 a ||| BitVec.ofInt 64 b).toNat : Int))
  rw [IntKind.wrap_i64]
  unfold Num64
  omega
theorem num_nF {agg a b : Int} (ha : Num64 a) (hb : Num64 b) (h2 : nP agg a) (h3 : nP agg b) : Num64 (nF agg a b) := by
  unfold nF
  by_cases e1 : agg = 1
  · rw [if_pos e1]; exact num_sum a b
  rw [if_neg e1]
  by_cases e2 : agg = 2
  · rw [if_pos e2]
    have := cnt_P a b (h2 e2) (h3 e2)
    unfold Num64
    omega
  rw [if_neg e2]
  unfold Num64 at *
  by_cases e3 : agg = 3
  · rw [if_pos e3]; omega
  rw [if_neg e3]
  by_cases e4 : agg = 4
  · rw [if_pos e4]; omega
  rw [if_neg e4]
  exact num_or a b
end Go.Proofs.YtejgcflcckjlpaaDoor
