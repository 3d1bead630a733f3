/- May a cell be: the page's. -/
import Derived.Test.YtejgcflcckjlpaaDoorOC12
namespace Go.Proofs.YtejgcflcckjlpaaDoor
open Go.RowKit
set_option linter.unusedVariables false
set_option maxRecDepth 100000

theorem may6f {bound : Nat} {c : Cl} (h : ¬ Rise c.2) : mayC 6 bound c = false := by rw [may6, decide_eq_false h, Bool.and_false]
theorem may6t {bound : Nat} {c : Cl} (h : Rise c.2) : mayC 6 bound c = (decide (c.1 = 0) && decide (c.2.length ≤ bound)) := by rw [may6, decide_eq_true h, Bool.and_true]
end Go.Proofs.YtejgcflcckjlpaaDoor
