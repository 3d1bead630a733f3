/- An ending that returns a number. -/
import Derived.Test.YtejgcflcckjlpaaGreatDoorRows
import Derived.Test.YtejgcflcckjlpaaGreatDoorBC1M
namespace Go.Proofs.YtejgcflcckjlpaaGreatDoor
open Go.RowKit
set_option linter.unusedVariables false
set_option maxRecDepth 100000

theorem ret_int {k : IntKind} {a b : Int} (h : a = b) : Ending.returned (.int k a) = .returned (.int k b) := by rw [h]
end Go.Proofs.YtejgcflcckjlpaaGreatDoor
