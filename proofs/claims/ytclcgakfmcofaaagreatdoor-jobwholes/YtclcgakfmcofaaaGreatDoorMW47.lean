import Derived.Test.YtclcgakfmcofaaaGreatDoorMW10
set_option linter.unusedVariables false
set_option maxRecDepth 100000
namespace Go.Proofs.YtclcgakfmcofaaaGreatDoor
open Go.RowKit
def opR (w : List UInt8) : Option (Int × Int) :=
 match bV w with
 | some k => some ((k : Int), 0)
 | none => (iU w).map fun n => (1, n)
theorem opR_eq (w : List UInt8) : opR w = gL w := by unfold opR gL; rw [oq]; cases bV w <;> rfl
end Go.Proofs.YtclcgakfmcofaaaGreatDoor
