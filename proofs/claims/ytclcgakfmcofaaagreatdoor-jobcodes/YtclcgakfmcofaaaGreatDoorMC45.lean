import Derived.Test.YtclcgakfmcofaaaGreatDoorMC10
namespace Go.Proofs.YtclcgakfmcofaaaGreatDoor
open Go.RowKit
set_option linter.unusedVariables false
set_option maxRecDepth 100000
def opR (w : List UInt8) : Option (Int × Int) :=
 match kindOf w with
 | some k => some ((k : Int), 0)
 | none => (refNum w).map fun n => (1, n)
theorem opR_eq (w : List UInt8) : opR w = opW w := by unfold opR opW; rw [refNum_eq]; cases kindOf w <;> rfl
end Go.Proofs.YtclcgakfmcofaaaGreatDoor
