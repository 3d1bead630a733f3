import Derived.Test.YtclcgakfmcofaaaGreatDoorMW2
import Derived.ProofKit
import Derived.OpenShut
import Derived.ShutString
import Derived.ChangeOld
import Derived.Below
import Derived.Deep.Slices
import Derived.OwnWalk
import Derived.ChangeArms
set_option linter.unusedVariables false
set_option maxRecDepth 100000
namespace Go.Proofs.YtclcgakfmcofaaaGreatDoor
open Go.ChangeShapes Go.WideShapes Go.ChangeAt Go.RowKit Go.Deep
open Go.ChangeMaps (open_string shut_string)
structure WfR (r : Rw) : Prop where
 k : (-9223372036854775808 ≤ r.1.1 ∧ r.1.1 ≤ 9223372036854775807) ∧ r.1.2.size ≤ 140737488351232
 c : WfC r.2
 l : r.2.2.length ≤ 17592186043904
def WfRs (L : List Rw) : Prop := ∀ r ∈ L, WfR r
end Go.Proofs.YtclcgakfmcofaaaGreatDoor
