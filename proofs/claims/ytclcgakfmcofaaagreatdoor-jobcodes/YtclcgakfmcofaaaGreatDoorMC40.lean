/- Texts laid together: NHeap, NMerge. -/
import Derived.Test.YtclcgakfmcofaaaGreatDoorMC1
namespace Go.Proofs.YtclcgakfmcofaaaGreatDoor
set_option linter.unusedVariables false
set_option maxRecDepth 100000
end Go.Proofs.YtclcgakfmcofaaaGreatDoor
namespace Go.Proofs.YtclcgakfmcofaaaGreatDoor
open Go.RowKit
set_option linter.unusedVariables false
set_option maxRecDepth 100000
abbrev Hi := (Option Addr × Nat × Nat) × List Rw × Nat
def hkey (x : Hi) : Ky := match x.2.1 with | [] => (0, ⟨#[]⟩) | r :: _ => r.1
end Go.Proofs.YtclcgakfmcofaaaGreatDoor
