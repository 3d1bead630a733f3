/- Texts laid together: NHeap, NMerge. -/
import Derived.Test.YtclcgakfmcofaaaGreatDoorMW1
set_option linter.unusedVariables false
set_option maxRecDepth 100000
namespace Go.Proofs.YtclcgakfmcofaaaGreatDoor
end Go.Proofs.YtclcgakfmcofaaaGreatDoor
namespace Go.Proofs.YtclcgakfmcofaaaGreatDoor
open Go.RowKit
abbrev Hi := (Option Addr × Nat × Nat) × List Rw × Nat
def nk (x : Hi) : Ky := match x.2.1 with | [] => (0, ⟨#[]⟩) | r :: _ => r.1
end Go.Proofs.YtclcgakfmcofaaaGreatDoor
