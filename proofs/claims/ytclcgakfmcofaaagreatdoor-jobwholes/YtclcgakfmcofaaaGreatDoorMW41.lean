/- Texts laid together: NMem, NCmp, NMth, NSwp, NLess, NDown, NInit, NPop, NPass, WJPlain, WJoinX, NRuns, NLst, NMrg. -/
import Derived.Test.YtclcgakfmcofaaaGreatDoorMW40
import Derived.Test.YtclcgakfmcofaaaGreatDoorMW39
import Derived.Test.YtclcgakfmcofaaaGreatDoorMW8
import Derived.Deep.RegionHeld3
import Derived.ChangeKeysEq
import Derived.BigRegion
import Derived.StillTailTactics
import Derived.Deep.Cut
import Derived.Deep.CutRange
import Derived.Test.YtclcgakfmcofaaaGreatDoorMW32
import Derived.Test.YtclcgakfmcofaaaGreatDoorMW28
set_option linter.unusedVariables false
set_option maxRecDepth 100000
namespace Go.Proofs.YtclcgakfmcofaaaGreatDoor
open Go.RowKit
end Go.Proofs.YtclcgakfmcofaaaGreatDoor
namespace Go.Proofs.YtclcgakfmcofaaaGreatDoor
open Go.RowKit Go.Shelf
def RetB (e : Ending) : Prop := ∃ b, e = .returned (.bool b)
theorem RetB.mk (b : Bool) : RetB (.returned (.bool b)) := ⟨b, rfl⟩
end Go.Proofs.YtclcgakfmcofaaaGreatDoor
namespace Go.Proofs.YtclcgakfmcofaaaGreatDoor
open Go.RowKit
end Go.Proofs.YtclcgakfmcofaaaGreatDoor
namespace Go.Proofs.YtclcgakfmcofaaaGreatDoor
open Go.Maps Go.RowKit
end Go.Proofs.YtclcgakfmcofaaaGreatDoor
namespace Go.Proofs.YtclcgakfmcofaaaGreatDoor
open Go.RowKit Go.Shelf
end Go.Proofs.YtclcgakfmcofaaaGreatDoor
