/- May a cell be: the page's. -/
import Derived.Test.YtclcgakfmcofaaaGreatDoorMJ4
namespace Go.Proofs.YtclcgakfmcofaaaGreatDoor
open Go.RowKit
set_option linter.unusedVariables false
set_option maxRecDepth 100000
end Go.Proofs.YtclcgakfmcofaaaGreatDoor
