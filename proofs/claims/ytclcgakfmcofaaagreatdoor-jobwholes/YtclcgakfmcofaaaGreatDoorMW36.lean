/- Texts laid together: GRTk, MRTk. -/
import Derived.Test.YtclcgakfmcofaaaGreatDoorMW7
import Derived.Test.YtclcgakfmcofaaaGreatDoorMW35
import Derived.Test.YtclcgakfmcofaaaGreatDoorMW27
import Derived.Test.YtclcgakfmcofaaaGreatDoorMW34
import Derived.Test.YtclcgakfmcofaaaGreatDoorMW8
set_option linter.unusedVariables false
set_option maxRecDepth 100000
namespace Go.Proofs.YtclcgakfmcofaaaGreatDoor
open Go.RowKit
end Go.Proofs.YtclcgakfmcofaaaGreatDoor
