/- The bytes of a cell: the page's. -/
import Derived.Test.YtaagllbcmgnbnaaGreatDoorMA11
import Derived.Test.YtaagllbcmgnbnaaGreatDoorMA29
namespace Go.Proofs.YtaagllbcmgnbnaaGreatDoor
open Go.RowKit
set_option linter.unusedVariables false
set_option maxRecDepth 100000
end Go.Proofs.YtaagllbcmgnbnaaGreatDoor
