/- The page's own Bytes: what it answers, for every number. -/
import Derived.Test.YtaagllbcmgnbnaaGreatDoorMA2
namespace Go.Proofs.YtaagllbcmgnbnaaGreatDoor
open Go.RowKit
set_option linter.unusedVariables false
set_option maxRecDepth 100000
end Go.Proofs.YtaagllbcmgnbnaaGreatDoor
