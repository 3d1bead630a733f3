/- The page's own: rows that any bytes are. -/
import Derived.Test.YtaagllbcmgnbnaaGreatDoorMA31
import Derived.Test.YtaagllbcmgnbnaaGreatDoorMA33
import Derived.Test.YtaagllbcmgnbnaaGreatDoorMA32
import Derived.Test.YtaagllbcmgnbnaaGreatDoorMA12
namespace Go.Proofs.YtaagllbcmgnbnaaGreatDoor
open Go.RowKit
set_option linter.unusedVariables false
set_option maxRecDepth 100000
end Go.Proofs.YtaagllbcmgnbnaaGreatDoor
