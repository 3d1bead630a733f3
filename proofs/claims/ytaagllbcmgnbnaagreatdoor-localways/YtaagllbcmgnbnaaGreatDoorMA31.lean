/- Texts laid together: MRRowB, MTkF, MTk2. -/
import Derived.Test.YtaagllbcmgnbnaaGreatDoorMA13
import Derived.Test.YtaagllbcmgnbnaaGreatDoorMA30
import Derived.Test.YtaagllbcmgnbnaaGreatDoorMA29
import Derived.Test.YtaagllbcmgnbnaaGreatDoorMA11
/- The page's own: the bytes of rows that may be. -/
namespace Go.Proofs.YtaagllbcmgnbnaaGreatDoor
open Go.RowKit
set_option linter.unusedVariables false
set_option maxRecDepth 100000
end Go.Proofs.YtaagllbcmgnbnaaGreatDoor
/- row.Take, of any bytes. -/
namespace Go.Proofs.YtaagllbcmgnbnaaGreatDoor
open Go.RowKit
set_option linter.unusedVariables false
set_option maxRecDepth 100000
end Go.Proofs.YtaagllbcmgnbnaaGreatDoor
/- row.Take, of any bytes: all rows. -/
namespace Go.Proofs.YtaagllbcmgnbnaaGreatDoor
open Go.RowKit
set_option linter.unusedVariables false
set_option maxRecDepth 100000
end Go.Proofs.YtaagllbcmgnbnaaGreatDoor
