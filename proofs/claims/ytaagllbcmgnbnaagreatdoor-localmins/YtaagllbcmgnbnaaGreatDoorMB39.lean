/- Contracts over ops: CopyOps; Ops, which writes over what it is given. -/
import Derived.Test.YtaagllbcmgnbnaaGreatDoorMB15
namespace Go.Proofs.YtaagllbcmgnbnaaGreatDoor
open Go.RowKit
set_option linter.unusedVariables false
set_option maxRecDepth 100000
end Go.Proofs.YtaagllbcmgnbnaaGreatDoor
