/- Texts laid together: EROps, ERPop, EROp, EROpB, EROpC, EROpD, EROpE, EROpF, ERRun, ERFn. -/
import Derived.Test.YtclcgakfmcofaaaGreatDoorMJ11
import Derived.StillTailTactics
import Derived.Deep.RegionHeld3
import Derived.Deep.AppendLies
import Derived.Test.YtclcgakfmcofaaaGreatDoorMJ13
/- The page's own: truth, divide, binary: what each answers, for all numbers. -/
namespace Go.Proofs.YtclcgakfmcofaaaGreatDoor
open Go.RowKit
set_option linter.unusedVariables false
set_option maxRecDepth 100000
end Go.Proofs.YtclcgakfmcofaaaGreatDoor
/- The page's own: pop; one op at work. -/
namespace Go.Proofs.YtclcgakfmcofaaaGreatDoor
open Go.RowKit
set_option linter.unusedVariables false
set_option maxRecDepth 100000
section
variable {lo : Nat} {x : Rc} {R : Nat} {w : World} {vs vo : Value} {s : St}
end
end Go.Proofs.YtclcgakfmcofaaaGreatDoor
/- The page's own: one op at work. -/
namespace Go.Proofs.YtclcgakfmcofaaaGreatDoor
open Go.RowKit
set_option linter.unusedVariables false
set_option maxRecDepth 100000

section
variable {lo : Nat} {x : Rc} {R : Nat} {w : World} {vs vo : Value} {s : St}
end
end Go.Proofs.YtclcgakfmcofaaaGreatDoor
/- The page's own: one op at work (two numbers). -/
namespace Go.Proofs.YtclcgakfmcofaaaGreatDoor
open Go.RowKit
set_option linter.unusedVariables false
set_option maxRecDepth 100000

section
variable {lo : Nat} {x : Rc} {R : Nat} {w : World} {vs vo : Value} {s : St}
end
end Go.Proofs.YtclcgakfmcofaaaGreatDoor
/- The page's own: one op at work (one number; moves). -/
namespace Go.Proofs.YtclcgakfmcofaaaGreatDoor
open Go.RowKit
set_option linter.unusedVariables false
set_option maxRecDepth 100000

section
variable {lo : Nat} {x : Rc} {R : Nat} {w : World} {vs vo : Value} {s : St}
end
end Go.Proofs.YtclcgakfmcofaaaGreatDoor
/- The page's own: one op at work (moves). -/
namespace Go.Proofs.YtclcgakfmcofaaaGreatDoor
open Go.RowKit
set_option linter.unusedVariables false
set_option maxRecDepth 100000

section
variable {lo : Nat} {x : Rc} {R : Nat} {w : World} {vs vo : Value} {s : St}
end
end Go.Proofs.YtclcgakfmcofaaaGreatDoor
/- The page's own: one op at work (emit). -/
namespace Go.Proofs.YtclcgakfmcofaaaGreatDoor
open Go.RowKit
set_option linter.unusedVariables false
set_option maxRecDepth 100000

section
variable {lo : Nat} {x : Rc} {R : Nat} {w : World} {vs vo : Value} {s : St}
end
end Go.Proofs.YtclcgakfmcofaaaGreatDoor
/- The page's own: one op at work (if, rep). -/
namespace Go.Proofs.YtclcgakfmcofaaaGreatDoor
open Go.RowKit
set_option linter.unusedVariables false
set_option maxRecDepth 100000
end Go.Proofs.YtclcgakfmcofaaaGreatDoor
/- The page's own: run, Run, MayRun. -/
namespace Go.Proofs.YtclcgakfmcofaaaGreatDoor
open Go.RowKit
set_option linter.unusedVariables false
set_option maxRecDepth 100000
end Go.Proofs.YtclcgakfmcofaaaGreatDoor
/- The page's own: Run, MayRun. -/
namespace Go.Proofs.YtclcgakfmcofaaaGreatDoor
open Go.RowKit
set_option linter.unusedVariables false
set_option maxRecDepth 100000
end Go.Proofs.YtclcgakfmcofaaaGreatDoor
