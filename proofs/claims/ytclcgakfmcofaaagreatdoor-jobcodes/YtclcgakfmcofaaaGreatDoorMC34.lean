/- Texts laid together: GRBy, MRRowB, MTkF, MTk2. -/
import Derived.Test.YtclcgakfmcofaaaGreatDoorMC7
import Derived.Test.YtclcgakfmcofaaaGreatDoorMC27
import Derived.Test.YtclcgakfmcofaaaGreatDoorMC9
namespace Go.Proofs.YtclcgakfmcofaaaGreatDoor
open Go.RowKit
set_option linter.unusedVariables false
set_option maxRecDepth 100000
set_option maxRecDepth 100000
set_option maxRecDepth 100000
theorem rowTk_key {agg : Int} {bd : Nat} {s : ByteArray} (h : (kTake s).2.2 ≠ 0) : rowTk agg bd s = (r0w, 0, (kTake s).2.2) := by unfold rowTk; rw [if_pos h]
theorem rowTk_cell {agg : Int} {bd : Nat} {s : ByteArray} (h : (kTake s).2.2 = 0) (h1 : (cTake agg bd (from' s (kTake s).2.1)).2.2 ≠ 0) : rowTk agg bd s = (r0w, 0, (cTake agg bd (from' s (kTake s).2.1)).2.2) := by unfold rowTk; rw [if_neg (by simpa using h), if_pos h1]
theorem rowTk_ok {agg : Int} {bd : Nat} {s : ByteArray} (h : (kTake s).2.2 = 0) (h1 : (cTake agg bd (from' s (kTake s).2.1)).2.2 = 0) : rowTk agg bd s = (((kTake s).1, (cTake agg bd (from' s (kTake s).2.1)).1), (kTake s).2.1 + (cTake agg bd (from' s (kTake s).2.1)).2.1, 0) := by unfold rowTk; rw [if_neg (by simpa using h), if_neg (by simpa using h1)]
set_option maxRecDepth 100000
end Go.Proofs.YtclcgakfmcofaaaGreatDoor
