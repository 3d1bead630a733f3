/- Texts laid together: GRBy, MRRowB, MTkF, MTk2. -/
import Derived.Test.YtclcgakfmcofaaaGreatDoorMJ7
import Derived.Test.YtclcgakfmcofaaaGreatDoorMJ28
import Derived.Test.YtclcgakfmcofaaaGreatDoorMJ9
/- The bytes of a cell: the page's. -/
namespace Go.Proofs.YtclcgakfmcofaaaGreatDoor
open Go.RowKit
set_option linter.unusedVariables false
set_option maxRecDepth 100000
end Go.Proofs.YtclcgakfmcofaaaGreatDoor
/- The page's own: the bytes of rows that may be. -/
namespace Go.Proofs.YtclcgakfmcofaaaGreatDoor
open Go.RowKit
set_option linter.unusedVariables false
set_option maxRecDepth 100000
theorem okn_of {n : Int} (h1 : -9223372036854775808 ≤ n) (h2 : n ≤ 9223372036854775807) : Okn n := ⟨h1, h2⟩
theorem rbytes_okM (n : Int) (w : World) (h : Okn n) : Calls Tryz.prog 77 #[.int .i64 n] w fun e w' => e = .returned (.string (bytesOf n)) ∧ Below w.heap.size w w' := rbytes_any n w h.1 h.2
end Go.Proofs.YtclcgakfmcofaaaGreatDoor
/- row.Take, of any bytes. -/
namespace Go.Proofs.YtclcgakfmcofaaaGreatDoor
open Go.RowKit
set_option linter.unusedVariables false
set_option maxRecDepth 100000
end Go.Proofs.YtclcgakfmcofaaaGreatDoor
/- row.Take, of any bytes: all rows. -/
namespace Go.Proofs.YtclcgakfmcofaaaGreatDoor
open Go.RowKit
set_option linter.unusedVariables false
set_option maxRecDepth 100000
end Go.Proofs.YtclcgakfmcofaaaGreatDoor
