/- strings.Builder off the shelf: Len. -/
import Derived.Test.YtejgcflcckjlpaaDoorOC32M
namespace Go.Proofs.YtejgcflcckjlpaaDoor
open Go.RowKit Go.Shelf
set_option linter.unusedVariables false
set_option maxRecDepth 100000

shelf_lay Lays.n170 Nm 170 at Tryd as Tryd.lays170
theorem blen_any (B b : Nat) (s : ByteArray) (w : World) (h : Bld B b s w) :
    Calls Tryd.prog 37 #[.pointer (some ⟨b, 0, none⟩)] w fun e w' => e = .returned (.int .i64 s.size) ∧ w' = w := by
  refine (Any.Builder_Len Tryd.lays170 B b (Lib.strCells s) w h).mono ?_
  rintro e w' ⟨rfl, rfl⟩
  exact ⟨by rw [Lib.strCells_length], rfl⟩
end Go.Proofs.YtejgcflcckjlpaaDoor
