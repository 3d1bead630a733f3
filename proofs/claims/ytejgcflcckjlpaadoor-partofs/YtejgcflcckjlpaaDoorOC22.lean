/- One more is gathered, under a key that is there: row's add. -/
import Derived.Test.YtejgcflcckjlpaaDoorOC17
import Derived.Test.YtejgcflcckjlpaaDoorOC21
namespace Go.Proofs.YtejgcflcckjlpaaDoor
open Go.RowKit Go.Maps
set_option linter.unusedVariables false
set_option maxRecDepth 100000

theorem putR_same {J : Cl → Cl → Cl × Int} {k : Ky} {c d : Cl} {st : List Rw} (hr : RiseK st) (hd : look st k = some d) (he : (J d c).2 ≠ 0) : (putR J k c st).1 = st :=
  riseK_ext (rise_putR hr) hr fun x => by
    rw [look_putR hr, hd, both, if_neg he]
    split
    · next e => rw [e, hd]
    · rfl
/-- A cell's block that was there ahead of a call. -/
theorem with_blk {W W' : World} {b : Nat} {n : Int} {v : Value} {G : Prop} (h : BlkC W b n v) (hb : Below W.heap.size W W') (m : Int)
    (k : W'.cell? ⟨b, 0, none⟩ = some (.int .i64 n) ∧ W'.cell? ⟨b, 1, none⟩ = some v ∧ W'.frozen? ⟨b, 0, none⟩ = false ∧ W'.frozen? ⟨b, 1, none⟩ = false ∧ (W'.setCell ⟨b, 0, none⟩ (.int .i64 m)).cell? ⟨b, 1, none⟩ = some v ∧ (W'.setCell ⟨b, 0, none⟩ (.int .i64 m)).frozen? ⟨b, 1, none⟩ = false → G) : G := by
  have h' := h.below hb
  exact k ⟨h'.cells.1, h'.cells.2.1, h'.cells.2.2.1, h'.cells.2.2.2, (h'.set0 m).cells.2.1, (h'.set0 m).cells.2.2.2⟩
end Go.Proofs.YtejgcflcckjlpaaDoor
