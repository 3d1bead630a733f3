/- Ops that lie below a block. -/
import Derived.Test.YtjegnffhegiajaaLMem
namespace Go.Proofs.Ytjegnffhegiajaa
open Go.RowKit
set_option linter.unusedVariables false
set_option maxRecDepth 100000

/-- Memory below B. -/
def QB (B : Nat) (w : World) (b _ : Nat) : Prop := b < B
theorem FS.belowB {B : Nat} {w w' : World} {v : Value} {f : Fo} (h : FS (QB B) w v f) (hb : Below B w w') : FS (QB B) w' v f := h.move fun b o hq => ⟨hb.block b hq, hq⟩
theorem FS.toB {w : World} {v : Value} {f : Fo} (h : FS QA w v f) : FS (QB w.heap.size) w v f := h.move fun b o hq => ⟨rfl, hq⟩
end Go.Proofs.Ytjegnffhegiajaa
