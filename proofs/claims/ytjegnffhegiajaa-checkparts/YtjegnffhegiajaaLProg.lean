/- Programs that a text is. -/
import Derived.Test.YtjegnffhegiajaaLGrow
import Derived.Test.YtjegnffhegiajaaLChk
namespace Go.Proofs.Ytjegnffhegiajaa
open Go.RowKit
set_option linter.unusedVariables false
set_option maxRecDepth 100000

theorem Drawn.low {w wr : World} (h : Drawn w wr) : Below w.heap.size w wr := h.below _

theorem prog_ok {s : ByteArray} {g : Fo} {ws : List (List UInt8)} {m : Nat} (h : Prog s (.ok g ws m)) : May g ∧ WfN g ∧ g.len ≤ 3518437208780 ∧ WfB g := by
  unfold Prog at h
  split at h
  · simp at h
  · obtain ⟨fu, h⟩ := h
    obtain ⟨h1, h2, h3, h4, _⟩ := read_ok fu 0 _ 0 g ws m h (fun x hx => (splitG_words _ [] (fun c hc => by cases hc) x hx).1) (by omega) (by omega)
    obtain ⟨h5, h6⟩ := WfB.of_tot g 0 h1 (by omega)
    exact ⟨⟨h1, by omega⟩, h2, by omega, h6⟩
end Go.Proofs.Ytjegnffhegiajaa
