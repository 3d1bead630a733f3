/- An op of ops that may be. -/
import Derived.Test.YtjegnffhegiajaaLCount
namespace Go.Proofs.Ytjegnffhegiajaa
open Go.RowKit
set_option linter.unusedVariables false
set_option maxRecDepth 100000

theorem okF_at : ∀ {i : Nat} {f b r : Fo} {k n : Int} {d : Nat}, okF f d = true → f.drop i = .cons k n b r → alone k n b = true ∧ (hasB k = true → okF b (d + 1) = true)
  | 0, .nil, b, r, k, n, d, h, e => by simp [Fo.drop] at e
  | 0, .cons _ _ _ _, b, r, k, n, d, h, e => by
    simp [Fo.drop] at e
    obtain ⟨rfl, rfl, rfl, rfl⟩ := e
    simp only [okF, Bool.and_eq_true, decide_eq_true_eq] at h
    refine ⟨h.1.1.2, fun hk => ?_⟩
    have := h.1.2
    rw [hk] at this
    simpa using this
  | i + 1, .nil, b, r, k, n, d, h, e => by simp [Fo.drop] at e
  | i + 1, .cons _ _ _ _, b, r, k, n, d, h, e => by
    simp only [okF, Bool.and_eq_true, decide_eq_true_eq] at h
    exact okF_at (i := i) h.2 e
end Go.Proofs.Ytjegnffhegiajaa
