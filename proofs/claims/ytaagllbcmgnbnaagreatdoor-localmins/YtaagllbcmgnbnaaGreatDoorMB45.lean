/- The page's own: do keys rise, may rows be. -/
import Derived.Test.YtaagllbcmgnbnaaGreatDoorMB13
import Derived.Test.YtaagllbcmgnbnaaGreatDoorMB31
import Derived.Test.YtaagllbcmgnbnaaGreatDoorMB26
namespace Go.Proofs.YtaagllbcmgnbnaaGreatDoor
open Go.RowKit
set_option linter.unusedVariables false
structure OrdTo (l : List Rw) (k : Nat) : Prop where
  all : ∀ r ∈ l.take k, r.1.2.size ≤ 64
  rise : RiseK (l.take k)
theorem OrdTo.start (l : List Rw) : OrdTo l 0 := ⟨by simp, by simp [RiseK]⟩
theorem OrdTo.step {l : List Rw} {k : Nat} {r : Rw} (h : OrdTo l k) (hr : l[k]? = some r) (h1 : r.1.2.size ≤ 64) (h2 : ∀ m x, k = m + 1 → l[m]? = some x → ltK x.1 r.1 = true) : OrdTo l (k + 1) := by
  have hstep : l.take (k + 1) = l.take k ++ [r] := by rw [List.take_add_one, hr]; rfl
  have hkl := (List.getElem?_eq_some_iff.1 hr).1
  refine ⟨fun x hx => ?_, ?_⟩
  · rw [hstep] at hx
    rcases List.mem_append.1 hx with hx | hx
    · exact h.all x hx
    · simp at hx; subst hx; exact h1
  · rw [hstep]
    refine rise_snocK h.rise fun x hx => ?_
    rw [List.getLast?_eq_getElem?, List.length_take, Nat.min_eq_left (by omega)] at hx
    have hk0 : 0 < k := by
      rcases Nat.eq_zero_or_pos k with e | e
      · rw [e] at hx; simp at hx
      · exact e
    rw [List.getElem?_take_of_lt (by omega)] at hx
    exact h2 (k - 1) x (by omega) hx
end Go.Proofs.YtaagllbcmgnbnaaGreatDoor
namespace Go.Proofs.YtaagllbcmgnbnaaGreatDoor
open Go.RowKit
set_option linter.unusedVariables false
set_option maxRecDepth 100000
end Go.Proofs.YtaagllbcmgnbnaaGreatDoor
