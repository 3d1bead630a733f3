/- Texts laid together: LawLR, LawLW. -/
import Derived.Test.YtaagllbcmgnbnaaGreatDoorMB44
import Derived.Test.YtaagllbcmgnbnaaGreatDoorMB47
import Derived.Test.YtaagllbcmgnbnaaGreatDoorMB48
/- thresherlaw13.LocalRuns: its walk. -/
namespace Go.Proofs.YtaagllbcmgnbnaaGreatDoor
open Go.RowKit
set_option linter.unusedVariables false
set_option maxRecDepth 100000

theorem OwnR.capM {w : World} {base : Nat} {v : Value} {l : List Rc} (h : OwnR w base v l) : ∃ a c, v = .slice a l.length c ∧ l.length ≤ c := by
  rcases h.2 with ⟨rfl, h0⟩ | ⟨g, cap, cur, rfl, _, _, hn, _⟩
  · exact ⟨none, 0, by rw [h0], by omega⟩
  · exact ⟨_, cap, rfl, hn⟩
theorem OwnRs.slice {w : World} {base : Nat} {v : Value} {L : List (List Rw)} (h : OwnRs w base v L) : ∃ a c, v = .slice a L.length c := by
  obtain ⟨a, c, e, -⟩ := h.rns
  exact ⟨a, c, e⟩
theorem RnS.slice {w : World} {v : Value} {L : List (List Rw)} (h : RnS w v L) : ∃ a c, v = .slice a L.length c := by
  obtain ⟨a, c, e, -⟩ := h
  exact ⟨a, c, e⟩
end Go.Proofs.YtaagllbcmgnbnaaGreatDoor
/- thresherlaw13.LocalWays: its walk. -/
namespace Go.Proofs.YtaagllbcmgnbnaaGreatDoor
open Go.RowKit
set_option linter.unusedVariables false
set_option maxRecDepth 100000
end Go.Proofs.YtaagllbcmgnbnaaGreatDoor
