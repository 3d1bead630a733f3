import Derived.Test.YtclcgakfmcofaaaGreatDoorMW15
import Derived.Test.YtclcgakfmcofaaaGreatDoorMW17
import Derived.Test.YtclcgakfmcofaaaGreatDoorMW18
set_option linter.unusedVariables false
set_option maxRecDepth 100000
namespace Go.Proofs.YtclcgakfmcofaaaGreatDoor
open Go.RowKit
def fL (j : Jb) (l : List Int) : Bool := decide (1 ≤ j.id ∧ j.id ≤ 1048576) && (decide (j.prog.size ≤ 512) && (aJ j.agg j.bound && (decide (0 ≤ j.fuel ∧ j.fuel ≤ 2000) && (decide (1 ≤ l.length ∧ l.length ≤ 6) && (cr 1 1048576 l && dL j.parts)))))
structure mO (j : Jb) (l : List Int) : Prop where
 id : 1 ≤ j.id ∧ j.id ≤ 1048576
 prog : j.prog.size ≤ 512
 way : aJ j.agg j.bound = true
 fuel : 0 ≤ j.fuel ∧ j.fuel ≤ 2000
 len : 1 ≤ l.length ∧ l.length ≤ 6
 rise : cr 1 1048576 l = true
 parts : dL j.parts = true
theorem fk {j : Jb} {l : List Int} (h : fL j l = true) : mO j l := by
 unfold fL at h
 rw [Bool.and_eq_true, Bool.and_eq_true, Bool.and_eq_true, Bool.and_eq_true, Bool.and_eq_true, Bool.and_eq_true, decide_eq_true_eq, decide_eq_true_eq, decide_eq_true_eq, decide_eq_true_eq] at h
 exact ⟨h.1, h.2.1, h.2.2.1, h.2.2.2.1, h.2.2.2.2.1, h.2.2.2.2.2.1, h.2.2.2.2.2.2⟩
abbrev Rd := ByteArray × Int
abbrev j00 : Jb := ⟨0, ⟨#[]⟩, 0, 0, 0, 0⟩
end Go.Proofs.YtclcgakfmcofaaaGreatDoor
