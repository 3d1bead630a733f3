import Derived.Test.YtclcgakfmcofaaaGreatDoorMC15
import Derived.Test.YtclcgakfmcofaaaGreatDoorMC17
import Derived.Test.YtclcgakfmcofaaaGreatDoorMC18
namespace Go.Proofs.YtclcgakfmcofaaaGreatDoor
open Go.RowKit
set_option linter.unusedVariables false
set_option maxRecDepth 100000
def jobB (j : Jb) (l : List Int) : Bool := decide (1 ≤ j.id ∧ j.id ≤ 1048576) && (decide (j.prog.size ≤ 512) && (wayC j.agg j.bound && (decide (0 ≤ j.fuel ∧ j.fuel ≤ 2000) && (decide (1 ≤ l.length ∧ l.length ≤ 6) && (risL 1 1048576 l && mayP j.parts)))))
structure JobIs (j : Jb) (l : List Int) : Prop where
 id : 1 ≤ j.id ∧ j.id ≤ 1048576
 prog : j.prog.size ≤ 512
 way : wayC j.agg j.bound = true
 fuel : 0 ≤ j.fuel ∧ j.fuel ≤ 2000
 len : 1 ≤ l.length ∧ l.length ≤ 6
 rise : risL 1 1048576 l = true
 parts : mayP j.parts = true
theorem jobB_of {j : Jb} {l : List Int} (h : jobB j l = true) : JobIs j l := by
 unfold jobB at h
 rw [Bool.and_eq_true, Bool.and_eq_true, Bool.and_eq_true, Bool.and_eq_true, Bool.and_eq_true, Bool.and_eq_true, decide_eq_true_eq, decide_eq_true_eq, decide_eq_true_eq, decide_eq_true_eq] at h
 exact ⟨h.1, h.2.1, h.2.2.1, h.2.2.2.1, h.2.2.2.2.1, h.2.2.2.2.2.1, h.2.2.2.2.2.2⟩
abbrev Rd := ByteArray × Int
abbrev j00 : Jb := ⟨0, ⟨#[]⟩, 0, 0, 0, 0⟩
end Go.Proofs.YtclcgakfmcofaaaGreatDoor
