/- Texts laid together: LProg, LRCount, LROps, CRNeed, EROps, ERPop, EROp, EROpB, EROpC, EROpD, EROpE, EROpF, ERRun, ERFn. -/
import Derived.Test.YtclcgakfmcofaaaGreatDoorMC10
import Derived.Test.YtclcgakfmcofaaaGreatDoorMC12
import Derived.Test.YtclcgakfmcofaaaGreatDoorMC11
import Derived.StillTailTactics
import Derived.Deep.RegionHeld3
import Derived.Deep.AppendLies
import Derived.Test.YtclcgakfmcofaaaGreatDoorMC13
namespace Go.Proofs.YtclcgakfmcofaaaGreatDoor
open Go.RowKit
set_option linter.unusedVariables false
set_option maxRecDepth 100000
theorem prog_ok {s : ByteArray} {g : Fo} {ws : List (List UInt8)} {m : Nat} (h : Prog s (.ok g ws m)) : May g ∧ WfN g ∧ g.len ≤ 3518437208780 ∧ WfB g := by
 unfold Prog at h
 split at h
 ·simp at h
 ·obtain ⟨fu, h⟩ := h
  obtain ⟨h1, h2, h3, h4, _⟩ := read_ok fu 0 _ 0 g ws m h (fun x hx => (splitG_words _ [] (fun c hc => by cases hc) x hx).1) (by omega) (by omega)
  obtain ⟨h5, h6⟩ := WfB.of_tot g 0 h1 (by omega)
  exact ⟨⟨h1, by omega⟩, h2, by omega, h6⟩
set_option maxRecDepth 100000
inductive Way (k n : Int) (b : Nat) : Prop
 | b1 (h : k < 1)
 | b2 (h : 30 < k)
 | b3 (h : k = 28) (h2 : n ≠ 0)
 | b4 (h : k = 29) (h2 : n ≠ 0)
 | b5 (h : 1 < k) (h2 : k ≤ 30) (h3 : k ≠ 28) (h4 : k ≠ 29) (h5 : n ≠ 0)
 | b6 (h : k = 1) (h2 : 0 < b)
 | b7 (h : 1 < k) (h2 : k ≤ 30) (h3 : k ≠ 28) (h4 : k ≠ 29) (h5 : n = 0) (h6 : 0 < b)
 | o1 (h : k = 1) (h2 : b = 0)
 | o2 (h : 1 < k) (h2 : k ≤ 30) (h3 : k ≠ 28) (h4 : k ≠ 29) (h5 : n = 0) (h6 : b = 0)
 | p1 (h : k = 28) (h2 : n = 0)
 | p2 (h : k = 29) (h2 : n = 0)
theorem way (k n : Int) (b : Nat) : Way k n b := by
 by_cases h1 : k < 1
 ·exact .b1 h1
 by_cases h2 : 30 < k
 ·exact .b2 h2
 by_cases h3 : k = 1
 ·by_cases h4 : b = 0
  ·exact .o1 h3 h4
  ·exact .b6 h3 (by omega)
 by_cases h4 : k = 28
 ·by_cases h5 : n = 0
  ·exact .p1 h4 h5
  ·exact .b3 h4 h5
 by_cases h5 : k = 29
 ·by_cases h6 : n = 0
  ·exact .p2 h5 h6
  ·exact .b4 h5 h6
 by_cases h6 : n = 0
 ·by_cases h7 : b = 0
  ·exact .o2 (by omega) (by omega) h4 h5 h6 h7
  ·exact .b7 (by omega) (by omega) h4 h5 h6 (by omega)
 ·exact .b5 (by omega) (by omega) h4 h5 h6
set_option maxRecDepth 100000
set_option maxRecDepth 100000
set_option maxRecDepth 100000
set_option maxRecDepth 100000
section
variable {lo : Nat} {x : Rc} {R : Nat} {w : World} {vs vo : Value} {s : St}
end
set_option maxRecDepth 100000
section
variable {lo : Nat} {x : Rc} {R : Nat} {w : World} {vs vo : Value} {s : St}
end
set_option maxRecDepth 100000
section
variable {lo : Nat} {x : Rc} {R : Nat} {w : World} {vs vo : Value} {s : St}
end
set_option maxRecDepth 100000
section
variable {lo : Nat} {x : Rc} {R : Nat} {w : World} {vs vo : Value} {s : St}
end
set_option maxRecDepth 100000
section
variable {lo : Nat} {x : Rc} {R : Nat} {w : World} {vs vo : Value} {s : St}
end
set_option maxRecDepth 100000
section
variable {lo : Nat} {x : Rc} {R : Nat} {w : World} {vs vo : Value} {s : St}
end
set_option maxRecDepth 100000
set_option maxRecDepth 100000
set_option maxRecDepth 100000
end Go.Proofs.YtclcgakfmcofaaaGreatDoor
