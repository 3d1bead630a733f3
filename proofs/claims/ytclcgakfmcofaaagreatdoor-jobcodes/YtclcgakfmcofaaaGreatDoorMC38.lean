/- Texts laid together: MRGat, MROpn. -/
import Derived.Test.YtclcgakfmcofaaaGreatDoorMC26
import Derived.Test.YtclcgakfmcofaaaGreatDoorMC31
import Derived.Test.YtclcgakfmcofaaaGreatDoorMC34
import Derived.Test.YtclcgakfmcofaaaGreatDoorMC36
import Derived.Test.YtclcgakfmcofaaaGreatDoorMC33
import Derived.Test.YtclcgakfmcofaaaGreatDoorMC37
namespace Go.Proofs.YtclcgakfmcofaaaGreatDoor
open Go.RowKit
set_option linter.unusedVariables false
set_option maxRecDepth 100000
theorem gath_map {j : Jb} {l : List Rc} (h : (mapRes j l).2 ≠ 0) : gathRes j l = (⟨#[]⟩, (mapRes j l).2) := by unfold gathRes gathP; rw [if_pos h]
theorem gath_fold {j : Jb} {l : List Rc} (h : (mapRes j l).2 = 0) (h1 : (foldR j.agg j.bound.toNat (mapRes j l).1).2 ≠ 0) : gathRes j l = (⟨#[]⟩, (foldR j.agg j.bound.toNat (mapRes j l).1).2) := by unfold gathRes gathP; rw [if_neg (by simpa using h), if_pos h1]
theorem gath_long {j : Jb} {l : List Rc} (h : (mapRes j l).2 = 0) (h1 : (foldR j.agg j.bound.toNat (mapRes j l).1).2 = 0) (h2 : 32704 < (frameOf (rowsBy j.agg (foldR j.agg j.bound.toNat (mapRes j l).1).1)).size) : gathRes j l = (⟨#[]⟩, 2) := by unfold gathRes gathP; rw [if_neg (by simpa using h), if_neg (by simpa using h1), if_pos h2]
theorem gath_ok {j : Jb} {l : List Rc} (h : (mapRes j l).2 = 0) (h1 : (foldR j.agg j.bound.toNat (mapRes j l).1).2 = 0) (h2 : ¬ 32704 < (frameOf (rowsBy j.agg (foldR j.agg j.bound.toNat (mapRes j l).1).1)).size) : gathRes j l = (frameOf (rowsBy j.agg (foldR j.agg j.bound.toNat (mapRes j l).1).1), 0) := by unfold gathRes gathP; rw [if_neg (by simpa using h), if_neg (by simpa using h1), if_neg h2]
set_option maxRecDepth 100000
end Go.Proofs.YtclcgakfmcofaaaGreatDoor
