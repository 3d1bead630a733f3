/- Texts laid together: NMem, NCmp, NMth, NSwp, NLess, NDown, NInit, NPop, NPass, WJPlain, WJoinX, NRuns, NLst, NMrg. -/
import Derived.Test.YtclcgakfmcofaaaGreatDoorMC40
import Derived.Test.YtclcgakfmcofaaaGreatDoorMC39
import Derived.Test.YtclcgakfmcofaaaGreatDoorMC8
import Derived.Deep.RegionHeld3
import Derived.ChangeKeysEq
import Derived.BigRegion
import Derived.StillTailTactics
import Derived.Deep.Cut
import Derived.Deep.CutRange
import Derived.Test.YtclcgakfmcofaaaGreatDoorMC32
import Derived.Test.YtclcgakfmcofaaaGreatDoorMC28
namespace Go.Proofs.YtclcgakfmcofaaaGreatDoor
open Go.RowKit
set_option linter.unusedVariables false
set_option maxRecDepth 100000
end Go.Proofs.YtclcgakfmcofaaaGreatDoor
namespace Go.Proofs.YtclcgakfmcofaaaGreatDoor
open Go.RowKit Go.Shelf
set_option linter.unusedVariables false
set_option maxRecDepth 100000
set_option maxRecDepth 100000
set_option maxRecDepth 100000
set_option maxRecDepth 100000
set_option maxRecDepth 100000
def RetB (e : Ending) : Prop := ∃ b, e = .returned (.bool b)
theorem RetB.mk (b : Bool) : RetB (.returned (.bool b)) := ⟨b, rfl⟩
set_option maxRecDepth 100000
set_option maxRecDepth 100000
set_option maxRecDepth 100000
end Go.Proofs.YtclcgakfmcofaaaGreatDoor
namespace Go.Proofs.YtclcgakfmcofaaaGreatDoor
open Go.RowKit
set_option linter.unusedVariables false
set_option maxRecDepth 100000
def joinRes (agg bound : Int) (L : List (List Rw)) : List Rw × Int :=
 if wayC agg bound && L.all (okRows agg bound) && decide ((gat (joinC agg bound.toNat) L.flatten).1.length ≤ 1536) then fin (gat (joinC agg bound.toNat) L.flatten) else ([], 1)
theorem joinRes_way {agg bound : Int} {L : List (List Rw)} (h : wayC agg bound = false) : joinRes agg bound L = ([], 1) := by unfold joinRes; rw [h, Bool.false_and, Bool.false_and]; rfl
theorem joinRes_bad {agg bound : Int} {L : List (List Rw)} {r : List Rw} (hr : r ∈ L) (h : okRows agg bound r = false) : joinRes agg bound L = ([], 1) := by
 have : L.all (okRows agg bound) = false := by
  cases he : L.all (okRows agg bound) with
  | false => rfl
  | true => rw [List.all_eq_true] at he; rw [he r hr] at h; cases h
 unfold joinRes
 rw [this, Bool.and_false, Bool.false_and]
 rfl
theorem joinRes_big {agg bound : Int} {L : List (List Rw)} {k : Nat} (h : 1536 < (gat (joinC agg bound.toNat) (L.take k).flatten).1.length) : joinRes agg bound L = ([], 1) := by
 obtain ⟨m, hm⟩ := flat_take L k
 have := len_mono (joinC agg bound.toNat) (L.take k).flatten m
 rw [← hm] at this
 unfold joinRes
 rw [decide_eq_false (by omega), Bool.and_false]
 rfl
theorem joinRes_ok {agg bound : Int} {L : List (List Rw)} (hw : wayC agg bound = true) (h : ∀ r ∈ L, okRows agg bound r = true) (hl : (gat (joinC agg bound.toNat) L.flatten).1.length ≤ 1536) : joinRes agg bound L = fin (gat (joinC agg bound.toNat) L.flatten) := by
 unfold joinRes
 rw [hw, List.all_eq_true.2 h, decide_eq_true hl]
 rfl
theorem chk_len {agg bound : Int} {c : Cl} (h : chk agg bound c = true) : c.2.length ≤ 32 := by
 unfold chk at h
 rw [Bool.and_eq_true] at h
 obtain ⟨hw, hm⟩ := h
 by_cases h6 : agg = 6
 ·subst h6
  rw [may6, Bool.and_eq_true, Bool.and_eq_true, decide_eq_true_eq, decide_eq_true_eq] at hm
  unfold wayC at hw
  rw [if_pos rfl, decide_eq_true_eq] at hw
  have := hm.1.2
  omega
 ·by_cases h2 : agg = 2
  ·subst h2
   rw [may2, Bool.and_eq_true, Bool.and_eq_true, decide_eq_true_eq] at hm
   omega
  ·rw [mayN h6 h2, decide_eq_true_eq] at hm
   omega
theorem runOk_of {agg bound : Int} {l : List Rw} (h : okRows agg bound l = true) (hw : WfRs l) : RunOk agg bound l := by
 obtain ⟨-, -, h3, -⟩ := okRows_parts h
 exact ⟨h, fun r hr => ⟨(h3 r hr).2, (hw r hr).c, chk_len (h3 r hr).2⟩, fun r hr => ⟨(hw r hr).k.1, by have := (h3 r hr).1; unfold maxLen; omega⟩⟩
end Go.Proofs.YtclcgakfmcofaaaGreatDoor
namespace Go.Proofs.YtclcgakfmcofaaaGreatDoor
open Go.RowKit Go.Maps
set_option linter.unusedVariables false
set_option maxRecDepth 100000
end Go.Proofs.YtclcgakfmcofaaaGreatDoor
namespace Go.Proofs.YtclcgakfmcofaaaGreatDoor
open Go.RowKit Go.Shelf
set_option linter.unusedVariables false
set_option maxRecDepth 100000
set_option maxRecDepth 100000
set_option maxRecDepth 100000
end Go.Proofs.YtclcgakfmcofaaaGreatDoor
