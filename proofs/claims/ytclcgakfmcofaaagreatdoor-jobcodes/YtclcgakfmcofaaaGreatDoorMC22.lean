/- Texts laid together: SStr, LRWord, LRNum, LRSplit, LRRead, LRBlk, LRParse. -/
import Derived.Test.YtclcgakfmcofaaaGreatDoorRows
import Derived.WalkKit
import Derived.ProofKit
import Derived.OpenShut
import Derived.ShutString
import Derived.ChangeOld
import Derived.Below
import Derived.SliceStrings
import Derived.LaidMore
import Derived.WalkSmall
import Derived.Stop.Joined
import Derived.Test.YtclcgakfmcofaaaGreatDoorMC1
import Derived.Test.YtclcgakfmcofaaaGreatDoorMC2
import Derived.Deep.Slices
import Derived.OwnWalk
import Derived.Deep.QuietTactic
import Derived.BigQuiet
import Derived.Maps.AppendAt
import Derived.Test.YtclcgakfmcofaaaGreatDoorMC10
import Derived.Deep.LoopGhost
import Derived.Deep.Cut
import Derived.Deep.CutRange
import Derived.Deep.CutBlock
namespace Go.Proofs.YtclcgakfmcofaaaGreatDoor
open Go.ChangeShapes Go.WideShapes Go.ChangeAt Go.RowKit
set_option linter.unusedVariables false
set_option maxRecDepth 100000
theorem own : ownKnob Tryz.prog.godebug = none := by kernel_rfl
theorem Tryz.cells9L : Tryz.prog.cellsOf 9 = 1 := by kernel_rfl
def StrsAt (w : World) (b off : Nat) (l : List ByteArray) : Prop := ∀ i x, l[i]? = some x → w.cell? ⟨b, off + i, none⟩ = some (.string x)
def SS (w : World) (v : Value) (l : List ByteArray) : Prop :=
 ∃ a cap, v = .slice a l.length cap ∧ (l = [] ∨ ∃ b off, a = some ⟨b, off, none⟩ ∧ b < w.heap.size ∧ StrsAt w b off l)
abbrev flatS (l : List ByteArray) : List Value := l.map Value.string
theorem strsAt_of_block {w : World} {g : Nat} {cur : Array Value} {e : TypeId} {l : List ByteArray} (hb : w.heap[g]? = some (.cells cur e (0, 0))) (ht : cur.toList.take (l.length * 1) = flatS l) : StrsAt w g 0 l := by
 intro i x hx
 have hi : i < l.length := (List.getElem?_eq_some_iff.1 hx).1
 have h0 : (flatS l)[i]? = some (.string x) := by simp [flatS, hx]
 rw [← ht, List.getElem?_take_of_lt (by omega)] at h0
 simp only [World.cell?, hb, Nat.zero_add]
 simpa using h0
abbrev OwnS (w : World) (base : Nat) (v : Value) (l : List ByteArray) : Prop := w.ownsRow base 9 1 v l.length (flatS l)
theorem SS.own {w : World} {base : Nat} {v : Value} {l : List ByteArray} (h : OwnS w base v l) : SS w v l := by
 rcases h.2 with ⟨rfl, h0⟩ | ⟨g, cap, cur, rfl, _, hb, _, _, _, ht⟩
 ·have : l = [] := List.length_eq_zero_iff.1 h0
  subst this
  exact ⟨none, 0, rfl, .inl rfl⟩
 ·exact ⟨_, cap, rfl, .inr ⟨g, 0, rfl, (Array.getElem?_eq_some_iff.1 hb).1, strsAt_of_block hb ht⟩⟩
theorem OwnS.shape {w : World} {base : Nat} {v : Value} {l : List ByteArray} (h : OwnS w base v l) : ∃ a cap, v = .slice a l.length cap := by
 obtain ⟨a, cap, h, _⟩ := SS.own h
 exact ⟨a, cap, h⟩
end Go.Proofs.YtclcgakfmcofaaaGreatDoor
namespace Go.Proofs.YtclcgakfmcofaaaGreatDoor
open Go.RowKit
set_option linter.unusedVariables false
set_option maxRecDepth 100000
end Go.Proofs.YtclcgakfmcofaaaGreatDoor
namespace Go.Proofs.YtclcgakfmcofaaaGreatDoor
open Go.RowKit Go.Lib
set_option linter.unusedVariables false
set_option maxRecDepth 100000
end Go.Proofs.YtclcgakfmcofaaaGreatDoor
namespace Go.Proofs.YtclcgakfmcofaaaGreatDoor
open Go.RowKit
set_option linter.unusedVariables false
set_option maxRecDepth 100000
set_option maxRecDepth 100000
set_option maxRecDepth 100000
set_option maxRecDepth 100000
end Go.Proofs.YtclcgakfmcofaaaGreatDoor
