/- Texts laid together: NMem, NCmp, NMth, NSwp, NLess, NDown, NInit, NPop, NPass, WJPlain, WJoinX, NRuns, NLst, NMrg. -/
import Derived.Test.YtclcgakfmcofaaaGreatDoorMJ41
import Derived.Test.YtclcgakfmcofaaaGreatDoorMJ40
import Derived.Test.YtclcgakfmcofaaaGreatDoorMJ8
import Derived.Deep.RegionHeld3
import Derived.ChangeKeysEq
import Derived.BigRegion
import Derived.StillTailTactics
import Derived.Deep.Cut
import Derived.Deep.CutRange
import Derived.Test.YtclcgakfmcofaaaGreatDoorMJ33
import Derived.Test.YtclcgakfmcofaaaGreatDoorMJ29
/- The heap of runs in memory: its box, its row; what stays beside it. -/
namespace Go.Proofs.YtclcgakfmcofaaaGreatDoor
open Go.RowKit
set_option linter.unusedVariables false
set_option maxRecDepth 100000
end Go.Proofs.YtclcgakfmcofaaaGreatDoor
/- How two items stand: cmp.Compare at ints and texts, cmp.Or, Less; Len, Swap. -/
namespace Go.Proofs.YtclcgakfmcofaaaGreatDoor
open Go.RowKit Go.Shelf
set_option linter.unusedVariables false
set_option maxRecDepth 100000
end Go.Proofs.YtclcgakfmcofaaaGreatDoor
/- The methods of the heap behind the interface value. -/
namespace Go.Proofs.YtclcgakfmcofaaaGreatDoor
open Go.RowKit Go.Shelf
set_option linter.unusedVariables false
set_option maxRecDepth 100000
end Go.Proofs.YtclcgakfmcofaaaGreatDoor
/- Len and Swap of the heap. -/
namespace Go.Proofs.YtclcgakfmcofaaaGreatDoor
open Go.RowKit Go.Shelf
set_option linter.unusedVariables false
set_option maxRecDepth 100000
end Go.Proofs.YtclcgakfmcofaaaGreatDoor
/- Less of the heap. -/
namespace Go.Proofs.YtclcgakfmcofaaaGreatDoor
open Go.RowKit Go.Shelf
set_option linter.unusedVariables false
set_option maxRecDepth 100000
end Go.Proofs.YtclcgakfmcofaaaGreatDoor
/- container/heap: down. -/
namespace Go.Proofs.YtclcgakfmcofaaaGreatDoor
open Go.RowKit Go.Shelf
set_option linter.unusedVariables false
set_option maxRecDepth 100000
/-- A bool is told. -/
def RetB (e : Ending) : Prop := ∃ b, e = .returned (.bool b)
theorem RetB.mk (b : Bool) : RetB (.returned (.bool b)) := ⟨b, rfl⟩
end Go.Proofs.YtclcgakfmcofaaaGreatDoor
/- container/heap: Init, Fix at the root, Pop; the heap's own Pop and pass. -/
namespace Go.Proofs.YtclcgakfmcofaaaGreatDoor
open Go.RowKit Go.Shelf
set_option linter.unusedVariables false
set_option maxRecDepth 100000
end Go.Proofs.YtclcgakfmcofaaaGreatDoor
/- container/heap: up and Fix at the root, Pop; the heap's own Pop. -/
namespace Go.Proofs.YtclcgakfmcofaaaGreatDoor
open Go.RowKit Go.Shelf
set_option linter.unusedVariables false
set_option maxRecDepth 100000
end Go.Proofs.YtclcgakfmcofaaaGreatDoor
/- The heap passes its first row. -/
namespace Go.Proofs.YtclcgakfmcofaaaGreatDoor
open Go.RowKit Go.Shelf
set_option linter.unusedVariables false
set_option maxRecDepth 100000
end Go.Proofs.YtclcgakfmcofaaaGreatDoor
/- What runs of rows come to. -/
namespace Go.Proofs.YtclcgakfmcofaaaGreatDoor
open Go.RowKit
set_option linter.unusedVariables false
set_option maxRecDepth 100000
end Go.Proofs.YtclcgakfmcofaaaGreatDoor
/- row.Join of whatever runs. -/
namespace Go.Proofs.YtclcgakfmcofaaaGreatDoor
open Go.RowKit Go.Maps
set_option linter.unusedVariables false
set_option maxRecDepth 100000
end Go.Proofs.YtclcgakfmcofaaaGreatDoor
/- local: runsOf. -/
namespace Go.Proofs.YtclcgakfmcofaaaGreatDoor
open Go.RowKit Go.Shelf
set_option linter.unusedVariables false
set_option maxRecDepth 100000
/-- The items of the first k runs. -/
structure HUp (H : List Hi) (L : List (List Rw)) (k : Nat) : Prop where
  at_ : ∀ x ∈ H, x.2.1 ≠ [] ∧ L[x.2.2]? = some x.2.1 ∧ x.2.2 < k
  all : ∀ (i : Nat) (r : Rw) (l : List Rw), i < k → L[i]? = some (r :: l) → ∃ x ∈ H, x.2.2 = i
  nodup : (H.map (·.2.2)).Nodup
  len : H.length ≤ k
theorem HUp.start (L : List (List Rw)) : HUp [] L 0 := ⟨fun x h => (by cases h), fun i r l h => (by omega), List.nodup_nil, Nat.le_refl _⟩
theorem HUp.add {H : List Hi} {L : List (List Rw)} {k : Nat} {s : Sl} {l : List Rw} (h : HUp H L k) (hk : L[k]? = some l) (hl : l ≠ []) : HUp (H ++ [(s, l, k)]) L (k + 1) :=
  ⟨fun x hx => by
    rcases List.mem_append.1 hx with hx | hx
    · exact ⟨(h.at_ x hx).1, (h.at_ x hx).2.1, by have := (h.at_ x hx).2.2; omega⟩
    · simp at hx; subst hx; exact ⟨hl, hk, Nat.lt_succ_self k⟩, fun i r l' hi hr => by
    by_cases e : i = k
    · exact ⟨(s, l, k), by simp, e.symm⟩
    · obtain ⟨x, hx, ex⟩ := h.all i r l' (by omega) hr
      exact ⟨x, by simp [hx], ex⟩, by
    rw [List.map_append, List.nodup_append]
    refine ⟨h.nodup, by simp, fun a ha b hb e => ?_⟩
    obtain ⟨x, hx, rfl⟩ := List.mem_map.1 ha
    simp at hb
    have := (h.at_ x hx).2.2
    omega, by have := h.len; rw [List.length_append]; simp; omega⟩
theorem HUp.rel {H : List Hi} {L : List (List Rw)} (h : HUp H L L.length) : HRel H L :=
  ⟨fun x hx => ⟨(h.at_ x hx).1, (h.at_ x hx).2.1⟩, fun i r l hr => h.all i r l (List.getElem?_eq_some_iff.1 hr).1 hr, h.nodup⟩
end Go.Proofs.YtclcgakfmcofaaaGreatDoor
/- local: least. -/
namespace Go.Proofs.YtclcgakfmcofaaaGreatDoor
open Go.RowKit Go.Shelf
set_option linter.unusedVariables false
set_option maxRecDepth 100000

/-- Slices of one row each: what they hold lay there when the call began. -/
def OwnV (w0 w : World) (base : Nat) (v : Value) (X : List Rw) : Prop := ∃ vs, w.ownsRow base 61 1 v vs.length vs ∧ vs.length = X.length ∧ ∀ (i : Nat) (u : Value) (x : Rw), vs[i]? = some u → X[i]? = some x → WS w0 u [x] ∧ CapOk u
theorem OwnV.nil (w0 w : World) (base : Nat) : OwnV w0 w base (.slice none 0 0) [] := ⟨[], World.ownsRow_nil _ _ _ _, rfl, fun i u l h => by simp at h⟩
theorem OwnV.shape {w0 w : World} {base : Nat} {v : Value} {X : List Rw} (h : OwnV w0 w base v X) : ∃ a c, v = .slice a X.length c := by
  obtain ⟨vs, h1, h2, -⟩ := h
  rcases h1.2 with ⟨e, h0⟩ | ⟨g, cap, cur, e, -⟩
  · exact ⟨none, 0, by rw [← h2, h0]; exact e⟩
  · exact ⟨_, cap, by rw [← h2]; exact e⟩
/-- They may be read as runs. -/
theorem OwnV.rns {w0 w : World} {base : Nat} {v : Value} {X : List Rw} (h : OwnV w0 w base v X) (hb : Below w0.heap.size w0 w) : RnS w v (X.map fun x => [x]) := by
  obtain ⟨vs, hx, hl, ha⟩ := h
  rcases hx.2 with ⟨rfl, h0⟩ | ⟨g, cap, cur, rfl, _, hg, _, _, _, ht⟩
  · have : vs = [] := List.length_eq_zero_iff.1 h0
    subst this
    have : X = [] := List.length_eq_zero_iff.1 hl.symm
    subst this
    exact ⟨none, 0, rfl, .inl rfl⟩
  · refine ⟨_, cap, by rw [hl, List.length_map], .inr ⟨g, 0, rfl, (Array.getElem?_eq_some_iff.1 hg).1, fun i l hi => ?_⟩⟩
    rw [List.getElem?_map] at hi
    cases hxi : X[i]? with
    | none => rw [hxi] at hi; cases hi
    | some x =>
      rw [hxi] at hi
      injection hi with hi
      subst hi
      have hil : i < X.length := (List.getElem?_eq_some_iff.1 hxi).1
      obtain ⟨u, hu⟩ := getSome (l := vs) (i := i) (by rw [hl]; exact hil)
      obtain ⟨k1, k2⟩ := ha i u x hu hxi
      refine ⟨u, ?_, k1.below hb, k2⟩
      have h0 := hu
      rw [← ht, List.getElem?_take_of_lt (by omega)] at h0
      rw [Nat.zero_add]
      simp only [World.cell?, hg]
      simpa using h0
end Go.Proofs.YtclcgakfmcofaaaGreatDoor
/- local: Merge. -/
namespace Go.Proofs.YtclcgakfmcofaaaGreatDoor
open Go.RowKit Go.Shelf
set_option linter.unusedVariables false
set_option maxRecDepth 100000

theorem OwnX.xs {w : World} {base : Nat} {v : Value} {xs : List Raw} (h : OwnX w base v xs) : XS w v xs := by
  have h0 := h
  rcases h.2 with ⟨rfl, e⟩ | ⟨g, cap, cur, rfl, -, -⟩
  · have : xs = [] := List.length_eq_zero_iff.1 e
    subst this
    exact ⟨none, 0, rfl, .inl rfl⟩
  · obtain ⟨h1, -, -, h2⟩ := h0.cell
    exact ⟨_, cap, rfl, .inr ⟨g, 0, rfl, h1, fun j u hj => by rw [Nat.zero_add]; exact h2 j u hj⟩⟩
theorem OwnW.shape {w : World} {base : Nat} {v : Value} {l : List Rw} (h : OwnW w base v l) : ∃ a c, v = .slice a l.length c := h.slice
end Go.Proofs.YtclcgakfmcofaaaGreatDoor
