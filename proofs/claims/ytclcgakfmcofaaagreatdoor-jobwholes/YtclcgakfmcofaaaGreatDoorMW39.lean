/- Texts laid together: WCopy, WJoin, WRuns, MRRun. -/
import Derived.Test.YtclcgakfmcofaaaGreatDoorMW9
import Derived.Test.YtclcgakfmcofaaaGreatDoorMW24
import Derived.Test.YtclcgakfmcofaaaGreatDoorMW1
set_option linter.unusedVariables false
set_option maxRecDepth 100000
namespace Go.Proofs.YtclcgakfmcofaaaGreatDoor
open Go.RowKit
end Go.Proofs.YtclcgakfmcofaaaGreatDoor
namespace Go.Proofs.YtclcgakfmcofaaaGreatDoor
open Go.Maps Go.RowKit
def RunsC (w : World) (b off : Nat) (L : List (List Rw)) : Prop := ∀ (i : Nat) (l : List Rw), L[i]? = some l → ∃ u, w.cell? ⟨b, off + i, none⟩ = some u ∧ WS w u l ∧ iD u
def RnS (w : World) (v : Value) (L : List (List Rw)) : Prop := ∃ a cap, v = .slice a L.length cap ∧ (L = [] ∨ ∃ b off, a = some ⟨b, off, none⟩ ∧ b < w.heap.size ∧ RunsC w b off L)
end Go.Proofs.YtclcgakfmcofaaaGreatDoor
namespace Go.Proofs.YtclcgakfmcofaaaGreatDoor
open Go.RowKit
theorem Tryz.infoRows : (Tryz.prog.info? 61).map (fun i => (i.zero, i.size, i.bytes)) = some (some (.slice none 0 0), 1, 24) := by kernel_rfl
def dC (T : TypeId) (w w' : World) : Prop := ∀ (g : Nat) (cur : Array Value), w.heap[g]? = some (.cells cur T (0, 0)) → w'.heap[g]? = some (.cells cur T (0, 0))
theorem dC.row {T T' : TypeId} (hT : T ≠ T') {W W' : World} {base sz n : Nat} {v : Value} {xs : List Value} (h : W.ownsRow base T' sz v n xs) (hg : W.grownBy W' v.ownBlock) : dC T W W' := fun g cur hh => by
 refine (hg.block g (Array.getElem?_eq_some_iff.1 hh).1 (fun e => ?_)).trans hh
 rcases h.2 with ⟨rfl, _⟩ | ⟨g', cap, cur', rfl, _, hb, _⟩
 ·simp [Value.ownBlock] at e
 ·have : g' = g := by simpa [Value.ownBlock] using e.symm
  subst this
  rw [hb] at hh
  injection hh with hh
  injection hh with _ hh
  exact hT hh.symm
theorem bh.keepT {w w' : World} {base : Nat} {v : Value} {xs : List cW} (h : bh w base v xs) (k : dC 129 w w') : bh w' base v xs := by
 refine ⟨h.1, ?_⟩
 rcases h.2 with ⟨h1, h2⟩ | ⟨g, cap, cur, h1, h2, h3, h4⟩
 ·exact .inl ⟨h1, h2⟩
 ·exact .inr ⟨g, cap, cur, h1, h2, k g cur h3, h4⟩
theorem aQ.keepT {w w' : World} {base : Nat} {v : Value} {l : List Rw} (h : aQ w base v l) (hs : w.heap.size ≤ w'.heap.size) (k : dC 129 w w') (k2 : dC 2 w w') : aQ w' base v l := by
 obtain ⟨xs, h1, h2⟩ := h
 exact ⟨xs, h1.keepT k, h2.keep ⟨hs, k2⟩⟩
def kd (w : World) (base : Nat) (v : Value) (L : List (List Rw)) : Prop := ∃ vs, w.ownsRow base 61 1 v vs.length vs ∧ vs.length = L.length ∧ ∀ (i : Nat) (u : Value) (l : List Rw), vs[i]? = some u → L[i]? = some l → aQ w base u l
theorem kd.nil (w : World) (base : Nat) : kd w base (.slice none 0 0) [] := ⟨[], World.ownsRow_nil _ _ _ _, rfl, fun i u l h => by simp at h⟩
theorem nQ {w w' : World} {base n sz : Nat} {T : TypeId} {v : Value} {xs : List Value} (h : w.ownsRow base T sz v n xs) (hb : Below w.heap.size w w') : w'.ownsRow base T sz v n xs := by
 refine ⟨h.1, ?_⟩
 rcases h.2 with ⟨h1, h2⟩ | ⟨g, cap, cur, h1, h2, h3, h4⟩
 ·exact .inl ⟨h1, h2⟩
 ·exact .inr ⟨g, cap, cur, h1, h2, by rw [hb.block g (Array.getElem?_eq_some_iff.1 h3).1]; exact h3, h4⟩
theorem aQ.slice {w : World} {base : Nat} {v : Value} {l : List Rw} (h : aQ w base v l) : ∃ a c, v = .slice a l.length c := by
 obtain ⟨a, c, e, -⟩ := h.ws
 exact ⟨a, c, e⟩
theorem kd.rns {w : World} {base : Nat} {v : Value} {L : List (List Rw)} (h : kd w base v L) : RnS w v L := by
 obtain ⟨vs, hx, hl, ha⟩ := h
 rcases hx.2 with ⟨rfl, h0⟩ | ⟨g, cap, cur, rfl, _, hb, _, _, _, ht⟩
 ·have : vs = [] := List.length_eq_zero_iff.1 h0
  subst this
  have : L = [] := List.length_eq_zero_iff.1 hl.symm
  subst this
  exact ⟨none, 0, rfl, .inl rfl⟩
 ·refine ⟨_, cap, by rw [hl], .inr ⟨g, 0, rfl, (Array.getElem?_eq_some_iff.1 hb).1, fun i l hi => ?_⟩⟩
  have hil : i < L.length := (List.getElem?_eq_some_iff.1 hi).1
  obtain ⟨u, hu⟩ := ak (l := vs) (i := i) (by rw [hl]; exact hil)
  have ho := ha i u l hu hi
  refine ⟨u, ?_, ho.ws, ho.cap⟩
  have h0 := hu
  rw [← ht, List.getElem?_take_of_lt (by omega)] at h0
  rw [Nat.zero_add]
  simp only [World.cell?, hb]
  simpa using h0
end Go.Proofs.YtclcgakfmcofaaaGreatDoor
