/- Texts laid together: WCopy, WJoin, WRuns, MRRun. -/
import Derived.Test.YtclcgakfmcofaaaGreatDoorMC9
import Derived.Test.YtclcgakfmcofaaaGreatDoorMC24
import Derived.Test.YtclcgakfmcofaaaGreatDoorMC1
namespace Go.Proofs.YtclcgakfmcofaaaGreatDoor
open Go.RowKit
set_option linter.unusedVariables false
set_option maxRecDepth 100000
end Go.Proofs.YtclcgakfmcofaaaGreatDoor
namespace Go.Proofs.YtclcgakfmcofaaaGreatDoor
open Go.RowKit Go.Maps
set_option linter.unusedVariables false
set_option maxRecDepth 100000
def RunsC (w : World) (b off : Nat) (L : List (List Rw)) : Prop := ∀ (i : Nat) (l : List Rw), L[i]? = some l → ∃ u, w.cell? ⟨b, off + i, none⟩ = some u ∧ WS w u l ∧ CapOk u
def RnS (w : World) (v : Value) (L : List (List Rw)) : Prop := ∃ a cap, v = .slice a L.length cap ∧ (L = [] ∨ ∃ b off, a = some ⟨b, off, none⟩ ∧ b < w.heap.size ∧ RunsC w b off L)
structure RunOk (agg bound : Int) (l : List Rw) : Prop where
 ok : okRows agg bound l = true
 cell : ∀ r ∈ l, OkC agg bound r.2
 key : ∀ r ∈ l, Good r.1
theorem flat_snoc {L : List (List Rw)} {k : Nat} {r : List Rw} (hr : L[k]? = some r) : (L.take (k + 1)).flatten = (L.take k).flatten ++ r := by
 rw [List.take_add_one, hr]
 simp
theorem len_mono (J : Cl → Cl → Cl × Int) (a b : List Rw) : (gat J a).1.length ≤ (gat J (a ++ b)).1.length := by
 induction b using snoc_ind with
 | h0 => rw [List.append_nil]; exact Nat.le_refl _
 | h1 b r ih =>
  rw [← List.append_assoc, gat_snoc]
  unfold stepG
  simp only
  rw [len_putR (rise_gat J (a ++ b))]
  split <;> omega
theorem flat_take (L : List (List Rw)) (k : Nat) : ∃ m, L.flatten = (L.take k).flatten ++ m := ⟨(L.drop k).flatten, by rw [← List.flatten_append, List.take_append_drop]⟩
end Go.Proofs.YtclcgakfmcofaaaGreatDoor
namespace Go.Proofs.YtclcgakfmcofaaaGreatDoor
open Go.RowKit
set_option linter.unusedVariables false
set_option maxRecDepth 100000
theorem Tryz.infoRows : (Tryz.prog.info? 61).map (fun i => (i.zero, i.size, i.bytes)) = some (some (.slice none 0 0), 1, 24) := by kernel_rfl
def KeepT (T : TypeId) (w w' : World) : Prop := ∀ (g : Nat) (cur : Array Value), w.heap[g]? = some (.cells cur T (0, 0)) → w'.heap[g]? = some (.cells cur T (0, 0))
theorem KeepT.row {T T' : TypeId} (hT : T ≠ T') {W W' : World} {base sz n : Nat} {v : Value} {xs : List Value} (h : W.ownsRow base T' sz v n xs) (hg : W.grownBy W' v.ownBlock) : KeepT T W W' := fun g cur hh => by
 refine (hg.block g (Array.getElem?_eq_some_iff.1 hh).1 (fun e => ?_)).trans hh
 rcases h.2 with ⟨rfl, _⟩ | ⟨g', cap, cur', rfl, _, hb, _⟩
 ·simp [Value.ownBlock] at e
 ·have : g' = g := by simpa [Value.ownBlock] using e.symm
  subst this
  rw [hb] at hh
  injection hh with hh
  injection hh with _ hh
  exact hT hh.symm
theorem OwnX.keepT {w w' : World} {base : Nat} {v : Value} {xs : List Raw} (h : OwnX w base v xs) (k : KeepT 129 w w') : OwnX w' base v xs := by
 refine ⟨h.1, ?_⟩
 rcases h.2 with ⟨h1, h2⟩ | ⟨g, cap, cur, h1, h2, h3, h4⟩
 ·exact .inl ⟨h1, h2⟩
 ·exact .inr ⟨g, cap, cur, h1, h2, k g cur h3, h4⟩
theorem OwnW.keepT {w w' : World} {base : Nat} {v : Value} {l : List Rw} (h : OwnW w base v l) (hs : w.heap.size ≤ w'.heap.size) (k : KeepT 129 w w') (k2 : KeepT 2 w w') : OwnW w' base v l := by
 obtain ⟨xs, h1, h2⟩ := h
 exact ⟨xs, h1.keepT k, h2.keep ⟨hs, k2⟩⟩
def OwnRs (w : World) (base : Nat) (v : Value) (L : List (List Rw)) : Prop := ∃ vs, w.ownsRow base 61 1 v vs.length vs ∧ vs.length = L.length ∧ ∀ (i : Nat) (u : Value) (l : List Rw), vs[i]? = some u → L[i]? = some l → OwnW w base u l
theorem OwnRs.nil (w : World) (base : Nat) : OwnRs w base (.slice none 0 0) [] := ⟨[], World.ownsRow_nil _ _ _ _, rfl, fun i u l h => by simp at h⟩
theorem ownsRow_below {w w' : World} {base n sz : Nat} {T : TypeId} {v : Value} {xs : List Value} (h : w.ownsRow base T sz v n xs) (hb : Below w.heap.size w w') : w'.ownsRow base T sz v n xs := by
 refine ⟨h.1, ?_⟩
 rcases h.2 with ⟨h1, h2⟩ | ⟨g, cap, cur, h1, h2, h3, h4⟩
 ·exact .inl ⟨h1, h2⟩
 ·exact .inr ⟨g, cap, cur, h1, h2, by rw [hb.block g (Array.getElem?_eq_some_iff.1 h3).1]; exact h3, h4⟩
theorem OwnRs.below {w w' : World} {base : Nat} {v : Value} {L : List (List Rw)} (h : OwnRs w base v L) (hb : Below w.heap.size w w') : OwnRs w' base v L := by
 obtain ⟨vs, h1, h2, h3⟩ := h
 exact ⟨vs, ownsRow_below h1 hb, h2, fun i u l hu hl => (h3 i u l hu hl).below hb⟩
theorem OwnW.slice {w : World} {base : Nat} {v : Value} {l : List Rw} (h : OwnW w base v l) : ∃ a c, v = .slice a l.length c := by
 obtain ⟨a, c, e, -⟩ := h.ws
 exact ⟨a, c, e⟩
theorem OwnRs.rns {w : World} {base : Nat} {v : Value} {L : List (List Rw)} (h : OwnRs w base v L) : RnS w v L := by
 obtain ⟨vs, hx, hl, ha⟩ := h
 rcases hx.2 with ⟨rfl, h0⟩ | ⟨g, cap, cur, rfl, _, hb, _, _, _, ht⟩
 ·have : vs = [] := List.length_eq_zero_iff.1 h0
  subst this
  have : L = [] := List.length_eq_zero_iff.1 hl.symm
  subst this
  exact ⟨none, 0, rfl, .inl rfl⟩
 ·refine ⟨_, cap, by rw [hl], .inr ⟨g, 0, rfl, (Array.getElem?_eq_some_iff.1 hb).1, fun i l hi => ?_⟩⟩
  have hil : i < L.length := (List.getElem?_eq_some_iff.1 hi).1
  obtain ⟨u, hu⟩ := getSome (l := vs) (i := i) (by rw [hl]; exact hil)
  have ho := ha i u l hu hi
  refine ⟨u, ?_, ho.ws, ho.cap⟩
  have h0 := hu
  rw [← ht, List.getElem?_take_of_lt (by omega)] at h0
  rw [Nat.zero_add]
  simp only [World.cell?, hb]
  simpa using h0
theorem OwnRs.app {W : World} {base b : Nat} {v u : Value} {L : List (List Rw)} {l : List Rw} (ty : TypeId) (h : OwnRs W base v L) (hu : OwnW W base u l) (hc : W.cell? ⟨b, 0, none⟩ = some u) (hl : L.length ≤ 100000) (hb : base ≤ W.heap.size) :
  ∃ v' W', (Builtin.append_ #[118, 118] ty #[v, .slice (some ⟨b, 0, none⟩) 1 1]).run Tryz.prog W = .ok v' W' ∧ OwnRs W' base v' (L ++ [l]) ∧ W.grownBy W' v.ownBlock ∧ ∀ k, v.ownBlock = some k → base ≤ k := by
 obtain ⟨i0, hi, hz0, hz1, hz2⟩ := info_parts Tryz.infoRows
 obtain ⟨vs, h1, h2, h3⟩ := h
 obtain ⟨ua, uc, rfl⟩ := hu.slice
 obtain ⟨v', w', hr, q2, q3, _, q5⟩ := run_append_own_at (P := Tryz.prog) W base 118 ty 61 i0 _ 1 24 Tryz.underlying118 hi hz0 hz1 hz2 rfl (by decide) v vs.length vs h1 ⟨b, 0, none⟩ 1 1 [.slice ua l.length uc] rfl (fun j u hj => by
  match j, hj with
  | 0, hj => simp at hj; subst hj; rw [Addr.add_lit]; exact hc) (fun u hu => by simp at hu; subst hu; rfl) (by unfold maxLen; omega) (by omega) hb
 have k1 : KeepT 129 W w' := KeepT.row (by decide) h1 q3
 have k2 : KeepT 2 W w' := KeepT.row (by decide) h1 q3
 refine ⟨v', w', hr, ⟨vs ++ [.slice ua l.length uc], by rw [List.length_append]; exact q2, by simp [h2], fun i u l' hu' hl' => ?_⟩, q3, own_row h1⟩
 by_cases hi' : i < vs.length
 ·rw [List.getElem?_append_left hi'] at hu'
  rw [List.getElem?_append_left (h2 ▸ hi')] at hl'
  exact (h3 i u l' hu' hl').keepT q3.size k1 k2
 ·rw [List.getElem?_append_right (by omega)] at hu'
  rw [List.getElem?_append_right (by omega)] at hl'
  have e : i - vs.length = 0 := by
   have := (List.getElem?_eq_some_iff.1 hu').1
   simp at this
   omega
  rw [e] at hu'
  rw [← h2, e] at hl'
  simp at hu' hl'
  subst hu' hl'
  exact hu.keepT q3.size k1 k2
set_option maxRecDepth 100000
end Go.Proofs.YtclcgakfmcofaaaGreatDoor
