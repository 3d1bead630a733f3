/- Texts laid together: WEq, WRGatF, WRFold. -/
import Derived.Test.YtclcgakfmcofaaaGreatDoorMJ9
import Derived.Deep.RegionHeld3
/- Rows compared. -/
namespace Go.Proofs.YtclcgakfmcofaaaGreatDoor
open Go.RowKit
set_option linter.unusedVariables false
set_option maxRecDepth 100000
end Go.Proofs.YtclcgakfmcofaaaGreatDoor
/- The page's own gather. -/
namespace Go.Proofs.YtclcgakfmcofaaaGreatDoor
open Go.RowKit
set_option linter.unusedVariables false

/-- The place found so far. -/
structure Found (st : List Rw) (k : Ky) (p q : Nat) : Prop where
  pq : p ≤ q
  ql : q ≤ st.length
  lo : ∀ y ∈ st.take p, ltK y.1 k = true
  hi : ∀ y ∈ st.drop q, ltK y.1 k = false
theorem Found.start (st : List Rw) (k : Ky) : Found st k 0 st.length := ⟨Nat.zero_le _, Nat.le_refl _, by simp, by simp⟩
theorem rise_at {st : List Rw} (hr : RiseK st) {i j : Nat} {x y : Rw} (hi : st[i]? = some x) (hj : st[j]? = some y) (h : i < j) : ltK x.1 y.1 = true := by
  obtain ⟨h1, rfl⟩ := List.getElem?_eq_some_iff.1 hi
  obtain ⟨h2, rfl⟩ := List.getElem?_eq_some_iff.1 hj
  exact (List.pairwise_iff_getElem.1 hr) i j h1 h2 h
theorem Found.left {st : List Rw} {k : Ky} {p q m : Nat} {x : Rw} (h : Found st k p q) (hr : RiseK st) (hx : st[m]? = some x) (hm : p ≤ m) (hq : m < q) (hlt : ltK x.1 k = false) : Found st k p m := by
  refine ⟨hm, by have := h.ql; omega, h.lo, fun y hy => ?_⟩
  obtain ⟨i, hi⟩ := List.getElem?_of_mem hy
  rw [List.getElem?_drop] at hi
  by_cases e : i = 0
  · subst e
    rw [Nat.add_zero, hx] at hi
    injection hi with hi
    subst hi
    exact hlt
  · have h1 := rise_at hr hx hi (by omega)
    cases h2 : ltK y.1 k
    · rfl
    · rw [ltK_trans h1 h2] at hlt; cases hlt
/-- A cell of one row set anew. -/
theorem flatW_set (xs : List Raw) (p : Nat) (x : Raw) (n : Int) (s : Sl) (hx : xs[p]? = some x) : flatW (xs.set p (x.1, n, s)) = ((flatW xs).set (p * 4 + 2) (.int .i64 n)).set (p * 4 + 3) (slV s) := by
  induction xs generalizing p with
  | nil => simp at hx
  | cons a l ih =>
    cases p with
    | zero => simp at hx; subst hx; rfl
    | succ p =>
      have hx' : l[p]? = some x := by simpa using hx
      rw [List.set_cons_succ]
      show encW a ++ flatW (l.set p (x.1, n, s)) = ((encW a ++ flatW l).set ((p + 1) * 4 + 2) (.int .i64 n)).set ((p + 1) * 4 + 3) (slV s)
      rw [ih p hx']
      have e1 : (p + 1) * 4 + 2 = (encW a).length + (p * 4 + 2) := by simp [encW]; omega
      have e2 : (p + 1) * 4 + 3 = (encW a).length + (p * 4 + 3) := by simp [encW]; omega
      rw [e1, e2, List.set_append_right _ _ (by omega), List.set_append_right _ _ (by omega)]
      simp
theorem OwnX.set {w : World} {base g cap n0 : Nat} {xs : List Raw} {p : Nat} {x : Raw} (h : OwnX w base (.slice (some ⟨g, 0, none⟩) n0 cap) xs) (hx : xs[p]? = some x) (n : Int) (s : Sl) :
    OwnX ((w.setCell ⟨g, p * 4 + 2, none⟩ (.int .i64 n)).setCell ⟨g, p * 4 + 3, none⟩ (slV s)) base (.slice (some ⟨g, 0, none⟩) n0 cap) (xs.set p (x.1, n, s)) := by
  have hp := (List.getElem?_eq_some_iff.1 hx).1
  rcases h.2 with ⟨h1, _⟩ | ⟨g', cap', cur, h1, hg, hb, hn, hm, hs, ht⟩
  · cases h1
  · injection h1 with e1 e2 e3
    injection e1 with e1
    injection e1 with e1
    subst e1 e2 e3
    refine ⟨by rw [flatW_len], .inr ⟨g, cap, (cur.setIfInBounds (p * 4 + 2) (.int .i64 n)).setIfInBounds (p * 4 + 3) (slV s), by rw [List.length_set], hg, ?_, by rw [List.length_set]; exact hn, hm, by simp [hs], ?_⟩⟩
    · simp [World.setCell, Array.getElem?_modify, hb]
    · rw [List.length_set, flatW_set xs p x n s hx, ← ht]
      simp only [Array.toList_setIfInBounds]
      rw [List.take_set, List.take_set]
theorem AllW.set {w : World} {base : Nat} {xs : List Raw} {l : List Rw} {p : Nat} {x : Raw} {r : Rw} (h : AllW w base xs l) (k : IsW w base x r) : AllW w base (xs.set p x) (l.set p r) := by
  refine ⟨by simp [h.1], fun i y s h1 h2 => ?_⟩
  rw [List.getElem?_set] at h1 h2
  by_cases e : p = i
  · subst e
    simp only [if_true] at h1 h2
    split at h1
    · split at h2
      · injection h1 with h1
        injection h2 with h2
        subst h1 h2
        exact k
      · cases h2
    · cases h1
  · rw [if_neg e] at h1 h2
    exact h.2 i y s h1 h2
theorem AllW.app {w : World} {base : Nat} {xs ys : List Raw} {l m : List Rw} (h : AllW w base xs l) (k : AllW w base ys m) : AllW w base (xs ++ ys) (l ++ m) := by
  refine ⟨by simp [h.1, k.1], fun i y s h1 h2 => ?_⟩
  by_cases hi : i < xs.length
  · rw [List.getElem?_append_left hi] at h1
    rw [List.getElem?_append_left (h.1 ▸ hi)] at h2
    exact h.2 i y s h1 h2
  · rw [List.getElem?_append_right (by omega)] at h1
    rw [List.getElem?_append_right (by have := h.1; omega), ← h.1] at h2
    exact k.2 _ y s h1 h2
theorem AllW.take {w : World} {base : Nat} {xs : List Raw} {l : List Rw} (h : AllW w base xs l) (p : Nat) : AllW w base (xs.take p) (l.take p) := by
  refine ⟨by simp [h.1], fun i y s h1 h2 => ?_⟩
  have hi := (List.getElem?_eq_some_iff.1 h1).1
  rw [List.length_take] at hi
  rw [List.getElem?_take_of_lt (by omega)] at h1 h2
  exact h.2 i y s h1 h2
theorem AllW.drop {w : World} {base : Nat} {xs : List Raw} {l : List Rw} (h : AllW w base xs l) (p : Nat) : AllW w base (xs.drop p) (l.drop p) := by
  refine ⟨by simp [h.1], fun i y s h1 h2 => ?_⟩
  rw [List.getElem?_drop] at h1 h2
  exact h.2 _ y s h1 h2
end Go.Proofs.YtclcgakfmcofaaaGreatDoor
namespace Go.Proofs.YtclcgakfmcofaaaGreatDoor
open Go.RowKit
set_option linter.unusedVariables false
set_option maxRecDepth 100000
theorem OwnX.frozen {w : World} {base g cap n0 : Nat} {xs : List Raw} (h : OwnX w base (.slice (some ⟨g, 0, none⟩) n0 cap) xs) (o : Nat) : w.frozen? ⟨g, o, none⟩ = false := by
  rcases h.2 with ⟨h1, _⟩ | ⟨g', cap', cur, h1, hg, hb, -⟩
  · cases h1
  · injection h1 with e1 e2 e3
    injection e1 with e1
    injection e1 with e1
    subst e1
    simp [World.frozen?, hb]
end Go.Proofs.YtclcgakfmcofaaaGreatDoor
/- The page's own Fold, Recs. -/
namespace Go.Proofs.YtclcgakfmcofaaaGreatDoor
open Go.RowKit
set_option linter.unusedVariables false
set_option maxRecDepth 100000
end Go.Proofs.YtclcgakfmcofaaaGreatDoor
