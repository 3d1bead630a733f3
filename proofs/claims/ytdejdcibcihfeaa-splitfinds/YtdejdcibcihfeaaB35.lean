/- Records, appended onto records of the call's own; records of a row of IDs, one by one. -/
import Derived.Test.YtdejdcibcihfeaaB30
import Derived.Test.YtdejdcibcihfeaaB32
namespace Go.Proofs.Ytdejdcibcihfeaa
open Go.RowKit
set_option linter.unusedVariables false
set_option maxRecDepth 100000

theorem flatR_cell (l : List Rc) : ∀ u ∈ flatR l, u.oneCell' = true := by
  intro u hu
  simp only [flatR, List.mem_flatMap] at hu
  obtain ⟨x, _, hx⟩ := hu
  simp only [encR, List.mem_cons, List.not_mem_nil, or_false] at hx
  rcases hx with rfl | rfl | rfl <;> rfl
theorem flatR_inv : ∀ (l : List Rc) (j : Nat) (u : Value), (flatR l)[j]? = some u → ∃ i x, l[i]? = some x ∧ (j = i * 3 ∧ u = .int .i64 x.1.1 ∨ j = i * 3 + 1 ∧ u = .string x.1.2 ∨ j = i * 3 + 2 ∧ u = .int .i64 x.2)
  | [], j, u, h => by simp [flatR] at h
  | a :: l, j, u, h => by
    match j, h with
    | 0, h => simp [flatR, encR] at h; exact ⟨0, a, rfl, .inl ⟨rfl, h.symm⟩⟩
    | 1, h => simp [flatR, encR] at h; exact ⟨0, a, rfl, .inr (.inl ⟨rfl, h.symm⟩)⟩
    | 2, h => simp [flatR, encR] at h; exact ⟨0, a, rfl, .inr (.inr ⟨rfl, h.symm⟩)⟩
    | j + 3, h =>
      have h' : (flatR l)[j]? = some u := by simpa [flatR, encR] using h
      obtain ⟨i, x, h1, h2⟩ := flatR_inv l j u h'
      exact ⟨i + 1, x, by simpa using h1, by
        rcases h2 with ⟨e, h2⟩ | ⟨e, h2⟩ | ⟨e, h2⟩
        · exact .inl ⟨by omega, h2⟩
        · exact .inr (.inl ⟨by omega, h2⟩)
        · exact .inr (.inr ⟨by omega, h2⟩)⟩
theorem append_rs {W : World} {base : Nat} {v u : Value} {l m : List Rc} (ty : TypeId) (hown : OwnR W base v l) (hns : RS W u m) (hl : l.length + m.length ≤ 1000000) (hb : base ≤ W.heap.size) :
    ∃ v' W', (Builtin.append_ #[44, 44] ty #[v, u]).run Try.prog W = .ok v' W' ∧ OwnR W' base v' (l ++ m) ∧ W.grownBy W' v.ownBlock := by
  obtain ⟨i0, hi, hz0, hz1, hz2⟩ := info_parts Try.infoRec
  obtain ⟨a, cap, rfl, h⟩ := hns
  have hlen := flat_len m
  have go : ∀ (ad : Addr) (news : List Value), news = flatR m → (∀ j u, news[j]? = some u → W.cell? (ad.add j) = some u) → ∃ v' W', (Builtin.append_ #[44, 44] ty #[v, .slice (some ad) m.length cap]).run Try.prog W = .ok v' W' ∧ OwnR W' base v' (l ++ m) ∧ W.grownBy W' v.ownBlock := by
    intro ad news hn hc
    obtain ⟨v', w', hr, h2, h3, _, h5⟩ := run_append_own_at (P := Try.prog) W base 44 ty 62 i0 _ 3 32 Try.underlying44 hi hz0 hz1 hz2 rfl (by decide) v l.length (flatR l) hown ad m.length cap news (by subst hn; exact hlen) hc (by subst hn; exact flatR_cell m) (by unfold maxLen; omega) (by omega) hb
    refine ⟨v', w', hr, ?_, h3⟩
    subst hn
    unfold OwnR
    rw [flat_app, List.length_append]
    exact h2
  rcases h with rfl | ⟨b, off, rfl, hb, hat⟩
  · cases a with
    | none =>
      refine ⟨v, W, ?_, by rw [List.append_nil]; exact hown, World.grownBy.refl _ _⟩
      rcases hown.2 with ⟨rfl, h0⟩ | ⟨g, cap', cur, rfl, _, _, hnc, _⟩
      · simp [Builtin.append_, run_underlying Try.underlying44, sizeOf, typeInfo, hi, Builtin.lenOf, Builtin.firstCells]
      · simp [Builtin.append_, run_underlying Try.underlying44, sizeOf, typeInfo, hi, Builtin.lenOf, Builtin.firstCells, hnc, storeCells]
    | some ad => exact go ad [] rfl (fun j u hj => by simp at hj)
  · refine go ⟨b, off, none⟩ _ rfl fun j u hj => ?_
    rw [Addr.add_lit]
    obtain ⟨i, x, h1, h2⟩ := flatR_inv m j u hj
    obtain ⟨c0, c1, c2⟩ := hat i x h1
    rcases h2 with ⟨rfl, rfl⟩ | ⟨rfl, rfl⟩ | ⟨rfl, rfl⟩
    · exact c0
    · rw [← Nat.add_assoc]; exact c1
    · rw [← Nat.add_assoc]; exact c2
theorem recs_take {S : List Sp} {l : List Int} {k : Nat} {i : Int} (h : l[k]? = some i) : recsL S (l.take (k + 1)) = recsN S (recsL S (l.take k)) i := by
  rw [List.take_add_one, h]
  exact recsL_snoc S _ i
theorem recs_bad {S : List Sp} {l : List Int} {k : Nat} (h : (recsL S (l.take k)).2 ≠ 0) : ∀ j, k ≤ j → recsL S (l.take j) = ([], 3) := by
  intro j hj
  induction j with
  | zero =>
    obtain rfl : k = 0 := by omega
    exact absurd rfl h
  | succ j ih =>
    by_cases e : k = j + 1
    · subst e
      rcases recsL_err S (l.take (j + 1)) with e | e
      · exact absurd e h
      · exact e
    · have h1 := ih (by omega)
      cases hx : l[j]? with
      | none =>
        have : l.take (j + 1) = l.take j := by rw [List.take_add_one, hx]; simp
        rw [this]
        exact h1
      | some x =>
        rw [recs_take hx, h1]
        rfl
theorem placeC_none {S : List Sp} {i : Int} (h : findC S i = none) : placeC S i = -1 := by unfold placeC; rw [h]
theorem placeC_some {S : List Sp} {i : Int} {k : Nat} (h : findC S i = some k) : placeC S i = (k : Int) := by unfold placeC; rw [h]
theorem NS.take {w : World} {a : Option Addr} {cap : Nat} {l : List Int} (h : NS w (.slice a l.length cap) l) (k : Nat) (hk : k ≤ l.length) (cap' : Nat) : NS w (.slice a k cap') (l.take k) := by
  obtain ⟨a', c', e, h⟩ := h
  have ea : a = a' := by injection e
  subst ea
  refine ⟨a, cap', by rw [List.length_take, Nat.min_eq_left hk], ?_⟩
  rcases h with rfl | ⟨b, off, rfl, hb, hat⟩
  · exact .inl (by simp)
  · refine .inr ⟨b, off, rfl, hb, fun i x hx => hat i x ?_⟩
    have hik : i < k := by have := (List.getElem?_eq_some_iff.1 hx).1; rw [List.length_take] at this; omega
    rwa [List.getElem?_take_of_lt hik] at hx
end Go.Proofs.Ytdejdcibcihfeaa
