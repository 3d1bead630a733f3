import Derived.Test.YtclcgakfmcofaaaGreatDoorMW9
import Derived.Test.YtclcgakfmcofaaaGreatDoorMW2
set_option linter.unusedVariables false
set_option maxRecDepth 100000
namespace Go.Proofs.YtclcgakfmcofaaaGreatDoor
open Go.RowKit
theorem flatR_cell (l : List Rc) : ∀ u ∈ aP l, u.oneCell' = true := by
 intro u hu
 simp only [aP, List.mem_flatMap] at hu
 obtain ⟨x, _, hx⟩ := hu
 simp only [jy, List.mem_cons, List.not_mem_nil, or_false] at hx
 rcases hx with rfl | rfl | rfl <;> rfl
theorem oP : ∀ (l : List Rc) (j : Nat) (u : Value), (aP l)[j]? = some u → ∃ i x, l[i]? = some x ∧ (j = i * 3 ∧ u = .int .i64 x.1.1 ∨ j = i * 3 + 1 ∧ u = .string x.1.2 ∨ j = i * 3 + 2 ∧ u = .int .i64 x.2)
 | [], j, u, h => by simp [aP] at h
 | a :: l, j, u, h => by
  match j, h with
  | 0, h => simp [aP, jy] at h; exact ⟨0, a, rfl, .inl ⟨rfl, h.symm⟩⟩
  | 1, h => simp [aP, jy] at h; exact ⟨0, a, rfl, .inr (.inl ⟨rfl, h.symm⟩)⟩
  | 2, h => simp [aP, jy] at h; exact ⟨0, a, rfl, .inr (.inr ⟨rfl, h.symm⟩)⟩
  | j + 3, h =>
   have h' : (aP l)[j]? = some u := by simpa [aP, jy] using h
   obtain ⟨i, x, h1, h2⟩ := oP l j u h'
   exact ⟨i + 1, x, by simpa using h1, by
    rcases h2 with ⟨e, h2⟩ | ⟨e, h2⟩ | ⟨e, h2⟩
    ·exact .inl ⟨by omega, h2⟩
    ·exact .inr (.inl ⟨by omega, h2⟩)
    ·exact .inr (.inr ⟨by omega, h2⟩)⟩
theorem iq {W : World} {base : Nat} {v u : Value} {l m : List Rc} (ty : TypeId) (hown : bq W base v l) (hns : RS W u m) (hl : l.length + m.length ≤ 1000000) (hb : base ≤ W.heap.size) :
  ∃ v' W', (Builtin.append_ #[97, 97] ty #[v, u]).run Tryz.prog W = .ok v' W' ∧ bq W' base v' (l ++ m) ∧ W.grownBy W' v.ownBlock := by
 obtain ⟨i0, hi, hz0, hz1, hz2⟩ := info_parts Tryz.infoRec
 obtain ⟨a, cap, rfl, h⟩ := hns
 have hlen := flat_len m
 have go : ∀ (ad : Addr) (news : List Value), news = aP m → (∀ j u, news[j]? = some u → W.cell? (ad.add j) = some u) → ∃ v' W', (Builtin.append_ #[97, 97] ty #[v, .slice (some ad) m.length cap]).run Tryz.prog W = .ok v' W' ∧ bq W' base v' (l ++ m) ∧ W.grownBy W' v.ownBlock := by
  intro ad news hn hc
  obtain ⟨v', w', hr, h2, h3, _, h5⟩ := run_append_own_at (P := Tryz.prog) W base 97 ty 155 i0 _ 3 32 Tryz.underlying97 hi hz0 hz1 hz2 rfl (by decide) v l.length (aP l) hown ad m.length cap news (by subst hn; exact hlen) hc (by subst hn; exact flatR_cell m) (by unfold maxLen; omega) (by omega) hb
  refine ⟨v', w', hr, ?_, h3⟩
  subst hn
  unfold bq
  rw [mn, List.length_append]
  exact h2
 rcases h with rfl | ⟨b, off, rfl, hb, hat⟩
 ·cases a with
  | none =>
   refine ⟨v, W, ?_, by rw [List.append_nil]; exact hown, World.grownBy.refl _ _⟩
   rcases hown.2 with ⟨rfl, h0⟩ | ⟨g, cap', cur, rfl, _, _, hnc, _⟩
   ·simp [Builtin.append_, run_underlying Tryz.underlying97, sizeOf, typeInfo, hi, Builtin.lenOf, Builtin.firstCells]
   ·simp [Builtin.append_, run_underlying Tryz.underlying97, sizeOf, typeInfo, hi, Builtin.lenOf, Builtin.firstCells, hnc, storeCells]
  | some ad => exact go ad [] rfl (fun j u hj => by simp at hj)
 ·refine go ⟨b, off, none⟩ _ rfl fun j u hj => ?_
  rw [Addr.add_lit]
  obtain ⟨i, x, h1, h2⟩ := oP m j u hj
  obtain ⟨c0, c1, c2⟩ := hat i x h1
  rcases h2 with ⟨rfl, rfl⟩ | ⟨rfl, rfl⟩ | ⟨rfl, rfl⟩
  ·exact c0
  ·rw [← Nat.add_assoc]; exact c1
  ·rw [← Nat.add_assoc]; exact c2
end Go.Proofs.YtclcgakfmcofaaaGreatDoor
