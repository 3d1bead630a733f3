/- Rows that lie anywhere, appended to rows of one's own. -/
import Derived.Test.YtejgcflcckjlpaaGreatDoorBC29
namespace Go.Proofs.YtejgcflcckjlpaaGreatDoor
open Go.RowKit
set_option linter.unusedVariables false
set_option maxRecDepth 100000

/-- One by one, read in the world w. -/
def AllN (w : World) (xs : List Raw) (l : List Rw) : Prop := xs.length = l.length ∧ ∀ (i : Nat) (x : Raw) (r : Rw), xs[i]? = some x → l[i]? = some r → x.1 = r.1 ∧ x.2.1 = r.2.1 ∧ x.2.2.2.1 = r.2.2.length ∧ NS w (slV x.2.2) r.2.2
theorem AllN.nil (w : World) : AllN w [] [] := ⟨rfl, fun i x r h => by simp at h⟩
theorem AllN.one {w : World} {k : Ky} {n : Int} {l : List Int} {s : Option Addr} {p : Nat} (h : NS w (.slice s l.length p) l) : AllN w [(k, n, (s, l.length, p))] [(k, (n, l))] := ⟨rfl, fun i x r h1 h2 => by
  match i, h1, h2 with
  | 0, h1, h2 => simp at h1 h2; subst h1 h2; exact ⟨rfl, rfl, rfl, h⟩⟩
theorem AllN.app {w : World} {xs ys : List Raw} {l m : List Rw} (h : AllN w xs l) (k : AllN w ys m) : AllN w (xs ++ ys) (l ++ m) := by
  refine ⟨by simp [h.1, k.1], fun i y s h1 h2 => ?_⟩
  by_cases hi : i < xs.length
  · rw [List.getElem?_append_left hi] at h1
    rw [List.getElem?_append_left (h.1 ▸ hi)] at h2
    exact h.2 i y s h1 h2
  · rw [List.getElem?_append_right (by omega)] at h1
    rw [List.getElem?_append_right (by have := h.1; omega), ← h.1] at h2
    exact k.2 _ y s h1 h2
/-- How they lie. -/
theorem WS.raw {w : World} {v : Value} {l : List Rw} (h : WS w v l) : ∃ ys, XS w v ys ∧ AllN w ys l := by
  obtain ⟨a, cap, rfl, h⟩ := h
  rcases h with rfl | ⟨b, off, rfl, hb, hat⟩
  · exact ⟨[], ⟨a, cap, rfl, .inl rfl⟩, AllN.nil _⟩
  · have key : ∀ k, k ≤ l.length → ∃ ys : List Raw, ys.length = k ∧ AllN w ys (l.take k) ∧ ∀ (j : Nat) (u : Value), (flatW ys)[j]? = some u → w.cell? ⟨b, off + j, none⟩ = some u := by
      intro k
      induction k with
      | zero => intro _; exact ⟨[], rfl, by simpa using AllN.nil w, fun j u h => by simp at h⟩
      | succ k ih =>
        intro hk
        obtain ⟨ys, e1, e2, e3⟩ := ih (by omega)
        obtain ⟨⟨⟨ya, yb⟩, yn, yl⟩, hy⟩ := getSome (l := l) (i := k) (by omega)
        obtain ⟨c0, c1, c2, s1, p1, c3, n1⟩ := hat k _ hy
        simp only at c0 c1 c2 c3 n1
        refine ⟨ys ++ [((ya, yb), yn, (s1, yl.length, p1))], by simp [e1], ?_, fun j u hj => ?_⟩
        · rw [List.take_add_one, hy]
          exact e2.app (AllN.one n1)
        · have hfl := flatW_len ys
          rw [flatW_app, flatW_one] at hj
          by_cases hlt : j < (flatW ys).length
          · rw [List.getElem?_append_left hlt] at hj
            exact e3 j u hj
          · rw [List.getElem?_append_right (by omega)] at hj
            obtain ⟨d, rfl⟩ : ∃ d, j = k * 4 + d := ⟨j - k * 4, by omega⟩
            rw [show k * 4 + d - (flatW ys).length = d by omega] at hj
            rw [← Nat.add_assoc]
            match d, hj with
            | 0, hj => simp at hj; subst hj; exact c0
            | 1, hj => simp at hj; subst hj; exact c1
            | 2, hj => simp at hj; subst hj; exact c2
            | 3, hj => simp at hj; subst hj; exact c3
            | d + 4, hj => simp at hj
    obtain ⟨ys, e1, e2, e3⟩ := key l.length (Nat.le_refl _)
    rw [List.take_length] at e2
    exact ⟨ys, ⟨_, cap, by rw [e1], .inr ⟨b, off, rfl, hb, e3⟩⟩, e2⟩
/-- Rows of the call's own, whose sets lie where they lay when it began. -/
def OwnA (w0 w : World) (v : Value) (l : List Rw) : Prop := ∃ xs, OwnX w w0.heap.size v xs ∧ AllN w0 xs l
theorem OwnA.nil (w0 w : World) : OwnA w0 w (.slice none 0 0) [] := ⟨[], World.ownsRow_nil _ _ _ _, AllN.nil _⟩
theorem OwnA.ws {w0 w : World} {v : Value} {l : List Rw} (h : OwnA w0 w v l) (hb : Below w0.heap.size w0 w) : WS w v l := by
  obtain ⟨xs, hx, ha⟩ := h
  have hx0 := hx
  rcases hx.2 with ⟨rfl, h0⟩ | ⟨g, cap, cur, rfl, _, _⟩
  · have : xs = [] := List.length_eq_zero_iff.1 h0
    subst this
    have : l = [] := List.length_eq_zero_iff.1 ha.1.symm
    subst this
    exact ⟨none, 0, rfl, .inl rfl⟩
  · obtain ⟨h1, -, -, h2⟩ := hx0.cell
    refine ⟨_, cap, by rw [ha.1], .inr ⟨g, 0, rfl, h1, fun i r hr => ?_⟩⟩
    have hi : i < l.length := (List.getElem?_eq_some_iff.1 hr).1
    obtain ⟨x, hx'⟩ := getSome (l := xs) (i := i) (by rw [ha.1]; exact hi)
    obtain ⟨q0, q1, q2, q3⟩ := flatW_get xs i x hx'
    obtain ⟨ek, en, el, es⟩ := ha.2 i x r hx' hr
    obtain ⟨xk, xn, xa, xl, xc⟩ := x
    simp only at ek en el es q0 q1 q2 q3
    subst ek en el
    refine ⟨?_, ?_, ?_, xa, xc, ?_, es.below hb⟩
    · rw [Nat.zero_add]; exact h2 _ _ q0
    · rw [Nat.zero_add]; exact h2 _ _ q1
    · rw [Nat.zero_add]; exact h2 _ _ q2
    · rw [Nat.zero_add]; exact h2 _ _ q3
theorem OwnA.app {w0 w : World} {v u : Value} {l m : List Rw} (ty : TypeId) (h : OwnA w0 w v l) (hb : Below w0.heap.size w0 w) (hu : WS w0 u m) (hl : l.length + m.length ≤ 1000000) :
    ∃ v' W', (Builtin.append_ #[29, 29] ty #[v, u]).run Tryz.prog w = .ok v' W' ∧ OwnA w0 W' v' (l ++ m) ∧ Below w0.heap.size w0 W' := by
  obtain ⟨xs, hx, ha⟩ := h
  obtain ⟨ys, hy, hm⟩ := hu.raw
  obtain ⟨v', W', h1, h2, h3, -⟩ := append_xs ty hx (hy.below hb) (by rw [ha.1, hm.1]; exact hl) hb.size
  exact ⟨v', W', h1, ⟨_, h2, ha.app hm⟩, hb.grown h3 hb.size (own_row hx)⟩
end Go.Proofs.YtejgcflcckjlpaaGreatDoor
