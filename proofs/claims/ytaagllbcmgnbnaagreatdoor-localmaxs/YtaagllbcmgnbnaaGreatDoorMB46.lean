/- Texts laid together: WKRow, WKCopy, WKSort. -/
import Derived.Test.YtaagllbcmgnbnaaGreatDoorMB4
import Derived.Test.YtaagllbcmgnbnaaGreatDoorMB12
import Derived.Deep.Slices
import Derived.OwnWalk
import Derived.Deep.RegionHeld3
import Derived.Deep.AppendLies
/- A slice of keys: what its cells hold. -/
namespace Go.Proofs.YtaagllbcmgnbnaaGreatDoor
open Go.RowKit Go.Deep
set_option linter.unusedVariables false
set_option maxRecDepth 100000

/-- From (b, off) on the keys of l lie, one behind the other. -/
def KeysAt (w : World) (b off : Nat) (l : List Ky) : Prop := ∀ i x, l[i]? = some x → w.cell? ⟨b, off + i * 2, none⟩ = some (.int .i64 x.1) ∧ w.cell? ⟨b, off + i * 2 + 1, none⟩ = some (.string x.2)

/-- The slice v holds the keys l. -/
def KS (w : World) (v : Value) (l : List Ky) : Prop :=
  ∃ a cap, v = .slice a l.length cap ∧ (l = [] ∨ ∃ b off, a = some ⟨b, off, none⟩ ∧ b < w.heap.size ∧ KeysAt w b off l)

theorem KeysAt.below {w w' : World} {b off B : Nat} {l : List Ky} (h : KeysAt w b off l) (hb : Below B w w') (hlt : b < B) : KeysAt w' b off l := fun i x hx =>
  ⟨(hb.cell (p := ⟨b, off + i * 2, none⟩) hlt).trans (h i x hx).1, (hb.cell (p := ⟨b, off + i * 2 + 1, none⟩) hlt).trans (h i x hx).2⟩
theorem KS.below {w w' : World} {v : Value} {l : List Ky} (h : KS w v l) (hb : Below w.heap.size w w') : KS w' v l := by
  obtain ⟨a, cap, rfl, h⟩ := h
  refine ⟨a, cap, rfl, ?_⟩
  rcases h with h | ⟨b, off, rfl, hlt, h⟩
  · exact .inl h
  · exact .inr ⟨b, off, rfl, Nat.lt_of_lt_of_le hlt hb.size, h.below hb hlt⟩

/-- The cells of keys, one behind the other. -/
abbrev flatK' (l : List Ky) : List Value := l.flatMap encK
theorem flatK_len (l : List Ky) : (flatK' l).length = l.length * 2 := by
  induction l with
  | nil => rfl
  | cons a l ih => simp [flatK', encK] at ih ⊢; omega
theorem flatK_get : ∀ (l : List Ky) (i : Nat) (x : Ky), l[i]? = some x → (flatK' l)[i * 2]? = some (.int .i64 x.1) ∧ (flatK' l)[i * 2 + 1]? = some (.string x.2)
  | [], i, x, h => by simp at h
  | a :: l, 0, x, h => by simp at h; subst h; simp [flatK', encK]
  | a :: l, i + 1, x, h => by
    simp at h
    have := flatK_get l i x h
    simp only [flatK', List.flatMap_cons, encK] at this ⊢
    have e : (i + 1) * 2 = i * 2 + 1 + 1 := by omega
    rw [e]
    simpa using this
theorem flatK_app (l m : List Ky) : flatK' (l ++ m) = flatK' l ++ flatK' m := by simp [flatK']
theorem flatK_one (x : Ky) : flatK' [x] = [.int .i64 x.1, .string x.2] := rfl
theorem keysAt_of_block {w : World} {g : Nat} {cur : Array Value} {e : TypeId} {l : List Ky} (hb : w.heap[g]? = some (.cells cur e (0, 0))) (ht : cur.toList.take (l.length * 2) = flatK' l) : KeysAt w g 0 l := by
  intro i x hx
  have hi : i < l.length := (List.getElem?_eq_some_iff.1 hx).1
  obtain ⟨h0, h1⟩ := flatK_get l i x hx
  rw [← ht, List.getElem?_take_of_lt (by omega)] at h0 h1
  constructor
  · simp only [World.cell?, hb, Nat.zero_add]
    simpa using h0
  · simp only [World.cell?, hb, Nat.zero_add]
    simpa using h1
/-- A slice of the call's own holds what it owns. -/
theorem KS.own {w : World} {base n : Nat} {e : TypeId} {v : Value} {l : List Ky} (h : w.ownsRow base e 2 v n (flatK' l)) : KS w v l := by
  have hl := h.1
  rw [flatK_len] at hl
  have hn : n = l.length := by omega
  subst hn
  rcases h.2 with ⟨rfl, h0⟩ | ⟨g, cap, cur, rfl, _, hb, _, _, _, ht⟩
  · have : l = [] := List.length_eq_zero_iff.1 h0
    subst this
    exact ⟨none, 0, rfl, .inl rfl⟩
  · exact ⟨_, cap, rfl, .inr ⟨g, 0, rfl, (Array.getElem?_eq_some_iff.1 hb).1, keysAt_of_block hb ht⟩⟩
theorem KS.len {w : World} {a : Option Addr} {n cap : Nat} {l : List Ky} (h : KS w (.slice a n cap) l) : n = l.length := by
  obtain ⟨_, _, e, _⟩ := h; injection e
end Go.Proofs.YtaagllbcmgnbnaaGreatDoor
/- Keys copied. -/
namespace Go.Proofs.YtaagllbcmgnbnaaGreatDoor
open Go.RowKit Go.Deep
set_option linter.unusedVariables false
set_option maxRecDepth 100000
/-- v owns the keys l, in a block from base on. -/
abbrev OwnK (w : World) (base : Nat) (v : Value) (l : List Ky) : Prop := w.ownsRow base 66 2 v l.length (flatK' l)
theorem OwnK.snoc {w : World} {base n : Nat} {v : Value} {l : List Ky} {x : Ky} (h : w.ownsRow base 66 2 v (n + 1) (flatK' l ++ [.int .i64 x.1, .string x.2])) (hn : n = l.length) : OwnK w base v (l ++ [x]) := by
  subst hn
  have : flatK' (l ++ [x]) = flatK' l ++ [.int .i64 x.1, .string x.2] := by rw [flatK_app, flatK_one]
  unfold OwnK
  rw [this, List.length_append]
  exact h

end Go.Proofs.YtaagllbcmgnbnaaGreatDoor
/- The page's own Sort: one by one, each put where it belongs. -/
namespace Go.Proofs.YtaagllbcmgnbnaaGreatDoor
open Go.RowKit Go.Deep
set_option linter.unusedVariables false
set_option maxRecDepth 100000

theorem OwnK.base {w : World} {base base' : Nat} {v : Value} {l : List Ky} (h : OwnK w base v l) (hb : base' ≤ base) : OwnK w base' v l := by
  refine ⟨h.1, ?_⟩
  rcases h.2 with ⟨h1, h2⟩ | ⟨g, cap, cur, h1, h2, h3⟩
  · exact .inl ⟨h1, h2⟩
  · exact .inr ⟨g, cap, cur, h1, Nat.le_trans hb h2, h3⟩
theorem OwnK.below {w w' : World} {base : Nat} {v : Value} {l : List Ky} (h : OwnK w base v l) (hb : Below w.heap.size w w') : OwnK w' base v l := by
  refine ⟨h.1, ?_⟩
  rcases h.2 with ⟨h1, h2⟩ | ⟨g, cap, cur, h1, h2, h3, h4⟩
  · exact .inl ⟨h1, h2⟩
  · exact .inr ⟨g, cap, cur, h1, h2, by rw [hb.block g (Array.getElem?_eq_some_iff.1 h3).1]; exact h3, h4⟩
theorem Below.next {w0 W W' : World} (h : Below w0.heap.size w0 W) (hb : Below W.heap.size W W') : Below w0.heap.size w0 W' := h.trans (hb.mono h.size)

end Go.Proofs.YtaagllbcmgnbnaaGreatDoor
