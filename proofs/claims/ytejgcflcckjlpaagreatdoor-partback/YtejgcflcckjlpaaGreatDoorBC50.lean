/- Texts laid together: WKRow, WKCopy, WKSort. -/
import Derived.Test.YtejgcflcckjlpaaGreatDoorBC8
import Derived.Test.YtejgcflcckjlpaaGreatDoorBC21
import Derived.Test.YtejgcflcckjlpaaGreatDoorBC22
import Derived.Deep.Slices
import Derived.OwnWalk
import Derived.Deep.RegionHeld3
import Derived.Deep.AppendLies
/- A slice of keys: what its cells hold. -/
namespace Go.Proofs.YtejgcflcckjlpaaGreatDoor
open Go.RowKit Go.Deep
set_option linter.unusedVariables false
set_option maxRecDepth 100000

/-- From (b, off) on the keys of l lie, one behind the other. -/
def KeysAt (w : World) (b off : Nat) (l : List Ky) : Prop := ∀ i x, l[i]? = some x → w.cell? ⟨b, off + i * 2, none⟩ = some (.int .i64 x.1) ∧ w.cell? ⟨b, off + i * 2 + 1, none⟩ = some (.string x.2)

/-- The slice v holds the keys l. -/
def KS (w : World) (v : Value) (l : List Ky) : Prop :=
  ∃ a cap, v = .slice a l.length cap ∧ (l = [] ∨ ∃ b off, a = some ⟨b, off, none⟩ ∧ b < w.heap.size ∧ KeysAt w b off l)

theorem KeysAt.below {w w' : World} {b off B : Nat} {l : List Ky} (h : KeysAt w b off l) (hb : Below B w w') (hlt : b < B) : KeysAt w' b off l := fun i x hx =>
  ⟨(hb.cell (p := ⟨b, off + i * 2, none⟩) hlt).trans (h i x hx).1, (hb.cell (p := ⟨b, off + i * 2 + 1, none⟩) hlt).trans (h i x hx).2⟩
theorem KS.below {w w' : World} {v : Value} {l : List Ky} (h : KS w v l) (hb : Below w.heap.size w w') : KS w' v l := by
  obtain ⟨a, cap, rfl, h⟩ := h
  refine ⟨a, cap, rfl, ?_⟩
  rcases h with h | ⟨b, off, rfl, hlt, h⟩
  · exact .inl h
  · exact .inr ⟨b, off, rfl, Nat.lt_of_lt_of_le hlt hb.size, h.below hb hlt⟩

/-- The cells of keys, one behind the other. -/
abbrev flatK' (l : List Ky) : List Value := l.flatMap encK
theorem flatK_len (l : List Ky) : (flatK' l).length = l.length * 2 := by
  induction l with
  | nil => rfl
  | cons a l ih => simp [flatK', encK] at ih ⊢; omega
theorem flatK_get : ∀ (l : List Ky) (i : Nat) (x : Ky), l[i]? = some x → (flatK' l)[i * 2]? = some (.int .i64 x.1) ∧ (flatK' l)[i * 2 + 1]? = some (.string x.2)
  | [], i, x, h => by simp at h
  | a :: l, 0, x, h => by simp at h; subst h; simp [flatK', encK]
  | a :: l, i + 1, x, h => by
    simp at h
    have := flatK_get l i x h
    simp only [flatK', List.flatMap_cons, encK] at this ⊢
    have e : (i + 1) * 2 = i * 2 + 1 + 1 := by omega
    rw [e]
    simpa using this
theorem flatK_app (l m : List Ky) : flatK' (l ++ m) = flatK' l ++ flatK' m := by simp [flatK']
theorem flatK_one (x : Ky) : flatK' [x] = [.int .i64 x.1, .string x.2] := rfl
theorem flatK_cell (l : List Ky) : ∀ u ∈ flatK' l, u.oneCell' = true := by
  intro u hu
  simp only [flatK', List.mem_flatMap] at hu
  obtain ⟨x, _, hx⟩ := hu
  simp only [encK, List.mem_cons, List.not_mem_nil, or_false] at hx
  rcases hx with rfl | rfl <;> rfl
theorem flatK_inv : ∀ (l : List Ky) (j : Nat) (u : Value), (flatK' l)[j]? = some u → ∃ i x, l[i]? = some x ∧ (j = i * 2 ∧ u = .int .i64 x.1 ∨ j = i * 2 + 1 ∧ u = .string x.2)
  | [], j, u, h => by simp [flatK'] at h
  | a :: l, 0, u, h => by simp [flatK', encK] at h; exact ⟨0, a, rfl, .inl ⟨rfl, h.symm⟩⟩
  | a :: l, 1, u, h => by simp [flatK', encK] at h; exact ⟨0, a, rfl, .inr ⟨rfl, h.symm⟩⟩
  | a :: l, j + 2, u, h => by
    simp only [flatK', List.flatMap_cons, encK] at h
    obtain ⟨i, x, hx, h'⟩ := flatK_inv l j u (by simpa [flatK'] using h)
    refine ⟨i + 1, x, by simpa using hx, ?_⟩
    rcases h' with ⟨rfl, rfl⟩ | ⟨rfl, rfl⟩
    · exact .inl ⟨by omega, rfl⟩
    · exact .inr ⟨by omega, rfl⟩
/-- What append asks of the cells that it takes over. -/
theorem KeysAt.news {w : World} {b off : Nat} {l : List Ky} (h : KeysAt w b off l) : ∀ j u, (flatK' l)[j]? = some u → w.cell? ((⟨b, off, none⟩ : Addr).add j) = some u := by
  intro j u hj
  obtain ⟨i, x, hx, h'⟩ := flatK_inv l j u hj
  have := h i x hx
  rcases h' with ⟨rfl, rfl⟩ | ⟨rfl, rfl⟩
  · rw [Addr.add_lit]; exact this.1
  · rw [Addr.add_lit]; simpa [Nat.add_assoc] using this.2
theorem keysAt_of_block {w : World} {g : Nat} {cur : Array Value} {e : TypeId} {l : List Ky} (hb : w.heap[g]? = some (.cells cur e (0, 0))) (ht : cur.toList.take (l.length * 2) = flatK' l) : KeysAt w g 0 l := by
  intro i x hx
  have hi : i < l.length := (List.getElem?_eq_some_iff.1 hx).1
  obtain ⟨h0, h1⟩ := flatK_get l i x hx
  rw [← ht, List.getElem?_take_of_lt (by omega)] at h0 h1
  constructor
  · simp only [World.cell?, hb, Nat.zero_add]
    simpa using h0
  · simp only [World.cell?, hb, Nat.zero_add]
    simpa using h1
/-- A slice of the call's own holds what it owns. -/
theorem KS.own {w : World} {base n : Nat} {e : TypeId} {v : Value} {l : List Ky} (h : w.ownsRow base e 2 v n (flatK' l)) : KS w v l := by
  have hl := h.1
  rw [flatK_len] at hl
  have hn : n = l.length := by omega
  subst hn
  rcases h.2 with ⟨rfl, h0⟩ | ⟨g, cap, cur, rfl, _, hb, _, _, _, ht⟩
  · have : l = [] := List.length_eq_zero_iff.1 h0
    subst this
    exact ⟨none, 0, rfl, .inl rfl⟩
  · exact ⟨_, cap, rfl, .inr ⟨g, 0, rfl, (Array.getElem?_eq_some_iff.1 hb).1, keysAt_of_block hb ht⟩⟩
theorem KS.len {w : World} {a : Option Addr} {n cap : Nat} {l : List Ky} (h : KS w (.slice a n cap) l) : n = l.length := by
  obtain ⟨_, _, e, _⟩ := h; injection e
end Go.Proofs.YtejgcflcckjlpaaGreatDoor
/- Keys copied. -/
namespace Go.Proofs.YtejgcflcckjlpaaGreatDoor
open Go.RowKit Go.Deep
set_option linter.unusedVariables false
set_option maxRecDepth 100000

theorem Tryz.infoKey : (Tryz.prog.info? 42).map (fun i => (i.zero, i.size, i.bytes)) = some (some (.agg #[.int .i64 0, .string ⟨#[]⟩]), 2, 24) := by kernel_rfl
/-- v owns the keys l, in a block from base on. -/
abbrev OwnK (w : World) (base : Nat) (v : Value) (l : List Ky) : Prop := w.ownsRow base 42 2 v l.length (flatK' l)
theorem cell_key_new (w : World) (a : Int) (b : ByteArray) (T : TypeId) : ∀ j u, [Value.int .i64 a, .string b][j]? = some u → (w.alloc (.cells #[.int .i64 a, .string b] T)).cell? ((⟨w.heap.size, 0, none⟩ : Addr).add j) = some u := by
  intro j u hj
  rw [Addr.add_lit, Nat.zero_add]
  match j, hj with
  | 0, hj => simp at hj; subst hj; unfold World.cell?; rw [(MapKept.heap_alloc w _).1]; rfl
  | 1, hj => simp at hj; subst hj; unfold World.cell?; rw [(MapKept.heap_alloc w _).1]; rfl
theorem key_cells (a : Int) (b : ByteArray) : ∀ u ∈ [Value.int .i64 a, .string b], u.oneCell' = true := by
  intro u hu
  simp only [List.mem_cons, List.not_mem_nil, or_false] at hu
  rcases hu with rfl | rfl <;> rfl
theorem OwnK.snoc {w : World} {base n : Nat} {v : Value} {l : List Ky} {x : Ky} (h : w.ownsRow base 42 2 v (n + 1) (flatK' l ++ [.int .i64 x.1, .string x.2])) (hn : n = l.length) : OwnK w base v (l ++ [x]) := by
  subst hn
  have : flatK' (l ++ [x]) = flatK' l ++ [.int .i64 x.1, .string x.2] := by rw [flatK_app, flatK_one]
  unfold OwnK
  rw [this, List.length_append]
  exact h

end Go.Proofs.YtejgcflcckjlpaaGreatDoor
/- The page's own Sort: one by one, each put where it belongs. -/
namespace Go.Proofs.YtejgcflcckjlpaaGreatDoor
open Go.RowKit Go.Deep
set_option linter.unusedVariables false
set_option maxRecDepth 100000

theorem OwnK.base {w : World} {base base' : Nat} {v : Value} {l : List Ky} (h : OwnK w base v l) (hb : base' ≤ base) : OwnK w base' v l := by
  refine ⟨h.1, ?_⟩
  rcases h.2 with ⟨h1, h2⟩ | ⟨g, cap, cur, h1, h2, h3⟩
  · exact .inl ⟨h1, h2⟩
  · exact .inr ⟨g, cap, cur, h1, Nat.le_trans hb h2, h3⟩
theorem OwnK.below {w w' : World} {base : Nat} {v : Value} {l : List Ky} (h : OwnK w base v l) (hb : Below w.heap.size w w') : OwnK w' base v l := by
  refine ⟨h.1, ?_⟩
  rcases h.2 with ⟨h1, h2⟩ | ⟨g, cap, cur, h1, h2, h3, h4⟩
  · exact .inl ⟨h1, h2⟩
  · exact .inr ⟨g, cap, cur, h1, h2, by rw [hb.block g (Array.getElem?_eq_some_iff.1 h3).1]; exact h3, h4⟩
theorem newsB {W w' : World} {a : Int} {b : ByteArray} {T : TypeId} (h : Below (W.alloc (.cells #[.int .i64 a, .string b] T)).heap.size (W.alloc (.cells #[.int .i64 a, .string b] T)) w') :
    ∀ j u, [Value.int .i64 a, .string b][j]? = some u → w'.cell? ((⟨W.heap.size, 0, none⟩ : Addr).add j) = some u := fun j u hj => by
  have := cell_key_new W a b T j u hj
  rw [Addr.add_lit] at this ⊢
  exact (h.cell (p := ⟨W.heap.size, 0 + j, none⟩) (by simp)).trans this
theorem newsD {W w' : World} {a : Int} {b : ByteArray} {T : TypeId} (h : Below (W.alloc (.cells #[.int .i64 a, .string b] T)).drew.heap.size (W.alloc (.cells #[.int .i64 a, .string b] T)).drew w') :
    ∀ j u, [Value.int .i64 a, .string b][j]? = some u → w'.cell? ((⟨W.heap.size, 0, none⟩ : Addr).add j) = some u := newsB (W := W) (T := T) ⟨h.os, h.tape, h.output, h.size, h.block⟩
theorem KS.part {W : World} {g n cp : Nat} {s : List Ky} (h : KeysAt W g 0 s) (hg : g < W.heap.size) (hn : n ≤ s.length) : KS W (.slice (some ⟨g, 0, none⟩) n cp) (s.take n) := by
  refine ⟨_, cp, by simp [Nat.min_eq_left hn], .inr ⟨g, 0, rfl, hg, fun i x hx => ?_⟩⟩
  have hi : i < n := by have := (List.getElem?_eq_some_iff.1 hx).1; simp at this; omega
  rw [List.getElem?_take_of_lt hi] at hx
  exact h i x hx
theorem keep8 {w0 W : World} {b o g n cp : Nat} {ya : Int} {yb : ByteArray} {s : List Ky} (hW : Below w0.heap.size w0 W) (hb : b < w0.heap.size) (hg : g < w0.heap.size)
    (h : w0.cell? ⟨b, o, none⟩ = some (.int .i64 ya) ∧ w0.cell? ⟨b, o + 1, none⟩ = some (.string yb)) (h' : KeysAt w0 g 0 s) (hn : n ≤ s.length) :
    W.cell? ⟨b, o, none⟩ = some (.int .i64 ya) ∧ W.cell? ⟨b, o + 1, none⟩ = some (.string yb) ∧ (KS W (.slice (some ⟨g, 0, none⟩) n cp) (s.take n) ∧ w0.heap.size ≤ W.heap.size) ∧ Below w0.heap.size w0 W :=
  ⟨(hW.cell (p := ⟨b, o, none⟩) hb).trans h.1, (hW.cell (p := ⟨b, o + 1, none⟩) hb).trans h.2, ⟨KS.part (h'.below hW hg) (Nat.lt_of_lt_of_le hg hW.size) hn, hW.size⟩, hW⟩

theorem wrapN (p : Nat) (h : p ≤ 100000) : IntKind.i64.wrap (p : Int) = p := by
  simp [IntKind.wrap, IntKind.bits, IntKind.signed]; omega
theorem keep0 {w0 W : World} {b o : Nat} {ya : Int} {yb : ByteArray} (hW : Below w0.heap.size w0 W) (hb : b < w0.heap.size)
    (h : w0.cell? ⟨b, o, none⟩ = some (.int .i64 ya) ∧ w0.cell? ⟨b, o + 1, none⟩ = some (.string yb)) :
    W.cell? ⟨b, o, none⟩ = some (.int .i64 ya) ∧ W.cell? ⟨b, o + 1, none⟩ = some (.string yb) ∧ (KS W (.slice none 0 0) [] ∧ w0.heap.size ≤ W.heap.size) ∧ Below w0.heap.size w0 W :=
  ⟨(hW.cell (p := ⟨b, o, none⟩) hb).trans h.1, (hW.cell (p := ⟨b, o + 1, none⟩) hb).trans h.2, ⟨⟨none, 0, rfl, .inl rfl⟩, hW.size⟩, hW⟩
theorem own_cap {w : World} {base g n m cap size : Nat} {e : TypeId} {xs : List Value} (h : w.ownsRow base e size (.slice (some ⟨g, 0, none⟩) n cap) m xs) : n ≤ cap := by
  rcases h.2 with ⟨h, _⟩ | ⟨_, _, _, h, _, _, h2, _⟩
  · cases h
  · cases h; exact h2
/-- What Sort leaves. -/
def SortPost (l : List Ky) (w : World) (e : Ending) (w' : World) : Prop := ∃ v' s, e = .returned v' ∧ Srt l s ∧ OwnK w' w.heap.size v' s ∧ Below w.heap.size w w'
/-- Two keys that lie in blocks of w0 lie there still. -/
theorem keep4 {w0 W : World} {b o g o' : Nat} {ya za : Int} {yb zb : ByteArray} (hW : Below w0.heap.size w0 W) (hb : b < w0.heap.size) (hg : g < w0.heap.size)
    (h : w0.cell? ⟨b, o, none⟩ = some (.int .i64 ya) ∧ w0.cell? ⟨b, o + 1, none⟩ = some (.string yb)) (h' : w0.cell? ⟨g, o', none⟩ = some (.int .i64 za) ∧ w0.cell? ⟨g, o' + 1, none⟩ = some (.string zb)) :
    W.cell? ⟨b, o, none⟩ = some (.int .i64 ya) ∧ W.cell? ⟨b, o + 1, none⟩ = some (.string yb) ∧ W.cell? ⟨g, o', none⟩ = some (.int .i64 za) ∧ W.cell? ⟨g, o' + 1, none⟩ = some (.string zb) ∧ Below w0.heap.size w0 W :=
  ⟨(hW.cell (p := ⟨b, o, none⟩) hb).trans h.1, (hW.cell (p := ⟨b, o + 1, none⟩) hb).trans h.2, (hW.cell (p := ⟨g, o', none⟩) hg).trans h'.1, (hW.cell (p := ⟨g, o' + 1, none⟩) hg).trans h'.2, hW⟩
theorem Below.next {w0 W W' : World} (h : Below w0.heap.size w0 W) (hb : Below W.heap.size W W') : Below w0.heap.size w0 W' := h.trans (hb.mono h.size)

end Go.Proofs.YtejgcflcckjlpaaGreatDoor
