/- Texts laid together: WKRow, WKCopy. -/
import Derived.Test.YticpaemmdfmbfaaJ13
import Derived.Test.YticpaemmdfmbfaaJ30
import Derived.Test.YticpaemmdfmbfaaJ31
import Derived.Deep.Slices
import Derived.OwnWalk
/- A slice of keys: what its cells hold. -/
namespace Go.Proofs.Yticpaemmdfmbfaa
open Go.RowKit Go.Deep
set_option linter.unusedVariables false
set_option maxRecDepth 100000

/-- From (b, off) on the keys of l lie, one behind the other. -/
def KeysAt (w : World) (b off : Nat) (l : List Ky) : Prop := ∀ i x, l[i]? = some x → w.cell? ⟨b, off + i * 2, none⟩ = some (.int .i64 x.1) ∧ w.cell? ⟨b, off + i * 2 + 1, none⟩ = some (.string x.2)

/-- The slice v holds the keys l. -/
def KS (w : World) (v : Value) (l : List Ky) : Prop :=
  ∃ a cap, v = .slice a l.length cap ∧ (l = [] ∨ ∃ b off, a = some ⟨b, off, none⟩ ∧ b < w.heap.size ∧ KeysAt w b off l)

theorem KeysAt.below {w w' : World} {b off B : Nat} {l : List Ky} (h : KeysAt w b off l) (hb : Below B w w') (hlt : b < B) : KeysAt w' b off l := fun i x hx =>
  ⟨(hb.cell (p := ⟨b, off + i * 2, none⟩) hlt).trans (h i x hx).1, (hb.cell (p := ⟨b, off + i * 2 + 1, none⟩) hlt).trans (h i x hx).2⟩
theorem KS.below {w w' : World} {v : Value} {l : List Ky} (h : KS w v l) (hb : Below w.heap.size w w') : KS w' v l := by
  obtain ⟨a, cap, rfl, h⟩ := h
  refine ⟨a, cap, rfl, ?_⟩
  rcases h with h | ⟨b, off, rfl, hlt, h⟩
  · exact .inl h
  · exact .inr ⟨b, off, rfl, Nat.lt_of_lt_of_le hlt hb.size, h.below hb hlt⟩

/-- The cells of keys, one behind the other. -/
abbrev flatK' (l : List Ky) : List Value := l.flatMap encK
theorem flatK_len (l : List Ky) : (flatK' l).length = l.length * 2 := by
  induction l with
  | nil => rfl
  | cons a l ih => simp [flatK', encK] at ih ⊢; omega
theorem flatK_get : ∀ (l : List Ky) (i : Nat) (x : Ky), l[i]? = some x → (flatK' l)[i * 2]? = some (.int .i64 x.1) ∧ (flatK' l)[i * 2 + 1]? = some (.string x.2)
  | [], i, x, h => by simp at h
  | a :: l, 0, x, h => by simp at h; subst h; simp [flatK', encK]
  | a :: l, i + 1, x, h => by
    simp at h
    have := flatK_get l i x h
    simp only [flatK', List.flatMap_cons, encK] at this ⊢
    have e : (i + 1) * 2 = i * 2 + 1 + 1 := by omega
    rw [e]
    simpa using this
theorem flatK_app (l m : List Ky) : flatK' (l ++ m) = flatK' l ++ flatK' m := by simp [flatK']
theorem flatK_one (x : Ky) : flatK' [x] = [.int .i64 x.1, .string x.2] := rfl
theorem flatK_cell (l : List Ky) : ∀ u ∈ flatK' l, u.oneCell' = true := by
  intro u hu
  simp only [flatK', List.mem_flatMap] at hu
  obtain ⟨x, _, hx⟩ := hu
  simp only [encK, List.mem_cons, List.not_mem_nil, or_false] at hx
  rcases hx with rfl | rfl <;> rfl
theorem flatK_inv : ∀ (l : List Ky) (j : Nat) (u : Value), (flatK' l)[j]? = some u → ∃ i x, l[i]? = some x ∧ (j = i * 2 ∧ u = .int .i64 x.1 ∨ j = i * 2 + 1 ∧ u = .string x.2)
  | [], j, u, h => by simp [flatK'] at h
  | a :: l, 0, u, h => by simp [flatK', encK] at h; exact ⟨0, a, rfl, .inl ⟨rfl, h.symm⟩⟩
  | a :: l, 1, u, h => by simp [flatK', encK] at h; exact ⟨0, a, rfl, .inr ⟨rfl, h.symm⟩⟩
  | a :: l, j + 2, u, h => by
    simp only [flatK', List.flatMap_cons, encK] at h
    obtain ⟨i, x, hx, h'⟩ := flatK_inv l j u (by simpa [flatK'] using h)
    refine ⟨i + 1, x, by simpa using hx, ?_⟩
    rcases h' with ⟨rfl, rfl⟩ | ⟨rfl, rfl⟩
    · exact .inl ⟨by omega, rfl⟩
    · exact .inr ⟨by omega, rfl⟩
/-- What append asks of the cells that it takes over. -/
theorem KeysAt.news {w : World} {b off : Nat} {l : List Ky} (h : KeysAt w b off l) : ∀ j u, (flatK' l)[j]? = some u → w.cell? ((⟨b, off, none⟩ : Addr).add j) = some u := by
  intro j u hj
  obtain ⟨i, x, hx, h'⟩ := flatK_inv l j u hj
  have := h i x hx
  rcases h' with ⟨rfl, rfl⟩ | ⟨rfl, rfl⟩
  · rw [Addr.add_lit]; exact this.1
  · rw [Addr.add_lit]; simpa [Nat.add_assoc] using this.2
theorem keysAt_of_block {w : World} {g : Nat} {cur : Array Value} {e : TypeId} {l : List Ky} (hb : w.heap[g]? = some (.cells cur e (0, 0))) (ht : cur.toList.take (l.length * 2) = flatK' l) : KeysAt w g 0 l := by
  intro i x hx
  have hi : i < l.length := (List.getElem?_eq_some_iff.1 hx).1
  obtain ⟨h0, h1⟩ := flatK_get l i x hx
  rw [← ht, List.getElem?_take_of_lt (by omega)] at h0 h1
  constructor
  · simp only [World.cell?, hb, Nat.zero_add]
    simpa using h0
  · simp only [World.cell?, hb, Nat.zero_add]
    simpa using h1
/-- A slice of the call's own holds what it owns. -/
theorem KS.own {w : World} {base n : Nat} {e : TypeId} {v : Value} {l : List Ky} (h : w.ownsRow base e 2 v n (flatK' l)) : KS w v l := by
  have hl := h.1
  rw [flatK_len] at hl
  have hn : n = l.length := by omega
  subst hn
  rcases h.2 with ⟨rfl, h0⟩ | ⟨g, cap, cur, rfl, _, hb, _, _, _, ht⟩
  · have : l = [] := List.length_eq_zero_iff.1 h0
    subst this
    exact ⟨none, 0, rfl, .inl rfl⟩
  · exact ⟨_, cap, rfl, .inr ⟨g, 0, rfl, (Array.getElem?_eq_some_iff.1 hb).1, keysAt_of_block hb ht⟩⟩
theorem KS.len {w : World} {a : Option Addr} {n cap : Nat} {l : List Ky} (h : KS w (.slice a n cap) l) : n = l.length := by
  obtain ⟨_, _, e, _⟩ := h; injection e
end Go.Proofs.Yticpaemmdfmbfaa
/- Keys copied. -/
namespace Go.Proofs.Yticpaemmdfmbfaa
open Go.RowKit Go.Deep
set_option linter.unusedVariables false
set_option maxRecDepth 100000

theorem Try.infoKey : (Try.prog.info? 52).map (fun i => (i.zero, i.size, i.bytes)) = some (some (.agg #[.int .i64 0, .string ⟨#[]⟩]), 2, 24) := by kernel_rfl
/-- v owns the keys l, in a block from base on. -/
abbrev OwnK (w : World) (base : Nat) (v : Value) (l : List Ky) : Prop := w.ownsRow base 52 2 v l.length (flatK' l)
theorem cell_key_new (w : World) (a : Int) (b : ByteArray) (T : TypeId) : ∀ j u, [Value.int .i64 a, .string b][j]? = some u → (w.alloc (.cells #[.int .i64 a, .string b] T)).cell? ((⟨w.heap.size, 0, none⟩ : Addr).add j) = some u := by
  intro j u hj
  rw [Addr.add_lit, Nat.zero_add]
  match j, hj with
  | 0, hj => simp at hj; subst hj; unfold World.cell?; rw [(MapKept.heap_alloc w _).1]; rfl
  | 1, hj => simp at hj; subst hj; unfold World.cell?; rw [(MapKept.heap_alloc w _).1]; rfl
theorem key_cells (a : Int) (b : ByteArray) : ∀ u ∈ [Value.int .i64 a, .string b], u.oneCell' = true := by
  intro u hu
  simp only [List.mem_cons, List.not_mem_nil, or_false] at hu
  rcases hu with rfl | rfl <;> rfl
theorem OwnK.snoc {w : World} {base n : Nat} {v : Value} {l : List Ky} {x : Ky} (h : w.ownsRow base 52 2 v (n + 1) (flatK' l ++ [.int .i64 x.1, .string x.2])) (hn : n = l.length) : OwnK w base v (l ++ [x]) := by
  subst hn
  have : flatK' (l ++ [x]) = flatK' l ++ [.int .i64 x.1, .string x.2] := by rw [flatK_app, flatK_one]
  unfold OwnK
  rw [this, List.length_append]
  exact h

set_option maxHeartbeats 400000 in
theorem copyKeys_any (v : Value) (l : List Ky) (w : World) (h : KS w v l) (hl : l.length ≤ 100000) :
    Calls Try.prog 97 #[v] w fun e w' => ∃ v', e = .returned v' ∧ OwnK w' w.heap.size v' l ∧ Below w.heap.size w w' := by
  obtain ⟨i0, hi, hz0, hz1, hz2⟩ := info_parts Try.infoKey
  obtain ⟨a, cap, rfl, h⟩ := h
  rcases h with rfl | ⟨b, off, rfl, hb, hat⟩
  · go_enter Try.func97, Try.ntmps97
    go_wp2
    go_loop [3, 4] (fun n i => n = .slice none 0 0 ∧ i = .int .i64 0) (fun _ _ => 0)
    case atStart => exact ⟨rfl, rfl⟩
    case round =>
      obtain ⟨rfl, rfl⟩ := hrel
      go_wp2
      go_ret
      exact ⟨_, rfl, World.ownsRow_nil _ _ _ _, Below.refl _ _⟩
  · go_enter Try.func97, Try.ntmps97
    go_wp2
    go_loopw [3, 4] (fun m i wr => ∃ k : Nat, k ≤ l.length ∧ i = .int .i64 k ∧ OwnK wr w.heap.size m (l.take k) ∧ Below w.heap.size w wr) (fun _ i _ => l.length - (intOf i).toNat)
    case atStart => exact ⟨0, by omega, rfl, World.ownsRow_nil _ _ _ _, Below.refl _ _⟩
    case round =>
      obtain ⟨k, hk, rfl, hown, hbel⟩ := hrel
      have hsz := hbel.size
      by_cases hlt : k < l.length
      · obtain ⟨y, hy⟩ := getSome hlt
        obtain ⟨c0, c1⟩ := hat.below hbel hb k y hy
        have hstep : l.take (k + 1) = l.take k ++ [y] := by rw [List.take_add_one, hy]; rfl
        have hlk : (l.take k).length = k := by simp; omega
        obtain ⟨ya, yb⟩ := y
        clear hy
        go_wp2_with (at_builtin; refine wpList_append_own _ rfl _ _ 94 rfl w.heap.size 52 i0 _ 2 24 Try.underlying94 hi hz0 hz1 hz2 rfl (by decide) _ _ _ rfl (hown.alloc _) ⟨wr.heap.size, 0, none⟩ 1 1 [.int .i64 ya, .string yb] rfl rfl (cell_key_new _ _ _ _) (key_cells _ _) ?c3 ?c4 ?c5 ?_)
        case c3 => unfold maxLen; omega
        case c4 => omega
        case c5 => first | omega | (simp; omega)
        intro v2 w2 hown2 hgrow2 _
        have hbel2 : Below w.heap.size w w2 := (hbel.alloc hsz _).grown hgrow2 (by simp; omega) (own_row hown)
        have hown3 : OwnK w2 w.heap.size v2 (l.take (k + 1)) := by rw [hstep]; exact OwnK.snoc (x := (ya, yb)) hown2 hlk.symm
        clear hown2 hgrow2 hown hbel c0 c1
        go_wp2
        go_roundw
        case rel => exact ⟨k + 1, by omega, by go_num, hown3, hbel2⟩
        case measure => simp [intOf]; omega
      · have hlt' : l.length ≤ k := by omega
        have e : l.take k = l := List.take_of_length_le hlt'
        rw [e] at hown
        go_wp2
        go_ret
        exact ⟨_, rfl, hown, hbel⟩
end Go.Proofs.Yticpaemmdfmbfaa
