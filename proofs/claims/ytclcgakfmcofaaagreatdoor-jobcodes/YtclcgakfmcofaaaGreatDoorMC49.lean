/- Texts laid together: WKRow, WKCopy, WKSort. -/
import Derived.Test.YtclcgakfmcofaaaGreatDoorMC2
import Derived.Test.YtclcgakfmcofaaaGreatDoorMC8
import Derived.Deep.Slices
import Derived.OwnWalk
import Derived.Deep.RegionHeld3
import Derived.Deep.AppendLies
namespace Go.Proofs.YtclcgakfmcofaaaGreatDoor
open Go.RowKit Go.Deep
set_option linter.unusedVariables false
set_option maxRecDepth 100000
def KeysAt (w : World) (b off : Nat) (l : List Ky) : Prop := ∀ i x, l[i]? = some x → w.cell? ⟨b, off + i * 2, none⟩ = some (.int .i64 x.1) ∧ w.cell? ⟨b, off + i * 2 + 1, none⟩ = some (.string x.2)
def KS (w : World) (v : Value) (l : List Ky) : Prop :=
 ∃ a cap, v = .slice a l.length cap ∧ (l = [] ∨ ∃ b off, a = some ⟨b, off, none⟩ ∧ b < w.heap.size ∧ KeysAt w b off l)
theorem KeysAt.below {w w' : World} {b off B : Nat} {l : List Ky} (h : KeysAt w b off l) (hb : Below B w w') (hlt : b < B) : KeysAt w' b off l := fun i x hx =>
 ⟨(hb.cell (p := ⟨b, off + i * 2, none⟩) hlt).trans (h i x hx).1, (hb.cell (p := ⟨b, off + i * 2 + 1, none⟩) hlt).trans (h i x hx).2⟩
abbrev flatK' (l : List Ky) : List Value := l.flatMap encK
theorem flatK_len (l : List Ky) : (flatK' l).length = l.length * 2 := by
 induction l with
 | nil => rfl
 | cons a l ih => simp [flatK', encK] at ih ⊢; omega
theorem flatK_get : ∀ (l : List Ky) (i : Nat) (x : Ky), l[i]? = some x → (flatK' l)[i * 2]? = some (.int .i64 x.1) ∧ (flatK' l)[i * 2 + 1]? = some (.string x.2)
 | [], i, x, h => by simp at h
 | a :: l, 0, x, h => by simp at h; subst h; simp [flatK', encK]
 | a :: l, i + 1, x, h => by
  simp at h
  have := flatK_get l i x h
  simp only [flatK', List.flatMap_cons, encK] at this ⊢
  have e : (i + 1) * 2 = i * 2 + 1 + 1 := by omega
  rw [e]
  simpa using this
theorem flatK_app (l m : List Ky) : flatK' (l ++ m) = flatK' l ++ flatK' m := by simp [flatK']
theorem flatK_one (x : Ky) : flatK' [x] = [.int .i64 x.1, .string x.2] := rfl
theorem flatK_cell (l : List Ky) : ∀ u ∈ flatK' l, u.oneCell' = true := by
 intro u hu
 simp only [flatK', List.mem_flatMap] at hu
 obtain ⟨x, _, hx⟩ := hu
 simp only [encK, List.mem_cons, List.not_mem_nil, or_false] at hx
 rcases hx with rfl | rfl <;> rfl
theorem flatK_inv : ∀ (l : List Ky) (j : Nat) (u : Value), (flatK' l)[j]? = some u → ∃ i x, l[i]? = some x ∧ (j = i * 2 ∧ u = .int .i64 x.1 ∨ j = i * 2 + 1 ∧ u = .string x.2)
 | [], j, u, h => by simp [flatK'] at h
 | a :: l, 0, u, h => by simp [flatK', encK] at h; exact ⟨0, a, rfl, .inl ⟨rfl, h.symm⟩⟩
 | a :: l, 1, u, h => by simp [flatK', encK] at h; exact ⟨0, a, rfl, .inr ⟨rfl, h.symm⟩⟩
 | a :: l, j + 2, u, h => by
  simp only [flatK', List.flatMap_cons, encK] at h
  obtain ⟨i, x, hx, h'⟩ := flatK_inv l j u (by simpa [flatK'] using h)
  refine ⟨i + 1, x, by simpa using hx, ?_⟩
  rcases h' with ⟨rfl, rfl⟩ | ⟨rfl, rfl⟩
  ·exact .inl ⟨by omega, rfl⟩
  ·exact .inr ⟨by omega, rfl⟩
theorem KeysAt.news {w : World} {b off : Nat} {l : List Ky} (h : KeysAt w b off l) : ∀ j u, (flatK' l)[j]? = some u → w.cell? ((⟨b, off, none⟩ : Addr).add j) = some u := by
 intro j u hj
 obtain ⟨i, x, hx, h'⟩ := flatK_inv l j u hj
 have := h i x hx
 rcases h' with ⟨rfl, rfl⟩ | ⟨rfl, rfl⟩
 ·rw [Addr.add_lit]; exact this.1
 ·rw [Addr.add_lit]; simpa [Nat.add_assoc] using this.2
theorem keysAt_of_block {w : World} {g : Nat} {cur : Array Value} {e : TypeId} {l : List Ky} (hb : w.heap[g]? = some (.cells cur e (0, 0))) (ht : cur.toList.take (l.length * 2) = flatK' l) : KeysAt w g 0 l := by
 intro i x hx
 have hi : i < l.length := (List.getElem?_eq_some_iff.1 hx).1
 obtain ⟨h0, h1⟩ := flatK_get l i x hx
 rw [← ht, List.getElem?_take_of_lt (by omega)] at h0 h1
 constructor
 ·simp only [World.cell?, hb, Nat.zero_add]
  simpa using h0
 ·simp only [World.cell?, hb, Nat.zero_add]
  simpa using h1
theorem KS.own {w : World} {base n : Nat} {e : TypeId} {v : Value} {l : List Ky} (h : w.ownsRow base e 2 v n (flatK' l)) : KS w v l := by
 have hl := h.1
 rw [flatK_len] at hl
 have hn : n = l.length := by omega
 subst hn
 rcases h.2 with ⟨rfl, h0⟩ | ⟨g, cap, cur, rfl, _, hb, _, _, _, ht⟩
 ·have : l = [] := List.length_eq_zero_iff.1 h0
  subst this
  exact ⟨none, 0, rfl, .inl rfl⟩
 ·exact ⟨_, cap, rfl, .inr ⟨g, 0, rfl, (Array.getElem?_eq_some_iff.1 hb).1, keysAt_of_block hb ht⟩⟩
set_option maxRecDepth 100000
theorem Tryz.infoKey : (Tryz.prog.info? 124).map (fun i => (i.zero, i.size, i.bytes)) = some (some (.agg #[.int .i64 0, .string ⟨#[]⟩]), 2, 24) := by kernel_rfl
abbrev OwnK (w : World) (base : Nat) (v : Value) (l : List Ky) : Prop := w.ownsRow base 124 2 v l.length (flatK' l)
theorem cell_key_new (w : World) (a : Int) (b : ByteArray) (T : TypeId) : ∀ j u, [Value.int .i64 a, .string b][j]? = some u → (w.alloc (.cells #[.int .i64 a, .string b] T)).cell? ((⟨w.heap.size, 0, none⟩ : Addr).add j) = some u := by
 intro j u hj
 rw [Addr.add_lit, Nat.zero_add]
 match j, hj with
 | 0, hj => simp at hj; subst hj; unfold World.cell?; rw [(MapKept.heap_alloc w _).1]; rfl
 | 1, hj => simp at hj; subst hj; unfold World.cell?; rw [(MapKept.heap_alloc w _).1]; rfl
theorem key_cells (a : Int) (b : ByteArray) : ∀ u ∈ [Value.int .i64 a, .string b], u.oneCell' = true := by
 intro u hu
 simp only [List.mem_cons, List.not_mem_nil, or_false] at hu
 rcases hu with rfl | rfl <;> rfl
theorem OwnK.snoc {w : World} {base n : Nat} {v : Value} {l : List Ky} {x : Ky} (h : w.ownsRow base 124 2 v (n + 1) (flatK' l ++ [.int .i64 x.1, .string x.2])) (hn : n = l.length) : OwnK w base v (l ++ [x]) := by
 subst hn
 have : flatK' (l ++ [x]) = flatK' l ++ [.int .i64 x.1, .string x.2] := by rw [flatK_app, flatK_one]
 unfold OwnK
 rw [this, List.length_append]
 exact h
set_option maxHeartbeats 400000 in
theorem copyKeys_any (v : Value) (l : List Ky) (w : World) (h : KS w v l) (hl : l.length ≤ 100000) :
  Calls Tryz.prog 219 #[v] w fun e w' => ∃ v', e = .returned v' ∧ OwnK w' w.heap.size v' l ∧ Below w.heap.size w w' := by
 obtain ⟨i0, hi, hz0, hz1, hz2⟩ := info_parts Tryz.infoKey
 obtain ⟨a, cap, rfl, h⟩ := h
 rcases h with rfl | ⟨b, off, rfl, hb, hat⟩
 ·go_enter Tryz.func219, Tryz.ntmps219
  go_wp2
  go_loop [3, 4] (fun n i => n = .slice none 0 0 ∧ i = .int .i64 0) (fun _ _ => 0)
  case atStart => exact ⟨rfl, rfl⟩
  case round =>
   obtain ⟨rfl, rfl⟩ := hrel
   go_wp2
   go_ret
   exact ⟨_, rfl, World.ownsRow_nil _ _ _ _, Below.refl _ _⟩
 ·go_enter Tryz.func219, Tryz.ntmps219
  go_wp2
  go_loopw [3, 4] (fun m i wr => ∃ k : Nat, k ≤ l.length ∧ i = .int .i64 k ∧ OwnK wr w.heap.size m (l.take k) ∧ Below w.heap.size w wr) (fun _ i _ => l.length - (intOf i).toNat)
  case atStart => exact ⟨0, by omega, rfl, World.ownsRow_nil _ _ _ _, Below.refl _ _⟩
  case round =>
   obtain ⟨k, hk, rfl, hown, hbel⟩ := hrel
   have hsz := hbel.size
   by_cases hlt : k < l.length
   ·obtain ⟨y, hy⟩ := getSome hlt
    obtain ⟨c0, c1⟩ := hat.below hbel hb k y hy
    have hstep : l.take (k + 1) = l.take k ++ [y] := by rw [List.take_add_one, hy]; rfl
    have hlk : (l.take k).length = k := by simp; omega
    obtain ⟨ya, yb⟩ := y
    clear hy
    go_wp2_with (at_builtin; refine wpList_append_own _ rfl _ _ 245 rfl w.heap.size 124 i0 _ 2 24 Tryz.underlying245 hi hz0 hz1 hz2 rfl (by decide) _ _ _ rfl (hown.alloc _) ⟨wr.heap.size, 0, none⟩ 1 1 [.int .i64 ya, .string yb] rfl rfl (cell_key_new _ _ _ _) (key_cells _ _) ?c3 ?c4 ?c5 ?_)
    case c3 => unfold maxLen; omega
    case c4 => omega
    case c5 => first | omega | (simp; omega)
    intro v2 w2 hown2 hgrow2 _
    have hbel2 : Below w.heap.size w w2 := (hbel.alloc hsz _).grown hgrow2 (by simp; omega) (own_row hown)
    have hown3 : OwnK w2 w.heap.size v2 (l.take (k + 1)) := by rw [hstep]; exact OwnK.snoc (x := (ya, yb)) hown2 hlk.symm
    clear hown2 hgrow2 hown hbel c0 c1
    go_wp2
    go_roundw
    case rel => exact ⟨k + 1, by omega, by go_num, hown3, hbel2⟩
    case measure => simp [intOf]; omega
   ·have hlt' : l.length ≤ k := by omega
    have e : l.take k = l := List.take_of_length_le hlt'
    rw [e] at hown
    go_wp2
    go_ret
    exact ⟨_, rfl, hown, hbel⟩
set_option maxRecDepth 100000
theorem OwnK.base {w : World} {base base' : Nat} {v : Value} {l : List Ky} (h : OwnK w base v l) (hb : base' ≤ base) : OwnK w base' v l := by
 refine ⟨h.1, ?_⟩
 rcases h.2 with ⟨h1, h2⟩ | ⟨g, cap, cur, h1, h2, h3⟩
 ·exact .inl ⟨h1, h2⟩
 ·exact .inr ⟨g, cap, cur, h1, Nat.le_trans hb h2, h3⟩
theorem copy_base (v : Value) (l : List Ky) (w : World) (base : Nat) (h : KS w v l ∧ base ≤ w.heap.size) (hl : l.length ≤ 100000) :
  Calls Tryz.prog 219 #[v] w fun e w' => ∃ v', e = .returned v' ∧ OwnK w' base v' l ∧ Below w.heap.size w w' :=
 (copyKeys_any v l w h.1 hl).mono fun e w' ⟨v', he, ho, hb⟩ => ⟨v', he, ho.base h.2, hb⟩
theorem newsB {W w' : World} {a : Int} {b : ByteArray} {T : TypeId} (h : Below (W.alloc (.cells #[.int .i64 a, .string b] T)).heap.size (W.alloc (.cells #[.int .i64 a, .string b] T)) w') :
  ∀ j u, [Value.int .i64 a, .string b][j]? = some u → w'.cell? ((⟨W.heap.size, 0, none⟩ : Addr).add j) = some u := fun j u hj => by
 have := cell_key_new W a b T j u hj
 rw [Addr.add_lit] at this ⊢
 exact (h.cell (p := ⟨W.heap.size, 0 + j, none⟩) (by simp)).trans this
theorem newsD {W w' : World} {a : Int} {b : ByteArray} {T : TypeId} (h : Below (W.alloc (.cells #[.int .i64 a, .string b] T)).drew.heap.size (W.alloc (.cells #[.int .i64 a, .string b] T)).drew w') :
  ∀ j u, [Value.int .i64 a, .string b][j]? = some u → w'.cell? ((⟨W.heap.size, 0, none⟩ : Addr).add j) = some u := newsB (W := W) (T := T) ⟨h.os, h.tape, h.output, h.size, h.block⟩
theorem KS.part {W : World} {g n cp : Nat} {s : List Ky} (h : KeysAt W g 0 s) (hg : g < W.heap.size) (hn : n ≤ s.length) : KS W (.slice (some ⟨g, 0, none⟩) n cp) (s.take n) := by
 refine ⟨_, cp, by simp [Nat.min_eq_left hn], .inr ⟨g, 0, rfl, hg, fun i x hx => ?_⟩⟩
 have hi : i < n := by have := (List.getElem?_eq_some_iff.1 hx).1; simp at this; omega
 rw [List.getElem?_take_of_lt hi] at hx
 exact h i x hx
theorem keep8 {w0 W : World} {b o g n cp : Nat} {ya : Int} {yb : ByteArray} {s : List Ky} (hW : Below w0.heap.size w0 W) (hb : b < w0.heap.size) (hg : g < w0.heap.size)
  (h : w0.cell? ⟨b, o, none⟩ = some (.int .i64 ya) ∧ w0.cell? ⟨b, o + 1, none⟩ = some (.string yb)) (h' : KeysAt w0 g 0 s) (hn : n ≤ s.length) :
  W.cell? ⟨b, o, none⟩ = some (.int .i64 ya) ∧ W.cell? ⟨b, o + 1, none⟩ = some (.string yb) ∧ (KS W (.slice (some ⟨g, 0, none⟩) n cp) (s.take n) ∧ w0.heap.size ≤ W.heap.size) ∧ Below w0.heap.size w0 W :=
 ⟨(hW.cell (p := ⟨b, o, none⟩) hb).trans h.1, (hW.cell (p := ⟨b, o + 1, none⟩) hb).trans h.2, ⟨KS.part (h'.below hW hg) (Nat.lt_of_lt_of_le hg hW.size) hn, hW.size⟩, hW⟩
theorem wrapN (p : Nat) (h : p ≤ 100000) : IntKind.i64.wrap (p : Int) = p := by
 simp [IntKind.wrap, IntKind.bits, IntKind.signed]; omega
theorem keep0 {w0 W : World} {b o : Nat} {ya : Int} {yb : ByteArray} (hW : Below w0.heap.size w0 W) (hb : b < w0.heap.size)
  (h : w0.cell? ⟨b, o, none⟩ = some (.int .i64 ya) ∧ w0.cell? ⟨b, o + 1, none⟩ = some (.string yb)) :
  W.cell? ⟨b, o, none⟩ = some (.int .i64 ya) ∧ W.cell? ⟨b, o + 1, none⟩ = some (.string yb) ∧ (KS W (.slice none 0 0) [] ∧ w0.heap.size ≤ W.heap.size) ∧ Below w0.heap.size w0 W :=
 ⟨(hW.cell (p := ⟨b, o, none⟩) hb).trans h.1, (hW.cell (p := ⟨b, o + 1, none⟩) hb).trans h.2, ⟨⟨none, 0, rfl, .inl rfl⟩, hW.size⟩, hW⟩
theorem own_cap {w : World} {base g n m cap size : Nat} {e : TypeId} {xs : List Value} (h : w.ownsRow base e size (.slice (some ⟨g, 0, none⟩) n cap) m xs) : n ≤ cap := by
 rcases h.2 with ⟨h, _⟩ | ⟨_, _, _, h, _, _, h2, _⟩
 ·cases h
 ·cases h; exact h2
def SortPost (l : List Ky) (w : World) (e : Ending) (w' : World) : Prop := ∃ v' s, e = .returned v' ∧ Srt l s ∧ OwnK w' w.heap.size v' s ∧ Below w.heap.size w w'
theorem keep4 {w0 W : World} {b o g o' : Nat} {ya za : Int} {yb zb : ByteArray} (hW : Below w0.heap.size w0 W) (hb : b < w0.heap.size) (hg : g < w0.heap.size)
  (h : w0.cell? ⟨b, o, none⟩ = some (.int .i64 ya) ∧ w0.cell? ⟨b, o + 1, none⟩ = some (.string yb)) (h' : w0.cell? ⟨g, o', none⟩ = some (.int .i64 za) ∧ w0.cell? ⟨g, o' + 1, none⟩ = some (.string zb)) :
  W.cell? ⟨b, o, none⟩ = some (.int .i64 ya) ∧ W.cell? ⟨b, o + 1, none⟩ = some (.string yb) ∧ W.cell? ⟨g, o', none⟩ = some (.int .i64 za) ∧ W.cell? ⟨g, o' + 1, none⟩ = some (.string zb) ∧ Below w0.heap.size w0 W :=
 ⟨(hW.cell (p := ⟨b, o, none⟩) hb).trans h.1, (hW.cell (p := ⟨b, o + 1, none⟩) hb).trans h.2, (hW.cell (p := ⟨g, o', none⟩) hg).trans h'.1, (hW.cell (p := ⟨g, o' + 1, none⟩) hg).trans h'.2, hW⟩
theorem Below.next {w0 W W' : World} (h : Below w0.heap.size w0 W) (hb : Below W.heap.size W W') : Below w0.heap.size w0 W' := h.trans (hb.mono h.size)
set_option maxRecDepth 100000 in
set_option maxHeartbeats 1600000 in
theorem rsort_any (v : Value) (l : List Ky) (w : World) (h : KS w v l) (hl : l.length ≤ 100000) :
  Calls Tryz.prog 194 #[v] w fun e w' => SortPost l w e w' := by
 obtain ⟨i0, hi, hz0, hz1, hz2⟩ := info_parts Tryz.infoKey
 obtain ⟨a, cap, rfl, h⟩ := h
 rcases h with rfl | ⟨b, off, rfl, hb, hat⟩
 ·go_enter Tryz.func194, Tryz.ntmps194
  go_wp2
  go_loop [3, 4] (fun n i => n = .slice none 0 0 ∧ i = .int .i64 0) (fun _ _ => 0)
  case atStart => exact ⟨rfl, rfl⟩
  case round =>
   obtain ⟨rfl, rfl⟩ := hrel
   go_wp2
   go_ret
   exact ⟨_, [], rfl, Srt.nil, World.ownsRow_nil _ _ _ _, Below.refl _ _⟩
 ·go_enter Tryz.func194, Tryz.ntmps194
  go_wp2
  go_loopw [3, 4] (fun m i wr => ∃ (k : Nat) (s : List Ky), k ≤ l.length ∧ i = .int .i64 k ∧ Srt (l.take k) s ∧ OwnK wr w.heap.size m s ∧ Below w.heap.size w wr ∧ Hid (k = 0 → m = .slice none 0 0)) (fun _ i _ => l.length - (intOf i).toNat)
  case atStart => exact ⟨0, [], by omega, rfl, Srt.nil, World.ownsRow_nil _ _ _ _, Below.refl _ _, fun _ => rfl⟩
  case round =>
   rename World => w0
   obtain ⟨k, s, hk, rfl, hS, hown, hbel, HM⟩ := hrel
   have hsz := hbel.size
   by_cases hlt : k < l.length
   ·obtain ⟨⟨ya, yb⟩, hy⟩ := getSome hlt
    have hstep : l.take (k + 1) = l.take k ++ [(ya, yb)] := by rw [List.take_add_one, hy]; rfl
    have hlk : s.length = k := by rw [hS.1.length_eq]; simp; omega
    obtain ⟨c0, c1⟩ := hat.below hbel hb k _ hy
    simp only at c0 c1
    by_cases hk0 : k = 0
    ·have hm := HM.out hk0
     subst hm
     have hs0 : s = [] := List.length_eq_zero_iff.1 (by omega)
     subst hs0
     have hbl : b < w0.heap.size := Nat.lt_of_lt_of_le hb hsz
     have HS : Hid (Srt (l.take (k + 1)) [(ya, yb)]) := by
      unfold Hid
      rw [hstep]
      exact hS.put (n := 0) (x := (ya, yb)) (by simp) (by simp)
     clear HM hk0 hlk
     go_wp2
     go_loopw [5] (fun at' W => at' = .int .i64 0 ∧ Below w0.heap.size w0 W) (fun _ _ => 0)
     case atStart => exact ⟨rfl, Below.refl _ _⟩
     case round =>
      obtain ⟨rfl, hbr⟩ := hrel
      go_wp2
      go_quiet (fail)
      go_wp2
      have hbr0 : Below w0.heap.size w0 (wr.drewN nq) := ⟨hbr.os, hbr.tape, hbr.output, hbr.size, hbr.block⟩
      generalize wr.drewN nq = W1 at hbr0 ⊢
      go_region_held3 (fun W' => W'.cell? ⟨b, off + k * 2, none⟩ = some (.int .i64 ya) ∧ W'.cell? ⟨b, off + k * 2 + 1, none⟩ = some (.string yb) ∧ (KS W' (.slice none 0 0) [] ∧ w0.heap.size ≤ W'.heap.size) ∧ Below w0.heap.size w0 W')
       (first
        | exact keep0 hbr0.drew hbl ⟨c0, c1⟩
        | exact keep0 (hbr0.alloc hbr0.size _).drew hbl ⟨c0, c1⟩
        | exact keep0 (Below.next (‹_ ∧ _ ∧ (_ ∧ _) ∧ Below w0.heap.size w0 _›).2.2.2 hb2) hbl ⟨c0, c1⟩
        | exact keep0 ((‹_ ∧ _ ∧ (_ ∧ _) ∧ Below w0.heap.size w0 _›).2.2.2.alloc (‹_ ∧ _ ∧ (_ ∧ _) ∧ Below w0.heap.size w0 _›).2.2.1.2 _) hbl ⟨c0, c1⟩
        | exact keep0 ((‹_ ∧ _ ∧ (_ ∧ _) ∧ Below w0.heap.size w0 _›).2.2.2.grown hgrow (‹_ ∧ _ ∧ (_ ∧ _) ∧ Below w0.heap.size w0 _›).2.2.1.2 (own_row hownC)) hbl ⟨c0, c1⟩)
       (first
        | (go_at_call 219; refine (copy_base _ [] _ w0.heap.size (‹_ ∧ _ ∧ (_ ∧ _) ∧ Below w0.heap.size w0 _›).2.2.1 (by decide)).mono ?_; rintro e w' ⟨v', rfl, hownC, hb2⟩)
        | (refine step_append_lies _ (by rfl) _ _ _ (by rfl) w0.heap.size 124 i0 _ 2 24 Tryz.underlying245 hi hz0 hz1 hz2 rfl (by decide) _ _ _ (by rfl) (hownC.alloc _) ⟨w'.heap.size, 0, none⟩ 1 1 [.int .i64 ya, .string yb] (by rfl) (by rfl) (cell_key_new _ _ _ _) (key_cells _ _) (by decide) (by unfold maxLen; decide) (by decide) (‹_ ∧ _ ∧ (_ ∧ _) ∧ Below w0.heap.size w0 _›).2.2.1.2 _ rfl ?_; intro gg cap2 w1 hown1 hgrow hat1 hlt1)
        | (refine step_append_lies _ (by rfl) _ _ _ (by rfl) w0.heap.size 124 i0 _ 2 24 Tryz.underlying245 hi hz0 hz1 hz2 rfl (by decide) _ _ _ (by rfl) hownC _ 1 1 [.int .i64 ya, .string yb] (by rfl) (by rfl) (newsD hb2) (key_cells _ _) (by decide) (by unfold maxLen; decide) (by decide) (‹_ ∧ _ ∧ (_ ∧ _) ∧ Below w0.heap.size w0 _›).2.2.1.2 _ rfl ?_; intro gg cap2 w1 hown1 hgrow hat1 hlt1))
      all_goals
       obtain ⟨_, _, _, hbr3⟩ := ‹_ ∧ _ ∧ (_ ∧ _) ∧ Below w0.heap.size w0 _›
       have hown4 : OwnK w1 w.heap.size (.slice (some ⟨gg, 0, none⟩) 1 cap2) [(ya, yb)] := OwnK.base (base := w0.heap.size) hown1 hsz
       have hbel4 : Below w.heap.size w w1 := hbel.trans (hbr3.mono hsz)
       have hcap1 : 1 ≤ cap2 := own_cap hown4
       have hcap0 : ¬ cap2 = 0 := by omega
       go_wp2
       go_roundw
       case rel => exact ⟨k + 1, _, by omega, by go_num, HS.out, hown4, hbel4, fun h => by omega⟩
       case measure => simp [intOf]; omega
    ·rcases hown.2 with ⟨_, h0⟩ | ⟨g, cp, cur, hv, hg, hgb, hn1, hn2, hn3, hn4⟩
     ·exact absurd (hlk.symm.trans h0) hk0
     rw [hlk] at hv
     subst hv
     have hgl : g < w0.heap.size := (Array.getElem?_eq_some_iff.1 hgb).1
     have hka : KeysAt w0 g 0 s := keysAt_of_block hgb hn4
     have hbl : b < w0.heap.size := Nat.lt_of_lt_of_le hb hsz
     go_wp2
     go_loopw [5] (fun at' W => ∃ n : Nat, n ≤ k ∧ at' = .int .i64 n ∧ Hid (∀ z ∈ s.drop n, ltK (ya, yb) z = true) ∧ Below w0.heap.size w0 W) (fun at' _ => (intOf at').toNat)
     case atStart => exact ⟨k, by omega, rfl, by unfold Hid; intro z hz; rw [List.drop_eq_nil_of_le (by omega)] at hz; simp at hz, Below.refl _ _⟩
     case round =>
      obtain ⟨n, hn, rfl, HA, hbr⟩ := hrel
      by_cases hn0 : n = 0
      ·have hd : decide ((0 : Int) < (n : Int)) = false := by simp; omega
       have hd2 : decide (0 < n) = false := by simp; omega
       have HB : ∀ z ∈ s.take n, ltK (ya, yb) z = false := by rw [hn0]; intro z hz; simp at hz
       have hnk : n ≤ k := hn
       clear hn0
       go_wp2
       go_quiet (fail)
       go_wp2
       have hbr0 : Below w0.heap.size w0 (wr.drewN nq) := ⟨hbr.os, hbr.tape, hbr.output, hbr.size, hbr.block⟩
       generalize wr.drewN nq = W1 at hbr0 ⊢
       have HS : Hid (Srt (l.take (k + 1)) (s.take n ++ [(ya, yb)] ++ s.drop n)) := by
        unfold Hid
        rw [hstep]
        exact hS.put HB HA.out
       have htn : (s.take n).length = n := by simp; omega
       have h63 : (s.take n).length + 1 ≤ maxLen := by rw [htn]; unfold maxLen; omega
       have hby24 : ((s.take n).length + 1) * 24 ≤ 140737488355328 := by rw [htn]; omega
       have hn0' : (0 : Int) ≤ n := by omega
       have hnk' : (n : Int) ≤ k := by omega
       have hncp : (n : Int) ≤ cp := by omega
       clear HA HB
       go_region_held3 (fun W' => W'.cell? ⟨b, off + k * 2, none⟩ = some (.int .i64 ya) ∧ W'.cell? ⟨b, off + k * 2 + 1, none⟩ = some (.string yb) ∧ (KS W' (.slice (some ⟨g, 0, none⟩) n cp) (s.take n) ∧ w0.heap.size ≤ W'.heap.size) ∧ Below w0.heap.size w0 W')
        (first
         | exact keep8 hbr0.drew hbl hgl ⟨c0, c1⟩ hka (by omega)
         | exact keep8 (hbr0.alloc hbr0.size _).drew hbl hgl ⟨c0, c1⟩ hka (by omega)
         | exact keep8 (Below.next (‹_ ∧ _ ∧ (_ ∧ _) ∧ Below w0.heap.size w0 _›).2.2.2 hb2) hbl hgl ⟨c0, c1⟩ hka (by omega)
         | exact keep8 ((‹_ ∧ _ ∧ (_ ∧ _) ∧ Below w0.heap.size w0 _›).2.2.2.alloc (‹_ ∧ _ ∧ (_ ∧ _) ∧ Below w0.heap.size w0 _›).2.2.1.2 _) hbl hgl ⟨c0, c1⟩ hka (by omega)
         | exact keep8 ((‹_ ∧ _ ∧ (_ ∧ _) ∧ Below w0.heap.size w0 _›).2.2.2.grown hgrow (‹_ ∧ _ ∧ (_ ∧ _) ∧ Below w0.heap.size w0 _›).2.2.1.2 (own_row hownC)) hbl hgl ⟨c0, c1⟩ hka (by omega))
        (first
         | (go_at_call 219; refine (copy_base _ (s.take n) _ w0.heap.size (‹_ ∧ _ ∧ (_ ∧ _) ∧ Below w0.heap.size w0 _›).2.2.1 (by omega)).mono ?_; rintro e w' ⟨v', rfl, hownC, hb2⟩)
         | (refine step_append_lies _ (by rfl) _ _ _ (by rfl) w0.heap.size 124 i0 _ 2 24 Tryz.underlying245 hi hz0 hz1 hz2 rfl (by decide) _ _ _ (by rfl) (hownC.alloc _) ⟨w'.heap.size, 0, none⟩ 1 1 [.int .i64 ya, .string yb] (by rfl) (by rfl) (cell_key_new _ _ _ _) (key_cells _ _) (by decide) h63 hby24 (‹_ ∧ _ ∧ (_ ∧ _) ∧ Below w0.heap.size w0 _›).2.2.1.2 _ rfl ?_; intro gg cap2 w1 hown1 hgrow hat1 hlt1)
         | (refine step_append_lies _ (by rfl) _ _ _ (by rfl) w0.heap.size 124 i0 _ 2 24 Tryz.underlying245 hi hz0 hz1 hz2 rfl (by decide) _ _ _ (by rfl) hownC _ 1 1 [.int .i64 ya, .string yb] (by rfl) (by rfl) (newsD hb2) (key_cells _ _) (by decide) h63 hby24 (‹_ ∧ _ ∧ (_ ∧ _) ∧ Below w0.heap.size w0 _›).2.2.1.2 _ rfl ?_; intro gg cap2 w1 hown1 hgrow hat1 hlt1))
       all_goals
        obtain ⟨_, _, _, hbr3⟩ := ‹_ ∧ _ ∧ (_ ∧ _) ∧ Below w0.heap.size w0 _›
        have hkg := hka.below hbr3 hgl
        have hown2 : w1.ownsRow w0.heap.size 124 2 (.slice (some ⟨gg, 0, none⟩) (n + 1) cap2) (n + 1) (flatK' (s.take n ++ [(ya, yb)])) := by
         rw [htn] at hown1
         rw [flatK_app, flatK_one]
         exact hown1
        have hnews : ∀ j u, (flatK' (s.drop n))[j]? = some u → w1.cell? ((⟨g, n * 2, none⟩ : Addr).add j) = some u := by
         have hd : KeysAt w1 g (n * 2) (s.drop n) := fun i x hx => by
          rw [List.getElem?_drop] at hx
          have := hkg (n + i) x hx
          rw [Nat.zero_add, Nat.add_mul] at this
          exact this
         exact hd.news
        have hdl : (flatK' (s.drop n)).length = (k - n) * 2 := by rw [flatK_len, List.length_drop, hlk]
        clear hown1 hgrow hat1 hkg
        have h63b : n + 1 + (k - n) ≤ maxLen := by unfold maxLen; omega
        have hby24b : (n + 1 + (k - n)) * 24 ≤ 140737488355328 := by omega
        have hkcp : k ≤ cp := by omega
        by_cases hcp : cp = n
        ·have hnil : s.drop n = [] := List.drop_eq_nil_of_le (by omega)
         have hk2 : k = n := by omega
         subst hcp
         subst hk2
         have h63c : k + 1 + 0 ≤ maxLen := by unfold maxLen; omega
         have hby24c : (k + 1 + 0) * 24 ≤ 140737488355328 := by omega
         go_wp2_with (at_builtin; refine wpList_append_own _ rfl _ _ 245 rfl w0.heap.size 124 i0 _ 2 24 Tryz.underlying245 hi hz0 hz1 hz2 rfl (by decide) _ _ _ rfl hown2 ⟨g, 0, none⟩ 0 0 [] rfl rfl (by simp) (by simp) h63c hby24c hbr3.size ?_)
         intro v2 w2 hown3 hgrow2 _
         have hown4 : OwnK w2 w.heap.size v2 (s.take k ++ [(ya, yb)] ++ s.drop k) := by
          rw [hnil, List.append_nil]
          refine OwnK.base (base := w0.heap.size) ?_ hsz
          unfold OwnK
          rw [List.length_append, htn]
          rw [flatK_app, flatK_one]
          exact hown3
         have hbel4 : Below w.heap.size w w2 := hbel.trans ((hbr3.grown hgrow2 hbr3.size (own_row hown2)).mono hsz)
         clear hown3 hgrow2 hown2 hbr3 hnews hdl
         go_wp2
         go_roundw
         case rel => exact ⟨k + 1, _, by omega, by go_num, HS.out, hown4, hbel4, fun h => by omega⟩
         case measure => simp [intOf]; omega
        ·have hcp' : (n : Int) < cp := by omega
         have hcp2 : 0 < cp - n := by omega
         go_wp2_with (at_builtin; refine wpList_append_own _ rfl _ _ 245 rfl w0.heap.size 124 i0 _ 2 24 Tryz.underlying245 hi hz0 hz1 hz2 rfl (by decide) _ _ _ rfl hown2 ⟨g, n * 2, none⟩ (k - n) (cp - n) (flatK' (s.drop n)) rfl hdl hnews (flatK_cell _) h63b hby24b hbr3.size ?_)
         intro v2 w2 hown3 hgrow2 _
         have hown4 : OwnK w2 w.heap.size v2 (s.take n ++ [(ya, yb)] ++ s.drop n) := by
          refine OwnK.base (base := w0.heap.size) ?_ hsz
          have e : flatK' (s.take n ++ [(ya, yb)] ++ s.drop n) = List.flatMap encK (s.take n) ++ (encK (ya, yb) ++ flatK' (s.drop n)) := by simp [flatK']
          unfold OwnK
          rw [e, show (s.take n ++ [(ya, yb)] ++ s.drop n).length = n + 1 + (k - n) by simp; omega]
          exact hown3
         have hbel4 : Below w.heap.size w w2 := hbel.trans ((hbr3.grown hgrow2 hbr3.size (own_row hown2)).mono hsz)
         clear hown3 hgrow2 hown2 hbr3 hnews hdl
         go_wp2
         go_roundw
         case rel => exact ⟨k + 1, _, by omega, by go_num, HS.out, hown4, hbel4, fun h => by omega⟩
         case measure => simp [intOf]; omega
      ·obtain ⟨p, rfl⟩ : ∃ p, n = p + 1 := ⟨n - 1, by omega⟩
       obtain ⟨⟨za, zb⟩, hz⟩ := getSome (l := s) (i := p) (by omega)
       obtain ⟨d0, d1⟩ := hka p _ hz
       rw [Nat.zero_add] at d0 d1
       have hd : decide ((0 : Int) < ((p + 1 : Nat) : Int)) = true := by simp
       have hp0 : (0 : Int) ≤ p := by omega
       have hwp : IntKind.i64.wrap (p : Int) = p := wrapN p (by omega)
       have hpk : (p : Int) < k := by omega
       have hpk' : (p : Int) < s.length := by omega
       have hcmp := rcmp_any (ya, yb) (za, zb)
       simp only at hcmp
       have hsd : s.drop p = (za, zb) :: s.drop (p + 1) := by
        have := (List.getElem?_eq_some_iff.1 hz)
        rw [List.drop_eq_getElem_cons this.1, this.2]
       by_cases hlt2 : ltK (ya, yb) (za, zb) = true
       ·rw [cfK_neg1 hlt2] at hcmp
        have HN' : Hid (∀ z ∈ s.drop p, ltK (ya, yb) z = true) := by
         unfold Hid
         rw [hsd]
         intro z hz'
         rcases List.mem_cons.1 hz' with rfl | hz'
         ·exact hlt2
         ·exact HA.out z hz'
        clear HA hlt2 hsd
        go_wp2
        go_region_held3 (fun W' => W'.cell? ⟨b, off + k * 2, none⟩ = some (.int .i64 ya) ∧ W'.cell? ⟨b, off + k * 2 + 1, none⟩ = some (.string yb) ∧ W'.cell? ⟨g, p * 2, none⟩ = some (.int .i64 za) ∧ W'.cell? ⟨g, p * 2 + 1, none⟩ = some (.string zb) ∧ Below w0.heap.size w0 W') (first | exact keep4 (Below.next (by assumption) (by assumption)) hbl hgl ⟨c0, c1⟩ ⟨d0, d1⟩ | exact keep4 hbr.drew hbl hgl ⟨c0, c1⟩ ⟨d0, d1⟩ | exact keep4 (Below.next ‹_ ∧ _ ∧ _ ∧ _ ∧ Below w0.heap.size w0 _›.2.2.2.2 (by assumption)) hbl hgl ⟨c0, c1⟩ ⟨d0, d1⟩)
         (first | (go_at_call 117; refine (hcmp _).mono ?_; rintro e w' ⟨rfl, hb2⟩))
        obtain ⟨_, _, _, _, hbr2⟩ := ‹_ ∧ _ ∧ _ ∧ _ ∧ Below w0.heap.size w0 _›
        go_wp2
        go_roundw
        case rel => exact ⟨p, by omega, by go_num, HN', hbr2⟩
        case measure => simp [intOf]
       ·have hge : (0 : Int) ≤ cfK (ya, yb) (za, zb) := by
         have := cfK_lt0 (ya, yb) (za, zb)
         simp only [hlt2] at this
         have := of_decide_eq_false (this.trans (by simp))
         omega
        generalize cfK (ya, yb) (za, zb) = cc at hcmp hge
        go_wp2
        go_region_held3 (fun W' => W'.cell? ⟨b, off + k * 2, none⟩ = some (.int .i64 ya) ∧ W'.cell? ⟨b, off + k * 2 + 1, none⟩ = some (.string yb) ∧ W'.cell? ⟨g, p * 2, none⟩ = some (.int .i64 za) ∧ W'.cell? ⟨g, p * 2 + 1, none⟩ = some (.string zb) ∧ Below w0.heap.size w0 W') (first | exact keep4 (Below.next (by assumption) (by assumption)) hbl hgl ⟨c0, c1⟩ ⟨d0, d1⟩ | exact keep4 hbr.drew hbl hgl ⟨c0, c1⟩ ⟨d0, d1⟩ | exact keep4 (Below.next ‹_ ∧ _ ∧ _ ∧ _ ∧ Below w0.heap.size w0 _›.2.2.2.2 (by assumption)) hbl hgl ⟨c0, c1⟩ ⟨d0, d1⟩)
         (first | (go_at_call 117; refine (hcmp _).mono ?_; rintro e w' ⟨rfl, hb2⟩))
        obtain ⟨_, _, _, _, hbr2⟩ := ‹_ ∧ _ ∧ _ ∧ _ ∧ Below w0.heap.size w0 _›
        have HB : ∀ z ∈ s.take (p + 1), ltK (ya, yb) z = false := by
         have hlt3 : ltK (ya, yb) (za, zb) = false := by simpa using hlt2
         have e1 : s.take (p + 1) = s.take p ++ [(za, zb)] := by rw [List.take_add_one, hz]; rfl
         have hs2 := hS.2
         rw [← List.take_append_drop (p + 1) s, e1, List.pairwise_append, List.pairwise_append] at hs2
         rw [e1]
         intro z hz'
         rcases List.mem_append.1 hz' with hz' | hz'
         ·exact leK_trans (hs2.1.2.2 z hz' _ (by simp)) hlt3
         ·rw [List.mem_singleton] at hz'; subst hz'; exact hlt3
        clear hlt2 hsd hz
        go_wp2
        obtain ⟨n, hne⟩ : ∃ n, n = p + 1 := ⟨_, rfl⟩
        have hnk : n ≤ k := by omega
        have hnv : ((n : Nat) : Int) = (p : Int) + 1 := by rw [hne]; simp
        have HS : Hid (Srt (l.take (k + 1)) (s.take n ++ [(ya, yb)] ++ s.drop n)) := by
         unfold Hid
         rw [hstep, hne]
         exact hS.put HB HA.out
        have htn : (s.take n).length = n := by simp; omega
        have h63 : (s.take n).length + 1 ≤ maxLen := by rw [htn]; unfold maxLen; omega
        have hby24 : ((s.take n).length + 1) * 24 ≤ 140737488355328 := by rw [htn]; omega
        have hn0' : (0 : Int) ≤ n := by omega
        have hnk' : (n : Int) ≤ k := by omega
        have hncp : (n : Int) ≤ cp := by omega
        clear HA HB hne
        rw [← hnv]
        clear hnv
        go_region_held3 (fun W' => W'.cell? ⟨b, off + k * 2, none⟩ = some (.int .i64 ya) ∧ W'.cell? ⟨b, off + k * 2 + 1, none⟩ = some (.string yb) ∧ (KS W' (.slice (some ⟨g, 0, none⟩) n cp) (s.take n) ∧ w0.heap.size ≤ W'.heap.size) ∧ Below w0.heap.size w0 W')
         (first
          | exact keep8 hbr2.drew hbl hgl ⟨c0, c1⟩ hka (by omega)
          | exact keep8 (hbr2.alloc hbr2.size _).drew hbl hgl ⟨c0, c1⟩ hka (by omega)
          | exact keep8 (Below.next (‹_ ∧ _ ∧ (_ ∧ _) ∧ Below w0.heap.size w0 _›).2.2.2 hb2) hbl hgl ⟨c0, c1⟩ hka (by omega)
          | exact keep8 ((‹_ ∧ _ ∧ (_ ∧ _) ∧ Below w0.heap.size w0 _›).2.2.2.alloc (‹_ ∧ _ ∧ (_ ∧ _) ∧ Below w0.heap.size w0 _›).2.2.1.2 _) hbl hgl ⟨c0, c1⟩ hka (by omega)
          | exact keep8 ((‹_ ∧ _ ∧ (_ ∧ _) ∧ Below w0.heap.size w0 _›).2.2.2.grown hgrow (‹_ ∧ _ ∧ (_ ∧ _) ∧ Below w0.heap.size w0 _›).2.2.1.2 (own_row hownC)) hbl hgl ⟨c0, c1⟩ hka (by omega))
         (first
          | (go_at_call 219; refine (copy_base _ (s.take n) _ w0.heap.size (‹_ ∧ _ ∧ (_ ∧ _) ∧ Below w0.heap.size w0 _›).2.2.1 (by omega)).mono ?_; rintro e w' ⟨v', rfl, hownC, hb2⟩)
          | (refine step_append_lies _ (by rfl) _ _ _ (by rfl) w0.heap.size 124 i0 _ 2 24 Tryz.underlying245 hi hz0 hz1 hz2 rfl (by decide) _ _ _ (by rfl) (hownC.alloc _) ⟨w'.heap.size, 0, none⟩ 1 1 [.int .i64 ya, .string yb] (by rfl) (by rfl) (cell_key_new _ _ _ _) (key_cells _ _) (by decide) h63 hby24 (‹_ ∧ _ ∧ (_ ∧ _) ∧ Below w0.heap.size w0 _›).2.2.1.2 _ rfl ?_; intro gg cap2 w1 hown1 hgrow hat1 hlt1)
          | (refine step_append_lies _ (by rfl) _ _ _ (by rfl) w0.heap.size 124 i0 _ 2 24 Tryz.underlying245 hi hz0 hz1 hz2 rfl (by decide) _ _ _ (by rfl) hownC _ 1 1 [.int .i64 ya, .string yb] (by rfl) (by rfl) (newsD hb2) (key_cells _ _) (by decide) h63 hby24 (‹_ ∧ _ ∧ (_ ∧ _) ∧ Below w0.heap.size w0 _›).2.2.1.2 _ rfl ?_; intro gg cap2 w1 hown1 hgrow hat1 hlt1))
        all_goals
         obtain ⟨_, _, _, hbr3⟩ := ‹_ ∧ _ ∧ (_ ∧ _) ∧ Below w0.heap.size w0 _›
         have hkg := hka.below hbr3 hgl
         have hown2 : w1.ownsRow w0.heap.size 124 2 (.slice (some ⟨gg, 0, none⟩) (n + 1) cap2) (n + 1) (flatK' (s.take n ++ [(ya, yb)])) := by
          rw [htn] at hown1
          rw [flatK_app, flatK_one]
          exact hown1
         have hnews : ∀ j u, (flatK' (s.drop n))[j]? = some u → w1.cell? ((⟨g, n * 2, none⟩ : Addr).add j) = some u := by
          have hd : KeysAt w1 g (n * 2) (s.drop n) := fun i x hx => by
           rw [List.getElem?_drop] at hx
           have := hkg (n + i) x hx
           rw [Nat.zero_add, Nat.add_mul] at this
           exact this
          exact hd.news
         have hdl : (flatK' (s.drop n)).length = (k - n) * 2 := by rw [flatK_len, List.length_drop, hlk]
         clear hown1 hgrow hat1 hkg
         have h63b : n + 1 + (k - n) ≤ maxLen := by unfold maxLen; omega
         have hby24b : (n + 1 + (k - n)) * 24 ≤ 140737488355328 := by omega
         have hkcp : k ≤ cp := by omega
         by_cases hcp : cp = n
         ·have hnil : s.drop n = [] := List.drop_eq_nil_of_le (by omega)
          have hk2 : k = n := by omega
          subst hcp
          subst hk2
          have h63c : k + 1 + 0 ≤ maxLen := by unfold maxLen; omega
          have hby24c : (k + 1 + 0) * 24 ≤ 140737488355328 := by omega
          go_wp2_with (at_builtin; refine wpList_append_own _ rfl _ _ 245 rfl w0.heap.size 124 i0 _ 2 24 Tryz.underlying245 hi hz0 hz1 hz2 rfl (by decide) _ _ _ rfl hown2 ⟨g, 0, none⟩ 0 0 [] rfl rfl (by simp) (by simp) h63c hby24c hbr3.size ?_)
          intro v2 w2 hown3 hgrow2 _
          have hown4 : OwnK w2 w.heap.size v2 (s.take k ++ [(ya, yb)] ++ s.drop k) := by
           rw [hnil, List.append_nil]
           refine OwnK.base (base := w0.heap.size) ?_ hsz
           unfold OwnK
           rw [List.length_append, htn]
           rw [flatK_app, flatK_one]
           exact hown3
          have hbel4 : Below w.heap.size w w2 := hbel.trans ((hbr3.grown hgrow2 hbr3.size (own_row hown2)).mono hsz)
          clear hown3 hgrow2 hown2 hbr3 hnews hdl
          go_wp2
          go_roundw
          case rel => exact ⟨k + 1, _, by omega, by go_num, HS.out, hown4, hbel4, fun h => by omega⟩
          case measure => simp [intOf]; omega
         ·have hcp' : (n : Int) < cp := by omega
          have hcp2 : 0 < cp - n := by omega
          go_wp2_with (at_builtin; refine wpList_append_own _ rfl _ _ 245 rfl w0.heap.size 124 i0 _ 2 24 Tryz.underlying245 hi hz0 hz1 hz2 rfl (by decide) _ _ _ rfl hown2 ⟨g, n * 2, none⟩ (k - n) (cp - n) (flatK' (s.drop n)) rfl hdl hnews (flatK_cell _) h63b hby24b hbr3.size ?_)
          intro v2 w2 hown3 hgrow2 _
          have hown4 : OwnK w2 w.heap.size v2 (s.take n ++ [(ya, yb)] ++ s.drop n) := by
           refine OwnK.base (base := w0.heap.size) ?_ hsz
           have e : flatK' (s.take n ++ [(ya, yb)] ++ s.drop n) = List.flatMap encK (s.take n) ++ (encK (ya, yb) ++ flatK' (s.drop n)) := by simp [flatK']
           unfold OwnK
           rw [e, show (s.take n ++ [(ya, yb)] ++ s.drop n).length = n + 1 + (k - n) by simp; omega]
           exact hown3
          have hbel4 : Below w.heap.size w w2 := hbel.trans ((hbr3.grown hgrow2 hbr3.size (own_row hown2)).mono hsz)
          clear hown3 hgrow2 hown2 hbr3 hnews hdl
          go_wp2
          go_roundw
          case rel => exact ⟨k + 1, _, by omega, by go_num, HS.out, hown4, hbel4, fun h => by omega⟩
          case measure => simp [intOf]; omega
   ·have hlt' : l.length ≤ k := by omega
    have e : l.take k = l := List.take_of_length_le hlt'
    rw [e] at hS
    go_wp2
    go_ret
    exact ⟨_, s, rfl, hS, hown, hbel⟩
end Go.Proofs.YtclcgakfmcofaaaGreatDoor
