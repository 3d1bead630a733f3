/- Contracts over slices of keys: CopyKeys, EqKeys, EqNumbers, Keys. -/
import Derived.Test.YtkfhfennelckfaaKFn
namespace Go.Proofs.Ytkfhfennelckfaa
open Go.RowKit
set_option linter.unusedVariables false

theorem Try.infoKey : (Try.prog.info? 30).map (fun i => (i.zero, i.size, i.bytes)) = some (some (.agg #[.int .i64 0, .string ⟨#[]⟩]), 2, 24) := by kernel_rfl
/-- v owns the keys l, in a block from base on. -/
abbrev OwnK (w : World) (base : Nat) (v : Value) (l : List Ky) : Prop := w.ownsRow base 30 2 v l.length (flatK' l)
theorem cell_key_new (w : World) (a : Int) (b : ByteArray) (T : TypeId) : ∀ j u, [Value.int .i64 a, .string b][j]? = some u → (w.alloc (.cells #[.int .i64 a, .string b] T)).cell? ((⟨w.heap.size, 0, none⟩ : Addr).add j) = some u := by
  intro j u hj
  rw [Addr.add_lit, Nat.zero_add]
  match j, hj with
  | 0, hj => simp at hj; subst hj; unfold World.cell?; rw [(MapKept.heap_alloc w _).1]; rfl
  | 1, hj => simp at hj; subst hj; unfold World.cell?; rw [(MapKept.heap_alloc w _).1]; rfl
theorem key_cells (a : Int) (b : ByteArray) : ∀ u ∈ [Value.int .i64 a, .string b], u.oneCell' = true := by
  intro u hu
  simp only [List.mem_cons, List.not_mem_nil, or_false] at hu
  rcases hu with rfl | rfl <;> rfl
theorem own_row {w : World} {base n : Nat} {e : TypeId} {size : Nat} {v : Value} {xs : List Value} (h : w.ownsRow base e size v n xs) : ∀ k, v.ownBlock = some k → base ≤ k := fun k hk => (h.lt k hk).1
theorem OwnK.snoc {w : World} {base n : Nat} {v : Value} {l : List Ky} {x : Ky} (h : w.ownsRow base 30 2 v (n + 1) (flatK' l ++ [.int .i64 x.1, .string x.2])) (hn : n = l.length) : OwnK w base v (l ++ [x]) := by
  subst hn
  have : flatK' (l ++ [x]) = flatK' l ++ [.int .i64 x.1, .string x.2] := by rw [flat_app, flat_one]
  unfold OwnK
  rw [this, List.length_append]
  exact h

set_option maxHeartbeats 400000 in
theorem copy_any (v : Value) (l : List Ky) (w : World) (h : KS w v l) (hl : l.length ≤ 100000) :
    Calls Try.prog 15 #[v] w fun e w' => ∃ v', e = .returned v' ∧ OwnK w' w.heap.size v' l ∧ Below w.heap.size w w' := by
  obtain ⟨i0, hi, hz0, hz1, hz2⟩ := info_parts Try.infoKey
  obtain ⟨a, cap, rfl, h⟩ := h
  rcases h with rfl | ⟨b, off, rfl, hb, hat⟩
  · go_enter Try.func15, Try.ntmps15
    go_wp2
    go_loop [3, 4] (fun n i => n = .slice none 0 0 ∧ i = .int .i64 0) (fun _ _ => 0)
    case atStart => exact ⟨rfl, rfl⟩
    case round =>
      obtain ⟨rfl, rfl⟩ := hrel
      go_wp2
      go_ret
      exact ⟨_, rfl, World.ownsRow_nil _ _ _ _, Below.refl _ _⟩
  · go_enter Try.func15, Try.ntmps15
    go_wp2
    go_loopw [3, 4] (fun m i wr => ∃ k : Nat, k ≤ l.length ∧ i = .int .i64 k ∧ OwnK wr w.heap.size m (l.take k) ∧ Below w.heap.size w wr) (fun _ i _ => l.length - (intOf i).toNat)
    case atStart => exact ⟨0, by omega, rfl, World.ownsRow_nil _ _ _ _, Below.refl _ _⟩
    case round =>
      obtain ⟨k, hk, rfl, hown, hbel⟩ := hrel
      have hsz := hbel.size
      by_cases hlt : k < l.length
      · obtain ⟨y, hy⟩ := getSome hlt
        obtain ⟨c0, c1⟩ := hat.below hbel hb k y hy
        have hstep : l.take (k + 1) = l.take k ++ [y] := by rw [List.take_add_one, hy]; rfl
        have hlk : (l.take k).length = k := by simp; omega
        obtain ⟨ya, yb⟩ := y
        clear hy
        go_wp2_with (at_builtin; refine wpList_append_own _ rfl _ _ 22 rfl w.heap.size 30 i0 _ 2 24 Try.underlying22 hi hz0 hz1 hz2 rfl (by decide) _ _ _ rfl (hown.alloc _) ⟨wr.heap.size, 0, none⟩ 1 1 [.int .i64 ya, .string yb] rfl rfl (cell_key_new _ _ _ _) (key_cells _ _) ?c3 ?c4 ?c5 ?_)
        case c3 => unfold maxLen; omega
        case c4 => omega
        case c5 => first | omega | (simp; omega)
        intro v2 w2 hown2 hgrow2 _
        have hbel2 : Below w.heap.size w w2 := (hbel.alloc hsz _).grown hgrow2 (by simp; omega) (own_row hown)
        have hown3 : OwnK w2 w.heap.size v2 (l.take (k + 1)) := by rw [hstep]; exact OwnK.snoc (x := (ya, yb)) hown2 hlk.symm
        clear hown2 hgrow2 hown hbel c0 c1
        go_wp2
        go_roundw
        case rel => exact ⟨k + 1, by omega, by go_num, hown3, hbel2⟩
        case measure => simp [intOf]; omega
      · have hlt' : l.length ≤ k := by omega
        have e : l.take k = l := List.take_of_length_le hlt'
        rw [e] at hown
        go_wp2
        go_ret
        exact ⟨_, rfl, hown, hbel⟩

/-- From w on nothing has been done but draws. -/
def Drawn (w wr : World) : Prop := ∃ q, wr = w.drewN q
theorem Drawn.refl (w : World) : Drawn w w := ⟨0, rfl⟩
theorem Drawn.step {w wr : World} (h : Drawn w wr) (q : Nat) : Drawn w (wr.drewN q) := by obtain ⟨n, rfl⟩ := h; exact ⟨n + q, by simp [World.drewN, Nat.add_assoc]⟩
theorem Drawn.cell {w wr : World} (h : Drawn w wr) (a : Addr) : wr.cell? a = w.cell? a := by obtain ⟨n, rfl⟩ := h; rfl
theorem Drawn.below {w wr : World} (h : Drawn w wr) (B : Nat) : Below B w wr := by obtain ⟨n, rfl⟩ := h; exact ⟨rfl, rfl, rfl, Nat.le_refl _, fun _ _ => rfl⟩
/-- Are two lists one? -/
def sameB {α : Type} [DecidableEq α] (l m : List α) : Bool := decide (l = m)
theorem eq_take {α : Type} {l m : List α} (h : l.length = m.length) {k : Nat} (hk : l.take k = m.take k) (hl : l.length ≤ k) : l = m := by
  rwa [List.take_of_length_le hl, List.take_of_length_le (h ▸ hl)] at hk
theorem take_next {α : Type} {l m : List α} {k : Nat} {x y : α} (hk : l.take k = m.take k) (hx : l[k]? = some x) (hy : m[k]? = some y) : l.take (k + 1) = m.take (k + 1) ↔ x = y := by
  rw [List.take_add_one, List.take_add_one, hx, hy, hk]
  simp

set_option maxHeartbeats 400000 in
theorem eqkeys_any (v u : Value) (l m : List Ky) (w : World) (h : KS w v l) (h' : KS w u m) (hl : l.length ≤ 100000) :
    Calls Try.prog 19 #[v, u] w fun e w' => e = .returned (.bool (sameB l m)) ∧ Drawn w w' := by
  obtain ⟨a, cap, rfl, h⟩ := h
  obtain ⟨a', cap', rfl, h'⟩ := h'
  by_cases hlen : l.length = m.length
  · rcases h with rfl | ⟨b, off, rfl, hb, hat⟩
    · obtain rfl : m = [] := List.length_eq_zero_iff.1 hlen.symm
      go_enter Try.func19, Try.ntmps19
      go_wp2
      go_loop [5] (fun i => i = .int .i64 0) (fun _ => 0)
      case atStart => rfl
      case round =>
        subst hrel
        go_wp2
        go_ret
        exact ⟨rfl, Drawn.refl _⟩
    · rcases h' with rfl | ⟨b', off', rfl, hb', hat'⟩
      · obtain rfl : l = [] := List.length_eq_zero_iff.1 hlen
        go_enter Try.func19, Try.ntmps19
        go_wp2
        go_loop [5] (fun i => i = .int .i64 0) (fun _ => 0)
        case atStart => rfl
        case round =>
          subst hrel
          go_wp2
          go_ret
          exact ⟨rfl, Drawn.refl _⟩
      · have hne := neK
        have hgd := guardK
        rw [hlen] at hl
        obtain ⟨n, hn⟩ : ∃ n, m.length = n := ⟨_, rfl⟩
        have hln : l.length = n := hlen.trans hn
        rw [hlen, hn]
        rw [hn] at hl
        go_enter Try.func19, Try.ntmps19
        go_wp2
        go_loopw [5] (fun i wr => ∃ k : Nat, k ≤ n ∧ i = .int .i64 k ∧ Hid (l.take k = m.take k) ∧ Drawn w wr) (fun i _ => n - (intOf i).toNat)
        case atStart => exact ⟨0, by omega, rfl, rfl, Drawn.refl _⟩
        case round =>
          obtain ⟨k, hk, rfl, HT, hD⟩ := hrel
          by_cases hlt : k < n
          · obtain ⟨y, hy⟩ := getSome (l := l) (i := k) (by omega)
            obtain ⟨z, hz⟩ := getSome (l := m) (i := k) (by omega)
            obtain ⟨c0, c1⟩ := hat.below (hD.below w.heap.size) hb k y hy
            obtain ⟨d0, d1⟩ := hat'.below (hD.below w.heap.size) hb' k z hz
            have HN : Hid (l.take (k + 1) = m.take (k + 1) ↔ y = z) := take_next HT.out hy hz
            obtain ⟨ya, yb⟩ := y
            obtain ⟨za, zb⟩ := z
            clear hat hat' hy hz
            have hk0 : (0 : Int) ≤ k := by omega
            have hkl : (k : Int) < n := by omega
            by_cases he : (ya, yb) = (za, zb)
            · have HN' : Hid (l.take (k + 1) = m.take (k + 1)) := HN.out.2 he
              cases he
              have he' : eqB (ya, yb) (ya, yb) = true := eqB_self _
              clear HN
              go_wp2
              go_quiet (fail)
              go_wp2
              go_roundw
              case rel => exact ⟨k + 1, by omega, by go_num, HN', hD.step _⟩
              case measure => simp [intOf]; omega
            · have he' : eqB (ya, yb) (za, zb) = false := by simpa [eqB] using he
              have e' : sameB l m = false := by
                simp only [sameB, decide_eq_false_iff_not]
                intro e
                exact he (HN.out.1 (by rw [e]))
              go_wp2
              go_quiet (fail)
              go_wp2
              go_ret
              exact ⟨by rw [e']; rfl, hD.step _⟩
          · have hlt' : n ≤ k := by omega
            have e : l = m := eq_take hlen HT.out (by omega)
            have e' : sameB l m = true := by simp [sameB, e]
            go_wp2
            go_ret
            exact ⟨by rw [e']; rfl, hD⟩
  · have hlen' : ¬ ((l.length : Int) = (m.length : Int)) := by omega
    have e' : sameB l m = false := by simp [sameB]; exact fun e => hlen (by rw [e])
    rw [e']
    go_enter Try.func19, Try.ntmps19
    go_wp2
    go_ret
    exact ⟨rfl, Drawn.refl _⟩

/-! ### Slices of numbers -/
def NumsAt (w : World) (b off : Nat) (l : List Int) : Prop := ∀ i x, l[i]? = some x → w.cell? ⟨b, off + i, none⟩ = some (.int .i64 x)
def NS (w : World) (v : Value) (l : List Int) : Prop :=
  ∃ a cap, v = .slice a l.length cap ∧ (l = [] ∨ ∃ b off, a = some ⟨b, off, none⟩ ∧ b < w.heap.size ∧ NumsAt w b off l)
theorem NumsAt.below {w w' : World} {b off B : Nat} {l : List Int} (h : NumsAt w b off l) (hb : Below B w w') (hlt : b < B) : NumsAt w' b off l := fun i x hx =>
  (hb.cell (p := ⟨b, off + i, none⟩) hlt).trans (h i x hx)
theorem NS.below {w w' : World} {v : Value} {l : List Int} (h : NS w v l) (hb : Below w.heap.size w w') : NS w' v l := by
  obtain ⟨a, cap, rfl, h⟩ := h
  refine ⟨a, cap, rfl, ?_⟩
  rcases h with h | ⟨b, off, rfl, hlt, h⟩
  · exact .inl h
  · exact .inr ⟨b, off, rfl, Nat.lt_of_lt_of_le hlt hb.size, h.below hb hlt⟩
abbrev OwnN (w : World) (base : Nat) (v : Value) (l : List Int) : Prop := w.ownsRow base 3 1 v l.length (l.map (Value.int .i64))
theorem NS.own {w : World} {base : Nat} {v : Value} {l : List Int} (h : OwnN w base v l) : NS w v l := by
  rcases h.2 with ⟨rfl, h0⟩ | ⟨g, cap, cur, rfl, _, hb, _, _, _, ht⟩
  · have : l = [] := List.length_eq_zero_iff.1 h0
    subst this
    exact ⟨none, 0, rfl, .inl rfl⟩
  · refine ⟨_, cap, rfl, .inr ⟨g, 0, rfl, (Array.getElem?_eq_some_iff.1 hb).1, ?_⟩⟩
    intro i x hx
    have hi : i < l.length := (List.getElem?_eq_some_iff.1 hx).1
    have h0 : (l.map (Value.int .i64))[i]? = some (.int .i64 x) := by simp [hx]
    rw [← ht, List.getElem?_take_of_lt (by omega)] at h0
    simp only [World.cell?, hb, Nat.zero_add]
    simpa using h0

set_option maxHeartbeats 400000 in
theorem eqnums_any (v u : Value) (l m : List Int) (w : World) (h : NS w v l) (h' : NS w u m) (hl : l.length ≤ 100000) :
    Calls Try.prog 21 #[v, u] w fun e w' => e = .returned (.bool (sameB l m)) ∧ Drawn w w' := by
  obtain ⟨a, cap, rfl, h⟩ := h
  obtain ⟨a', cap', rfl, h'⟩ := h'
  by_cases hlen : l.length = m.length
  · rcases h with rfl | ⟨b, off, rfl, hb, hat⟩
    · obtain rfl : m = [] := List.length_eq_zero_iff.1 hlen.symm
      go_enter Try.func21, Try.ntmps21
      go_wp2
      go_loop [5] (fun i => i = .int .i64 0) (fun _ => 0)
      case atStart => rfl
      case round =>
        subst hrel
        go_wp2
        go_ret
        exact ⟨rfl, Drawn.refl _⟩
    · rcases h' with rfl | ⟨b', off', rfl, hb', hat'⟩
      · obtain rfl : l = [] := List.length_eq_zero_iff.1 hlen
        go_enter Try.func21, Try.ntmps21
        go_wp2
        go_loop [5] (fun i => i = .int .i64 0) (fun _ => 0)
        case atStart => rfl
        case round =>
          subst hrel
          go_wp2
          go_ret
          exact ⟨rfl, Drawn.refl _⟩
      · rw [hlen] at hl
        obtain ⟨n, hn⟩ : ∃ n, m.length = n := ⟨_, rfl⟩
        have hln : l.length = n := hlen.trans hn
        rw [hlen, hn]
        rw [hn] at hl
        go_enter Try.func21, Try.ntmps21
        go_wp2
        go_loopw [5] (fun i wr => ∃ k : Nat, k ≤ n ∧ i = .int .i64 k ∧ Hid (l.take k = m.take k) ∧ Drawn w wr) (fun i _ => n - (intOf i).toNat)
        case atStart => exact ⟨0, by omega, rfl, rfl, Drawn.refl _⟩
        case round =>
          obtain ⟨k, hk, rfl, HT, hD⟩ := hrel
          by_cases hlt : k < n
          · obtain ⟨y, hy⟩ := getSome (l := l) (i := k) (by omega)
            obtain ⟨z, hz⟩ := getSome (l := m) (i := k) (by omega)
            have c0 := hat.below (hD.below w.heap.size) hb k y hy
            have d0 := hat'.below (hD.below w.heap.size) hb' k z hz
            have HN : Hid (l.take (k + 1) = m.take (k + 1) ↔ y = z) := take_next HT.out hy hz
            clear hat hat' hy hz
            have hk0 : (0 : Int) ≤ k := by omega
            have hkl : (k : Int) < n := by omega
            by_cases he : y = z
            · have HN' : Hid (l.take (k + 1) = m.take (k + 1)) := HN.out.2 he
              subst he
              clear HN
              go_wp2
              go_quiet (fail)
              go_wp2
              go_roundw
              case rel => exact ⟨k + 1, by omega, by go_num, HN', hD.step _⟩
              case measure => simp [intOf]; omega
            · have e' : sameB l m = false := by
                simp only [sameB, decide_eq_false_iff_not]
                intro e
                exact he (HN.out.1 (by rw [e]))
              go_wp2
              go_quiet (fail)
              go_wp2
              go_ret
              exact ⟨by rw [e']; rfl, hD.step _⟩
          · have hlt' : n ≤ k := by omega
            have e : l = m := eq_take hlen HT.out (by omega)
            have e' : sameB l m = true := by simp [sameB, e]
            go_wp2
            go_ret
            exact ⟨by rw [e']; rfl, hD⟩
  · have hlen' : ¬ ((l.length : Int) = (m.length : Int)) := by omega
    have e' : sameB l m = false := by simp [sameB]; exact fun e => hlen (by rw [e])
    rw [e']
    go_enter Try.func21, Try.ntmps21
    go_wp2
    go_ret
    exact ⟨rfl, Drawn.refl _⟩
end Go.Proofs.Ytkfhfennelckfaa
