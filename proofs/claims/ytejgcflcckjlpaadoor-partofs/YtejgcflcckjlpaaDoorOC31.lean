/- The same cell, and a copy of a cell. -/
import Derived.Test.YtejgcflcckjlpaaDoorOC21
namespace Go.Proofs.YtejgcflcckjlpaaDoor
open Go.RowKit
set_option linter.unusedVariables false
set_option maxRecDepth 100000

set_option maxHeartbeats 400000 in
theorem eqlongs_any (v u : Value) (l : List Int) (w : World) (h : NS w v l) (h' : NS w u l) (hl : l.length ≤ 100000) :
    Calls Tryd.prog 52 #[v, u] w fun e w' => e = .returned (.bool true) ∧ Drawn w w' := by
  obtain ⟨a, cap, rfl, h⟩ := h
  obtain ⟨a', cap', rfl, h'⟩ := h'
  by_cases h0 : l = []
  · subst h0
    go_enter Tryd.func52, Tryd.ntmps52
    go_wp2
    go_loop [5] (fun i => i = .int .i64 0) (fun _ => 0)
    case atStart => rfl
    case round =>
      subst hrel
      go_wp2
      go_ret
      exact ⟨rfl, Drawn.refl _⟩
  · obtain ⟨b, off, rfl, hb, hat⟩ := h.resolve_left h0
    obtain ⟨b', off', rfl, hb', hat'⟩ := h'.resolve_left h0
    clear h h' h0
    obtain ⟨n, hn⟩ : ∃ n, l.length = n := ⟨_, rfl⟩
    rw [hn]
    rw [hn] at hl
    go_enter Tryd.func52, Tryd.ntmps52
    go_wp2
    go_loopw [5] (fun i wr => ∃ k : Nat, k ≤ n ∧ i = .int .i64 k ∧ Drawn w wr) (fun i _ => n - (intOf i).toNat)
    case atStart => exact ⟨0, by omega, rfl, Drawn.refl _⟩
    case round =>
      obtain ⟨k, hk, rfl, hD⟩ := hrel
      by_cases hlt : k < n
      · obtain ⟨y, hy⟩ := getSome (l := l) (i := k) (by omega)
        have c0 := hat.below (hD.below w.heap.size) hb k y hy
        have d0 := hat'.below (hD.below w.heap.size) hb' k y hy
        clear hat hat' hy
        have hk0 : (0 : Int) ≤ k := by omega
        have hkl : (k : Int) < n := by omega
        go_wp2
        go_quiet (fail)
        go_wp2
        go_roundw
        case rel => exact ⟨k + 1, by omega, by go_num, hD.step _⟩
        case measure => simp [intOf]; omega
      · have hlt' : n ≤ k := by omega
        go_wp2
        go_ret
        exact ⟨rfl, hD⟩
theorem eqcell_any (v u : Value) (c : Cl) (w : World) (h : CS w v c) (h' : CS w u c) (hl : c.2.length ≤ 100000) :
    Calls Tryd.prog 44 #[v, u] w (BoolR w true) := by
  obtain ⟨a, cap, rfl, hn⟩ := h
  obtain ⟨a', cap', rfl, hn'⟩ := h'
  have hb : Below w.heap.size w ((w.alloc (.cells #[.int .i64 c.1, .slice a c.2.length cap] 55)).alloc (.cells #[.int .i64 c.1, .slice a' c.2.length cap'] 55)) := ((Below.refl _ _).alloc (Nat.le_refl _) _).alloc (by simp) _
  have H := hidM (eqlongs_any _ _ c.2 _ (hn.below hb) (hn'.below hb) hl)
  have HB := hidM hb
  clear hb hn hn'
  go_enter Tryd.func44, Tryd.ntmps44
  go_wp2_with (go_at_call 52; refine H.out.mono ?_; rintro e w' ⟨rfl, hd⟩)
  go_ret
  exact ⟨rfl, nxt HB.out (hd.below _)⟩
/-- What holds all along the copying. -/
structure CpR (W0 : World) (l : List Int) (k : Nat) (v : Value) (W : World) : Prop where
  own : OwnL W W0.heap.size v (l.take k)
  bel : Below W0.heap.size W0 W
set_option maxHeartbeats 400000 in
theorem copylongs_any (v : Value) (l : List Int) (w : World) (h : NS w v l) (hl : l.length ≤ 100000) :
    Calls Tryd.prog 43 #[v] w fun e w' => (∃ v', e = .returned v' ∧ OwnL w' w.heap.size v' l) ∧ Below w.heap.size w w' := by
  obtain ⟨a, cap, rfl, h⟩ := h
  have HA := hidM (show ∀ i x, l[i]? = some x → ∃ p o, a = some ⟨p, o, none⟩ ∧ ∀ W', Below w.heap.size w W' → W'.cell? ⟨p, o + i, none⟩ = some (.int .i64 x) from fun i x hx => by
    rcases h with e | ⟨p, o, rfl, hp, hat⟩
    · rw [e] at hx; simp at hx
    · exact ⟨p, o, rfl, fun W' hW' => hat.below hW' hp i x hx⟩)
  clear h
  obtain ⟨n, hn⟩ : ∃ n, l.length = n := ⟨_, rfl⟩
  rw [hn] at hl ⊢
  have HN := hidM hn
  clear hn
  have H0 := hidM (show CpR w l 0 (.slice none 0 0) w from ⟨by rw [List.take_zero]; exact OwnL.nil _ _, Below.refl _ _⟩)
  go_enter Tryd.func43, Tryd.ntmps43
  go_wp2
  go_loopw [3, 4] (fun x i wr => ∃ k : Nat, k ≤ n ∧ i = .int .i64 k ∧ Hid (CpR w l k x wr)) (fun _ i _ => n - (intOf i).toNat)
  case atStart => exact ⟨0, by omega, rfl, H0⟩
  case round =>
    obtain ⟨k, hk, rfl, HK⟩ := hrel
    by_cases hlt : k < n
    · obtain ⟨y, hy⟩ := getSome (l := l) (i := k) (by have := HN.out; omega)
      obtain ⟨p, o, rfl, hc⟩ := HA.out k y hy
      have c0 := hc _ HK.out.bel
      have HY := hidM hy
      clear hy hc
      have hk0 : (0 : Int) ≤ k := by omega
      have hkl : (k : Int) < n := by omega
      go_wp2_with (at_builtin; refine wpApp rfl _ _ rfl rfl rfl HK.out.own (by rw [List.length_take]; omega) HK.out.bel.size ?_; intro v' W' ho' hb')
      go_roundw
      case rel => exact ⟨k + 1, by omega, by go_num, by rw [take_snoc HY.out]; exact ho', hb' _ HK.out.bel⟩
      case measure => simp [intOf]; omega
    · obtain rfl : k = n := by omega
      have ho := HK.out.own
      rw [List.take_of_length_le (Nat.le_of_eq HN.out)] at ho
      have HO := hidM ho
      clear ho
      go_wp2
      go_ret
      exact ⟨⟨_, rfl, HO.out⟩, HK.out.bel⟩
theorem BlkC.other {W : World} {b b' o : Nat} {n : Int} {v u : Value} (h : BlkC W b n v) (hne : b ≠ b') : BlkC (W.setCell ⟨b', o, none⟩ u) b n v := by
  unfold BlkC
  rw [Below.heap_setCell _ _ _ _ hne]
  exact h
set_option maxHeartbeats 400000 in
theorem copycell_any (v : Value) (c : Cl) (w : World) (h : CS w v c) (hl : c.2.length ≤ 100000) : Calls Tryd.prog 32 #[v] w (CellA w c) := by
  obtain ⟨a, cap, rfl, hn⟩ := h
  obtain ⟨n, l⟩ := c
  simp only at *
  obtain ⟨W1, hW⟩ : ∃ W1 : World, ((w.alloc (.cells #[.int .i64 n, .slice a l.length cap] 55)).alloc (.cells #[.int .i64 0, .slice none 0 0] 55)).alloc (.cells #[.int .i64 n, .slice a l.length cap] 55) = W1 := ⟨_, rfl⟩
  have st : ∀ (W : World) (o : Obj), Below W.heap.size W (W.alloc o) := fun W o => (Below.refl _ _).alloc (Nat.le_refl _) _
  have hb1 : Below w.heap.size w W1 := by rw [← hW]; exact nxt (nxt (st _ _) (st _ _)) (st _ _)
  have hsz : W1.heap.size = w.heap.size + 3 := by rw [← hW]; simp
  have n1 : BlkC W1 (w.heap.size + 1) 0 (.slice none 0 0) := by
    have := (BlkC.new (w.alloc (.cells #[.int .i64 n, .slice a l.length cap] 55)) 0 (.slice none 0 0)).below (st _ (.cells #[.int .i64 n, .slice a l.length cap] 55))
    rw [hW] at this
    simpa using this
  have n2 : BlkC W1 (w.heap.size + 1 + 1) n (.slice a l.length cap) := by
    have := BlkC.new ((w.alloc (.cells #[.int .i64 n, .slice a l.length cap] 55)).alloc (.cells #[.int .i64 0, .slice none 0 0] 55)) n (.slice a l.length cap)
    rw [hW] at this
    simpa using this
  have H := hidM (copylongs_any _ l W1 (hn.below hb1) hl)
  have HW := hidM hW
  have HB := hidM hb1
  have HZ := hidM hsz
  have HN1 := hidM n1
  have HN2 := hidM n2
  clear hW hb1 hsz n1 n2 hn st
  go_enter Tryd.func32, Tryd.ntmps32
  go_wp2_with (go_at_call 43; rw [HW.out]; refine H.out.mono ?_; rintro e W2 ⟨⟨v2, rfl, ho2⟩, hb2⟩; obtain ⟨a2, c2, rfl⟩ := ho2.shape; have k1 := HN1.out.below hb2; have k2 := HN2.out.below hb2; obtain ⟨c0, c1, f0, f1⟩ := k2.cells; obtain ⟨d0, d1, g0, g1⟩ := (k2.set1 (.slice a2 l.length c2)).cells; have k3 := k1.other (o := 1) (b' := w.heap.size + 1 + 1) (u := .slice a2 l.length c2) (by omega); obtain ⟨e0, e1, h0, h1⟩ := k3.cells; obtain ⟨-, i1, -, j1⟩ := (k3.set0 n).cells)
  exact bodyPost_ret (results_cell1 rfl rfl k3.set.load) rfl ⟨⟨_, rfl, _, _, rfl, (own_set (b := w.heap.size + 1) (own_set1 (b := w.heap.size + 1 + 1) (o := 1) ho2 (by have := HZ.out; omega) _) (by have := HZ.out; omega) _ _).lower (base' := w.heap.size) (by have := HZ.out; omega)⟩, below_set (b := w.heap.size + 1) (below_set1 (b := w.heap.size + 1 + 1) (nxt HB.out hb2) (by omega) _) (by omega) _ _⟩
end Go.Proofs.YtejgcflcckjlpaaDoor
