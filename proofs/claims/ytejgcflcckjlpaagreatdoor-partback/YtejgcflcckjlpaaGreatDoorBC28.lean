/- The same cell, and a copy of a cell. -/
import Derived.Test.YtejgcflcckjlpaaGreatDoorBC18M
namespace Go.Proofs.YtejgcflcckjlpaaGreatDoor
open Go.RowKit
set_option linter.unusedVariables false
set_option maxRecDepth 100000

set_option maxHeartbeats 400000 in
theorem eqlongs_any (v u : Value) (l : List Int) (w : World) (h : NS w v l) (h' : NS w u l) (hl : l.length ≤ 100000) :
    Calls Tryz.prog 61 #[v, u] w fun e w' => e = .returned (.bool true) ∧ Drawn w w' := by
  obtain ⟨a, cap, rfl, h⟩ := h
  obtain ⟨a', cap', rfl, h'⟩ := h'
  by_cases h0 : l = []
  · subst h0
    go_enter Tryz.func61, Tryz.ntmps61
    go_wp2
    go_loop [5] (fun i => i = .int .i64 0) (fun _ => 0)
    case atStart => rfl
    case round =>
      subst hrel
      go_wp2
      go_ret
      exact ⟨rfl, Drawn.refl _⟩
  · obtain ⟨b, off, rfl, hb, hat⟩ := h.resolve_left h0
    obtain ⟨b', off', rfl, hb', hat'⟩ := h'.resolve_left h0
    clear h h' h0
    obtain ⟨n, hn⟩ : ∃ n, l.length = n := ⟨_, rfl⟩
    rw [hn]
    rw [hn] at hl
    go_enter Tryz.func61, Tryz.ntmps61
    go_wp2
    go_loopw [5] (fun i wr => ∃ k : Nat, k ≤ n ∧ i = .int .i64 k ∧ Drawn w wr) (fun i _ => n - (intOf i).toNat)
    case atStart => exact ⟨0, by omega, rfl, Drawn.refl _⟩
    case round =>
      obtain ⟨k, hk, rfl, hD⟩ := hrel
      by_cases hlt : k < n
      · obtain ⟨y, hy⟩ := getSome (l := l) (i := k) (by omega)
        have c0 := hat.below (hD.below w.heap.size) hb k y hy
        have d0 := hat'.below (hD.below w.heap.size) hb' k y hy
        clear hat hat' hy
        have hk0 : (0 : Int) ≤ k := by omega
        have hkl : (k : Int) < n := by omega
        go_wp2
        go_quiet (fail)
        go_wp2
        go_roundw
        case rel => exact ⟨k + 1, by omega, by go_num, hD.step _⟩
        case measure => simp [intOf]; omega
      · have hlt' : n ≤ k := by omega
        go_wp2
        go_ret
        exact ⟨rfl, hD⟩
theorem eqcell_any (v u : Value) (c : Cl) (w : World) (h : CS w v c) (h' : CS w u c) (hl : c.2.length ≤ 100000) :
    Calls Tryz.prog 49 #[v, u] w (BoolR w true) := by
  obtain ⟨a, cap, rfl, hn⟩ := h
  obtain ⟨a', cap', rfl, hn'⟩ := h'
  have hb : Below w.heap.size w ((w.alloc (.cells #[.int .i64 c.1, .slice a c.2.length cap] 45)).alloc (.cells #[.int .i64 c.1, .slice a' c.2.length cap'] 45)) := ((Below.refl _ _).alloc (Nat.le_refl _) _).alloc (by simp) _
  have H := hidM (eqlongs_any _ _ c.2 _ (hn.below hb) (hn'.below hb) hl)
  have HB := hidM hb
  clear hb hn hn'
  go_enter Tryz.func49, Tryz.ntmps49
  go_wp2_with (go_at_call 61; refine H.out.mono ?_; rintro e w' ⟨rfl, hd⟩)
  go_ret
  exact ⟨rfl, nxt HB.out (hd.below _)⟩
/-- What holds all along the copying. -/
structure CpR (W0 : World) (l : List Int) (k : Nat) (v : Value) (W : World) : Prop where
  own : OwnL W W0.heap.size v (l.take k)
  bel : Below W0.heap.size W0 W
theorem BlkC.other {W : World} {b b' o : Nat} {n : Int} {v u : Value} (h : BlkC W b n v) (hne : b ≠ b') : BlkC (W.setCell ⟨b', o, none⟩ u) b n v := by
  unfold BlkC
  rw [Below.heap_setCell _ _ _ _ hne]
  exact h
end Go.Proofs.YtejgcflcckjlpaaGreatDoor
