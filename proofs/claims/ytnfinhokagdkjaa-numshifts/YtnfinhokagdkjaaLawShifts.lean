/- The law NumShifts' walk: it answers true, whatever row comes in; it writes nothing that was there. -/
import Derived.Test.YtnfinhokagdkjaaShift
import Derived.Test.YtnfinhokagdkjaaFour
import Derived.Deep.QuietTactic
import Derived.BigQuiet
import Derived.BigRegion
import Derived.WalkSmall
namespace Go.Proofs.Ytnfinhokagdkjaa
open Go.RowKit
set_option linter.unusedVariables false

theorem rmod64 (b : Int) : bits .and .u64 (IntKind.u64.wrap b) 63 = ((b % 64).toNat : Int) := by
  rw [show (63 : Int) = 2 ^ 6 - 1 by decide, and_mask 6 (by decide) b]; omega

theorem rshift_0 (n b : Int) (w : World) : Calls Try.prog 19 #[.int .i64 n, .int .i64 b, .int .i64 0] w fun e w' => e = .returned (.int .i64 (shL n (b % 64).toNat)) ∧ w' = w := by
  have hm := rmod64 b
  have h63 : (b % 64).toNat ≤ 63 := by omega
  generalize (b % 64).toNat = k at *
  go_enter Try.func19, Try.ntmps19
  go_wp2
  go_ret
  exact ⟨rfl, rfl⟩
theorem rshift_1 (n b : Int) (w : World) : Calls Try.prog 19 #[.int .i64 n, .int .i64 b, .int .i64 1] w fun e w' => e = .returned (.int .i64 (shR n (b % 64).toNat)) ∧ w' = w := by
  have hm := rmod64 b
  have h63 : (b % 64).toNat ≤ 63 := by omega
  generalize (b % 64).toNat = k at *
  go_enter Try.func19, Try.ntmps19
  go_wp2
  go_ret
  exact ⟨rfl, rfl⟩
theorem rshift_2 (n b : Int) (w : World) : Calls Try.prog 19 #[.int .i64 n, .int .i64 b, .int .i64 2] w fun e w' => e = .returned (.int .i64 (shP n (b % 64).toNat)) ∧ w' = w := by
  have hm := rmod64 b
  have h63 : (b % 64).toNat ≤ 63 := by omega
  generalize (b % 64).toNat = k at *
  go_enter Try.func19, Try.ntmps19
  go_wp2
  go_ret
  exact ⟨rfl, rfl⟩
theorem shiftv_0 (n b : Int) (w : World) : Calls Try.prog 17 #[.int .i64 n, .int .i64 b, .int .i64 0] w fun e w' => e = .returned (.tuple #[.int .i64 (shL n (b % 64).toNat), .int .i64 0]) ∧ w' = w := shift_0 n b _ (by omega) w
theorem shiftv_1 (n b : Int) (w : World) : Calls Try.prog 17 #[.int .i64 n, .int .i64 b, .int .i64 1] w fun e w' => e = .returned (.tuple #[.int .i64 (shR n (b % 64).toNat), .int .i64 0]) ∧ w' = w := shift_1 n b _ (by omega) w
theorem shiftv_2 (n b : Int) (w : World) : Calls Try.prog 17 #[.int .i64 n, .int .i64 b, .int .i64 2] w fun e w' => e = .returned (.tuple #[.int .i64 (shP n (b % 64).toNat), .int .i64 0]) ∧ w' = w := shift_2 n b _ (by omega) w
theorem shift_bad (n b kd : Int) (h0 : (kd == 0) = false) (h1 : (kd == 1) = false) (h2 : (kd == 2) = false) (w : World) : Calls Try.prog 17 #[.int .i64 n, .int .i64 b, .int .i64 kd] w fun e w' => e = .returned (.tuple #[.int .i64 0, .int .i64 1]) ∧ w' = w := by
  go_enter Try.func17, Try.ntmps17
  go_wp2
  go_ret2
  exact ⟨rfl, rfl⟩

/-- What holds of the world in the rounds: nothing old has turned; the ask's two numbers lie where they lay. -/
structure ShiftsRel (w W : World) (b o : Nat) (n c : Int) : Prop where
  bel : Below w.heap.size w W
  num : W.cell? ⟨b, o, none⟩ = some (.int .i64 n)
  cby : W.cell? ⟨b, o + 1, none⟩ = some (.int .i64 c)
theorem ShiftsRel.step {w W W' : World} {b o : Nat} {n c : Int} (h : ShiftsRel w W b o n c) (hb : b < w.heap.size) (hw : Below W.heap.size W W') : ShiftsRel w W' b o n c :=
  ⟨h.bel.trans (hw.mono h.bel.size), (hw.cell (p := ⟨b, o, none⟩) (Nat.lt_of_lt_of_le hb h.bel.size)).trans h.num, (hw.cell (p := ⟨b, o + 1, none⟩) (Nat.lt_of_lt_of_le hb h.bel.size)).trans h.cby⟩

set_option maxRecDepth 100000 in
set_option maxHeartbeats 1600000 in
theorem lawshifts (a : Option Addr) (len cap : Nat) (w : World) (h : Asks w a len) :
    Calls Try.prog 5 #[.slice a len cap] w fun e w' => e = .returned (.bool true) ∧ Below w.heap.size w w' := by
  obtain ⟨hm, h⟩ := h
  unfold maxLen at hm
  rcases h with h0 | ⟨b, off, rfl, hb, hat⟩
  · have h0' : ((len : Nat) : Int) ≤ 0 := by omega
    go_enter Try.func5, Try.ntmps5
    go_wp2
    go_loop [3] (fun i => i = .int .i64 0) (fun _ => 0)
    case atStart => rfl
    case round =>
      subst hrel
      go_wp2_with (go_at_call 14; refine (wakes_any _).mono ?_; rintro e w' ⟨rfl, hbel⟩)
      go_ret
      exact ⟨rfl, hbel⟩
  · go_enter Try.func5, Try.ntmps5
    go_wp2
    go_loopw [3] (fun i wr => ∃ k : Nat, k ≤ len ∧ k ≤ 15 ∧ i = .int .i64 k ∧ Below w.heap.size w wr) (fun i _ => 15 - (intOf i).toNat)
    case atStart => exact ⟨0, by omega, by omega, rfl, Below.refl _ _⟩
    case round =>
      obtain ⟨k, hk, hk15, rfl, hbel⟩ := hrel
      have hsz := hbel.size
      by_cases hlt : k < len ∧ k < 15
      · obtain ⟨hlt, hlt15⟩ := hlt
        obtain ⟨n, c, bits, x, hA0⟩ := hat k hlt
        have hA := hA0.below hbel hb
        obtain ⟨hc1, hc2⟩ := hA.r1
        have hR : ShiftsRel w wr b (off + k * 4) n c := ⟨hbel, hA.c0, hA.c1⟩
        clear hat hA hA0 hbel hsz
        have hd15 : decide ((k : Int) < 15) = true := by simp; omega
        go_wp2
        go_loopw [4] (fun j W => ∃ m : Int, -1 ≤ m ∧ m ≤ 4 ∧ j = .int .i64 m ∧ ShiftsRel w W b (off + k * 4) n c) (fun j _ => (4 - (intOf j)).toNat)
        case atStart => exact ⟨-1, by omega, by omega, rfl, hR⟩
        case round =>
          clear hR
          obtain ⟨m, hm1, hm4, rfl, hR⟩ := hrel
          by_cases hm' : m ≤ 3
          · have hd3 : decide (m ≤ 3) = true := by simp; omega
            go_wp2
            go_loopw [5] (fun j W => ∃ t : Nat, t ≤ 3 ∧ j = .int .i64 t ∧ ShiftsRel w W b (off + k * 4) n c) (fun j _ => 3 - (intOf j).toNat)
            case atStart => exact ⟨0, by omega, rfl, hR⟩
            case round =>
              clear hR
              obtain ⟨t, ht3, rfl, hR⟩ := hrel
              have c0 := hR.num
              have c1 := hR.cby
              have ca : ∀ o, (wr.alloc o).cell? ⟨b, off + k * 4, none⟩ = some (.int .i64 n) := fun o => (((Below.refl wr.heap.size wr).alloc (Nat.le_refl _) o).cell (p := ⟨b, off + k * 4, none⟩) (Nat.lt_of_lt_of_le hb hR.bel.size)).trans c0
              by_cases ht : t < 3
              · rcases (show t = 0 ∨ t = 1 ∨ t = 2 by omega) with rfl | rfl | rfl
                · go_wp2
                  go_region
                  rcases (show m = 0 ∨ m = 1 ∨ m = 2 ∨ m = -1 ∨ m = 3 by omega) with rfl | rfl | rfl | rfl | rfl
                  · go_wp2_with (first | (go_at_call 17; refine (shiftv_0 _ _ _).mono ?_; rintro e w' ⟨rfl, rfl⟩) | (go_at_call 18; go_in) | (go_at_call 19; refine (rshift_0 _ _ _).mono ?_; rintro e w' ⟨rfl, rfl⟩))
                    go_roundw
                    case rel => first | exact ⟨1, by omega, by go_num, hR.step hb (((Below.refl _ _).alloc (Nat.le_refl _) _).drew)⟩ | ((repeat apply Exists.intro); exact ⟨⟨1, by omega, by go_num, hR.step hb (((Below.refl _ _).alloc (Nat.le_refl _) _).drew)⟩, rfl⟩)
                    case measure => simp [intOf]
                  · go_wp2_with (first | (go_at_call 17; refine (shiftv_1 _ _ _).mono ?_; rintro e w' ⟨rfl, rfl⟩) | (go_at_call 18; go_in) | (go_at_call 19; refine (rshift_1 _ _ _).mono ?_; rintro e w' ⟨rfl, rfl⟩))
                    go_roundw
                    case rel => first | exact ⟨1, by omega, by go_num, hR.step hb (((Below.refl _ _).alloc (Nat.le_refl _) _).drew)⟩ | ((repeat apply Exists.intro); exact ⟨⟨1, by omega, by go_num, hR.step hb (((Below.refl _ _).alloc (Nat.le_refl _) _).drew)⟩, rfl⟩)
                    case measure => simp [intOf]
                  · go_wp2_with (first | (go_at_call 17; refine (shiftv_2 _ _ _).mono ?_; rintro e w' ⟨rfl, rfl⟩) | (go_at_call 18; go_in) | (go_at_call 19; refine (rshift_2 _ _ _).mono ?_; rintro e w' ⟨rfl, rfl⟩))
                    go_roundw
                    case rel => first | exact ⟨1, by omega, by go_num, hR.step hb (((Below.refl _ _).alloc (Nat.le_refl _) _).drew)⟩ | ((repeat apply Exists.intro); exact ⟨⟨1, by omega, by go_num, hR.step hb (((Below.refl _ _).alloc (Nat.le_refl _) _).drew)⟩, rfl⟩)
                    case measure => simp [intOf]
                  · go_wp2_with (first | (go_at_call 17; refine (shift_bad _ _ _ (by decide) (by decide) (by decide) _).mono ?_; rintro e w' ⟨rfl, rfl⟩) | (go_at_call 18; go_in))
                    go_roundw
                    case rel => first | exact ⟨1, by omega, by go_num, hR.step hb (((Below.refl _ _).alloc (Nat.le_refl _) _).drew)⟩ | ((repeat apply Exists.intro); exact ⟨⟨1, by omega, by go_num, hR.step hb (((Below.refl _ _).alloc (Nat.le_refl _) _).drew)⟩, rfl⟩)
                    case measure => simp [intOf]
                  · go_wp2_with (first | (go_at_call 17; refine (shift_bad _ _ _ (by decide) (by decide) (by decide) _).mono ?_; rintro e w' ⟨rfl, rfl⟩) | (go_at_call 18; go_in))
                    go_roundw
                    case rel => first | exact ⟨1, by omega, by go_num, hR.step hb (((Below.refl _ _).alloc (Nat.le_refl _) _).drew)⟩ | ((repeat apply Exists.intro); exact ⟨⟨1, by omega, by go_num, hR.step hb (((Below.refl _ _).alloc (Nat.le_refl _) _).drew)⟩, rfl⟩)
                    case measure => simp [intOf]
                · go_wp2
                  go_region
                  rcases (show m = 0 ∨ m = 1 ∨ m = 2 ∨ m = -1 ∨ m = 3 by omega) with rfl | rfl | rfl | rfl | rfl
                  · go_wp2_with (first | (go_at_call 17; refine (shiftv_0 _ _ _).mono ?_; rintro e w' ⟨rfl, rfl⟩) | (go_at_call 18; go_in) | (go_at_call 19; refine (rshift_0 _ _ _).mono ?_; rintro e w' ⟨rfl, rfl⟩))
                    go_roundw
                    case rel => first | exact ⟨2, by omega, by go_num, hR.step hb (((Below.refl _ _).alloc (Nat.le_refl _) _).drew)⟩ | ((repeat apply Exists.intro); exact ⟨⟨2, by omega, by go_num, hR.step hb (((Below.refl _ _).alloc (Nat.le_refl _) _).drew)⟩, rfl⟩)
                    case measure => simp [intOf]
                  · go_wp2_with (first | (go_at_call 17; refine (shiftv_1 _ _ _).mono ?_; rintro e w' ⟨rfl, rfl⟩) | (go_at_call 18; go_in) | (go_at_call 19; refine (rshift_1 _ _ _).mono ?_; rintro e w' ⟨rfl, rfl⟩))
                    go_roundw
                    case rel => first | exact ⟨2, by omega, by go_num, hR.step hb (((Below.refl _ _).alloc (Nat.le_refl _) _).drew)⟩ | ((repeat apply Exists.intro); exact ⟨⟨2, by omega, by go_num, hR.step hb (((Below.refl _ _).alloc (Nat.le_refl _) _).drew)⟩, rfl⟩)
                    case measure => simp [intOf]
                  · go_wp2_with (first | (go_at_call 17; refine (shiftv_2 _ _ _).mono ?_; rintro e w' ⟨rfl, rfl⟩) | (go_at_call 18; go_in) | (go_at_call 19; refine (rshift_2 _ _ _).mono ?_; rintro e w' ⟨rfl, rfl⟩))
                    go_roundw
                    case rel => first | exact ⟨2, by omega, by go_num, hR.step hb (((Below.refl _ _).alloc (Nat.le_refl _) _).drew)⟩ | ((repeat apply Exists.intro); exact ⟨⟨2, by omega, by go_num, hR.step hb (((Below.refl _ _).alloc (Nat.le_refl _) _).drew)⟩, rfl⟩)
                    case measure => simp [intOf]
                  · go_wp2_with (first | (go_at_call 17; refine (shift_bad _ _ _ (by decide) (by decide) (by decide) _).mono ?_; rintro e w' ⟨rfl, rfl⟩) | (go_at_call 18; go_in))
                    go_roundw
                    case rel => first | exact ⟨2, by omega, by go_num, hR.step hb (((Below.refl _ _).alloc (Nat.le_refl _) _).drew)⟩ | ((repeat apply Exists.intro); exact ⟨⟨2, by omega, by go_num, hR.step hb (((Below.refl _ _).alloc (Nat.le_refl _) _).drew)⟩, rfl⟩)
                    case measure => simp [intOf]
                  · go_wp2_with (first | (go_at_call 17; refine (shift_bad _ _ _ (by decide) (by decide) (by decide) _).mono ?_; rintro e w' ⟨rfl, rfl⟩) | (go_at_call 18; go_in))
                    go_roundw
                    case rel => first | exact ⟨2, by omega, by go_num, hR.step hb (((Below.refl _ _).alloc (Nat.le_refl _) _).drew)⟩ | ((repeat apply Exists.intro); exact ⟨⟨2, by omega, by go_num, hR.step hb (((Below.refl _ _).alloc (Nat.le_refl _) _).drew)⟩, rfl⟩)
                    case measure => simp [intOf]
                · go_wp2
                  go_region
                  rcases (show m = 0 ∨ m = 1 ∨ m = 2 ∨ m = -1 ∨ m = 3 by omega) with rfl | rfl | rfl | rfl | rfl
                  · go_wp2_with (first | (go_at_call 17; refine (shiftv_0 _ _ _).mono ?_; rintro e w' ⟨rfl, rfl⟩) | (go_at_call 18; go_in) | (go_at_call 19; refine (rshift_0 _ _ _).mono ?_; rintro e w' ⟨rfl, rfl⟩))
                    go_roundw
                    case rel => first | exact ⟨3, by omega, by go_num, hR.step hb (((Below.refl _ _).alloc (Nat.le_refl _) _).drew)⟩ | ((repeat apply Exists.intro); exact ⟨⟨3, by omega, by go_num, hR.step hb (((Below.refl _ _).alloc (Nat.le_refl _) _).drew)⟩, rfl⟩)
                    case measure => simp [intOf]
                  · go_wp2_with (first | (go_at_call 17; refine (shiftv_1 _ _ _).mono ?_; rintro e w' ⟨rfl, rfl⟩) | (go_at_call 18; go_in) | (go_at_call 19; refine (rshift_1 _ _ _).mono ?_; rintro e w' ⟨rfl, rfl⟩))
                    go_roundw
                    case rel => first | exact ⟨3, by omega, by go_num, hR.step hb (((Below.refl _ _).alloc (Nat.le_refl _) _).drew)⟩ | ((repeat apply Exists.intro); exact ⟨⟨3, by omega, by go_num, hR.step hb (((Below.refl _ _).alloc (Nat.le_refl _) _).drew)⟩, rfl⟩)
                    case measure => simp [intOf]
                  · go_wp2_with (first | (go_at_call 17; refine (shiftv_2 _ _ _).mono ?_; rintro e w' ⟨rfl, rfl⟩) | (go_at_call 18; go_in) | (go_at_call 19; refine (rshift_2 _ _ _).mono ?_; rintro e w' ⟨rfl, rfl⟩))
                    go_roundw
                    case rel => first | exact ⟨3, by omega, by go_num, hR.step hb (((Below.refl _ _).alloc (Nat.le_refl _) _).drew)⟩ | ((repeat apply Exists.intro); exact ⟨⟨3, by omega, by go_num, hR.step hb (((Below.refl _ _).alloc (Nat.le_refl _) _).drew)⟩, rfl⟩)
                    case measure => simp [intOf]
                  · go_wp2_with (first | (go_at_call 17; refine (shift_bad _ _ _ (by decide) (by decide) (by decide) _).mono ?_; rintro e w' ⟨rfl, rfl⟩) | (go_at_call 18; go_in))
                    go_roundw
                    case rel => first | exact ⟨3, by omega, by go_num, hR.step hb (((Below.refl _ _).alloc (Nat.le_refl _) _).drew)⟩ | ((repeat apply Exists.intro); exact ⟨⟨3, by omega, by go_num, hR.step hb (((Below.refl _ _).alloc (Nat.le_refl _) _).drew)⟩, rfl⟩)
                    case measure => simp [intOf]
                  · go_wp2_with (first | (go_at_call 17; refine (shift_bad _ _ _ (by decide) (by decide) (by decide) _).mono ?_; rintro e w' ⟨rfl, rfl⟩) | (go_at_call 18; go_in))
                    go_roundw
                    case rel => first | exact ⟨3, by omega, by go_num, hR.step hb (((Below.refl _ _).alloc (Nat.le_refl _) _).drew)⟩ | ((repeat apply Exists.intro); exact ⟨⟨3, by omega, by go_num, hR.step hb (((Below.refl _ _).alloc (Nat.le_refl _) _).drew)⟩, rfl⟩)
                    case measure => simp [intOf]
              · go_wp2
                go_roundw
                case rel => exact ⟨m + 1, by omega, by omega, by go_num, hR⟩
                case measure => simp [intOf]; omega
          · go_wp2
            go_roundw
            case rel => exact ⟨k + 1, by omega, by omega, by go_num, hR.bel⟩
            case measure => simp [intOf]; omega
      · by_cases hl : k < len
        · have h15 : (15 : Int) ≤ k := by omega
          clear hlt
          go_wp2_with (go_at_call 14; refine (wakes_any _).mono ?_; rintro e w' ⟨rfl, hw⟩)
          go_ret
          exact ⟨rfl, hbel.trans (hw.mono hsz)⟩
        · clear hlt
          go_wp2_with (go_at_call 14; refine (wakes_any _).mono ?_; rintro e w' ⟨rfl, hw⟩)
          go_ret
          exact ⟨rfl, hbel.trans (hw.mono hsz)⟩
end Go.Proofs.Ytnfinhokagdkjaa
