/- The law NumCuts' walk: it answers true, whatever row comes in; it writes nothing that was there. -/
import Derived.Test.YtnfinhokagdkjaaCut
import Derived.Test.YtnfinhokagdkjaaFour
import Derived.Deep.QuietTactic
import Derived.BigQuiet
import Derived.WalkSmall
namespace Go.Proofs.Ytnfinhokagdkjaa
open Go.RowKit
set_option linter.unusedVariables false

theorem cut_bad (n b : Int) (s : Bool) (h8 : (b == 8) = false) (h16 : (b == 16) = false) (h32 : (b == 32) = false) (w : World) :
    Calls Try.prog 15 #[.int .i64 n, .int .i64 b, .bool s] w fun e w' => e = .returned (.tuple #[.int .i64 0, .int .i64 1]) ∧ w' = w := by
  cases s
  all_goals
    go_enter Try.func15, Try.ntmps15
    go_wp2
    go_ret2
    exact ⟨rfl, rfl⟩

/-- The seven numbers of bits that are asked. -/
def asked (c : Int) : Nat → Int
  | 0 => 8
  | 1 => 16
  | 2 => 32
  | 3 => 0
  | 4 => 64
  | 5 => -8
  | _ => c

/-- What holds of the world in the rounds: nothing old has turned; the seven numbers lie in the new block; the ask's number lies where it lay. -/
structure CutsRel (w W : World) (g b o : Nat) (n c : Int) : Prop where
  bel : Below w.heap.size w W
  num : W.cell? ⟨b, o, none⟩ = some (.int .i64 n)
  row : ∀ j, j < 7 → W.cell? ⟨g, j, none⟩ = some (.int .i64 (asked c j))

theorem CutsRel.start {w W : World} {b o : Nat} {n c : Int} (hb : b < w.heap.size) (hbel : Below w.heap.size w W) (hn : W.cell? ⟨b, o, none⟩ = some (.int .i64 n)) :
    CutsRel w (W.alloc (.cells #[.int .i64 8, .int .i64 16, .int .i64 32, .int .i64 0, .int .i64 64, .int .i64 (-8), .int .i64 c] 3)) W.heap.size b o n c := by
  refine ⟨hbel.alloc hbel.size _, ?_, ?_⟩
  · exact ((Below.alloc (Below.refl W.heap.size W) (Nat.le_refl _) _).cell (p := ⟨b, o, none⟩) (Nat.lt_of_lt_of_le hb hbel.size)).trans hn
  · intro j hj
    match j, hj with
    | 0, _ => simp [asked]
    | 1, _ => simp [asked]
    | 2, _ => simp [asked]
    | 3, _ => simp [asked]
    | 4, _ => simp [asked]
    | 5, _ => simp [asked]
    | 6, _ => simp [asked]
theorem CutsRel.draws {w W : World} {g b o : Nat} {n c : Int} (h : CutsRel w W g b o n c) (q : Nat) : CutsRel w (W.drewN q) g b o n c := ⟨below_drewN h.bel q, h.num, h.row⟩

set_option maxRecDepth 100000 in
set_option maxHeartbeats 1600000 in
theorem lawcuts (a : Option Addr) (len cap : Nat) (w : World) (h : Asks w a len) :
    Calls Try.prog 4 #[.slice a len cap] w fun e w' => e = .returned (.bool true) ∧ Below w.heap.size w w' := by
  obtain ⟨hm, h⟩ := h
  unfold maxLen at hm
  rcases h with h0 | ⟨b, off, rfl, hb, hat⟩
  · have h0' : ((len : Nat) : Int) ≤ 0 := by omega
    go_enter Try.func4, Try.ntmps4
    go_wp2
    go_loop [3] (fun i => i = .int .i64 0) (fun _ => 0)
    case atStart => rfl
    case round =>
      subst hrel
      go_wp2_with (go_at_call 14; refine (wakes_any _).mono ?_; rintro e w' ⟨rfl, hbel⟩)
      go_ret
      exact ⟨rfl, hbel⟩
  · go_enter Try.func4, Try.ntmps4
    go_wp2
    go_loopw [3] (fun i wr => ∃ k : Nat, k ≤ len ∧ k ≤ 15 ∧ i = .int .i64 k ∧ Below w.heap.size w wr) (fun i _ => 15 - (intOf i).toNat)
    case atStart => exact ⟨0, by omega, by omega, rfl, Below.refl _ _⟩
    case round =>
      obtain ⟨k, hk, hk15, rfl, hbel⟩ := hrel
      have hsz := hbel.size
      by_cases hlt : k < len ∧ k < 15
      · obtain ⟨hlt, hlt15⟩ := hlt
        obtain ⟨n, by', c, x, hA0⟩ := hat k hlt
        have hA := hA0.below hbel hb
        have c0 := hA.c0
        have c2 := hA.c2
        clear hat hA hA0
        have hd15 : decide ((k : Int) < 15) = true := by simp; omega
        have hR := CutsRel.start (c := c) hb hbel c0
        go_wp2
        clear c0 c2 hsz hbel
        generalize wr.heap.size = g at hR ⊢
        go_loopw [5] (fun j W => ∃ m : Nat, m ≤ 7 ∧ j = .int .i64 m ∧ CutsRel w W g b (off + k * 4) n c) (fun j _ => 7 - (intOf j).toNat)
        case atStart => exact ⟨0, by omega, rfl, hR⟩
        case round =>
          clear hR
          obtain ⟨m, hm7, rfl, hR⟩ := hrel
          by_cases hm' : m < 7
          · have hd7 : decide ((m : Int) < 7) = true := by simp; omega
            go_wp2
            go_loopw [6] (fun j W => ∃ t : Nat, t ≤ 2 ∧ j = .int .i64 t ∧ CutsRel w W g b (off + k * 4) n c) (fun j _ => 2 - (intOf j).toNat)
            case atStart => exact ⟨0, by omega, rfl, hR⟩
            case round =>
              clear hR
              obtain ⟨t, ht2, rfl, hR⟩ := hrel
              have c0 := hR.num
              have cm := hR.row m hm'
              by_cases ht : t < 2
              · have hbv : asked c m = 8 ∨ asked c m = 16 ∨ asked c m = 32 ∨ (¬ asked c m = 8 ∧ ¬ asked c m = 16 ∧ ¬ asked c m = 32) := by omega
                generalize asked c m = bv at cm hbv
                rcases hbv with rfl | rfl | rfl | ⟨g8, g16, g32⟩
                · rcases (show t = 0 ∨ t = 1 by omega) with rfl | rfl
                  · go_wp2
                    go_quiet ((go_at_call 15; exact Calls.quiet_of_same (cut_8f _ _)))
                    go_wp2_with (go_at_call 16; refine (rcut_8f _ _).mono ?_; rintro e w' ⟨rfl, rfl⟩)
                    go_roundw
                    case rel => first | exact ⟨1, by omega, by go_num, hR.draws _⟩ | ((repeat apply Exists.intro); exact ⟨⟨1, by omega, by go_num, hR.draws _⟩, rfl⟩)
                    case measure => simp [intOf]
                  · go_wp2
                    go_quiet ((go_at_call 15; exact Calls.quiet_of_same (cut_8t _ _)))
                    go_wp2_with (go_at_call 16; refine (rcut_8t _ _).mono ?_; rintro e w' ⟨rfl, rfl⟩)
                    go_roundw
                    case rel => first | exact ⟨2, by omega, by go_num, hR.draws _⟩ | ((repeat apply Exists.intro); exact ⟨⟨2, by omega, by go_num, hR.draws _⟩, rfl⟩)
                    case measure => simp [intOf]
                · rcases (show t = 0 ∨ t = 1 by omega) with rfl | rfl
                  · go_wp2
                    go_quiet ((go_at_call 15; exact Calls.quiet_of_same (cut_16f _ _)))
                    go_wp2_with (go_at_call 16; refine (rcut_16f _ _).mono ?_; rintro e w' ⟨rfl, rfl⟩)
                    go_roundw
                    case rel => first | exact ⟨1, by omega, by go_num, hR.draws _⟩ | ((repeat apply Exists.intro); exact ⟨⟨1, by omega, by go_num, hR.draws _⟩, rfl⟩)
                    case measure => simp [intOf]
                  · go_wp2
                    go_quiet ((go_at_call 15; exact Calls.quiet_of_same (cut_16t _ _)))
                    go_wp2_with (go_at_call 16; refine (rcut_16t _ _).mono ?_; rintro e w' ⟨rfl, rfl⟩)
                    go_roundw
                    case rel => first | exact ⟨2, by omega, by go_num, hR.draws _⟩ | ((repeat apply Exists.intro); exact ⟨⟨2, by omega, by go_num, hR.draws _⟩, rfl⟩)
                    case measure => simp [intOf]
                · rcases (show t = 0 ∨ t = 1 by omega) with rfl | rfl
                  · go_wp2
                    go_quiet ((go_at_call 15; exact Calls.quiet_of_same (cut_32f _ _)))
                    go_wp2_with (go_at_call 16; refine (rcut_32f _ _).mono ?_; rintro e w' ⟨rfl, rfl⟩)
                    go_roundw
                    case rel => first | exact ⟨1, by omega, by go_num, hR.draws _⟩ | ((repeat apply Exists.intro); exact ⟨⟨1, by omega, by go_num, hR.draws _⟩, rfl⟩)
                    case measure => simp [intOf]
                  · go_wp2
                    go_quiet ((go_at_call 15; exact Calls.quiet_of_same (cut_32t _ _)))
                    go_wp2_with (go_at_call 16; refine (rcut_32t _ _).mono ?_; rintro e w' ⟨rfl, rfl⟩)
                    go_roundw
                    case rel => first | exact ⟨2, by omega, by go_num, hR.draws _⟩ | ((repeat apply Exists.intro); exact ⟨⟨2, by omega, by go_num, hR.draws _⟩, rfl⟩)
                    case measure => simp [intOf]
                · have e8 : (bv == 8) = false := by simp; omega
                  have e16 : (bv == 16) = false := by simp; omega
                  have e32 : (bv == 32) = false := by simp; omega
                  clear g8 g16 g32
                  rcases (show t = 0 ∨ t = 1 by omega) with rfl | rfl
                  · go_wp2
                    go_quiet ((go_at_call 15; exact Calls.quiet_of_same (cut_bad _ _ _ e8 e16 e32 _)))
                    go_wp2
                    go_roundw
                    case rel => first | exact ⟨1, by omega, by go_num, hR.draws _⟩ | ((repeat apply Exists.intro); exact ⟨⟨1, by omega, by go_num, hR.draws _⟩, rfl⟩)
                    case measure => simp [intOf]
                  · go_wp2
                    go_quiet ((go_at_call 15; exact Calls.quiet_of_same (cut_bad _ _ _ e8 e16 e32 _)))
                    go_wp2
                    go_roundw
                    case rel => first | exact ⟨2, by omega, by go_num, hR.draws _⟩ | ((repeat apply Exists.intro); exact ⟨⟨2, by omega, by go_num, hR.draws _⟩, rfl⟩)
                    case measure => simp [intOf]
              · go_wp2
                go_roundw
                case rel => exact ⟨m + 1, by omega, by go_num, hR⟩
                case measure => simp [intOf]; omega
          · go_wp2
            go_roundw
            case rel => exact ⟨k + 1, by omega, by omega, by go_num, hR.bel⟩
            case measure => simp [intOf]; omega
      · by_cases hl : k < len
        · have h15 : (15 : Int) ≤ k := by omega
          clear hlt
          go_wp2_with (go_at_call 14; refine (wakes_any _).mono ?_; rintro e w' ⟨rfl, hw⟩)
          go_ret
          exact ⟨rfl, hbel.trans (hw.mono hsz)⟩
        · clear hlt
          go_wp2_with (go_at_call 14; refine (wakes_any _).mono ?_; rintro e w' ⟨rfl, hw⟩)
          go_ret
          exact ⟨rfl, hbel.trans (hw.mono hsz)⟩
end Go.Proofs.Ytnfinhokagdkjaa
