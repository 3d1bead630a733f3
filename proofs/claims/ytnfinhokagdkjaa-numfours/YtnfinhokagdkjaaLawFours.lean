/- The law NumFours' walk: it answers true, whatever row comes in; it writes nothing that was there. -/
import Derived.Test.YtnfinhokagdkjaaFour
import Derived.Deep.RegionHeld3
import Derived.WalkSmall
namespace Go.Proofs.Ytnfinhokagdkjaa
open Go.RowKit
set_option linter.unusedVariables false

set_option maxRecDepth 100000 in
set_option maxHeartbeats 800000 in
theorem lawfours (a : Option Addr) (len cap : Nat) (w : World) (h : Asks w a len) :
    Calls Try.prog 6 #[.slice a len cap] w fun e w' => e = .returned (.bool true) ∧ Below w.heap.size w w' := by
  obtain ⟨hm, h⟩ := h
  unfold maxLen at hm
  rcases h with h0 | ⟨b, off, rfl, hb, hat⟩
  · have h0' : ((len : Nat) : Int) ≤ 0 := by omega
    go_enter Try.func6, Try.ntmps6
    go_wp2
    go_loop [3] (fun i => i = .int .i64 0) (fun _ => 0)
    case atStart => rfl
    case round =>
      subst hrel
      go_wp2_with (go_at_call 14; refine (wakes_any _).mono ?_; rintro e w' ⟨rfl, hbel⟩)
      go_ret
      exact ⟨rfl, hbel⟩
  · go_enter Try.func6, Try.ntmps6
    go_wp2
    go_loopw [3] (fun i wr => ∃ k : Nat, k ≤ len ∧ k ≤ 15 ∧ i = .int .i64 k ∧ Below w.heap.size w wr) (fun i _ => 15 - (intOf i).toNat)
    case atStart => exact ⟨0, by omega, by omega, rfl, Below.refl _ _⟩
    case round =>
      obtain ⟨k, hk, hk15, rfl, hbel⟩ := hrel
      have hsz := hbel.size
      by_cases hlt : k < len ∧ k < 15
      · obtain ⟨hlt, hlt15⟩ := hlt
        obtain ⟨n, by', bits, x, hA0⟩ := hat k hlt
        have hA := hA0.below hbel hb
        have c0 := hA.c0
        have c1 := hA.c1
        have c2 := hA.c2
        have c3 := hA.c3
        have hx := hA.r3
        obtain ⟨hn1, hn2⟩ := hA.r0
        clear hat
        go_wp2_with fail
        refine (heavy_any n by' bits x _).mono ?_
        rintro e w1 ⟨rfl, hb1⟩
        have hA1 := hA.below hb1 (by omega)
        have hbel1 := hbel.trans (hb1.mono hsz)
        have hsz1 := hbel1.size
        clear c0 c1 c2 c3 hA hA0
        have c0 := hA1.c0
        have c3 := hA1.c3
        clear hbel hsz hb1 hA1
        by_cases hh : 3000 < x.size
        · have hh' : decide (3000 < (x.size : Int)) = true := by simp; omega
          go_wp2
          go_ret
          exact ⟨rfl, hbel1⟩
        · have hh' : decide (3000 < (x.size : Int)) = false := by simp; omega
          by_cases h4 : x.size < 4
          · go_wp2_with (first | (go_at_call 20; refine (takeFour_cut x _ h4).mono ?_; rintro e w' ⟨rfl, rfl⟩) | (go_at_call 21; refine (rtakeFour_cut x _ h4).mono ?_; rintro e w' ⟨rfl, rfl⟩))
            have hsum : ((four (n % 4294967296)) ++ x).size ≤ maxLen := by rw [ByteArray.size_append, four_size]; unfold maxLen; omega
            have hfour : 4 ≤ ((four (n % 4294967296)) ++ x).size := by rw [ByteArray.size_append, four_size]; omega
            have hadd : ∀ W, (Op.stringOp .add (four (n % 4294967296)) x).run Try.prog W = .ok (.string ((four (n % 4294967296)) ++ x)) W := fun W => run_string_add_sum W _ _ (by rw [four_size]; omega)
            have hback := four_back (n % 4294967296) (by omega) (by omega) x
            go_region_held3 (fun W => W.cell? ⟨b, off + k * 4 + 3, none⟩ = some (.string x) ∧ Below w.heap.size w W) (first | exact keepS (by assumption) (by assumption) hb | exact ⟨by simp [c3], hbel1.drew⟩)
              (first
                | (go_at_call 22; refine (four_any _ _ (by omega) (by omega)).mono ?_; rintro e w' ⟨rfl, hb2⟩)
                | (go_at_call 20; refine (takeFour_in _ _ hsum hfour).mono ?_; rintro e w' ⟨rfl, hb2⟩))
            obtain ⟨_, hbelW⟩ := ‹_ ∧ Below w.heap.size w _›
            go_wp2_with (first | (go_at_call 22; refine (four_any _ _ (by omega) (by omega)).mono ?_; rintro e w4 ⟨rfl, hb4⟩) | (go_at_call 23; refine (rfour_any _ _ (by omega) (by omega)).mono ?_; rintro e w5 ⟨rfl, hb5⟩))
            go_roundw
            case rel => exact ⟨k + 1, by omega, by omega, by go_num, (hbelW.trans (hb4.mono hbelW.size)).trans (hb5.mono (hbelW.trans (hb4.mono hbelW.size)).size)⟩
            case measure => simp [intOf]; omega
          · have h4' : 4 ≤ x.size := by omega
            go_wp2_with (first | (go_at_call 20; refine (takeFour_ok x _ hx h4').mono ?_; rintro e w' ⟨rfl, q, rfl⟩) | (go_at_call 21; refine (rtakeFour_ok x _ hx h4').mono ?_; rintro e w' ⟨rfl, q2, rfl⟩))
            have hsum : ((four (n % 4294967296)) ++ x).size ≤ maxLen := by rw [ByteArray.size_append, four_size]; unfold maxLen; omega
            have hfour : 4 ≤ ((four (n % 4294967296)) ++ x).size := by rw [ByteArray.size_append, four_size]; omega
            have hadd : ∀ W, (Op.stringOp .add (four (n % 4294967296)) x).run Try.prog W = .ok (.string ((four (n % 4294967296)) ++ x)) W := fun W => run_string_add_sum W _ _ (by rw [four_size]; omega)
            have hback := four_back (n % 4294967296) (by omega) (by omega) x
            go_region_held3 (fun W => W.cell? ⟨b, off + k * 4 + 3, none⟩ = some (.string x) ∧ Below w.heap.size w W) (first | exact keepS (by assumption) (by assumption) hb | exact ⟨by simp [c3], (below_drewN hbel1 _).drew⟩)
              (first
                | (go_at_call 22; refine (four_any _ _ (by omega) (by omega)).mono ?_; rintro e w' ⟨rfl, hb2⟩)
                | (go_at_call 20; refine (takeFour_in _ _ hsum hfour).mono ?_; rintro e w' ⟨rfl, hb2⟩))
            obtain ⟨_, hbelW⟩ := ‹_ ∧ Below w.heap.size w _›
            go_wp2_with (first | (go_at_call 22; refine (four_any _ _ (by omega) (by omega)).mono ?_; rintro e w4 ⟨rfl, hb4⟩) | (go_at_call 23; refine (rfour_any _ _ (by omega) (by omega)).mono ?_; rintro e w5 ⟨rfl, hb5⟩))
            go_roundw
            case rel => exact ⟨k + 1, by omega, by omega, by go_num, (hbelW.trans (hb4.mono hbelW.size)).trans (hb5.mono (hbelW.trans (hb4.mono hbelW.size)).size)⟩
            case measure => simp [intOf]; omega
      · by_cases hl : k < len
        · have h15 : (15 : Int) ≤ k := by omega
          clear hlt
          go_wp2_with (go_at_call 14; refine (wakes_any _).mono ?_; rintro e w' ⟨rfl, hw⟩)
          go_ret
          exact ⟨rfl, hbel.trans (hw.mono hsz)⟩
        · clear hlt
          go_wp2_with (go_at_call 14; refine (wakes_any _).mono ?_; rintro e w' ⟨rfl, hw⟩)
          go_ret
          exact ⟨rfl, hbel.trans (hw.mono hsz)⟩
end Go.Proofs.Ytnfinhokagdkjaa
