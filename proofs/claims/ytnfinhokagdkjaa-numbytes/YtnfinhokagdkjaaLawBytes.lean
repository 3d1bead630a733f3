/- The law NumBytes' walk: it answers true, whatever row comes in; it writes nothing that was there. -/
import Derived.Test.YtnfinhokagdkjaaFour
import Derived.Test.YtnfinhokagdkjaaRBytes
import Derived.Test.YtnfinhokagdkjaaRTake
import Derived.Deep.RegionHeld3
import Derived.WalkSmall
namespace Go.Proofs.Ytnfinhokagdkjaa
open Go.RowKit
set_option linter.unusedVariables false

set_option maxRecDepth 100000 in
set_option maxHeartbeats 800000 in
theorem lawbytes (a : Option Addr) (len cap : Nat) (w : World) (h : Asks w a len) :
    Calls Try.prog 3 #[.slice a len cap] w fun e w' => e = .returned (.bool true) ∧ Below w.heap.size w w' := by
  obtain ⟨hm, h⟩ := h
  unfold maxLen at hm
  rcases h with h0 | ⟨b, off, rfl, hb, hat⟩
  · have h0' : ((len : Nat) : Int) ≤ 0 := by omega
    go_enter Try.func3, Try.ntmps3
    go_wp2
    go_loop [3] (fun i => i = .int .i64 0) (fun _ => 0)
    case atStart => rfl
    case round =>
      subst hrel
      go_wp2_with (go_at_call 14; refine (wakes_any _).mono ?_; rintro e w' ⟨rfl, hbel⟩)
      go_ret
      exact ⟨rfl, hbel⟩
  · go_enter Try.func3, Try.ntmps3
    go_wp2
    go_loopw [3] (fun i wr => ∃ k : Nat, k ≤ len ∧ k ≤ 15 ∧ i = .int .i64 k ∧ Below w.heap.size w wr) (fun i _ => 15 - (intOf i).toNat)
    case atStart => exact ⟨0, by omega, by omega, rfl, Below.refl _ _⟩
    case round =>
      obtain ⟨k, hk, hk15, rfl, hbel⟩ := hrel
      have hsz := hbel.size
      by_cases hlt : k < len ∧ k < 15
      · obtain ⟨hlt, hlt15⟩ := hlt
        obtain ⟨n, by', bits, x, hA0⟩ := hat k hlt
        have hA := hA0.below hbel hb
        have c0 := hA.c0
        have c1 := hA.c1
        have c2 := hA.c2
        have c3 := hA.c3
        have hx := hA.r3
        obtain ⟨hn1, hn2⟩ := hA.r0
        clear hat
        go_wp2_with fail
        refine (heavy_any n by' bits x _).mono ?_
        rintro e w1 ⟨rfl, hb1⟩
        have hA1 := hA.below hb1 (by omega)
        have hbel1 := hbel.trans (hb1.mono hsz)
        have hsz1 := hbel1.size
        clear c0 c1 c2 c3 hA hA0
        have c0 := hA1.c0
        have c3 := hA1.c3
        clear hbel hsz hb1 hA1
        by_cases hh : 3000 < x.size
        · have hh' : decide (3000 < (x.size : Int)) = true := by simp; omega
          go_wp2
          go_ret
          exact ⟨rfl, hbel1⟩
        · have hh' : decide (3000 < (x.size : Int)) = false := by simp; omega
          go_wp2_with (first | (go_at_call 10; refine (num1_any x _ hx).mono ?_; rintro e w' ⟨rfl, rfl⟩) | (go_at_call 11; refine (rtake_any x _ hx).mono ?_; rintro e w' ⟨rfl, rfl⟩))
          go_region_held3 (fun W => W.cell? ⟨b, off + k * 4, none⟩ = some (.int .i64 n) ∧ Below w.heap.size w W) (first | exact keepS (by assumption) (by assumption) hb | exact ⟨by simp [c0], hbel1.drew⟩)
              (first
                | (go_at_call 12; refine (bytes_any n _ hn1 hn2).mono ?_; rintro e w' ⟨rfl, hb2⟩)
                | (go_at_call 13; refine (rbytes_any n _ hn1 hn2).mono ?_; rintro e w' ⟨rfl, hb2⟩))
          obtain ⟨_, hbelW⟩ := ‹_ ∧ Below w.heap.size w _›
          go_wp2
          go_roundw
          case rel => exact ⟨k + 1, by omega, by omega, by go_num, hbelW⟩
          case measure => simp [intOf]; omega
      · by_cases hl : k < len
        · have h15 : (15 : Int) ≤ k := by omega
          clear hlt
          go_wp2_with (go_at_call 14; refine (wakes_any _).mono ?_; rintro e w' ⟨rfl, hw⟩)
          go_ret
          exact ⟨rfl, hbel.trans (hw.mono hsz)⟩
        · clear hlt
          go_wp2_with (go_at_call 14; refine (wakes_any _).mono ?_; rintro e w' ⟨rfl, hw⟩)
          go_ret
          exact ⟨rfl, hbel.trans (hw.mono hsz)⟩
end Go.Proofs.Ytnfinhokagdkjaa
