/- The law's own 'shift' answers true, to the right, without the sign, whatever row comes in; it writes nothing that was there. -/
import Derived.Test.YtnfinhokagdkjacShift
import Derived.Test.YtnfinhokagdkjacAsks
namespace Go.Proofs.Ytnfinhokagdkjac
open Go.RowKit
set_option linter.unusedVariables false

set_option maxRecDepth 100000 in
set_option maxHeartbeats 800000 in
theorem lawshift_2 (a : Option Addr) (len cap : Nat) (w : World) (h : Asks w a len) :
    Calls Try.prog 5 #[.slice a len cap, .int .i64 2] w fun e w' => e = .returned (.bool true) ∧ Below w.heap.size w w' := by
  obtain ⟨hm, h⟩ := h
  unfold maxLen at hm
  rcases h with h0 | ⟨b, off, rfl, hb, hat⟩
  · have h0' : ((len : Nat) : Int) ≤ 0 := by omega
    go_enter Try.func5, Try.ntmps5
    go_wp2
    go_loop [5] (fun i => i = .int .i64 0) (fun _ => 0)
    case atStart => rfl
    case round =>
      subst hrel
      go_wp2_with (go_at_call 7; refine (wakes_any _).mono ?_; rintro e w' ⟨rfl, hbel⟩)
      go_ret
      exact ⟨rfl, hbel⟩
  · go_enter Try.func5, Try.ntmps5
    go_wp2
    go_loop [5] (fun i => ∃ k : Nat, k ≤ len ∧ k ≤ 15 ∧ i = .int .i64 k) (fun i => 15 - (intOf i).toNat)
    case atStart => exact ⟨0, by omega, by omega, rfl⟩
    case round =>
      obtain ⟨k, hk, hk15, rfl⟩ := hrel
      by_cases hlt : k < len ∧ k < 15
      · obtain ⟨hlt, hlt15⟩ := hlt
        obtain ⟨n, by', bits, x, hA⟩ := hat k hlt
        have c0 := hA.c0
        obtain ⟨hn1, hn2⟩ := hA.r0
        clear hat hA
        go_wp2
        go_loop [7] (fun j => ∃ m : Nat, m ≤ 64 ∧ j = .int .i64 m) (fun j => 64 - (intOf j).toNat)
        case atStart => exact ⟨0, by omega, rfl⟩
        case round =>
          obtain ⟨m, hm64, rfl⟩ := hrel
          rcases (show m < 63 ∨ m = 63 ∨ m = 64 by omega) with hm63 | hm63 | hm63
          · have e1 := shP_next n m
            have e2 := shP_twice n m
            go_wp2_with fail
            refine (shift_2 _ _ m (by omega) _).mono ?_
            rintro e w' ⟨rfl, rfl⟩
            go_wp2_with fail
            refine (shift_2 _ _ m (by omega) _).mono ?_
            rintro e w' ⟨rfl, rfl⟩
            go_wp2_with fail
            refine (shift_2 _ _ 1 (by omega) _).mono ?_
            rintro e w' ⟨rfl, rfl⟩
            go_wp2_with fail
            refine (shift_2 _ _ (m + 1) (by omega) _).mono ?_
            rintro e w' ⟨rfl, rfl⟩
            go_wp2
            go_round
            case rel => exact ⟨m + 1, by omega, by go_num⟩
            case measure => simp [intOf]; omega
          · subst hm63
            have e0 := shP_zero n hn1 hn2
            have e2 : IntKind.u64.wrap ((IntKind.u64.wrap (shP n 63)).tdiv 2) = IntKind.u64.wrap (shP n 64) := shP_twice n 63
            have e1 : shP (shP n 63) 1 = shP n 64 := shP_next n 63
            go_wp2_with fail
            refine (shift_2 _ _ 63 (by omega) _).mono ?_
            rintro e w' ⟨rfl, rfl⟩
            go_wp2_with fail
            refine (shift_2 _ _ 63 (by omega) _).mono ?_
            rintro e w' ⟨rfl, rfl⟩
            go_wp2_with fail
            refine (shift_2 _ _ 1 (by omega) _).mono ?_
            rintro e w' ⟨rfl, rfl⟩
            go_wp2_with fail
            refine (shift_2 _ _ 0 (by omega) _).mono ?_
            rintro e w' ⟨rfl, rfl⟩
            go_wp2
            go_round
            case rel => exact ⟨64, by omega, by go_num⟩
            case measure => simp [intOf]
          · subst hm63
            go_wp2
            go_round
            case rel => exact ⟨k + 1, by omega, by omega, by go_num⟩
            case measure => simp [intOf]; omega
      · by_cases hl : k < len
        · have h15 : (15 : Int) ≤ k := by omega
          clear hlt
          go_wp2_with (go_at_call 7; refine (wakes_any _).mono ?_; rintro e w' ⟨rfl, hbel⟩)
          go_ret
          exact ⟨rfl, hbel⟩
        · clear hlt
          go_wp2_with (go_at_call 7; refine (wakes_any _).mono ?_; rintro e w' ⟨rfl, hbel⟩)
          go_ret
          exact ⟨rfl, hbel⟩
end Go.Proofs.Ytnfinhokagdkjac
