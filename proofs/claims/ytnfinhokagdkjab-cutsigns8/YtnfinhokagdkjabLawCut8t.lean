/- The law's own 'cut' answers true, at 8 bits, with a sign, whatever row comes in; it writes nothing that was there. -/
import Derived.Test.YtnfinhokagdkjabCut
import Derived.Test.YtnfinhokagdkjabAsks
namespace Go.Proofs.Ytnfinhokagdkjab
open Go.RowKit
set_option linter.unusedVariables false

set_option maxRecDepth 100000 in
theorem lawcut_8t (a : Option Addr) (len cap : Nat) (w : World) (h : Asks w a len) :
    Calls Try.prog 9 #[.slice a len cap, .int .i64 8, .bool true] w fun e w' => e = .returned (.bool true) ∧ Below w.heap.size w w' := by
  obtain ⟨hm, h⟩ := h
  unfold maxLen at hm
  rcases h with h0 | ⟨b, off, rfl, hb, hat⟩
  · have h0' : ((len : Nat) : Int) ≤ 0 := by omega
    go_enter Try.func9, Try.ntmps9
    go_wp2
    go_loop [7] (fun i => i = .int .i64 0) (fun _ => 0)
    case atStart => rfl
    case round =>
      subst hrel
      go_wp2_with (go_at_call 13; refine (wakes_any _).mono ?_; rintro e w' ⟨rfl, hbel⟩)
      go_ret
      exact ⟨rfl, hbel⟩
  · go_enter Try.func9, Try.ntmps9
    go_wp2
    go_loop [7] (fun i => ∃ k : Nat, k ≤ len ∧ k ≤ 15 ∧ i = .int .i64 k) (fun i => 15 - (intOf i).toNat)
    case atStart => exact ⟨0, by omega, by omega, rfl⟩
    case round =>
      obtain ⟨k, hk, hk15, rfl⟩ := hrel
      by_cases hlt : k < len ∧ k < 15
      · obtain ⟨hlt, hlt15⟩ := hlt
        obtain ⟨n, by', bits, x, hA⟩ := hat k hlt
        have c0 := hA.c0
        clear hat hA
        go_wp2
        go_loop [8] (fun j => ∃ m : Nat, m ≤ 68 ∧ j = .int .i64 m) (fun j => 68 - (intOf j).toNat)
        case atStart => exact ⟨0, by omega, rfl⟩
        case round =>
          obtain ⟨m, hm68, rfl⟩ := hrel
          by_cases hm64 : m < 64
          · go_wp2_with (first | (go_at_call 11; refine (cut_8t _ _).mono ?_; rintro e w' ⟨rfl, rfl⟩) | (go_at_call 12; refine (rcut_8t _ _).mono ?_; rintro e w' ⟨rfl, rfl⟩))
            go_round
            case rel => exact ⟨m + 5, by omega, by go_num⟩
            case measure => simp [intOf]; omega
          · go_wp2
            go_round
            case rel => exact ⟨k + 1, by omega, by omega, by go_num⟩
            case measure => simp [intOf]; omega
      · by_cases hl : k < len
        · have h15 : (15 : Int) ≤ k := by omega
          clear hlt
          go_wp2_with (go_at_call 13; refine (wakes_any _).mono ?_; rintro e w' ⟨rfl, hbel⟩)
          go_ret
          exact ⟨rfl, hbel⟩
        · clear hlt
          go_wp2_with (go_at_call 13; refine (wakes_any _).mono ?_; rintro e w' ⟨rfl, hbel⟩)
          go_ret
          exact ⟨rfl, hbel⟩
end Go.Proofs.Ytnfinhokagdkjab
