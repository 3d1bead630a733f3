/- Which partition a key is of: the program, and the page's own. -/
import Derived.Test.YtclcgakfmcofaaaGreatDoorMJ16
import Derived.Test.YtclcgakfmcofaaaGreatDoorMJ2
import Derived.Test.YtclcgakfmcofaaaGreatDoorMJ28
namespace Go.Proofs.YtclcgakfmcofaaaGreatDoor
open Go.RowKit
set_option linter.unusedVariables false
set_option maxRecDepth 100000
theorem isNumber_any (n : Int) (w : World) : Calls Tryz.prog 164 #[.int .i64 n] w fun e w' => e = .returned (.bool (mayP n)) ∧ w' = w := by
  unfold mayP
  by_cases h1 : 1 ≤ n
  · by_cases h2 : n ≤ 8
    · rw [decide_eq_true h1, decide_eq_true h2]
      go_enter Tryz.func164, Tryz.ntmps164
      go_wp2
      go_ret
      exact ⟨rfl, rfl⟩
    · rw [decide_eq_true h1, decide_eq_false h2]
      go_enter Tryz.func164, Tryz.ntmps164
      go_wp2
      go_ret
      exact ⟨rfl, rfl⟩
  · rw [decide_eq_false h1, Bool.false_and]
    go_enter Tryz.func164, Tryz.ntmps164
    go_wp2
    go_ret
    exact ⟨rfl, rfl⟩
theorem mayParts_any (n : Int) (w : World) : Calls Tryz.prog 39 #[.int .i64 n] w fun e w' => e = .returned (.bool (mayP n)) ∧ w' = w := by
  unfold mayP
  by_cases h1 : 1 ≤ n
  · by_cases h2 : n ≤ 8
    · rw [decide_eq_true h1, decide_eq_true h2]
      go_enter Tryz.func39, Tryz.ntmps39
      go_wp2
      go_ret
      exact ⟨rfl, rfl⟩
    · rw [decide_eq_true h1, decide_eq_false h2]
      go_enter Tryz.func39, Tryz.ntmps39
      go_wp2
      go_ret
      exact ⟨rfl, rfl⟩
  · rw [decide_eq_false h1, Bool.false_and]
    go_enter Tryz.func39, Tryz.ntmps39
    go_wp2
    go_ret
    exact ⟨rfl, rfl⟩
theorem hash_any (s : ByteArray) (w : World) (hs : s.size ≤ maxLen) : Calls Tryz.prog 201 #[.string s] w fun e w' => e = .returned (.int .u32 (fnv s)) ∧ w' = w := by
  unfold maxLen at hs
  go_enter Tryz.func201, Tryz.ntmps201
  go_wp2
  go_loop [3, 7] (fun c i => ∃ (k : Nat) (x : Int), k ≤ s.size ∧ i = .int .i64 k ∧ c = .int .u32 x ∧ fnvF x (s.data.toList.drop k) = fnv s) (fun _ i => s.size - (intOf i).toNat)
  case atStart => exact ⟨0, 2166136261, by omega, rfl, rfl, rfl⟩
  case round =>
    obtain ⟨k, x, hk, rfl, rfl, hx⟩ := hrel
    by_cases hlt : k < s.size
    · rw [fnv_step s k hlt] at hx
      have hb : ((s[k].toNat : Nat) : Int) % 4294967296 = (s[k].toNat : Int) := by have := s[k].toNat_lt; omega
      unfold fnv1 at hx
      go_wp2
      go_round
      case rel => exact ⟨k + 1, _, by omega, by go_num, rfl, hx⟩
      case measure => simp [intOf]; omega
    · rw [fnv_end s k (by omega)] at hx
      subst hx
      go_wp2
      go_ret
      exact ⟨rfl, rfl⟩
theorem kBytes_small {k : Ky} (h : k.2.size ≤ 64) : (kBytes k).size ≤ maxLen := by
  have l1 := bytes_len k.1
  have l2 := bytes_len (k.2.size : Int)
  unfold kBytes maxLen
  rw [ByteArray.size_append, ByteArray.size_append]
  omega
set_option maxHeartbeats 400000 in
theorem of_any (n : Int) (k : Ky) (w : World) (h1 : -9223372036854775808 ≤ k.1) (h2 : k.1 ≤ 9223372036854775807) :
    Calls Tryz.prog 166 #[.agg #[.int .i64 k.1, .string k.2], .int .i64 n] w fun e w' => e = .returned (.tuple #[.int .i64 (ofRes n k).1, .int .i64 (ofRes n k).2]) ∧ Below w.heap.size w w' := by
  by_cases hk : k.2.size ≤ 64
  · have H1 := hidM (fun W => kbytes_any k W hk h1 h2)
    have H2 := hidM (fun W => isNumber_any n W)
    cases hn : mayP n with
    | false =>
      rw [hn] at H2
      rw [ofRes_num hn]
      go_enter Tryz.func166, Tryz.ntmps166
      go_wp2_with (first
        | (go_at_call 168; refine (H1.out _).mono ?_; rintro e W1 ⟨rfl, hb1⟩)
        | (go_at_call 164; refine (H2.out _).mono ?_; rintro e W2 ⟨rfl, rfl⟩))
      go_ret2
      exact ⟨rfl, nxt ((Below.refl _ _).alloc (Nat.le_refl _) _) hb1⟩
    | true =>
      rw [hn] at H2
      have hm := mayP_of hn
      rw [ofRes_ok hk hn, ofP_int hn]
      have H3 := hidM (fun W => hash_any (kBytes k) W (kBytes_small hk))
      have hx := fnv_lt (kBytes k)
      have hxn : IntKind.u32.wrap n = n := by rw [IntKind.wrap_u32]; omega
      have hr0 := Int.emod_nonneg (fnv (kBytes k)) (show n ≠ 0 by omega)
      have hr1 := Int.emod_lt_of_pos (fnv (kBytes k)) (show 0 < n by omega)
      generalize fnv (kBytes k) = x at H3 hx hr0 hr1 ⊢
      have hw : wrap64 (x % n) = x % n := by unfold wrap64; omega
      generalize kBytes k = s at H1 H3
      go_enter Tryz.func166, Tryz.ntmps166
      go_wp2_with (first
        | (go_at_call 168; refine (H1.out _).mono ?_; rintro e W1 ⟨rfl, hb1⟩)
        | (go_at_call 164; refine (H2.out _).mono ?_; rintro e W2 ⟨rfl, rfl⟩)
        | (go_at_call 201; refine (H3.out _).mono ?_; rintro e W2 ⟨rfl, rfl⟩))
      go_ret2
      exact ⟨rfl, nxt ((Below.refl _ _).alloc (Nat.le_refl _) _) hb1⟩
  · have H1 := hidM (fun W => kbytes_bad k W hk)
    rw [ofRes_key hk]
    go_enter Tryz.func166, Tryz.ntmps166
    go_wp2_with (first
      | (go_at_call 168; refine (H1.out _).mono ?_; rintro e W1 ⟨rfl, hb1⟩))
    go_ret2
    exact ⟨rfl, nxt ((Below.refl _ _).alloc (Nat.le_refl _) _) hb1⟩
end Go.Proofs.YtclcgakfmcofaaaGreatDoor
