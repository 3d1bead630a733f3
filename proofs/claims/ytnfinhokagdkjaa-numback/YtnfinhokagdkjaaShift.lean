/- num.Shift: what it answers, each way, for every number and every number of places. -/
import Derived.Test.YtnfinhokagdkjaaTake
namespace Go.Proofs.Ytnfinhokagdkjaa
open Go.RowKit
set_option linter.unusedVariables false

/-- To the left; to the right, with the sign; without. -/
def shL (n : Int) (k : Nat) : Int := wrap64 (n * 2 ^ k)
def shR (n : Int) (k : Nat) : Int := n / 2 ^ k
def shP (n : Int) (k : Nat) : Int := wrap64 (IntKind.u64.wrap n / 2 ^ k)

theorem mod64 (b : Int) (k : Nat) (hk : b % 64 = k) : (IntKind.u64.wrap b).tmod 64 = k := by
  rw [IntKind.wrap_u64, Int.tmod_eq_emod_of_nonneg (by omega)]; omega

theorem shift_0 (n b : Int) (k : Nat) (hk : b % 64 = k) (w : World) : Calls Try.prog 17 #[.int .i64 n, .int .i64 b, .int .i64 0] w fun e w' => e = .returned (.tuple #[.int .i64 (shL n k), .int .i64 0]) ∧ w' = w := by
  have hm := mod64 b k hk
  have h63 : k ≤ 63 := by omega
  clear hk
  go_enter Try.func17, Try.ntmps17
  go_wp2
  go_ret2
  exact ⟨rfl, rfl⟩
theorem shift_1 (n b : Int) (k : Nat) (hk : b % 64 = k) (w : World) : Calls Try.prog 17 #[.int .i64 n, .int .i64 b, .int .i64 1] w fun e w' => e = .returned (.tuple #[.int .i64 (shR n k), .int .i64 0]) ∧ w' = w := by
  have hm := mod64 b k hk
  have h63 : k ≤ 63 := by omega
  clear hk
  go_enter Try.func17, Try.ntmps17
  go_wp2
  go_ret2
  exact ⟨rfl, rfl⟩
theorem shift_2 (n b : Int) (k : Nat) (hk : b % 64 = k) (w : World) : Calls Try.prog 17 #[.int .i64 n, .int .i64 b, .int .i64 2] w fun e w' => e = .returned (.tuple #[.int .i64 (shP n k), .int .i64 0]) ∧ w' = w := by
  have hm := mod64 b k hk
  have h63 : k ≤ 63 := by omega
  clear hk
  go_enter Try.func17, Try.ntmps17
  go_wp2
  go_ret2
  exact ⟨rfl, rfl⟩

/-! ### plain: place by place -/
theorem shL_next (n : Int) (m : Nat) : shL (shL n m) 1 = shL n (m + 1) := by
  unfold shL wrap64
  rw [show (2 : Int) ^ (m + 1) = 2 ^ m * 2 from Int.pow_succ 2 m, ← Int.mul_assoc]
  generalize n * 2 ^ m = y
  omega
theorem shL_zero (n : Int) (h1 : -9223372036854775808 ≤ n) (h2 : n ≤ 9223372036854775807) : shL n 0 = n := by unfold shL wrap64; omega
theorem shL_twice (n : Int) (m : Nat) : wrap64 (shL n m + shL n m) = shL n (m + 1) := by
  rw [← shL_next]
  unfold shL
  congr 1
  omega
theorem shR_next (n : Int) (m : Nat) : shR (shR n m) 1 = shR n (m + 1) := by
  unfold shR
  rw [show (2 : Int) ^ (m + 1) = 2 ^ m * 2 from Int.pow_succ 2 m, Int.ediv_ediv_of_nonneg (Int.pow_nonneg (by decide))]
  rfl
theorem shR_zero (n : Int) : shR n 0 = n := by simp [shR]
theorem shR_bd (n : Int) (m : Nat) (h1 : -9223372036854775808 ≤ n) (h2 : n ≤ 9223372036854775807) : -9223372036854775808 ≤ shR n m ∧ shR n m ≤ 9223372036854775807 := by
  unfold shR
  have hp : (0 : Int) < 2 ^ m := Int.pow_pos (by decide)
  constructor
  · rw [Int.le_ediv_iff_mul_le hp]
    have : (1 : Int) ≤ 2 ^ m := hp
    have h : (-9223372036854775808 : Int) * 2 ^ m ≤ -9223372036854775808 * 1 := Int.mul_le_mul_of_nonpos_left (by decide) this
    omega
  · by_cases h : 0 ≤ n
    · exact Int.le_trans (Int.ediv_le_self _ h) h2
    · exact Int.le_trans (Int.le_of_lt (Int.ediv_neg_of_neg_of_pos (by omega) hp)) (by decide)
theorem andNot1 (v : Int) (h1 : -9223372036854775808 ≤ v) (h2 : v ≤ 9223372036854775807) : bits .andNot .i64 v 1 = v / 2 + v / 2 := by
  have hn : (~~~ BitVec.ofInt 64 1).toNat = 18446744073709551614 := by decide
  have key : ∀ a : Nat, a < 18446744073709551616 → a &&& 18446744073709551614 = 2 * (a / 2) := by
    intro a ha
    have h2 : (a &&& 18446744073709551614) / 2 = a / 2 := by
      rw [Nat.and_div_two, show 18446744073709551614 / 2 = 2 ^ 63 - 1 by decide, Nat.and_two_pow_sub_one_eq_mod]
      exact Nat.mod_eq_of_lt (by omega)
    have h3 : (a &&& 18446744073709551614) % 2 = 0 := by
      have := @Nat.and_mod_two_pow a 18446744073709551614 1
      simpa using this
    omega
  show IntKind.i64.wrap ((BitVec.ofInt 64 v &&& ~~~ BitVec.ofInt 64 1).toNat : Int) = _
  rw [BitVec.toNat_and, hn, BitVec.toNat_ofInt, key _ (by omega), IntKind.wrap_i64]
  omega
theorem shR_one (v : Int) : shR v 1 = v / 2 := rfl
theorem shR_twice (n : Int) (m : Nat) (h1 : -9223372036854775808 ≤ n) (h2 : n ≤ 9223372036854775807) : bits .andNot .i64 (shR n m) 1 = shR n (m + 1) + shR n (m + 1) := by
  obtain ⟨b1, b2⟩ := shR_bd n m h1 h2
  rw [andNot1 _ b1 b2, ← shR_next, shR_one]
theorem shR_half_bd (n : Int) (m : Nat) (h1 : -9223372036854775808 ≤ n) (h2 : n ≤ 9223372036854775807) : -4611686018427387904 ≤ shR n (m + 1) ∧ shR n (m + 1) ≤ 4611686018427387903 := by
  obtain ⟨b1, b2⟩ := shR_bd n m h1 h2
  rw [← shR_next, shR_one]
  omega
theorem shP_next (n : Int) (m : Nat) : shP (shP n m) 1 = shP n (m + 1) := by
  unfold shP wrap64
  rw [IntKind.wrap_u64, IntKind.wrap_u64, show (2 : Int) ^ (m + 1) = 2 ^ m * 2 from Int.pow_succ 2 m, ← Int.ediv_ediv_of_nonneg (Int.pow_nonneg (by decide))]
  have h0 : 0 ≤ n % 18446744073709551616 / 2 ^ m := Int.ediv_nonneg (by omega) (Int.pow_nonneg (by decide))
  have h1 : n % 18446744073709551616 / 2 ^ m ≤ n % 18446744073709551616 := Int.ediv_le_self _ (by omega)
  generalize n % 18446744073709551616 / 2 ^ m = y at *
  omega
theorem shP_zero (n : Int) (h1 : -9223372036854775808 ≤ n) (h2 : n ≤ 9223372036854775807) : shP n 0 = n := by unfold shP wrap64; rw [IntKind.wrap_u64]; simp; omega
theorem shP_half (v : Int) : IntKind.u64.wrap (shP v 1) = IntKind.u64.wrap v / 2 := by
  unfold shP wrap64; rw [IntKind.wrap_u64, IntKind.wrap_u64]; omega
theorem shP_twice (n : Int) (m : Nat) : IntKind.u64.wrap ((IntKind.u64.wrap (shP n m)).tdiv 2) = IntKind.u64.wrap (shP n (m + 1)) := by
  rw [← shP_next, shP_half, Int.tdiv_eq_ediv_of_nonneg (by rw [IntKind.wrap_u64]; omega), IntKind.wrap_u64, IntKind.wrap_u64]
  omega
end Go.Proofs.Ytnfinhokagdkjaa
