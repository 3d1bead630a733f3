/- PLAIN FACTS, without the program: on bits of whole numbers, and what the bytes of a number are. -/
import Derived.WalkKit
namespace Go.Proofs.Ytdejdcibcihfeaa
open Go.RowKit

/-! ### bits -/
theorem not_u64 (a : Int) (h0 : 0 ≤ a) (h1 : a < 18446744073709551616) : bits .xor .u64 IntKind.u64.max a = 18446744073709551615 - a := by
  obtain ⟨n, rfl⟩ := Int.eq_ofNat_of_zero_le h0
  have hn : n < 2 ^ 64 := by omega
  have hm : IntKind.u64.max = 18446744073709551615 := by decide
  have ha : BitVec.ofInt 64 18446744073709551615 = BitVec.allOnes 64 := by decide
  rw [hm]
  show IntKind.u64.wrap ((BitVec.ofInt 64 18446744073709551615 ^^^ BitVec.ofInt 64 (n : Int)).toNat : Int) = _
  rw [ha, BitVec.allOnes_xor, BitVec.toNat_not, BitVec.ofInt_natCast, BitVec.toNat_ofNat, Nat.mod_eq_of_lt hn, IntKind.wrap_u64]
  omega

theorem not_i64 (a : Int) (h0 : -9223372036854775808 ≤ a) (h1 : a ≤ 9223372036854775807) : bits .xor .i64 (-1) a = -a - 1 := by
  have ha : BitVec.ofInt 64 (-1) = BitVec.allOnes 64 := by decide
  show IntKind.i64.wrap ((BitVec.ofInt 64 (-1) ^^^ BitVec.ofInt 64 a).toNat : Int) = _
  rw [ha, BitVec.allOnes_xor, BitVec.toNat_not, BitVec.toNat_ofInt, IntKind.wrap_i64]
  omega

theorem and_mask (k : Nat) (hk : k < 64) (a : Int) : bits .and .u64 (IntKind.u64.wrap a) (2 ^ k - 1) = a % 2 ^ k := by
  have hm : (2 ^ k : Nat) < 2 ^ 64 := Nat.pow_lt_pow_right (by decide) hk
  have hp : 0 < 2 ^ k := Nat.two_pow_pos k
  have e1 : (BitVec.ofInt 64 (2 ^ k - 1)).toNat = 2 ^ k - 1 := by
    rw [show ((2 : Int) ^ k - 1) = ((2 ^ k - 1 : Nat) : Int) by rw [Int.natCast_sub (by omega)]; push_cast; rfl, BitVec.ofInt_natCast, BitVec.toNat_ofNat]
    exact Nat.mod_eq_of_lt (by omega)
  have e2 : (BitVec.ofInt 64 (IntKind.u64.wrap a)).toNat = (a % 18446744073709551616).toNat := by
    rw [BitVec.toNat_ofInt, IntKind.wrap_u64]
    congr 1
    omega
  show IntKind.u64.wrap ((BitVec.ofInt 64 (IntKind.u64.wrap a) &&& BitVec.ofInt 64 (2 ^ k - 1)).toNat : Int) = _
  rw [BitVec.toNat_and, e1, e2, Nat.and_two_pow_sub_one_eq_mod, IntKind.wrap_u64]
  have h64 : (18446744073709551616 : Int) = 2 ^ k * 2 ^ (64 - k) := by rw [← Int.pow_add, show k + (64 - k) = 64 by omega]; decide
  have e3 : (((a % 18446744073709551616).toNat % 2 ^ k : Nat) : Int) = a % 2 ^ k := by
    rw [Int.natCast_emod, Int.toNat_of_nonneg (by omega)]
    push_cast
    rw [h64]
    exact Int.emod_emod_of_dvd _ (Int.dvd_mul_right _ _)
  rw [e3]
  have hlt : a % 2 ^ k < 18446744073709551616 := by
    have := Int.emod_lt_of_pos a (show (0 : Int) < 2 ^ k from by exact_mod_cast hp)
    have h2 : (2 : Int) ^ k < 18446744073709551616 := by
      rw [show (2 : Int) ^ k = ((2 ^ k : Nat) : Int) by push_cast; rfl]
      omega
    omega
  exact Int.emod_eq_of_lt (Int.emod_nonneg _ (by have : (0 : Int) < 2 ^ k := by exact_mod_cast hp
                                                 omega)) hlt

theorem and1 (u : Int) (h0 : 0 ≤ u) (h1 : u ≤ 18446744073709551615) : bits .and .u64 u 1 = u % 2 := by
  have := and_mask 1 (by decide) u
  rw [IntWalk.u64_in u ⟨h0, h1⟩] at this
  exact this

/-- 'x | y' where x has bits from i on alone, and y below. -/
theorem or_join (i : Nat) (x y : Int) (hx0 : 0 ≤ x) (hx1 : x < 18446744073709551616) (hx : x % 2 ^ i = 0) (hy0 : 0 ≤ y) (hy : y < 2 ^ i) (hy1 : y < 18446744073709551616) : bits .or .u64 y x = x + y := by
  obtain ⟨n, rfl⟩ := Int.eq_ofNat_of_zero_le hx0
  obtain ⟨m, rfl⟩ := Int.eq_ofNat_of_zero_le hy0
  have h := nat_join i n m (by exact_mod_cast hx) (by exact_mod_cast hy)
  rw [bits_or_u64_nat m n (by omega) (by omega), Nat.or_comm, h]
  push_cast
  rfl

theorem or128 (u : Int) : bits .or .u8 (IntKind.u8.wrap u) 128 = u % 128 + 128 := by
  rw [IntKind.wrap_u8']
  have key : ∀ n : Nat, n < 256 → bits .or .u8 (n : Int) 128 = (n : Int) % 128 + 128 := by decide +kernel
  obtain ⟨n, hn⟩ := Int.eq_ofNat_of_zero_le (show 0 ≤ u % 256 by omega)
  rw [hn, key n (by omega)]
  omega

theorem andNot128 (u : Int) (h0 : 0 ≤ u) (h1 : u < 256) : bits .andNot .u8 u 128 = u % 128 := by
  have key : ∀ n : Nat, n < 256 → bits .andNot .u8 (n : Int) 128 = (n : Int) % 128 := by decide +kernel
  obtain ⟨n, rfl⟩ := Int.eq_ofNat_of_zero_le h0
  exact key n (by omega)

/-! ### the bytes of a number -/
/-- The number, turned: twice n, or -2n - 1. -/
def zig (n : Int) : Int := if n < 0 then -2 * n - 1 else 2 * n
def zag (u : Int) : Int := if u % 2 = 1 then -(u / 2) - 1 else u / 2
theorem zig_bd (n : Int) (h0 : -9223372036854775808 ≤ n) (h1 : n ≤ 9223372036854775807) : 0 ≤ zig n ∧ zig n ≤ 18446744073709551615 := by unfold zig; split <;> omega
theorem zag_zig (n : Int) : zag (zig n) = n := by unfold zag zig; split <;> split <;> omega
theorem zig_zag (u : Int) (h : 0 ≤ u) : zig (zag u) = u := by unfold zag zig; split <;> split <;> omega
theorem zag_bd (u : Int) (h0 : 0 ≤ u) (h1 : u ≤ 18446744073709551615) : -9223372036854775808 ≤ zag u ∧ zag u ≤ 9223372036854775807 := by unfold zag; split <;> omega

/-- Seven bits a byte, the lowest first, each but the last with 128 more. -/
def grp : Nat → Int → List Int
  | 0, _ => []
  | f + 1, u => if u < 128 then [u] else (u % 128 + 128) :: grp f (u / 128)

theorem grp_last (f : Nat) (u : Int) (h : u < 128) (hf : 0 < f) : grp f u = [u] := by
  obtain ⟨f, rfl⟩ := Nat.exists_eq_succ_of_ne_zero (Nat.pos_iff_ne_zero.1 hf)
  simp [grp, h]
theorem grp_more (f : Nat) (u : Int) (h : ¬ u < 128) : grp (f + 1) u = (u % 128 + 128) :: grp f (u / 128) := by simp [grp, h]

/-- What holds of the loop: so many bytes are there, so much is left. -/
def Left (u0 u : Int) (l : List Int) : Prop := ∃ f, 0 < f ∧ l.length + f = 10 ∧ 0 ≤ u ∧ u < 2 ^ (7 * f) ∧ l ++ grp f u = grp 10 u0

theorem left_start (u : Int) (h0 : 0 ≤ u) (h1 : u ≤ 18446744073709551615) : Left u u [] := ⟨10, by decide, rfl, h0, by omega, rfl⟩
theorem left_step {u0 u : Int} {l : List Int} (h : Left u0 u l) (h1 : ¬ u < 128) : Left u0 (u / 128) (l ++ [u % 128 + 128]) := by
  obtain ⟨f, hf, hl, h0, hu, he⟩ := h
  match f, hf with
  | 1, _ => exact absurd hu (by omega)
  | f + 2, _ =>
    refine ⟨f + 1, by omega, by simp; omega, by omega, ?_, ?_⟩
    · have : (2 : Int) ^ (7 * (f + 2)) = 2 ^ (7 * (f + 1)) * 128 := by rw [show 7 * (f + 2) = 7 * (f + 1) + 7 by omega, Int.pow_add]; rfl
      rw [this] at hu
      exact Int.ediv_lt_of_lt_mul (by decide) hu
    · rw [← he, grp_more _ _ h1]; simp
theorem left_end {u0 u : Int} {l : List Int} (h : Left u0 u l) (h1 : u < 128) : l ++ [u] = grp 10 u0 := by
  obtain ⟨f, hf, hl, h0, hu, he⟩ := h
  rw [← he, grp_last f u h1 hf]
theorem left_len {u0 u : Int} {l : List Int} (h : Left u0 u l) : l.length ≤ 9 := by obtain ⟨f, hf, hl, _⟩ := h; omega
theorem left_pos {u0 u : Int} {l : List Int} (h : Left u0 u l) : 0 ≤ u := by obtain ⟨f, hf, hl, h0, _⟩ := h; exact h0

def bytesOf (n : Int) : ByteArray := strOfNums (grp 10 (zig n))

/-! ### what a string begins with -/
/-- The bytes that are left, where the first of them stands, what has been gathered: the number, how many bytes, the error. -/
def takeL : List UInt8 → Nat → Int → Int × Int × Int
  | [], _, _ => (0, 0, 6)
  | c :: r, i, u =>
    if i = 9 ∧ 1 < c.toNat then (0, 0, 7)
    else if 128 ≤ c.toNat then takeL r (i + 1) (u + (c.toNat : Int) % 128 * 2 ^ (7 * i))
    else if c.toNat = 0 ∧ 0 < i then (0, 0, 7)
    else (zag (u + (c.toNat : Int) % 128 * 2 ^ (7 * i)), (i : Int) + 1, 0)
def takeOf (s : ByteArray) : Int × Int × Int := takeL s.data.toList 0 0

theorem takeL_nil (i : Nat) (u : Int) : takeL [] i u = (0, 0, 6) := rfl
theorem takeL_nine (c : UInt8) (r : List UInt8) (i : Nat) (u : Int) (h : i = 9) (hc : 1 < c.toNat) : takeL (c :: r) i u = (0, 0, 7) := by simp [takeL, h, hc]
theorem takeL_more (c : UInt8) (r : List UInt8) (i : Nat) (u : Int) (h : i ≠ 9) (hc : 128 ≤ c.toNat) : takeL (c :: r) i u = takeL r (i + 1) (u + (c.toNat : Int) % 128 * 2 ^ (7 * i)) := by
  simp [takeL, h, hc]
theorem takeL_zero (c : UInt8) (r : List UInt8) (i : Nat) (u : Int) (h : 0 < i) (hc : c.toNat = 0) : takeL (c :: r) i u = (0, 0, 7) := by simp [takeL, h, hc]
theorem takeL_end (c : UInt8) (r : List UInt8) (i : Nat) (u : Int) (h9 : i = 9 → c.toNat ≤ 1) (hc : c.toNat < 128) (h0 : c.toNat ≠ 0 ∨ i = 0) :
    takeL (c :: r) i u = (zag (u + (c.toNat : Int) % 128 * 2 ^ (7 * i)), (i : Int) + 1, 0) := by
  rw [takeL, if_neg (by omega), if_neg (by omega), if_neg (by omega)]

theorem or_step (k : Nat) (x c : Int) (hx0 : 0 ≤ x) (hx : x < 2 ^ (7 * k)) (hc0 : 0 ≤ c) (hc : c < 256) (hk : k ≤ 8 ∨ k = 9 ∧ c ≤ 1) :
    bits .or .u64 x (IntKind.u64.wrap (IntKind.u64.wrap (bits .andNot .u8 c 128) * 2 ^ (7 * k))) = x + c % 128 * 2 ^ (7 * k) ∧ 0 ≤ x + c % 128 * 2 ^ (7 * k) ∧ x + c % 128 * 2 ^ (7 * k) ≤ 18446744073709551615 ∧
      (k ≤ 8 → x + c % 128 * 2 ^ (7 * k) < 2 ^ (7 * (k + 1))) := by
  rw [andNot128 c hc0 hc, IntWalk.u64_in (c % 128) (by omega)]
  have hk' : k = 0 ∨ k = 1 ∨ k = 2 ∨ k = 3 ∨ k = 4 ∨ k = 5 ∨ k = 6 ∨ k = 7 ∨ k = 8 ∨ k = 9 := by omega
  rcases hk' with rfl | rfl | rfl | rfl | rfl | rfl | rfl | rfl | rfl | rfl
  all_goals
    simp only [Nat.reduceMul, Nat.reduceAdd, Int.reducePow] at hx ⊢
    rw [IntWalk.u64_in _ (by omega)]
  all_goals refine ⟨?_, by omega, by omega, by omega⟩
  · rw [or_join 0 (c % 128 * 1) x (by omega) (by omega) (by omega) (by omega) (by omega) (by omega)]; omega
  · rw [or_join 7 (c % 128 * _) x (by omega) (by omega) (by omega) (by omega) (by omega) (by omega)]; omega
  · rw [or_join 14 (c % 128 * _) x (by omega) (by omega) (by omega) (by omega) (by omega) (by omega)]; omega
  · rw [or_join 21 (c % 128 * _) x (by omega) (by omega) (by omega) (by omega) (by omega) (by omega)]; omega
  · rw [or_join 28 (c % 128 * _) x (by omega) (by omega) (by omega) (by omega) (by omega) (by omega)]; omega
  · rw [or_join 35 (c % 128 * _) x (by omega) (by omega) (by omega) (by omega) (by omega) (by omega)]; omega
  · rw [or_join 42 (c % 128 * _) x (by omega) (by omega) (by omega) (by omega) (by omega) (by omega)]; omega
  · rw [or_join 49 (c % 128 * _) x (by omega) (by omega) (by omega) (by omega) (by omega) (by omega)]; omega
  · rw [or_join 56 (c % 128 * _) x (by omega) (by omega) (by omega) (by omega) (by omega) (by omega)]; omega
  · rw [or_join 63 (c % 128 * _) x (by omega) (by omega) (by omega) (by omega) (by omega) (by omega)]; omega

theorem drop_byte (s : ByteArray) (k : Nat) (h : k < s.size) : s.data.toList.drop k = s[k] :: s.data.toList.drop (k + 1) := by
  rw [List.drop_eq_getElem_cons (by simpa using h)]; rfl
theorem drop_end (s : ByteArray) (k : Nat) (h : s.size ≤ k) : s.data.toList.drop k = [] := List.drop_of_length_le (by simpa using h)
end Go.Proofs.Ytdejdcibcihfeaa
