/- Texts laid together: Plain, Back, BaL, GBytes. -/
import Derived.WalkKit
import Derived.Test.YtejgcflcckjlpaaGreatDoorBC1
import Derived.Lib.Strings
/- PLAIN FACTS, without the program: on bits of whole numbers, and what the bytes of a number are. -/
namespace Go.Proofs.YtejgcflcckjlpaaGreatDoor
open Go.RowKit

/-! ### bits -/
theorem not_u64 (a : Int) (h0 : 0 ≤ a) (h1 : a < 18446744073709551616) : bits .xor .u64 IntKind.u64.max a = 18446744073709551615 - a := by
  obtain ⟨n, rfl⟩ := Int.eq_ofNat_of_zero_le h0
  have hn : n < 2 ^ 64 := by omega
  have hm : IntKind.u64.max = 18446744073709551615 := by decide
  have ha : BitVec.ofInt 64 18446744073709551615 = BitVec.allOnes 64 := by decide
  rw [hm]
  show IntKind.u64.wrap ((BitVec.ofInt 64 18446744073709551615 ^^^ BitVec.ofInt 64 (n : Int)).toNat : Int) = _
  rw [ha, BitVec.allOnes_xor, BitVec.toNat_not, BitVec.ofInt_natCast, BitVec.toNat_ofNat, Nat.mod_eq_of_lt hn, IntKind.wrap_u64]
  omega

theorem not_i64 (a : Int) (h0 : -9223372036854775808 ≤ a) (h1 : a ≤ 9223372036854775807) : bits .xor .i64 (-1) a = -a - 1 := by
  have ha : BitVec.ofInt 64 (-1) = BitVec.allOnes 64 := by decide
  show IntKind.i64.wrap ((BitVec.ofInt 64 (-1) ^^^ BitVec.ofInt 64 a).toNat : Int) = _
  rw [ha, BitVec.allOnes_xor, BitVec.toNat_not, BitVec.toNat_ofInt, IntKind.wrap_i64]
  omega

theorem and_mask (k : Nat) (hk : k < 64) (a : Int) : bits .and .u64 (IntKind.u64.wrap a) (2 ^ k - 1) = a % 2 ^ k := by
  have hm : (2 ^ k : Nat) < 2 ^ 64 := Nat.pow_lt_pow_right (by decide) hk
  have hp : 0 < 2 ^ k := Nat.two_pow_pos k
  have e1 : (BitVec.ofInt 64 (2 ^ k - 1)).toNat = 2 ^ k - 1 := by
    rw [show ((2 : Int) ^ k - 1) = ((2 ^ k - 1 : Nat) : Int) by rw [Int.natCast_sub (by omega)]; push_cast; rfl, BitVec.ofInt_natCast, BitVec.toNat_ofNat]
    exact Nat.mod_eq_of_lt (by omega)
  have e2 : (BitVec.ofInt 64 (IntKind.u64.wrap a)).toNat = (a % 18446744073709551616).toNat := by
    rw [BitVec.toNat_ofInt, IntKind.wrap_u64]
    congr 1
    omega
  show IntKind.u64.wrap ((BitVec.ofInt 64 (IntKind.u64.wrap a) &&& BitVec.ofInt 64 (2 ^ k - 1)).toNat : Int) = _
  rw [BitVec.toNat_and, e1, e2, Nat.and_two_pow_sub_one_eq_mod, IntKind.wrap_u64]
  have h64 : (18446744073709551616 : Int) = 2 ^ k * 2 ^ (64 - k) := by rw [← Int.pow_add, show k + (64 - k) = 64 by omega]; decide
  have e3 : (((a % 18446744073709551616).toNat % 2 ^ k : Nat) : Int) = a % 2 ^ k := by
    rw [Int.natCast_emod, Int.toNat_of_nonneg (by omega)]
    push_cast
    rw [h64]
    exact Int.emod_emod_of_dvd _ (Int.dvd_mul_right _ _)
  rw [e3]
  have hlt : a % 2 ^ k < 18446744073709551616 := by
    have := Int.emod_lt_of_pos a (show (0 : Int) < 2 ^ k from by exact_mod_cast hp)
    have h2 : (2 : Int) ^ k < 18446744073709551616 := by
      rw [show (2 : Int) ^ k = ((2 ^ k : Nat) : Int) by push_cast; rfl]
      omega
    omega
  exact Int.emod_eq_of_lt (Int.emod_nonneg _ (by have : (0 : Int) < 2 ^ k := by exact_mod_cast hp
                                                 omega)) hlt

theorem and1 (u : Int) (h0 : 0 ≤ u) (h1 : u ≤ 18446744073709551615) : bits .and .u64 u 1 = u % 2 := by
  have := and_mask 1 (by decide) u
  rw [IntWalk.u64_in u ⟨h0, h1⟩] at this
  exact this

/-- 'x | y' where x has bits from i on alone, and y below. -/
theorem or_join (i : Nat) (x y : Int) (hx0 : 0 ≤ x) (hx1 : x < 18446744073709551616) (hx : x % 2 ^ i = 0) (hy0 : 0 ≤ y) (hy : y < 2 ^ i) (hy1 : y < 18446744073709551616) : bits .or .u64 y x = x + y := by
  obtain ⟨n, rfl⟩ := Int.eq_ofNat_of_zero_le hx0
  obtain ⟨m, rfl⟩ := Int.eq_ofNat_of_zero_le hy0
  have h := nat_join i n m (by exact_mod_cast hx) (by exact_mod_cast hy)
  rw [bits_or_u64_nat m n (by omega) (by omega), Nat.or_comm, h]
  push_cast
  rfl

theorem or128 (u : Int) : bits .or .u8 (IntKind.u8.wrap u) 128 = u % 128 + 128 := by
  rw [IntKind.wrap_u8']
  have key : ∀ n : Nat, n < 256 → bits .or .u8 (n : Int) 128 = (n : Int) % 128 + 128 := by decide +kernel
  obtain ⟨n, hn⟩ := Int.eq_ofNat_of_zero_le (show 0 ≤ u % 256 by omega)
  rw [hn, key n (by omega)]
  omega

theorem andNot128 (u : Int) (h0 : 0 ≤ u) (h1 : u < 256) : bits .andNot .u8 u 128 = u % 128 := by
  have key : ∀ n : Nat, n < 256 → bits .andNot .u8 (n : Int) 128 = (n : Int) % 128 := by decide +kernel
  obtain ⟨n, rfl⟩ := Int.eq_ofNat_of_zero_le h0
  exact key n (by omega)

/-! ### the bytes of a number -/
/-- The number, turned: twice n, or -2n - 1. -/
def zig (n : Int) : Int := if n < 0 then -2 * n - 1 else 2 * n
def zag (u : Int) : Int := if u % 2 = 1 then -(u / 2) - 1 else u / 2
theorem zig_bd (n : Int) (h0 : -9223372036854775808 ≤ n) (h1 : n ≤ 9223372036854775807) : 0 ≤ zig n ∧ zig n ≤ 18446744073709551615 := by unfold zig; split <;> omega
theorem zag_zig (n : Int) : zag (zig n) = n := by unfold zag zig; split <;> split <;> omega
theorem zig_zag (u : Int) (h : 0 ≤ u) : zig (zag u) = u := by unfold zag zig; split <;> split <;> omega
theorem zag_bd (u : Int) (h0 : 0 ≤ u) (h1 : u ≤ 18446744073709551615) : -9223372036854775808 ≤ zag u ∧ zag u ≤ 9223372036854775807 := by unfold zag; split <;> omega

/-- Seven bits a byte, the lowest first, each but the last with 128 more. -/
def grp : Nat → Int → List Int
  | 0, _ => []
  | f + 1, u => if u < 128 then [u] else (u % 128 + 128) :: grp f (u / 128)

theorem grp_last (f : Nat) (u : Int) (h : u < 128) (hf : 0 < f) : grp f u = [u] := by
  obtain ⟨f, rfl⟩ := Nat.exists_eq_succ_of_ne_zero (Nat.pos_iff_ne_zero.1 hf)
  simp [grp, h]
theorem grp_more (f : Nat) (u : Int) (h : ¬ u < 128) : grp (f + 1) u = (u % 128 + 128) :: grp f (u / 128) := by simp [grp, h]

/-- What holds of the loop: so many bytes are there, so much is left. -/
def Left (u0 u : Int) (l : List Int) : Prop := ∃ f, 0 < f ∧ l.length + f = 10 ∧ 0 ≤ u ∧ u < 2 ^ (7 * f) ∧ l ++ grp f u = grp 10 u0

theorem left_start (u : Int) (h0 : 0 ≤ u) (h1 : u ≤ 18446744073709551615) : Left u u [] := ⟨10, by decide, rfl, h0, by omega, rfl⟩
theorem left_step {u0 u : Int} {l : List Int} (h : Left u0 u l) (h1 : ¬ u < 128) : Left u0 (u / 128) (l ++ [u % 128 + 128]) := by
  obtain ⟨f, hf, hl, h0, hu, he⟩ := h
  match f, hf with
  | 1, _ => exact absurd hu (by omega)
  | f + 2, _ =>
    refine ⟨f + 1, by omega, by simp; omega, by omega, ?_, ?_⟩
    · have : (2 : Int) ^ (7 * (f + 2)) = 2 ^ (7 * (f + 1)) * 128 := by rw [show 7 * (f + 2) = 7 * (f + 1) + 7 by omega, Int.pow_add]; rfl
      rw [this] at hu
      exact Int.ediv_lt_of_lt_mul (by decide) hu
    · rw [← he, grp_more _ _ h1]; simp
theorem left_end {u0 u : Int} {l : List Int} (h : Left u0 u l) (h1 : u < 128) : l ++ [u] = grp 10 u0 := by
  obtain ⟨f, hf, hl, h0, hu, he⟩ := h
  rw [← he, grp_last f u h1 hf]
theorem left_len {u0 u : Int} {l : List Int} (h : Left u0 u l) : l.length ≤ 9 := by obtain ⟨f, hf, hl, _⟩ := h; omega
theorem left_pos {u0 u : Int} {l : List Int} (h : Left u0 u l) : 0 ≤ u := by obtain ⟨f, hf, hl, h0, _⟩ := h; exact h0

def bytesOf (n : Int) : ByteArray := strOfNums (grp 10 (zig n))

/-! ### what a string begins with -/
/-- The bytes that are left, where the first of them stands, what has been gathered: the number, how many bytes, the error. -/
def takeL : List UInt8 → Nat → Int → Int × Int × Int
  | [], _, _ => (0, 0, 6)
  | c :: r, i, u =>
    if i = 9 ∧ 1 < c.toNat then (0, 0, 7)
    else if 128 ≤ c.toNat then takeL r (i + 1) (u + (c.toNat : Int) % 128 * 2 ^ (7 * i))
    else if c.toNat = 0 ∧ 0 < i then (0, 0, 7)
    else (zag (u + (c.toNat : Int) % 128 * 2 ^ (7 * i)), (i : Int) + 1, 0)
def takeOf (s : ByteArray) : Int × Int × Int := takeL s.data.toList 0 0

theorem takeL_nil (i : Nat) (u : Int) : takeL [] i u = (0, 0, 6) := rfl
theorem takeL_nine (c : UInt8) (r : List UInt8) (i : Nat) (u : Int) (h : i = 9) (hc : 1 < c.toNat) : takeL (c :: r) i u = (0, 0, 7) := by simp [takeL, h, hc]
theorem takeL_more (c : UInt8) (r : List UInt8) (i : Nat) (u : Int) (h : i ≠ 9) (hc : 128 ≤ c.toNat) : takeL (c :: r) i u = takeL r (i + 1) (u + (c.toNat : Int) % 128 * 2 ^ (7 * i)) := by
  simp [takeL, h, hc]
theorem takeL_zero (c : UInt8) (r : List UInt8) (i : Nat) (u : Int) (h : 0 < i) (hc : c.toNat = 0) : takeL (c :: r) i u = (0, 0, 7) := by simp [takeL, h, hc]
theorem takeL_end (c : UInt8) (r : List UInt8) (i : Nat) (u : Int) (h9 : i = 9 → c.toNat ≤ 1) (hc : c.toNat < 128) (h0 : c.toNat ≠ 0 ∨ i = 0) :
    takeL (c :: r) i u = (zag (u + (c.toNat : Int) % 128 * 2 ^ (7 * i)), (i : Int) + 1, 0) := by
  rw [takeL, if_neg (by omega), if_neg (by omega), if_neg (by omega)]

theorem or_step (k : Nat) (x c : Int) (hx0 : 0 ≤ x) (hx : x < 2 ^ (7 * k)) (hc0 : 0 ≤ c) (hc : c < 256) (hk : k ≤ 8 ∨ k = 9 ∧ c ≤ 1) :
    bits .or .u64 x (IntKind.u64.wrap (IntKind.u64.wrap (bits .andNot .u8 c 128) * 2 ^ (7 * k))) = x + c % 128 * 2 ^ (7 * k) ∧ 0 ≤ x + c % 128 * 2 ^ (7 * k) ∧ x + c % 128 * 2 ^ (7 * k) ≤ 18446744073709551615 ∧
      (k ≤ 8 → x + c % 128 * 2 ^ (7 * k) < 2 ^ (7 * (k + 1))) := by
  rw [andNot128 c hc0 hc, IntWalk.u64_in (c % 128) (by omega)]
  have hk' : k = 0 ∨ k = 1 ∨ k = 2 ∨ k = 3 ∨ k = 4 ∨ k = 5 ∨ k = 6 ∨ k = 7 ∨ k = 8 ∨ k = 9 := by omega
  rcases hk' with rfl | rfl | rfl | rfl | rfl | rfl | rfl | rfl | rfl | rfl
  all_goals
    simp only [Nat.reduceMul, Nat.reduceAdd, Int.reducePow] at hx ⊢
    rw [IntWalk.u64_in _ (by omega)]
  all_goals refine ⟨?_, by omega, by omega, by omega⟩
  · rw [or_join 0 (c % 128 * 1) x (by omega) (by omega) (by omega) (by omega) (by omega) (by omega)]; omega
  · rw [or_join 7 (c % 128 * _) x (by omega) (by omega) (by omega) (by omega) (by omega) (by omega)]; omega
  · rw [or_join 14 (c % 128 * _) x (by omega) (by omega) (by omega) (by omega) (by omega) (by omega)]; omega
  · rw [or_join 21 (c % 128 * _) x (by omega) (by omega) (by omega) (by omega) (by omega) (by omega)]; omega
  · rw [or_join 28 (c % 128 * _) x (by omega) (by omega) (by omega) (by omega) (by omega) (by omega)]; omega
  · rw [or_join 35 (c % 128 * _) x (by omega) (by omega) (by omega) (by omega) (by omega) (by omega)]; omega
  · rw [or_join 42 (c % 128 * _) x (by omega) (by omega) (by omega) (by omega) (by omega) (by omega)]; omega
  · rw [or_join 49 (c % 128 * _) x (by omega) (by omega) (by omega) (by omega) (by omega) (by omega)]; omega
  · rw [or_join 56 (c % 128 * _) x (by omega) (by omega) (by omega) (by omega) (by omega) (by omega)]; omega
  · rw [or_join 63 (c % 128 * _) x (by omega) (by omega) (by omega) (by omega) (by omega) (by omega)]; omega

theorem drop_byte (s : ByteArray) (k : Nat) (h : k < s.size) : s.data.toList.drop k = s[k] :: s.data.toList.drop (k + 1) := by
  rw [List.drop_eq_getElem_cons (by simpa using h)]; rfl
theorem drop_end (s : ByteArray) (k : Nat) (h : s.size ≤ k) : s.data.toList.drop k = [] := List.drop_of_length_le (by simpa using h)
end Go.Proofs.YtejgcflcckjlpaaGreatDoor
/- PLAIN FACTS: what is written is taken, whatever stands behind it; cut off anywhere it is cut off; what is taken was written so. -/
namespace Go.Proofs.YtejgcflcckjlpaaGreatDoor
open Go.RowKit

/-- Numbers below 256 as bytes. -/
def enc (l : List Int) : List UInt8 := l.map fun n => UInt8.ofNat n.toNat
theorem bytesOf_list (n : Int) : (bytesOf n).data.toList = enc (grp 10 (zig n)) := strOfNums_data _
theorem bytesOf_size (n : Int) : (bytesOf n).size = (grp 10 (zig n)).length := strOfNums_size _
theorem byte_of (z : Int) (h0 : 0 ≤ z) (h1 : z < 256) : ((UInt8.ofNat z.toNat).toNat : Int) = z := by rw [UInt8.toNat_ofNat']; omega
theorem byte_ofN (z : Int) (h0 : 0 ≤ z) (h1 : z < 256) : (UInt8.ofNat z.toNat).toNat = z.toNat := by rw [UInt8.toNat_ofNat']; omega

theorem parts (u P : Int) : u * P = u % 128 * P + u / 128 * (P * 128) := by
  have h := Int.emod_add_mul_ediv u 128
  have e : u / 128 * (P * 128) = 128 * (u / 128) * P := by rw [Int.mul_comm P 128, ← Int.mul_assoc, Int.mul_comm (u / 128) 128]
  rw [e, ← Int.add_mul, h]
theorem pow7 (i : Nat) : (2 : Int) ^ (7 * (i + 1)) = 2 ^ (7 * i) * 128 := by rw [show 7 * (i + 1) = 7 * i + 7 by omega, Int.pow_add]; rfl
theorem pow7_pos (i : Nat) : (1 : Int) ≤ 2 ^ (7 * i) := Int.pow_pos (by decide)

/-- There is no tenth byte that goes on. -/
theorem not_nine {i : Nat} {acc u : Int} (h9 : i ≤ 9) (hacc : 0 ≤ acc) (ht : acc + u * 2 ^ (7 * i) ≤ 18446744073709551615) (hu : ¬ u < 128) : i ≠ 9 := by
  rintro rfl
  simp only [Nat.reduceMul, Int.reducePow] at ht
  omega
theorem nine {i : Nat} {acc u : Int} (hacc : 0 ≤ acc) (ht : acc + u * 2 ^ (7 * i) ≤ 18446744073709551615) (h9 : i = 9) : u ≤ 1 := by
  subst h9
  simp only [Nat.reduceMul, Int.reducePow] at ht
  omega

/-- What is written is taken, whatever stands behind it. -/
theorem takes (rest : List UInt8) : ∀ (f i : Nat) (u acc : Int), 0 < f → i ≤ 9 → 0 ≤ u → u < 2 ^ (7 * f) → 0 ≤ acc → acc < 2 ^ (7 * i) → acc + u * 2 ^ (7 * i) ≤ 18446744073709551615 → (u ≠ 0 ∨ i = 0) →
    takeL (enc (grp f u) ++ rest) i acc = (zag (acc + u * 2 ^ (7 * i)), (i : Int) + (grp f u).length, 0) := by
  intro f
  induction f with
  | zero => intro i u acc h; omega
  | succ f ih =>
    intro i u acc _ h9 h0 hu ha0 ha ht hz
    by_cases hl : u < 128
    · rw [grp_last _ _ hl (by omega)]
      have hb : (UInt8.ofNat u.toNat).toNat = u.toNat := byte_ofN u h0 (by omega)
      have hB := byte_of u h0 (by omega)
      show takeL (UInt8.ofNat u.toNat :: ([] ++ rest)) i acc = _
      rw [takeL_end _ _ _ _ (fun h => by have := nine ha0 ht h; omega) (by omega) (by omega), hB, Int.emod_eq_of_lt h0 hl]
      rfl
    · have hi := not_nine h9 ha0 ht hl
      have hf : 0 < f := by
        rcases Nat.eq_zero_or_pos f with rfl | h
        · simp at hu; omega
        · exact h
      rw [grp_more _ _ hl]
      have hb : (UInt8.ofNat (u % 128 + 128).toNat).toNat = (u % 128 + 128).toNat := byte_ofN _ (by omega) (by omega)
      have hB := byte_of (u % 128 + 128) (by omega) (by omega)
      show takeL (UInt8.ofNat (u % 128 + 128).toNat :: (enc (grp f (u / 128)) ++ rest)) i acc = _
      rw [takeL_more _ _ _ _ hi (by omega), hB, show (u % 128 + 128) % 128 = u % 128 by omega]
      have hp := parts u (2 ^ (7 * i))
      have hP := pow7_pos i
      have hP7 := pow7 i
      have hm : 0 ≤ u % 128 * 2 ^ (7 * i) := Int.mul_nonneg (by omega) (by omega)
      have hm' : u % 128 * 2 ^ (7 * i) ≤ 127 * 2 ^ (7 * i) := Int.mul_le_mul_of_nonneg_right (by omega) (by omega)
      have huf : u / 128 < 2 ^ (7 * f) := by
        rw [pow7] at hu
        exact Int.ediv_lt_of_lt_mul (by decide) hu
      have := ih (i + 1) (u / 128) (acc + u % 128 * 2 ^ (7 * i)) hf (by omega) (by omega) huf (by omega) (by rw [hP7]; omega) (by rw [hP7]; omega) (by left; omega)
      rw [this, hP7, Int.add_assoc, ← hp]
      simp only [List.length_cons]
      congr 2
      push_cast
      omega

/-- Cut off anywhere it is cut off. -/
theorem cuts : ∀ (f i t : Nat) (u acc : Int), i ≤ 9 → 0 ≤ u → 0 ≤ acc → acc + u * 2 ^ (7 * i) ≤ 18446744073709551615 → t < (grp f u).length → takeL ((enc (grp f u)).take t) i acc = (0, 0, 6) := by
  intro f
  induction f with
  | zero => intro i t u acc _ _ _ _ h; simp [grp] at h
  | succ f ih =>
    intro i t u acc h9 h0 ha0 ht hlt
    match t with
    | 0 => rfl
    | t + 1 =>
      by_cases hl : u < 128
      · rw [grp_last _ _ hl (by omega)] at hlt; simp at hlt
      · have hi := not_nine h9 ha0 ht hl
        rw [grp_more _ _ hl] at hlt ⊢
        have hb : (UInt8.ofNat (u % 128 + 128).toNat).toNat = (u % 128 + 128).toNat := byte_ofN _ (by omega) (by omega)
        have hB := byte_of (u % 128 + 128) (by omega) (by omega)
        show takeL (UInt8.ofNat (u % 128 + 128).toNat :: (enc (grp f (u / 128))).take t) i acc = _
        rw [takeL_more _ _ _ _ hi (by omega), hB, show (u % 128 + 128) % 128 = u % 128 by omega]
        have hp := parts u (2 ^ (7 * i))
        have hP := pow7_pos i
        have hm : 0 ≤ u % 128 * 2 ^ (7 * i) := Int.mul_nonneg (by omega) (by omega)
        exact ih (i + 1) t (u / 128) _ (by omega) (by omega) (by omega) (by rw [pow7]; omega) (by simpa using hlt)

/-- What is taken was written so. -/
theorem taken : ∀ (l : List UInt8) (i : Nat) (acc : Int), i ≤ 9 → 0 ≤ acc → acc < 2 ^ (7 * i) → (takeL l i acc).2.2 = 0 →
    ∃ u : Int, 0 ≤ u ∧ (u ≠ 0 ∨ i = 0) ∧ acc + u * 2 ^ (7 * i) ≤ 18446744073709551615 ∧ (takeL l i acc).1 = zag (acc + u * 2 ^ (7 * i)) ∧ (takeL l i acc).2.1 = (i : Int) + (grp (10 - i) u).length ∧
      (grp (10 - i) u).length ≤ l.length ∧ l.take (grp (10 - i) u).length = enc (grp (10 - i) u) := by
  intro l
  induction l with
  | nil => intro i acc _ _ _ h; simp [takeL] at h
  | cons c r ih =>
    intro i acc h9 h0 ha he
    have hc := c.toNat_lt
    have hP := pow7_pos i
    by_cases hn : i = 9 ∧ 1 < c.toNat
    · rw [takeL_nine _ _ _ _ hn.1 hn.2] at he; simp at he
    · by_cases hm : 128 ≤ c.toNat
      · have hi : i ≠ 9 := by omega
        rw [takeL_more _ _ _ _ hi hm] at he ⊢
        have hm0 : 0 ≤ (c.toNat : Int) % 128 * 2 ^ (7 * i) := Int.mul_nonneg (by omega) (by omega)
        have hm' : (c.toNat : Int) % 128 * 2 ^ (7 * i) ≤ 127 * 2 ^ (7 * i) := Int.mul_le_mul_of_nonneg_right (by omega) (by omega)
        obtain ⟨u, hu0, huz, hut, h1, h2, h3, h4⟩ := ih (i + 1) _ (by omega) (by omega) (by rw [pow7]; omega) he
        have huz' : u ≠ 0 := by omega
        have e1 : ((c.toNat : Int) % 128 + 128 * u) % 128 = (c.toNat : Int) % 128 := by omega
        have e2 : ((c.toNat : Int) % 128 + 128 * u) / 128 = u := by omega
        have hp := parts ((c.toNat : Int) % 128 + 128 * u) (2 ^ (7 * i))
        rw [e1, e2] at hp
        rw [pow7] at hut h1
        have hg : grp (10 - i) ((c.toNat : Int) % 128 + 128 * u) = (c.toNat : Int) :: grp (10 - (i + 1)) u := by
          rw [show 10 - i = (10 - (i + 1)) + 1 by omega, grp_more _ _ (by omega), e1, e2, show (c.toNat : Int) % 128 + 128 = (c.toNat : Int) by omega]
        refine ⟨(c.toNat : Int) % 128 + 128 * u, by omega, by omega, by rw [hp]; omega, ?_, ?_, ?_, ?_⟩
        · rw [h1, hp, Int.add_assoc]
        · rw [h2, hg, List.length_cons]; push_cast; omega
        · rw [hg, List.length_cons, List.length_cons]; omega
        · rw [hg, List.length_cons, List.take_succ_cons, h4]
          simp [enc]
      · by_cases hz : c.toNat = 0 ∧ 0 < i
        · rw [takeL_zero _ _ _ _ hz.2 hz.1] at he; simp at he
        · rw [takeL_end _ _ _ _ (by omega) (by omega) (by omega)] at he ⊢
          have hg : grp (10 - i) (c.toNat : Int) = [(c.toNat : Int)] := grp_last _ _ (by omega) (by omega)
          rw [show (c.toNat : Int) % 128 = (c.toNat : Int) by omega]
          refine ⟨(c.toNat : Int), by omega, by omega, ?_, rfl, by rw [hg]; rfl, by rw [hg]; simp, by rw [hg]; simp [enc]⟩
          by_cases hi : i = 9
          · subst hi
            simp only [Nat.reduceMul, Int.reducePow] at ha ⊢
            omega
          · have h8 : i ≤ 8 := by omega
            have hmm : (c.toNat : Int) * 2 ^ (7 * i) ≤ 127 * 2 ^ (7 * i) := Int.mul_le_mul_of_nonneg_right (by omega) (by omega)
            have hle : (2 : Int) ^ (7 * i) ≤ 2 ^ 56 := by
              exact_mod_cast Nat.pow_le_pow_right (by decide) (show 7 * i ≤ 56 by omega)
            have : (2 : Int) ^ 56 = 72057594037927936 := by decide
            omega

/-! ### of strings -/
theorem extract_list (s : ByteArray) (t : Nat) : (s.extract 0 t).data.toList = s.data.toList.take t := by
  simp [ByteArray.data_extract]
theorem take_bytes (n : Int) (h1 : -9223372036854775808 ≤ n) (h2 : n ≤ 9223372036854775807) (x : ByteArray) : takeOf (bytesOf n ++ x) = (n, ((bytesOf n).size : Int), 0) := by
  obtain ⟨z0, z1⟩ := zig_bd n h1 h2
  have e : (bytesOf n ++ x).data.toList = enc (grp 10 (zig n)) ++ x.data.toList := by rw [← bytesOf_list]; simp [ByteArray.data_append]
  unfold takeOf
  rw [e, takes x.data.toList 10 0 (zig n) 0 (by decide) (by decide) z0 (by omega) (by decide) (by decide) (by omega) (Or.inr rfl), bytesOf_size]
  simp [zag_zig]
theorem take_cut (n : Int) (h1 : -9223372036854775808 ≤ n) (h2 : n ≤ 9223372036854775807) (t : Nat) (ht : t < (bytesOf n).size) : takeOf ((bytesOf n).extract 0 t) = (0, 0, 6) := by
  obtain ⟨z0, z1⟩ := zig_bd n h1 h2
  unfold takeOf
  rw [extract_list, bytesOf_list]
  exact cuts 10 0 t (zig n) 0 (by decide) z0 (by decide) (by omega) (by rw [← bytesOf_size]; exact ht)
theorem grp_len (f : Nat) : ∀ u : Int, (grp f u).length ≤ f := by
  induction f with
  | zero => intro u; simp [grp]
  | succ f ih =>
    intro u
    unfold grp
    split
    · simp
    · simp [ih]
theorem bytes_len (n : Int) : (bytesOf n).size ≤ 10 := by rw [bytesOf_size]; exact grp_len 10 _
theorem bytes_small (n : Int) (h1 : -64 ≤ n) (h2 : n < 64) : (bytesOf n).size = 1 := by
  rw [bytesOf_size, grp_last 10 _ (by unfold zig; split <;> omega) (by decide)]
  rfl
theorem take_back (x : ByteArray) (m j : Int) (h : takeOf x = (m, j, 0)) :
    ∃ q : Nat, j = (q : Int) ∧ q ≤ x.size ∧ -9223372036854775808 ≤ m ∧ m ≤ 9223372036854775807 ∧ bytesOf m = x.extract 0 q := by
  unfold takeOf at h
  obtain ⟨u, hu0, _, hut, e1, e2, e3, e4⟩ := taken x.data.toList 0 0 (by decide) (by decide) (by decide) (by rw [h])
  rw [h] at e1 e2
  simp only [Nat.mul_zero, Int.pow_zero, Int.mul_one, Int.zero_add, Nat.sub_zero] at e1 e2 e3 e4 hut
  obtain ⟨b1, b2⟩ := zag_bd u hu0 hut
  refine ⟨(grp 10 u).length, by simpa using e2, by simpa using e3, by rw [e1]; exact b1, by rw [e1]; exact b2, ?_⟩
  apply ByteArray.ext
  apply Array.toList_inj.1
  rw [bytesOf_list, extract_list, e4, e1, zig_zag u hu0]
end Go.Proofs.YtejgcflcckjlpaaGreatDoor
/- Byte arrays as lists: pieces, and pieces behind each other. -/
namespace Go.Proofs.YtejgcflcckjlpaaGreatDoor
set_option linter.unusedVariables false
set_option maxRecDepth 100000

/-- What stands behind the first n bytes. -/
def from' (s : ByteArray) (n : Int) : ByteArray := s.extract n.toNat s.size
abbrev L (s : ByteArray) : List UInt8 := s.data.toList
theorem L_app (a b : ByteArray) : L (a ++ b) = L a ++ L b := by simp [L, ByteArray.data_append]
theorem L_ext (s : ByteArray) (i j : Nat) : L (s.extract i j) = ((L s).drop i).take (j - i) := Lib.extract_data s i j
theorem L_len (s : ByteArray) : (L s).length = s.size := (Lib.size_eq s).symm
theorem from_app (a b : ByteArray) : from' (a ++ b) (a.size : Int) = b := by
  apply ba_ext
  show L _ = L b
  unfold from'
  rw [L_ext, L_app, Int.toNat_natCast, ← L_len a, List.drop_left, List.take_of_length_le]
  rw [ByteArray.size_append, L_len, L_len]; omega
theorem app_assoc (a b c : ByteArray) : a ++ b ++ c = a ++ (b ++ c) := by
  apply ba_ext; show L _ = L _; simp only [L_app, List.append_assoc]
theorem ext_app (a b : ByteArray) (j : Nat) (h : a.size ≤ j) : (a ++ b).extract 0 j = a ++ b.extract 0 (j - a.size) := by
  apply ba_ext; show L _ = L _
  rw [L_ext, L_app, L_app, L_ext]
  simp only [List.drop_zero, Nat.sub_zero]
  rw [List.take_append, L_len, List.take_of_length_le (by rw [L_len]; exact h)]
theorem ext_left (a b : ByteArray) (j : Nat) (h : j ≤ a.size) : (a ++ b).extract 0 j = a.extract 0 j := by
  apply ba_ext; show L _ = L _
  rw [L_ext, L_app, L_ext]
  simp only [List.drop_zero, Nat.sub_zero]
  rw [List.take_append_of_le_length (by rw [L_len]; exact h)]
theorem ext_mid (a b c : ByteArray) : (a ++ (b ++ c)).extract a.size (a.size + b.size) = b := by
  apply ba_ext; show L _ = L _
  rw [L_ext, L_app, L_app, ← L_len a, List.drop_left, Nat.add_sub_cancel_left, ← L_len b, List.take_left]
theorem nil_app (a : ByteArray) : (⟨#[]⟩ : ByteArray) ++ a = a := by apply ba_ext; show L _ = L _; rw [L_app]; rfl
theorem app_nil (a : ByteArray) : a ++ (⟨#[]⟩ : ByteArray) = a := by apply ba_ext; show L _ = L _; rw [L_app]; simp [L]
end Go.Proofs.YtejgcflcckjlpaaGreatDoor
/- The bytes of cells, and that they undo each other. No program in this text. -/
namespace Go.Proofs.YtejgcflcckjlpaaGreatDoor
open Go.RowKit
set_option linter.unusedVariables false
set_option maxRecDepth 100000

def Num64 (n : Int) : Prop := -9223372036854775808 ≤ n ∧ n ≤ 9223372036854775807
def catB : List Int → ByteArray
  | [] => ⟨#[]⟩
  | x :: l => bytesOf x ++ catB l
/-- The bytes of a cell. -/
def cBytes (agg : Int) (c : Cl) : ByteArray := if agg = 6 then bytesOf (c.2.length : Int) ++ catB c.2 else bytesOf c.1
/-- What stands from a place on. -/
def cFrom (s : ByteArray) (n : Nat) : ByteArray := s.extract n s.size
/-- So many numbers, from a place on: they, where they end, the error. -/
def rdN : Nat → ByteArray → Nat → List Int → List Int × Int × Int
  | 0, _, n, acc => (acc, (n : Int), 0)
  | i + 1, s, n, acc =>
    if (takeOf (cFrom s n)).2.2 ≠ 0 then ([], 0, (takeOf (cFrom s n)).2.2)
    else rdN i s (n + (takeOf (cFrom s n)).2.1.toNat) (acc ++ [(takeOf (cFrom s n)).1])
/-- May a cell be? -/
def mayC (agg : Int) (bound : Nat) (c : Cl) : Bool :=
  if agg = 6 then decide (c.1 = 0) && decide (Rise c.2) && decide (c.2.length ≤ bound) else decide (c.2 = []) && decide (agg = 2 → 0 ≤ c.1 ∧ c.1 ≤ 4611686018427387904)
/-- Which cell bytes begin with: it, how many bytes, the error. -/
def cTake (agg : Int) (bound : Nat) (s : ByteArray) : Cl × Int × Int :=
  if (takeOf s).2.2 ≠ 0 then ((0, []), 0, (takeOf s).2.2)
  else if agg = 6 then
    (if (takeOf s).1 < 0 ∨ (bound : Int) < (takeOf s).1 then ((0, []), 0, 7)
     else if (rdN (takeOf s).1.toNat s (takeOf s).2.1.toNat []).2.2 ≠ 0 then ((0, []), 0, (rdN (takeOf s).1.toNat s (takeOf s).2.1.toNat []).2.2)
     else if mayC agg bound (0, (rdN (takeOf s).1.toNat s (takeOf s).2.1.toNat []).1) = true then ((0, (rdN (takeOf s).1.toNat s (takeOf s).2.1.toNat []).1), (rdN (takeOf s).1.toNat s (takeOf s).2.1.toNat []).2.1, 0)
     else ((0, []), 0, 7))
  else if mayC agg bound ((takeOf s).1, []) = true then (((takeOf s).1, []), (takeOf s).2.1, 0) else ((0, []), 0, 7)
theorem cFrom_app (p x : ByteArray) : cFrom (p ++ x) p.size = x := by
  unfold cFrom
  apply ba_ext
  show L _ = L _
  rw [L_ext, L_app, ByteArray.size_append, ← L_len p, List.drop_left, L_len]
  rw [show p.size + x.size - p.size = x.size by omega, ← L_len x]
  exact List.take_length
theorem rdN_cat : ∀ (l : List Int) (p x : ByteArray) (acc : List Int), (∀ v ∈ l, Num64 v) → rdN l.length (p ++ (catB l ++ x)) p.size acc = (acc ++ l, ((p.size + (catB l).size : Nat) : Int), 0)
  | [], p, x, acc, _ => by
    have e : (catB []).size = 0 := rfl
    rw [e]
    simp [rdN]
  | v :: l, p, x, acc, h => by
    have hv := h v (by simp)
    have e : takeOf (cFrom (p ++ (catB (v :: l) ++ x)) p.size) = (v, ((bytesOf v).size : Int), 0) := by
      rw [cFrom_app, catB, ByteArray.append_assoc]
      exact take_bytes v hv.1 hv.2 _
    rw [List.length_cons, rdN, e]
    simp only [ne_eq, not_true_eq_false, if_false, Int.toNat_natCast]
    have ih := rdN_cat l (p ++ bytesOf v) x (acc ++ [v]) fun z hz => h z (by simp [hz])
    rw [ByteArray.size_append] at ih
    rw [show p ++ (catB (v :: l) ++ x) = p ++ bytesOf v ++ (catB l ++ x) by rw [catB, ByteArray.append_assoc, ByteArray.append_assoc]]
    rw [ih, List.append_assoc, List.singleton_append, catB, ByteArray.size_append]
    rw [Nat.add_assoc]
/-- What is written is taken, whatever stands behind it. -/
theorem cTake_bytes (agg : Int) (bound : Nat) (c : Cl) (x : ByteArray) (hm : mayC agg bound c = true) (hb : bound ≤ 32) (h1 : Num64 c.1) (h2 : ∀ v ∈ c.2, Num64 v) : cTake agg bound (cBytes agg c ++ x) = (c, ((cBytes agg c).size : Int), 0) := by
  obtain ⟨n, l⟩ := c
  simp only at h1 h2
  by_cases h : agg = 6
  · subst h
    have hm' := hm
    unfold mayC at hm
    rw [if_pos rfl] at hm
    simp only [Bool.and_eq_true, decide_eq_true_eq] at hm
    obtain ⟨⟨rfl, _⟩, hl⟩ := hm
    have eb : cBytes 6 (0, l) = bytesOf (l.length : Int) ++ catB l := by unfold cBytes; rw [if_pos rfl]
    have et : takeOf (cBytes 6 (0, l) ++ x) = ((l.length : Int), ((bytesOf (l.length : Int)).size : Int), 0) := by
      rw [eb, ByteArray.append_assoc]
      exact take_bytes _ (by omega) (by omega) _
    have er := rdN_cat l (bytesOf (l.length : Int)) x [] h2
    rw [← ByteArray.append_assoc, ← eb, List.nil_append] at er
    unfold cTake
    rw [et]
    simp only [ne_eq, not_true_eq_false, if_false, if_true, Int.toNat_natCast]
    rw [if_neg (by omega), er]
    simp only [not_true_eq_false, if_false]
    rw [if_pos hm', eb, ByteArray.size_append]
  · have eb : cBytes agg (n, l) = bytesOf n := by unfold cBytes; rw [if_neg h]
    have hl : l = [] := by
      unfold mayC at hm
      rw [if_neg h] at hm
      simp only [Bool.and_eq_true, decide_eq_true_eq] at hm
      exact hm.1
    subst hl
    have et : takeOf (cBytes agg (n, []) ++ x) = (n, ((bytesOf n).size : Int), 0) := by
      rw [eb]
      exact take_bytes _ h1.1 h1.2 _
    unfold cTake
    rw [et]
    simp only [ne_eq, not_true_eq_false, if_false]
    rw [if_neg h, if_pos hm, eb]
end Go.Proofs.YtejgcflcckjlpaaGreatDoor
