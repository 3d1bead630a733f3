/- Texts laid together: Plain, RetI, RBase, CutF, ShiftF, KEq, REq, RRec, ERecO, NRow, EOpen, EEq. -/
import Derived.WalkKit
import Derived.Test.YtkmnpaiippgnmabRows
import Derived.Test.YtkmnpaiippgnmabQ1
import Derived.WalkSpells
import Derived.Laws.StructEq
import Derived.Test.YtkmnpaiippgnmabQ2
import Derived.ProofKit
import Derived.OpenShut
import Derived.ShutString
import Derived.ChangeOld
import Derived.Below
import Derived.Deep.Slices
import Derived.OwnWalk
import Derived.Maps.AppendAt
import Derived.Deep.QuietTactic
import Derived.BigQuiet
import Derived.WalkSmall
/- PLAIN FACTS, without the program: on bits of whole numbers, and what the bytes of a number are. -/
namespace Go.Proofs.Ytkmnpaiippgnmab
open Go.RowKit

/-! ### bits -/
theorem not_u64 (a : Int) (h0 : 0 ≤ a) (h1 : a < 18446744073709551616) : bits .xor .u64 IntKind.u64.max a = 18446744073709551615 - a := by
  obtain ⟨n, rfl⟩ := Int.eq_ofNat_of_zero_le h0
  have hn : n < 2 ^ 64 := by omega
  have hm : IntKind.u64.max = 18446744073709551615 := by decide
  have ha : BitVec.ofInt 64 18446744073709551615 = BitVec.allOnes 64 := by decide
  rw [hm]
  show IntKind.u64.wrap ((BitVec.ofInt 64 18446744073709551615 ^^^ BitVec.ofInt 64 (n : Int)).toNat : Int) = _
  rw [ha, BitVec.allOnes_xor, BitVec.toNat_not, BitVec.ofInt_natCast, BitVec.toNat_ofNat, Nat.mod_eq_of_lt hn, IntKind.wrap_u64]
  omega

theorem not_i64 (a : Int) (h0 : -9223372036854775808 ≤ a) (h1 : a ≤ 9223372036854775807) : bits .xor .i64 (-1) a = -a - 1 := by
  have ha : BitVec.ofInt 64 (-1) = BitVec.allOnes 64 := by decide
  show IntKind.i64.wrap ((BitVec.ofInt 64 (-1) ^^^ BitVec.ofInt 64 a).toNat : Int) = _
  rw [ha, BitVec.allOnes_xor, BitVec.toNat_not, BitVec.toNat_ofInt, IntKind.wrap_i64]
  omega

theorem and_mask (k : Nat) (hk : k < 64) (a : Int) : bits .and .u64 (IntKind.u64.wrap a) (2 ^ k - 1) = a % 2 ^ k := by
  have hm : (2 ^ k : Nat) < 2 ^ 64 := Nat.pow_lt_pow_right (by decide) hk
  have hp : 0 < 2 ^ k := Nat.two_pow_pos k
  have e1 : (BitVec.ofInt 64 (2 ^ k - 1)).toNat = 2 ^ k - 1 := by
    rw [show ((2 : Int) ^ k - 1) = ((2 ^ k - 1 : Nat) : Int) by rw [Int.natCast_sub (by omega)]; push_cast; rfl, BitVec.ofInt_natCast, BitVec.toNat_ofNat]
    exact Nat.mod_eq_of_lt (by omega)
  have e2 : (BitVec.ofInt 64 (IntKind.u64.wrap a)).toNat = (a % 18446744073709551616).toNat := by
    rw [BitVec.toNat_ofInt, IntKind.wrap_u64]
    congr 1
    omega
  show IntKind.u64.wrap ((BitVec.ofInt 64 (IntKind.u64.wrap a) &&& BitVec.ofInt 64 (2 ^ k - 1)).toNat : Int) = _
  rw [BitVec.toNat_and, e1, e2, Nat.and_two_pow_sub_one_eq_mod, IntKind.wrap_u64]
  have h64 : (18446744073709551616 : Int) = 2 ^ k * 2 ^ (64 - k) := by rw [← Int.pow_add, show k + (64 - k) = 64 by omega]; decide
  have e3 : (((a % 18446744073709551616).toNat % 2 ^ k : Nat) : Int) = a % 2 ^ k := by
    rw [Int.natCast_emod, Int.toNat_of_nonneg (by omega)]
    push_cast
    rw [h64]
    exact Int.emod_emod_of_dvd _ (Int.dvd_mul_right _ _)
  rw [e3]
  have hlt : a % 2 ^ k < 18446744073709551616 := by
    have := Int.emod_lt_of_pos a (show (0 : Int) < 2 ^ k from by exact_mod_cast hp)
    have h2 : (2 : Int) ^ k < 18446744073709551616 := by
      rw [show (2 : Int) ^ k = ((2 ^ k : Nat) : Int) by push_cast; rfl]
      omega
    omega
  exact Int.emod_eq_of_lt (Int.emod_nonneg _ (by have : (0 : Int) < 2 ^ k := by exact_mod_cast hp
                                                 omega)) hlt

theorem and1 (u : Int) (h0 : 0 ≤ u) (h1 : u ≤ 18446744073709551615) : bits .and .u64 u 1 = u % 2 := by
  have := and_mask 1 (by decide) u
  rw [IntWalk.u64_in u ⟨h0, h1⟩] at this
  exact this

/-- 'x | y' where x has bits from i on alone, and y below. -/
theorem or_join (i : Nat) (x y : Int) (hx0 : 0 ≤ x) (hx1 : x < 18446744073709551616) (hx : x % 2 ^ i = 0) (hy0 : 0 ≤ y) (hy : y < 2 ^ i) (hy1 : y < 18446744073709551616) : bits .or .u64 y x = x + y := by
  obtain ⟨n, rfl⟩ := Int.eq_ofNat_of_zero_le hx0
  obtain ⟨m, rfl⟩ := Int.eq_ofNat_of_zero_le hy0
  have h := nat_join i n m (by exact_mod_cast hx) (by exact_mod_cast hy)
  rw [bits_or_u64_nat m n (by omega) (by omega), Nat.or_comm, h]
  push_cast
  rfl

theorem or128 (u : Int) : bits .or .u8 (IntKind.u8.wrap u) 128 = u % 128 + 128 := by
  rw [IntKind.wrap_u8']
  have key : ∀ n : Nat, n < 256 → bits .or .u8 (n : Int) 128 = (n : Int) % 128 + 128 := by decide +kernel
  obtain ⟨n, hn⟩ := Int.eq_ofNat_of_zero_le (show 0 ≤ u % 256 by omega)
  rw [hn, key n (by omega)]
  omega

theorem andNot128 (u : Int) (h0 : 0 ≤ u) (h1 : u < 256) : bits .andNot .u8 u 128 = u % 128 := by
  have key : ∀ n : Nat, n < 256 → bits .andNot .u8 (n : Int) 128 = (n : Int) % 128 := by decide +kernel
  obtain ⟨n, rfl⟩ := Int.eq_ofNat_of_zero_le h0
  exact key n (by omega)

/-! ### the bytes of a number -/
/-- The number, turned: twice n, or -2n - 1. -/
def zig (n : Int) : Int := if n < 0 then -2 * n - 1 else 2 * n
def zag (u : Int) : Int := if u % 2 = 1 then -(u / 2) - 1 else u / 2
theorem zig_bd (n : Int) (h0 : -9223372036854775808 ≤ n) (h1 : n ≤ 9223372036854775807) : 0 ≤ zig n ∧ zig n ≤ 18446744073709551615 := by unfold zig; split <;> omega
theorem zag_zig (n : Int) : zag (zig n) = n := by unfold zag zig; split <;> split <;> omega
theorem zig_zag (u : Int) (h : 0 ≤ u) : zig (zag u) = u := by unfold zag zig; split <;> split <;> omega
theorem zag_bd (u : Int) (h0 : 0 ≤ u) (h1 : u ≤ 18446744073709551615) : -9223372036854775808 ≤ zag u ∧ zag u ≤ 9223372036854775807 := by unfold zag; split <;> omega

/-- Seven bits a byte, the lowest first, each but the last with 128 more. -/
def grp : Nat → Int → List Int
  | 0, _ => []
  | f + 1, u => if u < 128 then [u] else (u % 128 + 128) :: grp f (u / 128)

theorem grp_last (f : Nat) (u : Int) (h : u < 128) (hf : 0 < f) : grp f u = [u] := by
  obtain ⟨f, rfl⟩ := Nat.exists_eq_succ_of_ne_zero (Nat.pos_iff_ne_zero.1 hf)
  simp [grp, h]
theorem grp_more (f : Nat) (u : Int) (h : ¬ u < 128) : grp (f + 1) u = (u % 128 + 128) :: grp f (u / 128) := by simp [grp, h]

/-- What holds of the loop: so many bytes are there, so much is left. -/
def Left (u0 u : Int) (l : List Int) : Prop := ∃ f, 0 < f ∧ l.length + f = 10 ∧ 0 ≤ u ∧ u < 2 ^ (7 * f) ∧ l ++ grp f u = grp 10 u0

theorem left_start (u : Int) (h0 : 0 ≤ u) (h1 : u ≤ 18446744073709551615) : Left u u [] := ⟨10, by decide, rfl, h0, by omega, rfl⟩
theorem left_step {u0 u : Int} {l : List Int} (h : Left u0 u l) (h1 : ¬ u < 128) : Left u0 (u / 128) (l ++ [u % 128 + 128]) := by
  obtain ⟨f, hf, hl, h0, hu, he⟩ := h
  match f, hf with
  | 1, _ => exact absurd hu (by omega)
  | f + 2, _ =>
    refine ⟨f + 1, by omega, by simp; omega, by omega, ?_, ?_⟩
    · have : (2 : Int) ^ (7 * (f + 2)) = 2 ^ (7 * (f + 1)) * 128 := by rw [show 7 * (f + 2) = 7 * (f + 1) + 7 by omega, Int.pow_add]; rfl
      rw [this] at hu
      exact Int.ediv_lt_of_lt_mul (by decide) hu
    · rw [← he, grp_more _ _ h1]; simp
theorem left_end {u0 u : Int} {l : List Int} (h : Left u0 u l) (h1 : u < 128) : l ++ [u] = grp 10 u0 := by
  obtain ⟨f, hf, hl, h0, hu, he⟩ := h
  rw [← he, grp_last f u h1 hf]
theorem left_len {u0 u : Int} {l : List Int} (h : Left u0 u l) : l.length ≤ 9 := by obtain ⟨f, hf, hl, _⟩ := h; omega
theorem left_pos {u0 u : Int} {l : List Int} (h : Left u0 u l) : 0 ≤ u := by obtain ⟨f, hf, hl, h0, _⟩ := h; exact h0

def bytesOf (n : Int) : ByteArray := strOfNums (grp 10 (zig n))

/-! ### what a string begins with -/
/-- The bytes that are left, where the first of them stands, what has been gathered: the number, how many bytes, the error. -/
def takeL : List UInt8 → Nat → Int → Int × Int × Int
  | [], _, _ => (0, 0, 6)
  | c :: r, i, u =>
    if i = 9 ∧ 1 < c.toNat then (0, 0, 7)
    else if 128 ≤ c.toNat then takeL r (i + 1) (u + (c.toNat : Int) % 128 * 2 ^ (7 * i))
    else if c.toNat = 0 ∧ 0 < i then (0, 0, 7)
    else (zag (u + (c.toNat : Int) % 128 * 2 ^ (7 * i)), (i : Int) + 1, 0)
def takeOf (s : ByteArray) : Int × Int × Int := takeL s.data.toList 0 0

theorem takeL_nil (i : Nat) (u : Int) : takeL [] i u = (0, 0, 6) := rfl
theorem takeL_nine (c : UInt8) (r : List UInt8) (i : Nat) (u : Int) (h : i = 9) (hc : 1 < c.toNat) : takeL (c :: r) i u = (0, 0, 7) := by simp [takeL, h, hc]
theorem takeL_more (c : UInt8) (r : List UInt8) (i : Nat) (u : Int) (h : i ≠ 9) (hc : 128 ≤ c.toNat) : takeL (c :: r) i u = takeL r (i + 1) (u + (c.toNat : Int) % 128 * 2 ^ (7 * i)) := by
  simp [takeL, h, hc]
theorem takeL_zero (c : UInt8) (r : List UInt8) (i : Nat) (u : Int) (h : 0 < i) (hc : c.toNat = 0) : takeL (c :: r) i u = (0, 0, 7) := by simp [takeL, h, hc]
theorem takeL_end (c : UInt8) (r : List UInt8) (i : Nat) (u : Int) (h9 : i = 9 → c.toNat ≤ 1) (hc : c.toNat < 128) (h0 : c.toNat ≠ 0 ∨ i = 0) :
    takeL (c :: r) i u = (zag (u + (c.toNat : Int) % 128 * 2 ^ (7 * i)), (i : Int) + 1, 0) := by
  rw [takeL, if_neg (by omega), if_neg (by omega), if_neg (by omega)]

theorem or_step (k : Nat) (x c : Int) (hx0 : 0 ≤ x) (hx : x < 2 ^ (7 * k)) (hc0 : 0 ≤ c) (hc : c < 256) (hk : k ≤ 8 ∨ k = 9 ∧ c ≤ 1) :
    bits .or .u64 x (IntKind.u64.wrap (IntKind.u64.wrap (bits .andNot .u8 c 128) * 2 ^ (7 * k))) = x + c % 128 * 2 ^ (7 * k) ∧ 0 ≤ x + c % 128 * 2 ^ (7 * k) ∧ x + c % 128 * 2 ^ (7 * k) ≤ 18446744073709551615 ∧
      (k ≤ 8 → x + c % 128 * 2 ^ (7 * k) < 2 ^ (7 * (k + 1))) := by
  rw [andNot128 c hc0 hc, IntWalk.u64_in (c % 128) (by omega)]
  have hk' : k = 0 ∨ k = 1 ∨ k = 2 ∨ k = 3 ∨ k = 4 ∨ k = 5 ∨ k = 6 ∨ k = 7 ∨ k = 8 ∨ k = 9 := by omega
  rcases hk' with rfl | rfl | rfl | rfl | rfl | rfl | rfl | rfl | rfl | rfl
  all_goals
    simp only [Nat.reduceMul, Nat.reduceAdd, Int.reducePow] at hx ⊢
    rw [IntWalk.u64_in _ (by omega)]
  all_goals refine ⟨?_, by omega, by omega, by omega⟩
  · rw [or_join 0 (c % 128 * 1) x (by omega) (by omega) (by omega) (by omega) (by omega) (by omega)]; omega
  · rw [or_join 7 (c % 128 * _) x (by omega) (by omega) (by omega) (by omega) (by omega) (by omega)]; omega
  · rw [or_join 14 (c % 128 * _) x (by omega) (by omega) (by omega) (by omega) (by omega) (by omega)]; omega
  · rw [or_join 21 (c % 128 * _) x (by omega) (by omega) (by omega) (by omega) (by omega) (by omega)]; omega
  · rw [or_join 28 (c % 128 * _) x (by omega) (by omega) (by omega) (by omega) (by omega) (by omega)]; omega
  · rw [or_join 35 (c % 128 * _) x (by omega) (by omega) (by omega) (by omega) (by omega) (by omega)]; omega
  · rw [or_join 42 (c % 128 * _) x (by omega) (by omega) (by omega) (by omega) (by omega) (by omega)]; omega
  · rw [or_join 49 (c % 128 * _) x (by omega) (by omega) (by omega) (by omega) (by omega) (by omega)]; omega
  · rw [or_join 56 (c % 128 * _) x (by omega) (by omega) (by omega) (by omega) (by omega) (by omega)]; omega
  · rw [or_join 63 (c % 128 * _) x (by omega) (by omega) (by omega) (by omega) (by omega) (by omega)]; omega

theorem drop_byte (s : ByteArray) (k : Nat) (h : k < s.size) : s.data.toList.drop k = s[k] :: s.data.toList.drop (k + 1) := by
  rw [List.drop_eq_getElem_cons (by simpa using h)]; rfl
theorem drop_end (s : ByteArray) (k : Nat) (h : s.size ≤ k) : s.data.toList.drop k = [] := List.drop_of_length_le (by simpa using h)
end Go.Proofs.Ytkmnpaiippgnmab
/- An ending that returns a number. -/
namespace Go.Proofs.Ytkmnpaiippgnmab
open Go.RowKit
set_option linter.unusedVariables false
set_option maxRecDepth 100000

theorem ret_int {k : IntKind} {a b : Int} (h : a = b) : Ending.returned (.int k a) = .returned (.int k b) := by rw [h]
end Go.Proofs.Ytkmnpaiippgnmab
/- Records as pairs of a key and a number. -/
namespace Go.Proofs.Ytkmnpaiippgnmab
set_option linter.unusedVariables false
set_option maxRecDepth 100000

abbrev Rc := Ky × Int
abbrev r0 : Rc := (k0, 0)
def encR (x : Rc) : List Value := [.int .i64 x.1.1, .string x.1.2, .int .i64 x.2]
end Go.Proofs.Ytkmnpaiippgnmab
/- num.Cut and the page's own: what each answers, at 8, 16 and 32 bits, with a sign and without, for every number. -/
namespace Go.Proofs.Ytkmnpaiippgnmab
open Go.RowKit
set_option linter.unusedVariables false
set_option maxRecDepth 100000

theorem mask8 (n : Int) : bits .and .u64 (IntKind.u64.wrap n) 255 = n % 256 := and_mask 8 (by decide) n
theorem mask16 (n : Int) : bits .and .u64 (IntKind.u64.wrap n) 65535 = n % 65536 := and_mask 16 (by decide) n
theorem mask32 (n : Int) : bits .and .u64 (IntKind.u64.wrap n) 4294967295 = n % 4294967296 := and_mask 32 (by decide) n
theorem wrap_i8 (n : Int) : IntKind.i8.wrap n = (n + 128) % 256 - 128 := by
  simp only [IntKind.wrap, IntKind.bits, IntKind.signed]; simp; split <;> omega
theorem wrap_i16 (n : Int) : IntKind.i16.wrap n = (n + 32768) % 65536 - 32768 := by
  simp only [IntKind.wrap, IntKind.bits, IntKind.signed]; simp; split <;> omega

/-- What stands above 8 bits is filled with ones. -/
theorem fill8 (n : Int) : bits .or .u64 (n % 256) (IntKind.u64.wrap 4722366482869645213440) = n % 256 + 18446744073709551360 := by
  rw [IntKind.wrap_u64, show (4722366482869645213440 : Int) % 18446744073709551616 = 18446744073709551360 by decide, or_join 8 18446744073709551360 (n % 256) (by decide) (by decide) (by decide) (by omega) (by omega) (by omega)]; omega

/-- What stands above 16 bits is filled with ones. -/
theorem fill16 (n : Int) : bits .or .u64 (n % 65536) (IntKind.u64.wrap 1208925819614629174640640) = n % 65536 + 18446744073709486080 := by
  rw [IntKind.wrap_u64, show (1208925819614629174640640 : Int) % 18446744073709551616 = 18446744073709486080 by decide, or_join 16 18446744073709486080 (n % 65536) (by decide) (by decide) (by decide) (by omega) (by omega) (by omega)]; omega

/-- What stands above 32 bits is filled with ones. -/
theorem fill32 (n : Int) : bits .or .u64 (n % 4294967296) (IntKind.u64.wrap 79228162514264337589248983040) = n % 4294967296 + 18446744069414584320 := by
  rw [IntKind.wrap_u64, show (79228162514264337589248983040 : Int) % 18446744073709551616 = 18446744069414584320 by decide, or_join 32 18446744069414584320 (n % 4294967296) (by decide) (by decide) (by decide) (by omega) (by omega) (by omega)]; omega

theorem cut_8f (n : Int) (w : World) : Calls Try.prog 51 #[.int .i64 n, .int .i64 8, .bool false] w fun e w' => e = .returned (.tuple #[.int .i64 (n % 256), .int .i64 0]) ∧ w' = w := by
  go_enter Try.func51, Try.ntmps51
  go_wp2
  go_ret2
  exact ⟨rfl, rfl⟩
theorem rcut_8f (n : Int) (w : World) : Calls Try.prog 44 #[.int .i64 n, .int .i64 8, .bool false] w fun e w' => e = .returned (.int .i64 (n % 256)) ∧ w' = w := by
  have hm := mask8 n
  go_enter Try.func44, Try.ntmps44
  go_wp2
  go_ret
  exact ⟨rfl, rfl⟩

theorem cut_16f (n : Int) (w : World) : Calls Try.prog 51 #[.int .i64 n, .int .i64 16, .bool false] w fun e w' => e = .returned (.tuple #[.int .i64 (wrap64 (IntKind.u16.wrap n)), .int .i64 0]) ∧ w' = w := by
  go_enter Try.func51, Try.ntmps51
  go_wp2
  go_ret2
  exact ⟨rfl, rfl⟩
theorem rcut_16f (n : Int) (w : World) : Calls Try.prog 44 #[.int .i64 n, .int .i64 16, .bool false] w fun e w' => e = .returned (.int .i64 (wrap64 (IntKind.u16.wrap n))) ∧ w' = w := by
  have hm := mask16 n
  have H : Hid (n % 65536 = wrap64 (IntKind.u16.wrap n)) := by unfold Hid wrap64; rw [IntKind.wrap_u16]; omega
  go_enter Try.func44, Try.ntmps44
  go_wp2
  go_ret
  exact ⟨ret_int H.out, rfl⟩

theorem cut_32f (n : Int) (w : World) : Calls Try.prog 51 #[.int .i64 n, .int .i64 32, .bool false] w fun e w' => e = .returned (.tuple #[.int .i64 (n % 4294967296), .int .i64 0]) ∧ w' = w := by
  go_enter Try.func51, Try.ntmps51
  go_wp2
  go_ret2
  exact ⟨rfl, rfl⟩
theorem rcut_32f (n : Int) (w : World) : Calls Try.prog 44 #[.int .i64 n, .int .i64 32, .bool false] w fun e w' => e = .returned (.int .i64 (n % 4294967296)) ∧ w' = w := by
  have hm := mask32 n
  go_enter Try.func44, Try.ntmps44
  go_wp2
  go_ret
  exact ⟨rfl, rfl⟩

theorem cut_8t (n : Int) (w : World) : Calls Try.prog 51 #[.int .i64 n, .int .i64 8, .bool true] w fun e w' => e = .returned (.tuple #[.int .i64 (wrap64 (IntKind.i8.wrap n)), .int .i64 0]) ∧ w' = w := by
  go_enter Try.func51, Try.ntmps51
  go_wp2
  go_ret2
  exact ⟨rfl, rfl⟩
theorem rcut_8t (n : Int) (w : World) : Calls Try.prog 44 #[.int .i64 n, .int .i64 8, .bool true] w fun e w' => e = .returned (.int .i64 (wrap64 (IntKind.i8.wrap n))) ∧ w' = w := by
  have hm := mask8 n
  have hf := fill8 n
  by_cases h : n % 256 < 128
  · have ht : (n % 256 / 128 == 1) = false := by simp; omega
    have H : Hid (n % 256 = wrap64 (IntKind.i8.wrap n)) := by unfold Hid wrap64; rw [wrap_i8]; omega
    clear h hf
    go_enter Try.func44, Try.ntmps44
    go_wp2
    go_ret
    exact ⟨ret_int H.out, rfl⟩
  · have ht : (n % 256 / 128 == 1) = true := by simp; omega
    have H : Hid (wrap64 (n % 256 + 18446744073709551360) = wrap64 (IntKind.i8.wrap n)) := by unfold Hid wrap64; rw [wrap_i8]; omega
    clear h
    go_enter Try.func44, Try.ntmps44
    go_wp2
    go_ret
    exact ⟨ret_int H.out, rfl⟩

theorem cut_16t (n : Int) (w : World) : Calls Try.prog 51 #[.int .i64 n, .int .i64 16, .bool true] w fun e w' => e = .returned (.tuple #[.int .i64 (wrap64 (IntKind.i16.wrap n)), .int .i64 0]) ∧ w' = w := by
  go_enter Try.func51, Try.ntmps51
  go_wp2
  go_ret2
  exact ⟨rfl, rfl⟩
theorem rcut_16t (n : Int) (w : World) : Calls Try.prog 44 #[.int .i64 n, .int .i64 16, .bool true] w fun e w' => e = .returned (.int .i64 (wrap64 (IntKind.i16.wrap n))) ∧ w' = w := by
  have hm := mask16 n
  have hf := fill16 n
  by_cases h : n % 65536 < 32768
  · have ht : (n % 65536 / 32768 == 1) = false := by simp; omega
    have H : Hid (n % 65536 = wrap64 (IntKind.i16.wrap n)) := by unfold Hid wrap64; rw [wrap_i16]; omega
    clear h hf
    go_enter Try.func44, Try.ntmps44
    go_wp2
    go_ret
    exact ⟨ret_int H.out, rfl⟩
  · have ht : (n % 65536 / 32768 == 1) = true := by simp; omega
    have H : Hid (wrap64 (n % 65536 + 18446744073709486080) = wrap64 (IntKind.i16.wrap n)) := by unfold Hid wrap64; rw [wrap_i16]; omega
    clear h
    go_enter Try.func44, Try.ntmps44
    go_wp2
    go_ret
    exact ⟨ret_int H.out, rfl⟩

theorem cut_32t (n : Int) (w : World) : Calls Try.prog 51 #[.int .i64 n, .int .i64 32, .bool true] w fun e w' => e = .returned (.tuple #[.int .i64 (wrap64 (wrap32 n)), .int .i64 0]) ∧ w' = w := by
  go_enter Try.func51, Try.ntmps51
  go_wp2
  go_ret2
  exact ⟨rfl, rfl⟩
theorem rcut_32t (n : Int) (w : World) : Calls Try.prog 44 #[.int .i64 n, .int .i64 32, .bool true] w fun e w' => e = .returned (.int .i64 (wrap64 (wrap32 n))) ∧ w' = w := by
  have hm := mask32 n
  have hf := fill32 n
  by_cases h : n % 4294967296 < 2147483648
  · have ht : (n % 4294967296 / 2147483648 == 1) = false := by simp; omega
    have H : Hid (n % 4294967296 = wrap64 (wrap32 n)) := by unfold Hid wrap64; unfold wrap32; omega
    clear h hf
    go_enter Try.func44, Try.ntmps44
    go_wp2
    go_ret
    exact ⟨ret_int H.out, rfl⟩
  · have ht : (n % 4294967296 / 2147483648 == 1) = true := by simp; omega
    have H : Hid (wrap64 (n % 4294967296 + 18446744069414584320) = wrap64 (wrap32 n)) := by unfold Hid wrap64; unfold wrap32; omega
    clear h
    go_enter Try.func44, Try.ntmps44
    go_wp2
    go_ret
    exact ⟨ret_int H.out, rfl⟩
end Go.Proofs.Ytkmnpaiippgnmab
/- num.Shift and the page's own: what each answers, each way, for every number and every number of places. -/
namespace Go.Proofs.Ytkmnpaiippgnmab
open Go.RowKit
set_option linter.unusedVariables false
set_option maxRecDepth 100000

/-- To the left; to the right, with the sign; without. -/
def shL (n : Int) (k : Nat) : Int := wrap64 (n * 2 ^ k)
def shR (n : Int) (k : Nat) : Int := n / 2 ^ k
def shP (n : Int) (k : Nat) : Int := wrap64 (IntKind.u64.wrap n / 2 ^ k)

theorem mod64 (b : Int) (k : Nat) (hk : b % 64 = k) : (IntKind.u64.wrap b).tmod 64 = k := by
  rw [IntKind.wrap_u64, Int.tmod_eq_emod_of_nonneg (by omega)]; omega

theorem shift_0 (n b : Int) (k : Nat) (hk : b % 64 = k) (w : World) : Calls Try.prog 50 #[.int .i64 n, .int .i64 b, .int .i64 0] w fun e w' => e = .returned (.tuple #[.int .i64 (shL n k), .int .i64 0]) ∧ w' = w := by
  have hm := mod64 b k hk
  have h63 : k ≤ 63 := by omega
  clear hk
  go_enter Try.func50, Try.ntmps50
  go_wp2
  go_ret2
  exact ⟨rfl, rfl⟩
theorem shift_1 (n b : Int) (k : Nat) (hk : b % 64 = k) (w : World) : Calls Try.prog 50 #[.int .i64 n, .int .i64 b, .int .i64 1] w fun e w' => e = .returned (.tuple #[.int .i64 (shR n k), .int .i64 0]) ∧ w' = w := by
  have hm := mod64 b k hk
  have h63 : k ≤ 63 := by omega
  clear hk
  go_enter Try.func50, Try.ntmps50
  go_wp2
  go_ret2
  exact ⟨rfl, rfl⟩
theorem shift_2 (n b : Int) (k : Nat) (hk : b % 64 = k) (w : World) : Calls Try.prog 50 #[.int .i64 n, .int .i64 b, .int .i64 2] w fun e w' => e = .returned (.tuple #[.int .i64 (shP n k), .int .i64 0]) ∧ w' = w := by
  have hm := mod64 b k hk
  have h63 : k ≤ 63 := by omega
  clear hk
  go_enter Try.func50, Try.ntmps50
  go_wp2
  go_ret2
  exact ⟨rfl, rfl⟩

theorem rmod64 (b : Int) : bits .and .u64 (IntKind.u64.wrap b) 63 = ((b % 64).toNat : Int) := by
  rw [show (63 : Int) = 2 ^ 6 - 1 by decide, and_mask 6 (by decide) b]; omega

theorem rshift_0 (n b : Int) (w : World) : Calls Try.prog 53 #[.int .i64 n, .int .i64 b, .int .i64 0] w fun e w' => e = .returned (.int .i64 (shL n (b % 64).toNat)) ∧ w' = w := by
  have hm := rmod64 b
  have h63 : (b % 64).toNat ≤ 63 := by omega
  generalize (b % 64).toNat = k at *
  go_enter Try.func53, Try.ntmps53
  go_wp2
  go_ret
  exact ⟨rfl, rfl⟩
theorem rshift_1 (n b : Int) (w : World) : Calls Try.prog 53 #[.int .i64 n, .int .i64 b, .int .i64 1] w fun e w' => e = .returned (.int .i64 (shR n (b % 64).toNat)) ∧ w' = w := by
  have hm := rmod64 b
  have h63 : (b % 64).toNat ≤ 63 := by omega
  generalize (b % 64).toNat = k at *
  go_enter Try.func53, Try.ntmps53
  go_wp2
  go_ret
  exact ⟨rfl, rfl⟩
theorem rshift_2 (n b : Int) (w : World) : Calls Try.prog 53 #[.int .i64 n, .int .i64 b, .int .i64 2] w fun e w' => e = .returned (.int .i64 (shP n (b % 64).toNat)) ∧ w' = w := by
  have hm := rmod64 b
  have h63 : (b % 64).toNat ≤ 63 := by omega
  generalize (b % 64).toNat = k at *
  go_enter Try.func53, Try.ntmps53
  go_wp2
  go_ret
  exact ⟨rfl, rfl⟩
theorem shiftv_0 (n b : Int) (w : World) : Calls Try.prog 50 #[.int .i64 n, .int .i64 b, .int .i64 0] w fun e w' => e = .returned (.tuple #[.int .i64 (shL n (b % 64).toNat), .int .i64 0]) ∧ w' = w := shift_0 n b _ (by omega) w
theorem shiftv_1 (n b : Int) (w : World) : Calls Try.prog 50 #[.int .i64 n, .int .i64 b, .int .i64 1] w fun e w' => e = .returned (.tuple #[.int .i64 (shR n (b % 64).toNat), .int .i64 0]) ∧ w' = w := shift_1 n b _ (by omega) w
theorem shiftv_2 (n b : Int) (w : World) : Calls Try.prog 50 #[.int .i64 n, .int .i64 b, .int .i64 2] w fun e w' => e = .returned (.tuple #[.int .i64 (shP n (b % 64).toNat), .int .i64 0]) ∧ w' = w := shift_2 n b _ (by omega) w
end Go.Proofs.Ytkmnpaiippgnmab
/- == at keys. -/
namespace Go.Proofs.Ytkmnpaiippgnmab
open Go.RowKit
set_option linter.unusedVariables false
set_option maxRecDepth 100000

/-! ### == at keys -/
def eqB (x y : Ky) : Bool := decide (x = y)
theorem eqB_self (x : Ky) : eqB x x = true := by simp [eqB]
theorem eqK (a c : Int) (b d : ByteArray) (w : World) : (binOp .eql 38 (.agg #[.int .i64 a, .string b]) (.agg #[.int .i64 c, .string d])).run Try.prog w = .ok (.bool (eqB (a, b) (c, d))) w := by
  have u2 := Try.underlying2
  have u9 := Try.underlying9
  have a2 := Try.isAgg2
  have z2 := Try.sizeOf2
  have a9 := Try.isAgg9
  have z9 := Try.sizeOf9
  have hS : Try.prog.underlying 38 = some (.struct (Try.prog.fieldsOf 38)) := by kernel_rfl
  have hp : Try.prog.stoodInHeld 38 = false := by kernel_rfl
  rw [run_eql_struct, show (10000 : Nat) = 9999 + 1 from rfl, run_equalIn_agg w 9999 38 _ _ hS hp]
  simp only [Program.fieldsOf, Try.underlying38]
  go_simp
  have hiff : (b.data.toList = d.data.toList) ↔ b = d := ⟨ba_ext, fun e => by rw [e]⟩
  by_cases h1 : a = c <;> by_cases h2 : b = d <;> simp [eqB, h1, h2, ByteArray.toList_eq, hiff]
theorem neK (a c : Int) (b d : ByteArray) (w : World) : (binOp .neq 38 (.agg #[.int .i64 a, .string b]) (.agg #[.int .i64 c, .string d])).run Try.prog w = .ok (.bool (!eqB (a, b) (c, d))) w := by
  have h := eqK a c b d w
  rw [run_eql_struct] at h
  rw [run_neq_struct]
  cases h1 : (Op.equalIn 10000 38 (.agg #[.int .i64 a, .string b]) (.agg #[.int .i64 c, .string d])).run Try.prog w with
  | ok v w' => rw [h1] at h; simp only [Result.andThen] at h ⊢; injection h with h2 h3; injection h2 with h2; rw [h2, h3]
  | _ => rw [h1] at h; simp only [Result.andThen] at h; cases h
theorem guardK (op : BinOp) (p q : Operand) (xs ys : Array Value) (w : World) : (eqGuard op 38 p q (.agg xs) (.agg ys)).run Try.prog w = .ok () w :=
  run_eqGuard_agg w op 38 p q xs ys (by kernel_rfl)

end Go.Proofs.Ytkmnpaiippgnmab
/- == at records. -/
namespace Go.Proofs.Ytkmnpaiippgnmab
open Go.RowKit
set_option linter.unusedVariables false
set_option maxRecDepth 100000

def eqC (x y : Rc) : Bool := decide (x = y)
theorem eqC_self (x : Rc) : eqC x x = true := by simp [eqC]
theorem eqR (a c v u : Int) (b d : ByteArray) (w : World) : (binOp .eql 40 (.agg #[.int .i64 a, .string b, .int .i64 v]) (.agg #[.int .i64 c, .string d, .int .i64 u])).run Try.prog w = .ok (.bool (eqC ((a, b), v) ((c, d), u))) w := by
  have u2 := Try.underlying2
  have u9 := Try.underlying9
  have a2 := Try.isAgg2
  have z2 := Try.sizeOf2
  have a9 := Try.isAgg9
  have z9 := Try.sizeOf9
  have ak := Try.isAgg38
  have zk := Try.sizeOf38
  have hS : Try.prog.underlying 40 = some (.struct (Try.prog.fieldsOf 40)) := by kernel_rfl
  have hp : Try.prog.stoodInHeld 40 = false := by kernel_rfl
  have hS2 : Try.prog.underlying 38 = some (.struct (Try.prog.fieldsOf 38)) := by kernel_rfl
  have hp2 : Try.prog.stoodInHeld 38 = false := by kernel_rfl
  have hk : ∀ W, (Op.equalIn 9999 38 (.agg #[.int .i64 a, .string b]) (.agg #[.int .i64 c, .string d])).run Try.prog W = .ok (eqB (a, b) (c, d)) W := fun W => by
    rw [show (9999 : Nat) = 9998 + 1 from rfl, run_equalIn_agg W 9998 38 _ _ hS2 hp2]
    simp only [Program.fieldsOf, Try.underlying38]
    go_simp
    have hiff : (b.data.toList = d.data.toList) ↔ b = d := ⟨ba_ext, fun e => by rw [e]⟩
    by_cases h1 : a = c <;> by_cases h2 : b = d <;> simp [eqB, h1, h2, ByteArray.toList_eq, hiff]
  rw [run_eql_struct, show (10000 : Nat) = 9999 + 1 from rfl, run_equalIn_agg w 9999 40 _ _ hS hp]
  simp only [Program.fieldsOf, Try.underlying40]
  go_simp
  by_cases h1 : (a, b) = (c, d) <;> by_cases h2 : v = u <;> simp [eqB, eqC, h1, h2]
theorem guardR (op : BinOp) (p q : Operand) (xs ys : Array Value) (w : World) : (eqGuard op 40 p q (.agg xs) (.agg ys)).run Try.prog w = .ok () w :=
  run_eqGuard_agg w op 40 p q xs ys (by kernel_rfl)
theorem neR (a c v u : Int) (b d : ByteArray) (w : World) : (binOp .neq 40 (.agg #[.int .i64 a, .string b, .int .i64 v]) (.agg #[.int .i64 c, .string d, .int .i64 u])).run Try.prog w = .ok (.bool (!eqC ((a, b), v) ((c, d), u))) w := by
  have h := eqR a c v u b d w
  rw [run_eql_struct] at h
  rw [run_neq_struct]
  cases h1 : (Op.equalIn 10000 40 (.agg #[.int .i64 a, .string b, .int .i64 v]) (.agg #[.int .i64 c, .string d, .int .i64 u])).run Try.prog w with
  | ok v w' => rw [h1] at h; simp only [Result.andThen] at h ⊢; injection h with h2 h3; injection h2 with h2; rw [h2, h3]
  | _ => rw [h1] at h; simp only [Result.andThen] at h; cases h
end Go.Proofs.Ytkmnpaiippgnmab
/- A slice of records: what its cells hold. -/
namespace Go.Proofs.Ytkmnpaiippgnmab
open Go.RowKit
set_option linter.unusedVariables false
set_option maxRecDepth 100000

theorem Try.cellsRec : Try.prog.cellsOf 40 = 3 := by kernel_rfl
theorem Try.cellsKey : Try.prog.cellsOf 38 = 2 := by kernel_rfl
theorem Try.bytesRec : Try.prog.bytesOf 40 = 32 := by kernel_rfl
theorem Try.cellsRecs : Try.prog.cellsOf 26 = 1 := by kernel_rfl

/-- Numbers that an int64 holds, a text that may be. -/
structure Wr (x : Rc) : Prop where
  k1 : -9223372036854775808 ≤ x.1.1
  k2 : x.1.1 ≤ 9223372036854775807
  txt : x.1.2.size ≤ 140737488351232
  v1 : -9223372036854775808 ≤ x.2
  v2 : x.2 ≤ 9223372036854775807
def Wf (l : List Rc) : Prop := ∀ x ∈ l, Wr x

/-- From (b, off) on the records of l lie, one behind the other. -/
def RecsAt (w : World) (b off : Nat) (l : List Rc) : Prop :=
  ∀ i x, l[i]? = some x → w.cell? ⟨b, off + i * 3, none⟩ = some (.int .i64 x.1.1) ∧ w.cell? ⟨b, off + i * 3 + 1, none⟩ = some (.string x.1.2) ∧ w.cell? ⟨b, off + i * 3 + 2, none⟩ = some (.int .i64 x.2)

/-- The slice v holds the records l. -/
def RS (w : World) (v : Value) (l : List Rc) : Prop :=
  ∃ a cap, v = .slice a l.length cap ∧ (l = [] ∨ ∃ b off, a = some ⟨b, off, none⟩ ∧ b < w.heap.size ∧ RecsAt w b off l)

theorem RecsAt.below {w w' : World} {b off B : Nat} {l : List Rc} (h : RecsAt w b off l) (hb : Below B w w') (hlt : b < B) : RecsAt w' b off l := fun i x hx =>
  ⟨(hb.cell (p := ⟨b, off + i * 3, none⟩) hlt).trans (h i x hx).1, (hb.cell (p := ⟨b, off + i * 3 + 1, none⟩) hlt).trans (h i x hx).2.1, (hb.cell (p := ⟨b, off + i * 3 + 2, none⟩) hlt).trans (h i x hx).2.2⟩
theorem RS.below {w w' : World} {v : Value} {l : List Rc} (h : RS w v l) (hb : Below w.heap.size w w') : RS w' v l := by
  obtain ⟨a, cap, rfl, h⟩ := h
  refine ⟨a, cap, rfl, ?_⟩
  rcases h with h | ⟨b, off, rfl, hlt, h⟩
  · exact .inl h
  · exact .inr ⟨b, off, rfl, Nat.lt_of_lt_of_le hlt hb.size, h.below hb hlt⟩
theorem RS.at {w : World} {b off n cap : Nat} {l : List Rc} (h : RS w (.slice (some ⟨b, off, none⟩) n cap) l) : RecsAt w b off l := by
  obtain ⟨a, cap', e, h⟩ := h
  rcases h with rfl | ⟨b', off', rfl, _, hat⟩
  · intro i y hy; simp at hy
  · injection e with e1 e2 e3
    injection e1 with e1
    injection e1 with e1 e4
    subst e1 e4
    exact hat
theorem RS.shape {w : World} {v : Value} {l : List Rc} (h : RS w v l) : (∃ a cap, v = .slice a 0 cap ∧ l = []) ∨ ∃ b off cap, v = .slice (some ⟨b, off, none⟩) l.length cap ∧ b < w.heap.size ∧ RecsAt w b off l := by
  obtain ⟨a, cap, rfl, h⟩ := h
  rcases h with rfl | ⟨b, off, rfl, hb, hat⟩
  · exact .inl ⟨a, cap, rfl, rfl⟩
  · exact .inr ⟨b, off, cap, rfl, hb, hat⟩

/-- The cells of records, one behind the other. -/
abbrev flatR (l : List Rc) : List Value := l.flatMap encR
theorem flat_len (l : List Rc) : (flatR l).length = l.length * 3 := by
  induction l with
  | nil => rfl
  | cons a l ih => simp [flatR, encR] at ih ⊢; omega
theorem flat_get : ∀ (l : List Rc) (i : Nat) (x : Rc), l[i]? = some x → (flatR l)[i * 3]? = some (.int .i64 x.1.1) ∧ (flatR l)[i * 3 + 1]? = some (.string x.1.2) ∧ (flatR l)[i * 3 + 2]? = some (.int .i64 x.2)
  | [], i, x, h => by simp at h
  | a :: l, 0, x, h => by simp at h; subst h; simp [flatR, encR]
  | a :: l, i + 1, x, h => by
    simp at h
    have := flat_get l i x h
    simp only [flatR, List.flatMap_cons, encR] at this ⊢
    have e : (i + 1) * 3 = i * 3 + 1 + 1 + 1 := by omega
    rw [e]
    simpa using this
theorem flat_app (l m : List Rc) : flatR (l ++ m) = flatR l ++ flatR m := by simp [flatR]
theorem flat_one (x : Rc) : flatR [x] = [.int .i64 x.1.1, .string x.1.2, .int .i64 x.2] := rfl
theorem recsAt_of_block {w : World} {g : Nat} {cur : Array Value} {e : TypeId} {l : List Rc} (hb : w.heap[g]? = some (.cells cur e (0, 0))) (ht : cur.toList.take (l.length * 3) = flatR l) : RecsAt w g 0 l := by
  intro i x hx
  have hi : i < l.length := (List.getElem?_eq_some_iff.1 hx).1
  obtain ⟨h0, h1, h2⟩ := flat_get l i x hx
  rw [← ht, List.getElem?_take_of_lt (by omega)] at h0 h1 h2
  refine ⟨?_, ?_, ?_⟩
  · simp only [World.cell?, hb, Nat.zero_add]
    simpa using h0
  · simp only [World.cell?, hb, Nat.zero_add]
    simpa using h1
  · simp only [World.cell?, hb, Nat.zero_add]
    simpa using h2
/-- v owns the records l, in a block from base on. -/
abbrev OwnR (w : World) (base : Nat) (v : Value) (l : List Rc) : Prop := w.ownsRow base 40 3 v l.length (flatR l)
/-- A slice of the call's own holds what it owns. -/
theorem RS.own {w : World} {base : Nat} {v : Value} {l : List Rc} (h : OwnR w base v l) : RS w v l := by
  rcases h.2 with ⟨rfl, h0⟩ | ⟨g, cap, cur, rfl, _, hb, _, _, _, ht⟩
  · have : l = [] := List.length_eq_zero_iff.1 h0
    subst this
    exact ⟨none, 0, rfl, .inl rfl⟩
  · exact ⟨_, cap, rfl, .inr ⟨g, 0, rfl, (Array.getElem?_eq_some_iff.1 hb).1, recsAt_of_block hb ht⟩⟩
theorem OwnR.below {w w' : World} {base : Nat} {v : Value} {l : List Rc} (h : OwnR w base v l) (hb : Below w.heap.size w w') : OwnR w' base v l := by
  refine ⟨h.1, ?_⟩
  rcases h.2 with ⟨h1, h2⟩ | ⟨g, cap, cur, h1, h2, h3, h4⟩
  · exact .inl ⟨h1, h2⟩
  · exact .inr ⟨g, cap, cur, h1, h2, by rw [hb.block g (Array.getElem?_eq_some_iff.1 h3).1]; exact h3, h4⟩
theorem OwnR.snoc {w : World} {base n : Nat} {v : Value} {l : List Rc} {x : Rc} (h : w.ownsRow base 40 3 v (n + 1) (flatR l ++ [.int .i64 x.1.1, .string x.1.2, .int .i64 x.2])) (hn : n = l.length) : OwnR w base v (l ++ [x]) := by
  subst hn
  have : flatR (l ++ [x]) = flatR l ++ [.int .i64 x.1.1, .string x.1.2, .int .i64 x.2] := by rw [flat_app, flat_one]
  unfold OwnR
  rw [this, List.length_append]
  exact h

theorem Try.infoRec : (Try.prog.info? 40).map (fun i => (i.zero, i.size, i.bytes)) = some (some (.agg #[.int .i64 0, .string ⟨#[]⟩, .int .i64 0]), 3, 32) := by kernel_rfl
theorem rec_cells (a : Int) (b : ByteArray) (v : Int) : ∀ u ∈ [Value.int .i64 a, .string b, .int .i64 v], u.oneCell' = true := by
  intro u hu
  simp only [List.mem_cons, List.not_mem_nil, or_false] at hu
  rcases hu with rfl | rfl | rfl <;> rfl
end Go.Proofs.Ytkmnpaiippgnmab
/- A slice of records that came in, opened. -/
namespace Go.Proofs.Ytkmnpaiippgnmab
open Go.ChangeShapes Go.WideShapes Go.ChangeAt Go.RowKit Go.Deep
open Go.ChangeMaps (open_string shut_string)
set_option linter.unusedVariables false
set_option maxRecDepth 100000

/-- A slice of records that came in. -/
theorem open_recs {H : Type} {enc : TypeId × Value → H} {W : World} {fuel : Nat} {a : Option Addr} {len cap : Nat} {d : DataW H × List MemPlace} (hf : DataW.trod enc Try.prog W 0 (fun _ => true) true fuel 26 [.slice a len cap] = some d) (hlg : Light Try.prog 26 d.1) :
    ∃ l : List Rc, l.length = len ∧ l.length ≤ 4398046510976 ∧ Wf l ∧ RS W (.slice a len cap) l := by
  rcases open_slice Try.underlying26 hf with ⟨hcs, _⟩ | ⟨x, l, c, m, n, D, Pl, hcs, _, hl, hm, hmm, hx, hel⟩
  · simp at hcs
    obtain ⟨rfl, rfl, rfl⟩ := hcs
    exact ⟨[], rfl, Nat.zero_le _, fun x hx => by simp at hx, none, 0, rfl, .inl rfl⟩
  · simp at hcs
    obtain ⟨rfl, rfl, rfl⟩ := hcs
    simp at hmm
    subst hmm
    subst hx
    obtain ⟨hlg1, hlg2⟩ := light_slice Try.underlying26 hlg
    rw [Try.bytesRec] at hlg1
    simp only [List.length_map, List.length_range] at hlg1
    unfold reachBytes at hlg1
    have hlg3 : ∀ i, i < len → Light Try.prog 40 (D i) := fun i hi => hlg2 _ (List.mem_map.2 ⟨i, List.mem_range.2 hi, rfl⟩)
    clear hlg2
    by_cases h0 : len = 0
    · subst h0
      exact ⟨[], rfl, Nat.zero_le _, fun x hx => by simp at hx, _, _, rfl, .inl rfl⟩
    obtain ⟨b, off, spot⟩ := x
    rw [Try.cellsRec] at hel
    have first := hel 0 (by omega)
    obtain ⟨cs, hc, _⟩ := first
    obtain ⟨_, hcl, hcell⟩ := World.cells?_some hc
    have hspot : spot = none := by
      have e := hcell 0 (by omega)
      match cs, hcl with
      | [v0, v1, v2], _ => simpa [Addr.add] using World.cell?_spot e
    subst hspot
    have hb : b < W.heap.size := by simpa [add_plain] using World.cells?_block hc (by decide)
    have hall : ∀ i, i < len → ∃ y : Rc, Wr y ∧ W.cell? ⟨b, off + i * 3, none⟩ = some (.int .i64 y.1.1) ∧ W.cell? ⟨b, off + i * 3 + 1, none⟩ = some (.string y.1.2) ∧ W.cell? ⟨b, off + i * 3 + 2, none⟩ = some (.int .i64 y.2) := by
      intro i hi
      obtain ⟨cs, hc, ht⟩ := hel i (by omega)
      obtain ⟨_, hcl, hcell⟩ := World.cells?_some hc
      obtain ⟨xs, k, hk, hD, _, hxl, hfld⟩ := DataW.trod_struct Try.underlying40 ht
      have hg := hlg3 i hi
      injection hD with hD _
      rw [hD] at hg
      match cs, hcl, xs, hxl with
      | [v0, v1, v2], _, [y0, y1], _ =>
        have g0 := hfld 0 _ rfl
        have g1 := hfld 1 _ rfl
        simp [Try.cells2, Try.cellsKey] at g0 g1
        have hg0 := light_agg Try.underlying40 hg (j := 0) (u := 38) (d := y0.1) rfl rfl
        obtain ⟨xs', k', _, hD', _, hxl', hfld'⟩ := DataW.trod_struct Try.underlying38 g0
        rw [hD'] at hg0
        match xs', hxl' with
        | [z0, z1], _ =>
          have g2 := hfld' 0 _ rfl
          have g3 := hfld' 1 _ rfl
          simp [Try.cells2, Try.cells9] at g2 g3
          obtain ⟨n0, e0, _, w0⟩ := DataW.trod_int Try.underlying2 g2
          have hg1 := light_agg Try.underlying38 hg0 (j := 1) (u := 9) (d := z1.1) rfl rfl
          obtain ⟨s3, e3, x3, _⟩ := DataW.trod_string Try.underlying9 g3
          rw [x3] at hg1
          have w3 := light_string hg1
          unfold reachBytes at w3
          obtain ⟨n1, e1, _, w1⟩ := DataW.trod_int Try.underlying2 g1
          simp at e0 e3 e1
          subst e0 e3 e1
          have a0 := hcell 0 (by omega)
          have a1 := hcell 1 (by omega)
          have a2 := hcell 2 (by omega)
          rw [add_add, add_plain] at a0 a1 a2
          exact ⟨((n0, s3), n1), ⟨(i64_of_wf w0).1, (i64_of_wf w0).2, w3, (i64_of_wf w1).1, (i64_of_wf w1).2⟩, by simpa using a0, by simpa [Nat.add_assoc] using a1, by simpa [Nat.add_assoc] using a2⟩
    let f : Nat → Rc := fun i => if h : i < len then (hall i h).choose else r0
    have hf' : ∀ i (h : i < len), f i = (hall i h).choose := fun i h => by simp [f, h]
    refine ⟨(List.range len).map f, by simp, by simp; omega, ?_, _, m, by simp, .inr ⟨b, off, rfl, hb, ?_⟩⟩
    · intro x hx
      obtain ⟨i, hi, rfl⟩ := List.mem_map.1 hx
      rw [List.mem_range] at hi
      rw [hf' i hi]
      exact (hall i hi).choose_spec.1
    · intro i x hx
      have hi : i < len := by have := (List.getElem?_eq_some_iff.1 hx).1; simpa using this
      simp [hi] at hx
      subst hx
      rw [hf' i hi]
      exact (hall i hi).choose_spec.2
end Go.Proofs.Ytkmnpaiippgnmab
/- A slice of numbers: what its cells hold. -/
namespace Go.Proofs.Ytkmnpaiippgnmab
open Go.RowKit
set_option linter.unusedVariables false
set_option maxRecDepth 100000

theorem Try.info3 : (Try.prog.info? 3).map (fun i => (i.zero, i.size, i.bytes)) = some (some (.int .i64 0), 1, 8) := by kernel_rfl
def NumsAt (w : World) (b off : Nat) (l : List Int) : Prop := ∀ i x, l[i]? = some x → w.cell? ⟨b, off + i, none⟩ = some (.int .i64 x)
def NS (w : World) (v : Value) (l : List Int) : Prop :=
  ∃ a cap, v = .slice a l.length cap ∧ (l = [] ∨ ∃ b off, a = some ⟨b, off, none⟩ ∧ b < w.heap.size ∧ NumsAt w b off l)
theorem NumsAt.below {w w' : World} {b off B : Nat} {l : List Int} (h : NumsAt w b off l) (hb : Below B w w') (hlt : b < B) : NumsAt w' b off l := fun i x hx =>
  (hb.cell (p := ⟨b, off + i, none⟩) hlt).trans (h i x hx)
theorem NS.below {w w' : World} {v : Value} {l : List Int} (h : NS w v l) (hb : Below w.heap.size w w') : NS w' v l := by
  obtain ⟨a, cap, rfl, h⟩ := h
  refine ⟨a, cap, rfl, ?_⟩
  rcases h with h | ⟨b, off, rfl, hlt, h⟩
  · exact .inl h
  · exact .inr ⟨b, off, rfl, Nat.lt_of_lt_of_le hlt hb.size, h.below hb hlt⟩
abbrev OwnN (w : World) (base : Nat) (v : Value) (l : List Int) : Prop := w.ownsRow base 3 1 v l.length (l.map (Value.int .i64))
theorem NS.own {w : World} {base : Nat} {v : Value} {l : List Int} (h : OwnN w base v l) : NS w v l := by
  rcases h.2 with ⟨rfl, h0⟩ | ⟨g, cap, cur, rfl, _, hb, _, _, _, ht⟩
  · have : l = [] := List.length_eq_zero_iff.1 h0
    subst this
    exact ⟨none, 0, rfl, .inl rfl⟩
  · refine ⟨_, cap, rfl, .inr ⟨g, 0, rfl, (Array.getElem?_eq_some_iff.1 hb).1, ?_⟩⟩
    intro i x hx
    have hi : i < l.length := (List.getElem?_eq_some_iff.1 hx).1
    have h0 : (l.map (Value.int .i64))[i]? = some (.int .i64 x) := by simp [hx]
    rw [← ht, List.getElem?_take_of_lt (by omega)] at h0
    simp only [World.cell?, hb, Nat.zero_add]
    simpa using h0
theorem OwnN.below {w w' : World} {base : Nat} {v : Value} {l : List Int} (h : OwnN w base v l) (hb : Below w.heap.size w w') : OwnN w' base v l := by
  refine ⟨h.1, ?_⟩
  rcases h.2 with ⟨h1, h2⟩ | ⟨g, cap, cur, h1, h2, h3, h4⟩
  · exact .inl ⟨h1, h2⟩
  · exact .inr ⟨g, cap, cur, h1, h2, by rw [hb.block g (Array.getElem?_eq_some_iff.1 h3).1]; exact h3, h4⟩
theorem OwnN.snoc {w : World} {base n : Nat} {v : Value} {l : List Int} {x : Int} (h : w.ownsRow base 3 1 v (n + 1) (l.map (Value.int .i64) ++ [.int .i64 x])) (hn : n = l.length) : OwnN w base v (l ++ [x]) := by
  subst hn
  have : (l ++ [x]).map (Value.int .i64) = l.map (Value.int .i64) ++ [.int .i64 x] := by simp
  unfold OwnN
  rw [this, List.length_append]
  exact h
theorem OwnN.shape {w : World} {base : Nat} {v : Value} {l : List Int} (h : OwnN w base v l) : ∃ a cap, v = .slice a l.length cap := by
  obtain ⟨a, cap, h, _⟩ := NS.own h
  exact ⟨a, cap, h⟩
end Go.Proofs.Ytkmnpaiippgnmab
/- The law's argument: texts, ops, records, fuel, opened. -/
namespace Go.Proofs.Ytkmnpaiippgnmab
open Go.ChangeShapes Go.WideShapes Go.ChangeAt Go.RowKit Go.Deep
open Go.ChangeMaps (open_string shut_string)
set_option linter.unusedVariables false
set_option maxRecDepth 100000

theorem Try.cellsAsk8 : Try.prog.cellsOf 29 = 4 := by kernel_rfl
theorem Try.cellsNums : Try.prog.cellsOf 27 = 1 := by kernel_rfl
theorem Try.bytes3 : Try.prog.bytesOf 3 = 8 := by kernel_rfl
/-- Numbers that an int holds. -/
def WfI (l : List Int) : Prop := ∀ x ∈ l, -9223372036854775808 ≤ x ∧ x ≤ 9223372036854775807
/-- A slice of numbers that came in. -/
theorem open_nums {H : Type} {enc : TypeId × Value → H} {W : World} {fuel : Nat} {a : Option Addr} {len cap : Nat} {d : DataW H × List MemPlace} (hf : DataW.trod enc Try.prog W 0 (fun _ => true) true fuel 27 [.slice a len cap] = some d) (hlg : Light Try.prog 27 d.1) :
    ∃ l : List Int, l.length = len ∧ l.length ≤ 17592186043904 ∧ WfI l ∧ NS W (.slice a len cap) l := by
  rcases open_slice Try.underlying27 hf with ⟨hcs, _⟩ | ⟨x, l, c, m, n, D, Pl, hcs, _, hl, hm, hmm, hx, hel⟩
  · simp at hcs
    obtain ⟨rfl, rfl, rfl⟩ := hcs
    exact ⟨[], rfl, Nat.zero_le _, fun x hx => by simp at hx, none, 0, rfl, .inl rfl⟩
  · simp at hcs
    obtain ⟨rfl, rfl, rfl⟩ := hcs
    simp at hmm
    subst hmm
    subst hx
    obtain ⟨hlg1, hlg2⟩ := light_slice Try.underlying27 hlg
    rw [Try.bytes3] at hlg1
    simp only [List.length_map, List.length_range] at hlg1
    unfold reachBytes at hlg1
    by_cases h0 : len = 0
    · subst h0
      exact ⟨[], rfl, Nat.zero_le _, fun x hx => by simp at hx, _, _, rfl, .inl rfl⟩
    obtain ⟨b, off, spot⟩ := x
    rw [Try.cells3] at hel
    have first := hel 0 (by omega)
    obtain ⟨cs, hc, _⟩ := first
    obtain ⟨_, hcl, hcell⟩ := World.cells?_some hc
    have hspot : spot = none := by
      have e := hcell 0 (by omega)
      match cs, hcl with
      | [v0], _ => simpa [Addr.add] using World.cell?_spot e
    subst hspot
    have hb : b < W.heap.size := by simpa [add_plain] using World.cells?_block hc (by decide)
    have hall : ∀ i, i < len → ∃ y : Int, (-9223372036854775808 ≤ y ∧ y ≤ 9223372036854775807) ∧ W.cell? ⟨b, off + i, none⟩ = some (.int .i64 y) := by
      intro i hi
      obtain ⟨cs, hc, ht⟩ := hel i (by omega)
      obtain ⟨_, hcl, hcell⟩ := World.cells?_some hc
      match cs, hcl with
      | [v0], _ =>
        obtain ⟨n0, e0, _, w0⟩ := DataW.trod_int Try.underlying3 ht
        simp at e0
        subst e0
        have a0 := hcell 0 (by omega)
        rw [add_add, add_plain] at a0
        exact ⟨n0, i64_of_wf w0, by simpa using a0⟩
    let f : Nat → Int := fun i => if h : i < len then (hall i h).choose else 0
    have hf' : ∀ i (h : i < len), f i = (hall i h).choose := fun i h => by simp [f, h]
    refine ⟨(List.range len).map f, by simp, by simp; omega, ?_, _, m, by simp, .inr ⟨b, off, rfl, hb, ?_⟩⟩
    · intro x hx
      obtain ⟨i, hi, rfl⟩ := List.mem_map.1 hx
      rw [List.mem_range] at hi
      rw [hf' i hi]
      exact (hall i hi).choose_spec.1
    · intro i x hx
      have hi : i < len := by have := (List.getElem?_eq_some_iff.1 hx).1; simpa using this
      simp [hi] at hx
      subst hx
      rw [hf' i hi]
      exact (hall i hi).choose_spec.2
/-- What comes in: texts, ops, records, fuel. -/
structure In8 (W : World) (vs vl vr vf : Value) (l : List ByteArray) (f : Fo) (lr : List Rc) (lf : List Int) : Prop where
  s : SS W vs l ∧ List.length l ≤ 8796093021952 ∧ WfS l
  f : FS QA W vl f ∧ f.len ≤ 3518437208780 ∧ WfB f ∧ WfN f
  r : RS W vr lr ∧ lr.length ≤ 4398046510976 ∧ Wf lr
  n : NS W vf lf ∧ lf.length ≤ 17592186043904 ∧ WfI lf
theorem open_ask8 {H : Type} {enc : TypeId × Value → H} {W : World} {base : Nat} {v : Value} {d : DataW H} {p : List MemPlace} (hv : Value.okWide Try.prog W .any base 29 v) (h : DataW.Trod enc Try.prog W 0 (fun _ => true) true 29 v d p) (hlg : Light Try.prog 29 d) :
    ∃ vs vl vr vf l f lr lf, v = .agg #[vs, vl, vr, vf] ∧ In8 W vs vl vr vf l f lr lf := by
  obtain ⟨cs, rfl, hcs⟩ := okWide_struct Try.underlying29 hv
  rw [Try.cellsAsk8] at hcs
  obtain ⟨fuel, hf⟩ := h
  obtain ⟨xs, k, _, hD, _, hxl, hfld⟩ := DataW.trod_struct Try.underlying29 hf
  injection hD with hD _
  rw [hD] at hlg
  obtain ⟨cl⟩ := cs
  match cl, hcs, xs, hxl with
  | [v0, v1, v2, v3], _, [y0, y1, y2], _ =>
    have g0 := hfld 0 _ rfl
    have g1 := hfld 1 _ rfl
    have g2 := hfld 2 _ rfl
    have hg0 := light_agg Try.underlying29 hlg (j := 0) (u := 25) (d := y0.1) rfl rfl
    have hg1 := light_agg Try.underlying29 hlg (j := 1) (u := 26) (d := y1.1) rfl rfl
    have hg2 := light_agg Try.underlying29 hlg (j := 2) (u := 27) (d := y2.1) rfl rfl
    simp [Try.cellsAsk, Try.cellsRecs, Try.cellsNums, Value.cells] at g0 g1 g2
    obtain ⟨xs', k', _, hD', _, hxl', hfld'⟩ := DataW.trod_struct Try.underlying25 g0
    rw [hD'] at hg0
    match xs', hxl' with
    | [z0, z1], _ =>
      have i0 := hfld' 0 _ rfl
      have i1 := hfld' 1 _ rfl
      have ig0 := light_agg Try.underlying25 hg0 (j := 0) (u := 22) (d := z0.1) rfl rfl
      have ig1 := light_agg Try.underlying25 hg0 (j := 1) (u := 23) (d := z1.1) rfl rfl
      simp [Try.cellsOps, Try.cellsStrs] at i0 i1
      obtain ⟨f, q1, q2, q3, q4, q5⟩ := open_ops k' v1 z1 i1 ig1
      obtain ⟨a, len, cap, e0⟩ : ∃ a len cap, v0 = .slice a len cap := by
        rcases open_slice Try.underlying22 i0 with ⟨hcs, _⟩ | ⟨x, l, c, m, n, D, Pl, hcs, _⟩
        · simp at hcs; exact ⟨_, _, _, hcs⟩
        · simp at hcs; exact ⟨_, _, _, hcs⟩
      subst e0
      obtain ⟨l, _, h2, h3, h4⟩ := open_strl (enc := enc) (p := z0.2) (d := z0.1) ⟨k', by simpa [Value.cells] using i0⟩ ig0
      obtain ⟨a2, len2, cap2, e2⟩ : ∃ a len cap, v2 = .slice a len cap := by
        rcases open_slice Try.underlying26 g1 with ⟨hcs, _⟩ | ⟨x, l, c, m, n, D, Pl, hcs, _⟩
        · simp at hcs; exact ⟨_, _, _, hcs⟩
        · simp at hcs; exact ⟨_, _, _, hcs⟩
      subst e2
      obtain ⟨lr, _, r2, r3, r4⟩ := open_recs g1 hg1
      obtain ⟨a3, len3, cap3, e3⟩ : ∃ a len cap, v3 = .slice a len cap := by
        rcases open_slice Try.underlying27 g2 with ⟨hcs, _⟩ | ⟨x, l, c, m, n, D, Pl, hcs, _⟩
        · simp at hcs; exact ⟨_, _, _, hcs⟩
        · simp at hcs; exact ⟨_, _, _, hcs⟩
      subst e3
      obtain ⟨lf, _, n2, n3, n4⟩ := open_nums g2 hg2
      exact ⟨_, _, _, _, l, f, lr, lf, rfl, ⟨⟨h4, h2, h3⟩, ⟨q1, q2, q3, q4⟩, ⟨r4, r2, r3⟩, ⟨n4, n2, n3⟩⟩⟩
end Go.Proofs.Ytkmnpaiippgnmab
/- RecsWeight, EqRecs. -/
namespace Go.Proofs.Ytkmnpaiippgnmab
open Go.RowKit
set_option linter.unusedVariables false
set_option maxRecDepth 100000

theorem rweight_any (v : Value) (l : List Rc) (w : World) (h : RS w v l) (hl : l.length ≤ 4398046510976) (hwf : Wf l) : Calls Try.prog 18 #[v] w fun e w' => (∃ n : Int, e = .returned (.int .i64 n) ∧ (l.length : Int) ≤ n) ∧ w' = w := by
  obtain ⟨a, cap, rfl, h⟩ := h
  rcases h with rfl | ⟨b, off, rfl, hb, hat⟩
  · go_enter Try.func18, Try.ntmps18
    go_wp2
    go_loop [3, 4] (fun n i => n = .int .i64 0 ∧ i = .int .i64 0) (fun _ _ => 0)
    case atStart => exact ⟨rfl, rfl⟩
    case round =>
      obtain ⟨rfl, rfl⟩ := hrel
      go_wp2
      go_ret
      exact ⟨⟨_, rfl, by simp⟩, rfl⟩
  · go_enter Try.func18, Try.ntmps18
    go_wp2
    go_loop [3, 4] (fun n i => ∃ (k : Nat) (x : Int), k ≤ l.length ∧ i = .int .i64 k ∧ n = .int .i64 x ∧ (l.length : Int) ≤ x) (fun _ i => l.length - (intOf i).toNat)
    case atStart => exact ⟨0, _, by omega, rfl, rfl, by omega⟩
    case round =>
      obtain ⟨k, x, hk, rfl, rfl, hlx⟩ := hrel
      by_cases hlt : k < l.length
      · obtain ⟨y, hy⟩ := getSome hlt
        obtain ⟨c0, c1, c2⟩ := hat k y hy
        have hsz := (hwf y (List.mem_of_getElem? hy)).txt
        obtain ⟨⟨ya, yb⟩, yv⟩ := y
        simp only at hsz c0 c1 c2
        clear hat hy
        by_cases hx : x < 1048576
        · go_wp2
          go_round
          case rel => exact ⟨k + 1, _, by omega, by go_num, rfl, by omega⟩
          case measure => simp [intOf]; omega
        · have hx' : (1048576 : Int) ≤ x := by omega
          go_wp2
          go_ret
          exact ⟨⟨_, rfl, hlx⟩, rfl⟩
      · have hlt' : l.length ≤ k := by omega
        go_wp2
        go_ret
        exact ⟨⟨_, rfl, hlx⟩, rfl⟩

set_option maxHeartbeats 400000 in
/-- The same records in two slices. -/
theorem eqrecs_any (v u : Value) (l : List Rc) (w : World) (h : RS w v l) (h' : RS w u l) (hl : l.length ≤ 100000) :
    Calls Try.prog 14 #[v, u] w fun e w' => e = .returned (.bool true) ∧ Drawn w w' := by
  obtain ⟨a, cap, rfl, h⟩ := h
  obtain ⟨a', cap', rfl, h'⟩ := h'
  rcases h with rfl | ⟨b, off, rfl, hb, hat⟩
  · go_enter Try.func14, Try.ntmps14
    go_wp2
    go_loop [5] (fun i => i = .int .i64 0) (fun _ => 0)
    case atStart => rfl
    case round =>
      subst hrel
      go_wp2
      go_ret
      exact ⟨rfl, Drawn.refl _⟩
  · rcases h' with rfl | ⟨b', off', rfl, hb', hat'⟩
    · go_enter Try.func14, Try.ntmps14
      go_wp2
      go_loop [5] (fun i => i = .int .i64 0) (fun _ => 0)
      case atStart => rfl
      case round =>
        subst hrel
        go_wp2
        go_ret
        exact ⟨rfl, Drawn.refl _⟩
    · have hne := neR
      have hgd := guardR
      obtain ⟨n, hn⟩ : ∃ n, l.length = n := ⟨_, rfl⟩
      rw [hn]
      rw [hn] at hl
      go_enter Try.func14, Try.ntmps14
      go_wp2
      go_loopw [5] (fun i wr => ∃ k : Nat, k ≤ n ∧ i = .int .i64 k ∧ Drawn w wr) (fun i _ => n - (intOf i).toNat)
      case atStart => exact ⟨0, by omega, rfl, Drawn.refl _⟩
      case round =>
        obtain ⟨k, hk, rfl, hD⟩ := hrel
        by_cases hlt : k < n
        · obtain ⟨y, hy⟩ := getSome (l := l) (i := k) (by omega)
          obtain ⟨c0, c1, c2⟩ := hat.below (hD.below w.heap.size) hb k y hy
          obtain ⟨d0, d1, d2⟩ := hat'.below (hD.below w.heap.size) hb' k y hy
          obtain ⟨⟨ya, yb⟩, yv⟩ := y
          clear hat hat' hy
          have hk0 : (0 : Int) ≤ k := by omega
          have hkl : (k : Int) < n := by omega
          have he' : eqC ((ya, yb), yv) ((ya, yb), yv) = true := eqC_self _
          go_wp2
          go_quiet (fail)
          go_wp2
          go_roundw
          case rel => exact ⟨k + 1, by omega, by go_num, hD.step _⟩
          case measure => simp [intOf]; omega
        · have hlt' : n ≤ k := by omega
          go_wp2
          go_ret
          exact ⟨rfl, hD⟩

end Go.Proofs.Ytkmnpaiippgnmab
