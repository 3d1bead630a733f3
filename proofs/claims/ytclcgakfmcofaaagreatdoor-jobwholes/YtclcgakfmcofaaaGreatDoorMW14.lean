/- Texts laid together: Crc, CrcInt, FFour, FPlain. -/
import Derived.WalkKit
import Derived.Laws.BitsAllLaws
import Derived.Test.YtclcgakfmcofaaaGreatDoorRows
import Derived.WalkSpells
import Derived.Deep.QuietTactic
import Derived.BigQuiet
import Derived.Test.YtclcgakfmcofaaaGreatDoorMW1
set_option linter.unusedVariables false
set_option maxRecDepth 100000
namespace Go.Proofs.YtclcgakfmcofaaaGreatDoor
def poly : BitVec 32 := 0xedb88320#32
def cy (s : BitVec 32) : BitVec 32 := if s.getLsbD 0 then (s >>> 1) ^^^ poly else s >>> 1
def step8 (s : BitVec 32) : BitVec 32 := cy (cy (cy (cy (cy (cy (cy (cy s)))))))
def low (b : UInt8) : BitVec 32 := BitVec.ofNat 32 b.toNat
def ew : BitVec 32 → List UInt8 → BitVec 32
 | s, [] => s
 | s, b :: l => ew (step8 (s ^^^ low b)) l
def crc (l : List UInt8) : BitVec 32 := ~~~ ew (BitVec.allOnes 32) l
theorem step1_xor (s t : BitVec 32) : cy (s ^^^ t) = cy s ^^^ cy t := by
 unfold cy
 rw [BitVec.ushiftRight_xor_distrib, BitVec.getLsbD_xor]
 cases hs : s.getLsbD 0 <;> cases ht : t.getLsbD 0 <;> simp
 ·rw [BitVec.xor_assoc]
 ·rw [BitVec.xor_assoc, BitVec.xor_assoc]; congr 1; rw [BitVec.xor_comm]
 ·have : s >>> 1 ^^^ poly ^^^ (t >>> 1 ^^^ poly) = s >>> 1 ^^^ t >>> 1 ^^^ (poly ^^^ poly) := by ac_rfl
  rw [this]; simp
def wd (x : BitVec 32) : Int := ((x.toNat : Nat) : Int)
theorem wd_lt (x : BitVec 32) : 0 ≤ wd x ∧ wd x ≤ 4294967295 := by
 have := x.isLt
 unfold wd
 omega
theorem wd_xor (x y : BitVec 32) : bits .xor .u32 (wd x) (wd y) = wd (x ^^^ y) := by
 have h1 := x.isLt
 have h2 := y.isLt
 unfold wd
 rw [u32_xor_nat _ _ (by omega) (by omega), BitVec.toNat_xor]
theorem wd_low (b : UInt8) : ((b.toNat : Nat) : Int) = wd (low b) := by
 have := b.toNat_lt
 unfold wd low
 rw [BitVec.toNat_ofNat]
 omega
theorem lp (x : BitVec 32) (b : UInt8) : bits .xor .u32 (wd x) ((b.toNat : Nat) : Int) = wd (x ^^^ low b) := by rw [wd_low, wd_xor]
theorem wd_ones : (4294967295 : Int) = wd (BitVec.allOnes 32) := by decide
theorem wd_poly : (3988292384 : Int) = wd poly := by decide
theorem wd_not (x : BitVec 32) : bits .xor .u32 4294967295 (wd x) = wd (~~~ x) := by
 rw [wd_ones, wd_xor]
 congr 1
theorem wd_shr (x : BitVec 32) (k : Nat) : wd x / 2 ^ k = wd (x >>> k) := by
 unfold wd
 rw [BitVec.toNat_ushiftRight, Nat.shiftRight_eq_div_pow]
 simp
theorem wd_and1 (x : BitVec 32) : bits .and .u32 (wd x) 1 = wd (x &&& 1#32) := by
 have h1 := x.isLt
 have e : (1 : Int) = ((1 : Nat) : Int) := rfl
 unfold wd
 rw [e, u32_and_nat _ _ (by omega) (by omega), BitVec.toNat_and]
 rfl
theorem wd_bit (x : BitVec 32) : wd (x &&& 1#32) = if x.getLsbD 0 then 1 else 0 := by
 unfold wd
 rw [BitVec.toNat_and, show x.getLsbD 0 = x.toNat.testBit 0 from rfl, Nat.testBit_zero]
 have : (1#32).toNat = 1 := rfl
 rw [this, Nat.and_one_is_mod]
 split <;> rename_i h <;> simp at h <;> omega
def gP (s : BitVec 32) : BitVec 32 := cy (cy (cy (cy s)))
theorem step8_two (s : BitVec 32) : step8 s = gP (gP s) := rfl
theorem step4_xor (s t : BitVec 32) : gP (s ^^^ t) = gP s ^^^ gP t := by simp only [gP, step1_xor]
theorem gc (s : BitVec 32) (h : s.getLsbD 0 = false) : cy s = s >>> 1 := by unfold cy; rw [h]; rfl
theorem step4_high (s : BitVec 32) (h : s.toNat % 16 = 0) : gP s = s >>> 4 := by
 have sh : ∀ k, (s >>> k).getLsbD 0 = s.getLsbD k := by intro k; simp
 have b : ∀ k, k < 4 → s.getLsbD k = false := by
  intro k hk
  show s.toNat.testBit k = false
  rw [Nat.testBit_eq_decide_div_mod_eq]
  match k, hk with
  | 0, _ => simp; omega
  | 1, _ => simp; omega
  | 2, _ => simp; omega
  | 3, _ => simp; omega
 unfold gP
 rw [gc s (b 0 (by omega)), gc (s >>> 1) (by rw [sh]; exact b 1 (by omega)), ← BitVec.shiftRight_add, gc (s >>> (1 + 1)) (by rw [sh]; exact b 2 (by omega)), ← BitVec.shiftRight_add,
  gc (s >>> (1 + 1 + 1)) (by rw [sh]; exact b 3 (by omega)), ← BitVec.shiftRight_add]
def half (k : Nat) : BitVec 32 := gP (BitVec.ofNat 32 k)
theorem half_small : ∀ k : Fin 16, (BitVec.ofNat 32 k.val) >>> 4 = 0#32 := by decide
theorem step4_table (s : BitVec 32) : (s >>> 4) ^^^ half (s.toNat % 16) = gP s := by
 have hl := s.isLt
 generalize hn : BitVec.ofNat 32 (s.toNat % 16) = n
 have nn : n.toNat = s.toNat % 16 := by rw [← hn, BitVec.toNat_ofNat]; omega
 have e : s = (s ^^^ n) ^^^ n := by rw [BitVec.xor_assoc]; simp
 have hz : (s ^^^ n).toNat % 16 = 0 := by
  rw [BitVec.toNat_xor, nn, show (16 : Nat) = 2 ^ 4 from rfl, Nat.xor_mod_two_pow]
  simp
 have h0 : n >>> 4 = 0#32 := by
  rw [← hn]
  exact half_small ⟨s.toNat % 16, Nat.mod_lt _ (by decide)⟩
 have h1 : (s ^^^ n) >>> 4 = s >>> 4 := by rw [BitVec.ushiftRight_xor_distrib, h0]; simp
 unfold half
 rw [hn]
 conv => rhs; rw [e, step4_xor, step4_high _ hz, h1]
end Go.Proofs.YtclcgakfmcofaaaGreatDoor
namespace Go.Proofs.YtclcgakfmcofaaaGreatDoor
open Go.RowKit
def cg (n : Int) : ByteArray := strOfNums [n / 16777216, n / 65536 % 256, n / 256 % 256, n % 256]
theorem eC (n : Int) : (cg n).size = 4 := by unfold cg; rw [strOfNums_size]; rfl
theorem four_any (n : Int) (w : World) (h0 : 0 ≤ n) (h1 : n ≤ 4294967295) :
  Calls Tryz.prog 170 #[.int .u32 n] w fun e w' => e = .returned (.string (cg n)) ∧ Below w.heap.size w w' := by
 have hcv := run_convert_bytes_arg (P := Tryz.prog) (w.alloc (.cells #[.int .u8 (n / 16777216), .int .u8 (n / 65536 % 256), .int .u8 (n / 256 % 256), .int .u8 (n % 256)] 5)) 68 5 Tryz.underlying68 Tryz.underlying5 w.heap.size 0 4 4 [n / 16777216, n / 65536 % 256, n / 256 % 256, n % 256] rfl (by
  intro i hi
  match i, hi with
  | 0, _ => simp
  | 1, _ => simp
  | 2, _ => simp
  | 3, _ => simp) 9 Tryz.underlying9
 go_enter Tryz.func170, Tryz.ntmps170
 go_wp2
 go_ret
 exact ⟨rfl, (Below.refl _ _).alloc (Nat.le_refl _) _⟩
theorem oE (n : Int) (w : World) (h0 : 0 ≤ n) (h1 : n ≤ 4294967295) :
  Calls Tryz.prog 142 #[.int .u32 n] w fun e w' => e = .returned (.string (cg n)) ∧ Below w.heap.size w w' := by
 have hcv := run_convert_bytes_arg (P := Tryz.prog) (w.alloc (.cells #[.int .u8 (n / 16777216), .int .u8 (n / 65536 % 256), .int .u8 (n / 256 % 256), .int .u8 (n % 256)] 5)) 68 5 Tryz.underlying68 Tryz.underlying5 w.heap.size 0 4 4 [n / 16777216, n / 65536 % 256, n / 256 % 256, n % 256] rfl (by
  intro i hi
  match i, hi with
  | 0, _ => simp
  | 1, _ => simp
  | 2, _ => simp
  | 3, _ => simp) 9 Tryz.underlying9
 go_enter Tryz.func142, Tryz.ntmps142
 go_wp2
 go_ret
 exact ⟨rfl, (Below.refl _ _).alloc (Nat.le_refl _) _⟩
end Go.Proofs.YtclcgakfmcofaaaGreatDoor
namespace Go.Proofs.YtclcgakfmcofaaaGreatDoor
def gE (s : ByteArray) : Int := wd (crc (L s))
theorem fSum_lt (s : ByteArray) : 0 ≤ gE s ∧ gE s ≤ 4294967295 := wd_lt _
def aF (s : ByteArray) : ByteArray := cg (s.size : Int) ++ cg (gE (cg (s.size : Int) ++ s)) ++ s
theorem dv (s : ByteArray) : (aF s).size = 8 + s.size := by
 unfold aF; rw [ByteArray.size_append, ByteArray.size_append, eC, eC]
end Go.Proofs.YtclcgakfmcofaaaGreatDoor
