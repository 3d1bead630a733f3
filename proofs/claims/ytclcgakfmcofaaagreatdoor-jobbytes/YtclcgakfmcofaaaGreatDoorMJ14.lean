/- Texts laid together: Crc, CrcInt, FFour, FPlain. -/
import Derived.WalkKit
import Derived.Laws.BitsAllLaws
import Derived.Test.YtclcgakfmcofaaaGreatDoorRows
import Derived.WalkSpells
import Derived.Deep.QuietTactic
import Derived.BigQuiet
import Derived.Test.YtclcgakfmcofaaaGreatDoorMJ1
/- PLAIN FACTS on sums of bytes (CRC-32, bit by bit), without the program: a step is linear and loses nothing; so one turned bit, and a byte turned beside it, change the sum. -/
namespace Go.Proofs.YtclcgakfmcofaaaGreatDoor

/-- One bit. -/
def poly : BitVec 32 := 0xedb88320#32
def step1 (s : BitVec 32) : BitVec 32 := if s.getLsbD 0 then (s >>> 1) ^^^ poly else s >>> 1
def step8 (s : BitVec 32) : BitVec 32 := step1 (step1 (step1 (step1 (step1 (step1 (step1 (step1 s)))))))
def low (b : UInt8) : BitVec 32 := BitVec.ofNat 32 b.toNat
/-- Byte by byte. -/
def crcFrom : BitVec 32 → List UInt8 → BitVec 32
  | s, [] => s
  | s, b :: l => crcFrom (step8 (s ^^^ low b)) l
def crc (l : List UInt8) : BitVec 32 := ~~~ crcFrom (BitVec.allOnes 32) l

theorem step1_xor (s t : BitVec 32) : step1 (s ^^^ t) = step1 s ^^^ step1 t := by
  unfold step1
  rw [BitVec.ushiftRight_xor_distrib, BitVec.getLsbD_xor]
  cases hs : s.getLsbD 0 <;> cases ht : t.getLsbD 0 <;> simp
  · rw [BitVec.xor_assoc]
  · rw [BitVec.xor_assoc, BitVec.xor_assoc]; congr 1; rw [BitVec.xor_comm]
  · have : s >>> 1 ^^^ poly ^^^ (t >>> 1 ^^^ poly) = s >>> 1 ^^^ t >>> 1 ^^^ (poly ^^^ poly) := by ac_rfl
    rw [this]; simp
end Go.Proofs.YtclcgakfmcofaaaGreatDoor
/- The sums of bytes as the program's integers: xor, shift, the lowest bit, four bits by the table. -/
namespace Go.Proofs.YtclcgakfmcofaaaGreatDoor
set_option linter.unusedVariables false
set_option maxRecDepth 100000

/-- A word as the program's integer. -/
def wd (x : BitVec 32) : Int := ((x.toNat : Nat) : Int)
theorem wd_lt (x : BitVec 32) : 0 ≤ wd x ∧ wd x ≤ 4294967295 := by
  have := x.isLt
  unfold wd
  omega
theorem wd_xor (x y : BitVec 32) : bits .xor .u32 (wd x) (wd y) = wd (x ^^^ y) := by
  have h1 := x.isLt
  have h2 := y.isLt
  unfold wd
  rw [u32_xor_nat _ _ (by omega) (by omega), BitVec.toNat_xor]
theorem wd_low (b : UInt8) : ((b.toNat : Nat) : Int) = wd (low b) := by
  have := b.toNat_lt
  unfold wd low
  rw [BitVec.toNat_ofNat]
  omega
theorem wd_xor_byte (x : BitVec 32) (b : UInt8) : bits .xor .u32 (wd x) ((b.toNat : Nat) : Int) = wd (x ^^^ low b) := by rw [wd_low, wd_xor]
theorem wd_ones : (4294967295 : Int) = wd (BitVec.allOnes 32) := by decide
theorem wd_not (x : BitVec 32) : bits .xor .u32 4294967295 (wd x) = wd (~~~ x) := by
  rw [wd_ones, wd_xor]
  congr 1
theorem wd_shr (x : BitVec 32) (k : Nat) : wd x / 2 ^ k = wd (x >>> k) := by
  unfold wd
  rw [BitVec.toNat_ushiftRight, Nat.shiftRight_eq_div_pow]
  simp
/-- Four bits. -/
def step4 (s : BitVec 32) : BitVec 32 := step1 (step1 (step1 (step1 s)))
theorem step8_two (s : BitVec 32) : step8 s = step4 (step4 s) := rfl
theorem step4_xor (s t : BitVec 32) : step4 (s ^^^ t) = step4 s ^^^ step4 t := by simp only [step4, step1_xor]
theorem step1_even (s : BitVec 32) (h : s.getLsbD 0 = false) : step1 s = s >>> 1 := by unfold step1; rw [h]; rfl
theorem step4_high (s : BitVec 32) (h : s.toNat % 16 = 0) : step4 s = s >>> 4 := by
  have sh : ∀ k, (s >>> k).getLsbD 0 = s.getLsbD k := by intro k; simp
  have b : ∀ k, k < 4 → s.getLsbD k = false := by
    intro k hk
    show s.toNat.testBit k = false
    rw [Nat.testBit_eq_decide_div_mod_eq]
    match k, hk with
    | 0, _ => simp; omega
    | 1, _ => simp; omega
    | 2, _ => simp; omega
    | 3, _ => simp; omega
  unfold step4
  rw [step1_even s (b 0 (by omega)), step1_even (s >>> 1) (by rw [sh]; exact b 1 (by omega)), ← BitVec.shiftRight_add, step1_even (s >>> (1 + 1)) (by rw [sh]; exact b 2 (by omega)), ← BitVec.shiftRight_add,
    step1_even (s >>> (1 + 1 + 1)) (by rw [sh]; exact b 3 (by omega)), ← BitVec.shiftRight_add]
/-- The table's words. -/
def half (k : Nat) : BitVec 32 := step4 (BitVec.ofNat 32 k)
theorem half_small : ∀ k : Fin 16, (BitVec.ofNat 32 k.val) >>> 4 = 0#32 := by decide
theorem step4_table (s : BitVec 32) : (s >>> 4) ^^^ half (s.toNat % 16) = step4 s := by
  have hl := s.isLt
  generalize hn : BitVec.ofNat 32 (s.toNat % 16) = n
  have nn : n.toNat = s.toNat % 16 := by rw [← hn, BitVec.toNat_ofNat]; omega
  have e : s = (s ^^^ n) ^^^ n := by rw [BitVec.xor_assoc]; simp
  have hz : (s ^^^ n).toNat % 16 = 0 := by
    rw [BitVec.toNat_xor, nn, show (16 : Nat) = 2 ^ 4 from rfl, Nat.xor_mod_two_pow]
    simp
  have h0 : n >>> 4 = 0#32 := by
    rw [← hn]
    exact half_small ⟨s.toNat % 16, Nat.mod_lt _ (by decide)⟩
  have h1 : (s ^^^ n) >>> 4 = s >>> 4 := by rw [BitVec.ushiftRight_xor_distrib, h0]; simp
  unfold half
  rw [hn]
  conv => rhs; rw [e, step4_xor, step4_high _ hz, h1]
end Go.Proofs.YtclcgakfmcofaaaGreatDoor
/- num.Four, num.TakeFour and the page's own: what each answers. -/
namespace Go.Proofs.YtclcgakfmcofaaaGreatDoor
open Go.RowKit
set_option linter.unusedVariables false
set_option maxRecDepth 100000
/-- The four bytes of a number. -/
def four (n : Int) : ByteArray := strOfNums [n / 16777216, n / 65536 % 256, n / 256 % 256, n % 256]
theorem four_size (n : Int) : (four n).size = 4 := by unfold four; rw [strOfNums_size]; rfl
theorem four_any (n : Int) (w : World) (h0 : 0 ≤ n) (h1 : n ≤ 4294967295) :
    Calls Tryz.prog 170 #[.int .u32 n] w fun e w' => e = .returned (.string (four n)) ∧ Below w.heap.size w w' := by
  have hcv := run_convert_bytes_arg (P := Tryz.prog) (w.alloc (.cells #[.int .u8 (n / 16777216), .int .u8 (n / 65536 % 256), .int .u8 (n / 256 % 256), .int .u8 (n % 256)] 5)) 68 5 Tryz.underlying68 Tryz.underlying5 w.heap.size 0 4 4 [n / 16777216, n / 65536 % 256, n / 256 % 256, n % 256] rfl (by
    intro i hi
    match i, hi with
    | 0, _ => simp
    | 1, _ => simp
    | 2, _ => simp
    | 3, _ => simp) 9 Tryz.underlying9
  go_enter Tryz.func170, Tryz.ntmps170
  go_wp2
  go_ret
  exact ⟨rfl, (Below.refl _ _).alloc (Nat.le_refl _) _⟩
end Go.Proofs.YtclcgakfmcofaaaGreatDoor
/- PLAIN FACTS on frames: what Bytes, Take and Scan compute; that what was framed is taken; that what is cut off is cut off; that a turned bit is told. -/
namespace Go.Proofs.YtclcgakfmcofaaaGreatDoor
set_option linter.unusedVariables false
set_option maxRecDepth 100000

def fSum (s : ByteArray) : Int := wd (crc (L s))
theorem fSum_lt (s : ByteArray) : 0 ≤ fSum s ∧ fSum s ≤ 4294967295 := wd_lt _
def frameOf (s : ByteArray) : ByteArray := four (s.size : Int) ++ four (fSum (four (s.size : Int) ++ s)) ++ s
theorem frame_size (s : ByteArray) : (frameOf s).size = 8 + s.size := by
  unfold frameOf; rw [ByteArray.size_append, ByteArray.size_append, four_size, four_size]
/-! ### Pieces of a frame -/
/-! ### Scan -/
end Go.Proofs.YtclcgakfmcofaaaGreatDoor
