/- PLAIN FACTS on sums of bytes (CRC-32, bit by bit), without the program: a step is linear and loses nothing; so one turned bit, and a byte turned beside it, change the sum. -/
import Derived.WalkKit
namespace Go.Proofs.YtllcpdpjfcjopaaDoor

/-- One bit. -/
def poly : BitVec 32 := 0xedb88320#32
def step1 (s : BitVec 32) : BitVec 32 := if s.getLsbD 0 then (s >>> 1) ^^^ poly else s >>> 1
def step8 (s : BitVec 32) : BitVec 32 := step1 (step1 (step1 (step1 (step1 (step1 (step1 (step1 s)))))))
def low (b : UInt8) : BitVec 32 := BitVec.ofNat 32 b.toNat
/-- Byte by byte. -/
def crcFrom : BitVec 32 → List UInt8 → BitVec 32
  | s, [] => s
  | s, b :: l => crcFrom (step8 (s ^^^ low b)) l
def crc (l : List UInt8) : BitVec 32 := ~~~ crcFrom (BitVec.allOnes 32) l

theorem step1_xor (s t : BitVec 32) : step1 (s ^^^ t) = step1 s ^^^ step1 t := by
  unfold step1
  rw [BitVec.ushiftRight_xor_distrib, BitVec.getLsbD_xor]
  cases hs : s.getLsbD 0 <;> cases ht : t.getLsbD 0 <;> simp
  · rw [BitVec.xor_assoc]
  · rw [BitVec.xor_assoc, BitVec.xor_assoc]; congr 1; rw [BitVec.xor_comm]
  · have : s >>> 1 ^^^ poly ^^^ (t >>> 1 ^^^ poly) = s >>> 1 ^^^ t >>> 1 ^^^ (poly ^^^ poly) := by ac_rfl
    rw [this]; simp
theorem step1_zero {s : BitVec 32} (h : step1 s = 0#32) : s = 0#32 := by
  unfold step1 at h
  split at h
  · have e : s >>> 1 = poly := by
      have := congrArg (· ^^^ poly) h
      simpa [BitVec.xor_assoc] using this
    have e2 := congrArg BitVec.toNat e
    have hl := s.isLt
    rw [BitVec.toNat_ushiftRight, Nat.shiftRight_eq_div_pow] at e2
    have : poly.toNat = 3988292384 := by decide
    omega
  · rename_i hb
    have e2 := congrArg BitVec.toNat h
    rw [BitVec.toNat_ushiftRight, Nat.shiftRight_eq_div_pow] at e2
    have hb' : s.toNat % 2 = 0 := by
      have : s.getLsbD 0 = s.toNat.testBit 0 := rfl
      rw [this, Nat.testBit_zero] at hb
      simpa using hb
    apply BitVec.eq_of_toNat_eq
    simp at e2 ⊢
    omega
theorem step8_xor (s t : BitVec 32) : step8 (s ^^^ t) = step8 s ^^^ step8 t := by simp only [step8, step1_xor]
theorem step8_zero {s : BitVec 32} (h : step8 s = 0#32) : s = 0#32 :=
  step1_zero (step1_zero (step1_zero (step1_zero (step1_zero (step1_zero (step1_zero (step1_zero h)))))))
theorem crc_ne_from : ∀ (l : List UInt8) (s t : BitVec 32), s ≠ t → crcFrom s l ≠ crcFrom t l
  | [], _, _, h => h
  | b :: l, s, t, h => crc_ne_from l _ _ fun e => h (by
      have h0 : step8 ((s ^^^ low b) ^^^ (t ^^^ low b)) = 0#32 := by rw [step8_xor, e]; simp
      have h1 := step8_zero h0
      have h2 : s ^^^ t = 0#32 := by
        rw [← h1, show s ^^^ low b ^^^ (t ^^^ low b) = s ^^^ t ^^^ (low b ^^^ low b) by ac_rfl]
        simp
      simpa [BitVec.xor_assoc] using congrArg (· ^^^ t) h2)
theorem crcFrom_append (a b : List UInt8) : ∀ s, crcFrom s (a ++ b) = crcFrom (crcFrom s a) b := by
  induction a with
  | nil => intro s; rfl
  | cons x a ih => intro s; exact ih _

/-- One byte is another one. -/
theorem crc_one (a b : List UInt8) (x y : UInt8) (h : low x ≠ low y) : crc (a ++ x :: b) ≠ crc (a ++ y :: b) := by
  intro e
  have e2 : crcFrom (BitVec.allOnes 32) (a ++ x :: b) = crcFrom (BitVec.allOnes 32) (a ++ y :: b) := by
    have := congrArg (~~~ ·) e
    simpa [crc] using this
  rw [crcFrom_append, crcFrom_append] at e2
  refine crc_ne_from b _ _ ?_ e2
  intro e3
  generalize crcFrom (BitVec.allOnes 32) a = s at e3
  have h0 : step8 ((s ^^^ low x) ^^^ (s ^^^ low y)) = 0#32 := by rw [step8_xor, e3]; simp
  have h1 := step8_zero h0
  have h2 : low x ^^^ low y = 0#32 := by
    rw [← h1, show s ^^^ low x ^^^ (s ^^^ low y) = (s ^^^ s) ^^^ (low x ^^^ low y) by ac_rfl]
    simp
  exact h (by simpa [BitVec.xor_assoc] using congrArg (· ^^^ low y) h2)

/-- One bit of a byte is turned, and the byte behind it is another one, or not. -/
theorem crc_two (a b : List UInt8) (x y x' y' : UInt8) (d : BitVec 32) (hx : low x ^^^ low x' = d) (hd : ∀ e : UInt8, step8 d ≠ low e) (hy : ∃ e : UInt8, low y ^^^ low y' = low e) : crc (a ++ x :: y :: b) ≠ crc (a ++ x' :: y' :: b) := by
  intro e
  have e2 : crcFrom (BitVec.allOnes 32) (a ++ x :: y :: b) = crcFrom (BitVec.allOnes 32) (a ++ x' :: y' :: b) := by
    have := congrArg (~~~ ·) e
    simpa [crc] using this
  rw [crcFrom_append, crcFrom_append] at e2
  refine crc_ne_from b _ _ ?_ e2
  intro e3
  generalize crcFrom (BitVec.allOnes 32) a = s at e3
  obtain ⟨ey, hy⟩ := hy
  have h0 : step8 ((step8 (s ^^^ low x) ^^^ low y) ^^^ (step8 (s ^^^ low x') ^^^ low y')) = 0#32 := by rw [step8_xor, e3]; simp
  have h1 := step8_zero h0
  have h2 : step8 d ^^^ low ey = 0#32 := by
    rw [← h1, ← hx, ← hy, step8_xor s, step8_xor s, step8_xor,
      show step8 s ^^^ step8 (low x) ^^^ low y ^^^ (step8 s ^^^ step8 (low x') ^^^ low y') = (step8 s ^^^ step8 s) ^^^ (step8 (low x) ^^^ step8 (low x') ^^^ (low y ^^^ low y')) by ac_rfl]
    simp
  exact hd ey (by simpa [BitVec.xor_assoc] using congrArg (· ^^^ low ey) h2)
/-- A bit's own sum is no byte. -/
theorem bit_far : ∀ j : Fin 8, ∀ e : UInt8, step8 (BitVec.ofNat 32 (2 ^ j.val)) ≠ low e := by
  intro j e h
  have h2 := congrArg BitVec.toNat h
  have hl : (low e).toNat < 256 := by
    unfold low
    rw [BitVec.toNat_ofNat]
    have := e.toNat_lt
    omega
  have key : ∀ j : Fin 8, 256 ≤ (step8 (BitVec.ofNat 32 (2 ^ j.val))).toNat := by decide +kernel
  have := key j
  omega
theorem crc_word : crc [49, 50, 51, 52, 53, 54, 55, 56, 57] = 0xcbf43926#32 := by decide +kernel
end Go.Proofs.YtllcpdpjfcjopaaDoor
