/- Texts laid together: Crc, CrcInt. -/
import Derived.WalkKit
import Derived.Laws.BitsAllLaws
/- PLAIN FACTS on sums of bytes (CRC-32, bit by bit), without the program: a step is linear and loses nothing; so one turned bit, and a byte turned beside it, change the sum. -/
namespace Go.Proofs.YtejgcflcckjlpaaGreatDoor

/-- One bit. -/
def poly : BitVec 32 := 0xedb88320#32
def step1 (s : BitVec 32) : BitVec 32 := if s.getLsbD 0 then (s >>> 1) ^^^ poly else s >>> 1
def step8 (s : BitVec 32) : BitVec 32 := step1 (step1 (step1 (step1 (step1 (step1 (step1 (step1 s)))))))
def low (b : UInt8) : BitVec 32 := BitVec.ofNat 32 b.toNat
/-- Byte by byte. -/
def crcFrom : BitVec 32 → List UInt8 → BitVec 32
  | s, [] => s
  | s, b :: l => crcFrom (step8 (s ^^^ low b)) l
def crc (l : List UInt8) : BitVec 32 := ~~~ crcFrom (BitVec.allOnes 32) l

theorem step1_xor (s t : BitVec 32) : step1 (s ^^^ t) = step1 s ^^^ step1 t := by
  unfold step1
  rw [BitVec.ushiftRight_xor_distrib, BitVec.getLsbD_xor]
  cases hs : s.getLsbD 0 <;> cases ht : t.getLsbD 0 <;> simp
  · rw [BitVec.xor_assoc]
  · rw [BitVec.xor_assoc, BitVec.xor_assoc]; congr 1; rw [BitVec.xor_comm]
  · have : s >>> 1 ^^^ poly ^^^ (t >>> 1 ^^^ poly) = s >>> 1 ^^^ t >>> 1 ^^^ (poly ^^^ poly) := by ac_rfl
    rw [this]; simp
theorem step1_zero {s : BitVec 32} (h : step1 s = 0#32) : s = 0#32 := by
  unfold step1 at h
  split at h
  · have e : s >>> 1 = poly := by
      have := congrArg (· ^^^ poly) h
      simpa [BitVec.xor_assoc] using this
    have e2 := congrArg BitVec.toNat e
    have hl := s.isLt
    rw [BitVec.toNat_ushiftRight, Nat.shiftRight_eq_div_pow] at e2
    have : poly.toNat = 3988292384 := by decide
    omega
  · rename_i hb
    have e2 := congrArg BitVec.toNat h
    rw [BitVec.toNat_ushiftRight, Nat.shiftRight_eq_div_pow] at e2
    have hb' : s.toNat % 2 = 0 := by
      have : s.getLsbD 0 = s.toNat.testBit 0 := rfl
      rw [this, Nat.testBit_zero] at hb
      simpa using hb
    apply BitVec.eq_of_toNat_eq
    simp at e2 ⊢
    omega
theorem step8_xor (s t : BitVec 32) : step8 (s ^^^ t) = step8 s ^^^ step8 t := by simp only [step8, step1_xor]
theorem step8_zero {s : BitVec 32} (h : step8 s = 0#32) : s = 0#32 :=
  step1_zero (step1_zero (step1_zero (step1_zero (step1_zero (step1_zero (step1_zero (step1_zero h)))))))
theorem crc_ne_from : ∀ (l : List UInt8) (s t : BitVec 32), s ≠ t → crcFrom s l ≠ crcFrom t l
  | [], _, _, h => h
  | b :: l, s, t, h => crc_ne_from l _ _ fun e => h (by
      have h0 : step8 ((s ^^^ low b) ^^^ (t ^^^ low b)) = 0#32 := by rw [step8_xor, e]; simp
      have h1 := step8_zero h0
      have h2 : s ^^^ t = 0#32 := by
        rw [← h1, show s ^^^ low b ^^^ (t ^^^ low b) = s ^^^ t ^^^ (low b ^^^ low b) by ac_rfl]
        simp
      simpa [BitVec.xor_assoc] using congrArg (· ^^^ t) h2)
theorem crcFrom_append (a b : List UInt8) : ∀ s, crcFrom s (a ++ b) = crcFrom (crcFrom s a) b := by
  induction a with
  | nil => intro s; rfl
  | cons x a ih => intro s; exact ih _

/-- One byte is another one. -/
theorem crc_one (a b : List UInt8) (x y : UInt8) (h : low x ≠ low y) : crc (a ++ x :: b) ≠ crc (a ++ y :: b) := by
  intro e
  have e2 : crcFrom (BitVec.allOnes 32) (a ++ x :: b) = crcFrom (BitVec.allOnes 32) (a ++ y :: b) := by
    have := congrArg (~~~ ·) e
    simpa [crc] using this
  rw [crcFrom_append, crcFrom_append] at e2
  refine crc_ne_from b _ _ ?_ e2
  intro e3
  generalize crcFrom (BitVec.allOnes 32) a = s at e3
  have h0 : step8 ((s ^^^ low x) ^^^ (s ^^^ low y)) = 0#32 := by rw [step8_xor, e3]; simp
  have h1 := step8_zero h0
  have h2 : low x ^^^ low y = 0#32 := by
    rw [← h1, show s ^^^ low x ^^^ (s ^^^ low y) = (s ^^^ s) ^^^ (low x ^^^ low y) by ac_rfl]
    simp
  exact h (by simpa [BitVec.xor_assoc] using congrArg (· ^^^ low y) h2)

/-- One bit of a byte is turned, and the byte behind it is another one, or not. -/
theorem crc_two (a b : List UInt8) (x y x' y' : UInt8) (d : BitVec 32) (hx : low x ^^^ low x' = d) (hd : ∀ e : UInt8, step8 d ≠ low e) (hy : ∃ e : UInt8, low y ^^^ low y' = low e) : crc (a ++ x :: y :: b) ≠ crc (a ++ x' :: y' :: b) := by
  intro e
  have e2 : crcFrom (BitVec.allOnes 32) (a ++ x :: y :: b) = crcFrom (BitVec.allOnes 32) (a ++ x' :: y' :: b) := by
    have := congrArg (~~~ ·) e
    simpa [crc] using this
  rw [crcFrom_append, crcFrom_append] at e2
  refine crc_ne_from b _ _ ?_ e2
  intro e3
  generalize crcFrom (BitVec.allOnes 32) a = s at e3
  obtain ⟨ey, hy⟩ := hy
  have h0 : step8 ((step8 (s ^^^ low x) ^^^ low y) ^^^ (step8 (s ^^^ low x') ^^^ low y')) = 0#32 := by rw [step8_xor, e3]; simp
  have h1 := step8_zero h0
  have h2 : step8 d ^^^ low ey = 0#32 := by
    rw [← h1, ← hx, ← hy, step8_xor s, step8_xor s, step8_xor,
      show step8 s ^^^ step8 (low x) ^^^ low y ^^^ (step8 s ^^^ step8 (low x') ^^^ low y') = (step8 s ^^^ step8 s) ^^^ (step8 (low x) ^^^ step8 (low x') ^^^ (low y ^^^ low y')) by ac_rfl]
    simp
  exact hd ey (by simpa [BitVec.xor_assoc] using congrArg (· ^^^ low ey) h2)
/-- A bit's own sum is no byte. -/
theorem bit_far : ∀ j : Fin 8, ∀ e : UInt8, step8 (BitVec.ofNat 32 (2 ^ j.val)) ≠ low e := by
  intro j e h
  have h2 := congrArg BitVec.toNat h
  have hl : (low e).toNat < 256 := by
    unfold low
    rw [BitVec.toNat_ofNat]
    have := e.toNat_lt
    omega
  have key : ∀ j : Fin 8, 256 ≤ (step8 (BitVec.ofNat 32 (2 ^ j.val))).toNat := by decide +kernel
  have := key j
  omega
theorem crc_word : crc [49, 50, 51, 52, 53, 54, 55, 56, 57] = 0xcbf43926#32 := by decide +kernel
end Go.Proofs.YtejgcflcckjlpaaGreatDoor
/- The sums of bytes as the program's integers: xor, shift, the lowest bit, four bits by the table. -/
namespace Go.Proofs.YtejgcflcckjlpaaGreatDoor
set_option linter.unusedVariables false
set_option maxRecDepth 100000

/-- A word as the program's integer. -/
def wd (x : BitVec 32) : Int := ((x.toNat : Nat) : Int)
theorem wd_lt (x : BitVec 32) : 0 ≤ wd x ∧ wd x ≤ 4294967295 := by
  have := x.isLt
  unfold wd
  omega
theorem wd_inj {x y : BitVec 32} (h : wd x = wd y) : x = y := BitVec.eq_of_toNat_eq (by unfold wd at h; omega)
theorem wd_xor (x y : BitVec 32) : bits .xor .u32 (wd x) (wd y) = wd (x ^^^ y) := by
  have h1 := x.isLt
  have h2 := y.isLt
  unfold wd
  rw [u32_xor_nat _ _ (by omega) (by omega), BitVec.toNat_xor]
theorem wd_low (b : UInt8) : ((b.toNat : Nat) : Int) = wd (low b) := by
  have := b.toNat_lt
  unfold wd low
  rw [BitVec.toNat_ofNat]
  omega
theorem wd_xor_byte (x : BitVec 32) (b : UInt8) : bits .xor .u32 (wd x) ((b.toNat : Nat) : Int) = wd (x ^^^ low b) := by rw [wd_low, wd_xor]
theorem wd_ones : (4294967295 : Int) = wd (BitVec.allOnes 32) := by decide
theorem wd_poly : (3988292384 : Int) = wd poly := by decide
theorem wd_not (x : BitVec 32) : bits .xor .u32 4294967295 (wd x) = wd (~~~ x) := by
  rw [wd_ones, wd_xor]
  congr 1
theorem wd_shr (x : BitVec 32) (k : Nat) : wd x / 2 ^ k = wd (x >>> k) := by
  unfold wd
  rw [BitVec.toNat_ushiftRight, Nat.shiftRight_eq_div_pow]
  simp
theorem wd_and1 (x : BitVec 32) : bits .and .u32 (wd x) 1 = wd (x &&& 1#32) := by
  have h1 := x.isLt
  have e : (1 : Int) = ((1 : Nat) : Int) := rfl
  unfold wd
  rw [e, u32_and_nat _ _ (by omega) (by omega), BitVec.toNat_and]
  rfl
theorem wd_bit (x : BitVec 32) : wd (x &&& 1#32) = if x.getLsbD 0 then 1 else 0 := by
  unfold wd
  rw [BitVec.toNat_and, show x.getLsbD 0 = x.toNat.testBit 0 from rfl, Nat.testBit_zero]
  have : (1#32).toNat = 1 := rfl
  rw [this, Nat.and_one_is_mod]
  split <;> rename_i h <;> simp at h <;> omega

/-- Four bits. -/
def step4 (s : BitVec 32) : BitVec 32 := step1 (step1 (step1 (step1 s)))
theorem step8_two (s : BitVec 32) : step8 s = step4 (step4 s) := rfl
theorem step4_xor (s t : BitVec 32) : step4 (s ^^^ t) = step4 s ^^^ step4 t := by simp only [step4, step1_xor]
theorem step1_even (s : BitVec 32) (h : s.getLsbD 0 = false) : step1 s = s >>> 1 := by unfold step1; rw [h]; rfl
theorem step4_high (s : BitVec 32) (h : s.toNat % 16 = 0) : step4 s = s >>> 4 := by
  have sh : ∀ k, (s >>> k).getLsbD 0 = s.getLsbD k := by intro k; simp
  have b : ∀ k, k < 4 → s.getLsbD k = false := by
    intro k hk
    show s.toNat.testBit k = false
    rw [Nat.testBit_eq_decide_div_mod_eq]
    match k, hk with
    | 0, _ => simp; omega
    | 1, _ => simp; omega
    | 2, _ => simp; omega
    | 3, _ => simp; omega
  unfold step4
  rw [step1_even s (b 0 (by omega)), step1_even (s >>> 1) (by rw [sh]; exact b 1 (by omega)), ← BitVec.shiftRight_add, step1_even (s >>> (1 + 1)) (by rw [sh]; exact b 2 (by omega)), ← BitVec.shiftRight_add,
    step1_even (s >>> (1 + 1 + 1)) (by rw [sh]; exact b 3 (by omega)), ← BitVec.shiftRight_add]
/-- The table's words. -/
def half (k : Nat) : BitVec 32 := step4 (BitVec.ofNat 32 k)
theorem half_small : ∀ k : Fin 16, (BitVec.ofNat 32 k.val) >>> 4 = 0#32 := by decide
theorem step4_table (s : BitVec 32) : (s >>> 4) ^^^ half (s.toNat % 16) = step4 s := by
  have hl := s.isLt
  generalize hn : BitVec.ofNat 32 (s.toNat % 16) = n
  have nn : n.toNat = s.toNat % 16 := by rw [← hn, BitVec.toNat_ofNat]; omega
  have e : s = (s ^^^ n) ^^^ n := by rw [BitVec.xor_assoc]; simp
  have hz : (s ^^^ n).toNat % 16 = 0 := by
    rw [BitVec.toNat_xor, nn, show (16 : Nat) = 2 ^ 4 from rfl, Nat.xor_mod_two_pow]
    simp
  have h0 : n >>> 4 = 0#32 := by
    rw [← hn]
    exact half_small ⟨s.toNat % 16, Nat.mod_lt _ (by decide)⟩
  have h1 : (s ^^^ n) >>> 4 = s >>> 4 := by rw [BitVec.ushiftRight_xor_distrib, h0]; simp
  unfold half
  rw [hn]
  conv => rhs; rw [e, step4_xor, step4_high _ hz, h1]
end Go.Proofs.YtejgcflcckjlpaaGreatDoor
