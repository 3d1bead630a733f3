/- Numbers as words: each number has one form. No program in this text. -/
import Derived.Lib.Atoi
import Derived.Lib.ParseIntBTie
import Derived.Lib.ParseIntBCases
import Derived.Lib.ItoaNum
namespace Go.Proofs.YtaagllbcmgnbnaaGreatDoor
open Go.Lib
set_option linter.unusedVariables false
set_option maxRecDepth 100000

/-- The number that a word is. -/
def numOf (l : List UInt8) : Option Int :=
  match parseIntB 64 l with
  | .ok v => if itoa v = l then some v else none
  | _ => none

theorem decFrom_snoc (l : List UInt8) (c : UInt8) : ∀ acc : Nat, decFrom acc (l ++ [c]) = (decFrom acc l).bind fun n => (digitVal c).map fun d => n * 10 + d := by
  induction l with
  | nil => intro acc; simp only [List.nil_append, decFrom]; cases digitVal c <;> simp
  | cons b r ih =>
    intro acc
    simp only [List.cons_append, decFrom]
    cases digitVal b with
    | none => rfl
    | some d => exact ih _
theorem digitVal_of (d : Nat) (h : d < 10) : digitVal (UInt8.ofNat (48 + d)) = some d := by
  have : ∀ d : Fin 10, digitVal (UInt8.ofNat (48 + d.val)) = some d.val := by decide
  exact this ⟨d, h⟩
theorem decFrom_digits (u : Nat) : decFrom 0 (decDigits u) = some u := by
  induction u using Nat.strongRecOn with
  | ind u ih =>
    rw [decDigits]
    by_cases h : u < 10
    · rw [dif_pos h]
      simp only [decFrom, digitVal_of u h, Nat.zero_mul, Nat.zero_add]
    · rw [dif_neg h, decFrom_snoc, ih (u / 10) (by omega)]
      simp only [Option.bind_some, digitVal_of (u % 10) (by omega), Option.map_some]
      congr 1
      omega
theorem digits_ne (u : Nat) : decDigits u ≠ [] := by
  rw [decDigits]; split <;> simp
theorem decFrom_le : ∀ (l : List UInt8) (acc u : Nat), decFrom acc l = some u → acc ≤ u := by
  intro l
  induction l with
  | nil => intro acc u h; simp [decFrom] at h; omega
  | cons b r ih =>
    intro acc u h
    simp only [decFrom] at h
    cases hb : digitVal b with
    | none => rw [hb] at h; simp at h
    | some d => rw [hb] at h; have := ih _ _ h; omega
theorem parseUint_of : ∀ (l : List UInt8) (acc u : Nat), decFrom acc l = some u → u < 18446744073709551616 → parseUint10 acc l = .ok u := by
  intro l
  induction l with
  | nil => intro acc u h _; simp [decFrom] at h; simp [parseUint10, h]
  | cons b r ih =>
    intro acc u h hu
    simp only [decFrom] at h
    cases hb : digitVal b with
    | none => rw [hb] at h; simp at h
    | some d =>
      rw [hb] at h
      simp only at h
      have hle := decFrom_le _ _ _ h
      obtain ⟨h1, h2, h3⟩ := digitVal_eq hb
      subst h3
      simp only [parseUint10]
      rw [if_pos ⟨h1, h2⟩, if_neg (by omega), if_neg (by omega)]
      exact ih _ _ h hu
theorem head_digit (u : Nat) : ∃ c r, decDigits u = c :: r ∧ 48 ≤ c.toNat ∧ c.toNat ≤ 57 := by
  cases h : decDigits u with
  | nil => exact absurd h (digits_ne u)
  | cons c r =>
    refine ⟨c, r, rfl, ?_⟩
    obtain ⟨d, hd⟩ := digit_of_decFrom _ 0 u (decFrom_digits u) 0 c (by rw [h]; rfl)
    obtain ⟨h1, h2, _⟩ := digitVal_eq hd
    exact ⟨h1, h2⟩
theorem parseMag_digits (u : Nat) (h : u < 18446744073709551616) : parseMag (decDigits u) = .ok u := by
  unfold parseMag
  rw [if_neg (digits_ne u)]
  exact parseUint_of _ _ _ (decFrom_digits u) h
theorem parse_itoa (n : Int) (h0 : -9223372036854775808 ≤ n) (h1 : n ≤ 9223372036854775807) : parseIntB 64 (itoa n) = .ok n := by
  rw [parseIntB_64]
  unfold itoa
  by_cases hn : n < 0
  · rw [if_pos hn]
    unfold atoiAll
    simp only [show (45 : UInt8).toNat = 45 from rfl, or_true, if_true]
    rw [parseMag_digits _ (by omega)]
    simp
    rw [if_neg (by omega)]
    congr 1
    omega
  · rw [if_neg hn]
    obtain ⟨c, r, e, hc1, hc2⟩ := head_digit n.toNat
    have hm := parseMag_digits n.toNat (by omega)
    rw [e] at hm ⊢
    unfold atoiAll
    simp only
    rw [if_neg (by omega), hm]
    simp only
    rw [if_neg (by omega), if_neg (by omega), if_neg (by omega)]
    congr 1
    omega
theorem numOf_iff (l : List UInt8) (n : Int) : numOf l = some n ↔ l = itoa n ∧ -9223372036854775808 ≤ n ∧ n ≤ 9223372036854775807 := by
  constructor
  · intro h
    unfold numOf at h
    split at h
    · rename_i v hv
      split at h
      · rename_i he
        simp at h
        subst h
        have := parseIntB_bounds hv
        refine ⟨he.symm, ?_, ?_⟩
        · have := this.1; rw [show ((2 ^ (64 - 1) : Nat) : Int) = 9223372036854775808 from rfl] at this; omega
        · have := this.2; rw [show ((2 ^ (64 - 1) : Nat) : Int) = 9223372036854775808 from rfl] at this; omega
      · simp at h
    · simp at h
  · rintro ⟨rfl, h0, h1⟩
    unfold numOf
    rw [parse_itoa n h0 h1]
    simp

end Go.Proofs.YtaagllbcmgnbnaaGreatDoor
