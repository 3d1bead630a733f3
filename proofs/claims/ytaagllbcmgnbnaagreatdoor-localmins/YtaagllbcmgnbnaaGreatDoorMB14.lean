/- Numbers as words: each number has one form. No program in this text. -/
import Derived.Lib.Atoi
import Derived.Lib.ParseIntBTie
import Derived.Lib.ParseIntBCases
import Derived.Lib.ItoaNum
namespace Go.Proofs.YtaagllbcmgnbnaaGreatDoor
open Go.Lib
set_option linter.unusedVariables false
set_option maxRecDepth 100000

/-- The number that a word is. -/
def numOf (l : List UInt8) : Option Int :=
  match parseIntB 64 l with
  | .ok v => if itoa v = l then some v else none
  | _ => none

theorem decFrom_snoc (l : List UInt8) (c : UInt8) : ∀ acc : Nat, decFrom acc (l ++ [c]) = (decFrom acc l).bind fun n => (digitVal c).map fun d => n * 10 + d := by
  induction l with
  | nil => intro acc; simp only [List.nil_append, decFrom]; cases digitVal c <;> simp
  | cons b r ih =>
    intro acc
    simp only [List.cons_append, decFrom]
    cases digitVal b with
    | none => rfl
    | some d => exact ih _
theorem digitVal_of (d : Nat) (h : d < 10) : digitVal (UInt8.ofNat (48 + d)) = some d := by
  have : ∀ d : Fin 10, digitVal (UInt8.ofNat (48 + d.val)) = some d.val := by decide
  exact this ⟨d, h⟩
theorem decFrom_digits (u : Nat) : decFrom 0 (decDigits u) = some u := by
  induction u using Nat.strongRecOn with
  | ind u ih =>
    rw [decDigits]
    by_cases h : u < 10
    · rw [dif_pos h]
      simp only [decFrom, digitVal_of u h, Nat.zero_mul, Nat.zero_add]
    · rw [dif_neg h, decFrom_snoc, ih (u / 10) (by omega)]
      simp only [Option.bind_some, digitVal_of (u % 10) (by omega), Option.map_some]
      congr 1
      omega
theorem digits_ne (u : Nat) : decDigits u ≠ [] := by
  rw [decDigits]; split <;> simp
theorem digits_zero : decDigits 0 = [48] := by rw [decDigits]; rfl
theorem ofNat_toNat (c : UInt8) (d : Nat) (h : digitVal c = some d) : UInt8.ofNat (48 + d) = c ∧ d < 10 := by
  obtain ⟨h1, h2, h3⟩ := digitVal_eq h
  refine ⟨?_, by omega⟩
  have : 48 + d = c.toNat := by omega
  rw [this]
  simp
/-- Digits with no needless zero are the digits of what they spell. -/
theorem digits_of : ∀ (n : Nat) (s : List UInt8) (u : Nat), s.length = n → s ≠ [] → decFrom 0 s = some u → (s.head? = some 48 → s.length = 1) → s = decDigits u := by
  intro n
  induction n with
  | zero => intro s u hl hne; exact absurd (List.length_eq_zero_iff.1 hl) hne
  | succ n ih =>
    intro s u hl hne hd hh
    obtain ⟨t, c, rfl⟩ : ∃ t c, s = t ++ [c] := ⟨s.dropLast, s.getLast hne, (List.dropLast_concat_getLast hne).symm⟩
    rw [decFrom_snoc] at hd
    cases ht : decFrom 0 t with
    | none => rw [ht] at hd; simp at hd
    | some v =>
      rw [ht] at hd
      cases hc : digitVal c with
      | none => rw [hc] at hd; simp at hd
      | some d =>
        rw [hc] at hd
        simp at hd
        obtain ⟨e, hd10⟩ := ofNat_toNat c d hc
        by_cases h0 : t = []
        · subst h0
          simp [decFrom] at ht
          subst ht
          rw [decDigits, dif_pos (by omega), List.nil_append, show 48 + u = 48 + d by omega, e]
        · have hh' : t.head? ≠ some 48 := by
            intro h48
            have : (t ++ [c]).head? = some 48 := by
              cases t with
              | nil => exact absurd rfl h0
              | cons a t => simpa using h48
            have := hh this
            simp only [List.length_append, List.length_singleton] at this
            exact h0 (List.length_eq_zero_iff.1 (by omega))
          have e2 := ih t v (by simp at hl; omega) h0 ht (fun h => absurd h hh')
          have hv : v ≠ 0 := by
            intro hv
            rw [hv, digits_zero] at e2
            rw [e2] at hh'
            simp at hh'
          rw [decDigits, dif_neg (by omega)]
          rw [show u / 10 = v by omega, show u % 10 = d by omega, ← e2, e]
theorem decFrom_le : ∀ (l : List UInt8) (acc u : Nat), decFrom acc l = some u → acc ≤ u := by
  intro l
  induction l with
  | nil => intro acc u h; simp [decFrom] at h; omega
  | cons b r ih =>
    intro acc u h
    simp only [decFrom] at h
    cases hb : digitVal b with
    | none => rw [hb] at h; simp at h
    | some d => rw [hb] at h; have := ih _ _ h; omega
theorem parseUint_of : ∀ (l : List UInt8) (acc u : Nat), decFrom acc l = some u → u < 18446744073709551616 → parseUint10 acc l = .ok u := by
  intro l
  induction l with
  | nil => intro acc u h _; simp [decFrom] at h; simp [parseUint10, h]
  | cons b r ih =>
    intro acc u h hu
    simp only [decFrom] at h
    cases hb : digitVal b with
    | none => rw [hb] at h; simp at h
    | some d =>
      rw [hb] at h
      simp only at h
      have hle := decFrom_le _ _ _ h
      obtain ⟨h1, h2, h3⟩ := digitVal_eq hb
      subst h3
      simp only [parseUint10]
      rw [if_pos ⟨h1, h2⟩, if_neg (by omega), if_neg (by omega)]
      exact ih _ _ h hu
theorem head_digit (u : Nat) : ∃ c r, decDigits u = c :: r ∧ 48 ≤ c.toNat ∧ c.toNat ≤ 57 := by
  cases h : decDigits u with
  | nil => exact absurd h (digits_ne u)
  | cons c r =>
    refine ⟨c, r, rfl, ?_⟩
    obtain ⟨d, hd⟩ := digit_of_decFrom _ 0 u (decFrom_digits u) 0 c (by rw [h]; rfl)
    obtain ⟨h1, h2, _⟩ := digitVal_eq hd
    exact ⟨h1, h2⟩
theorem head_zero (u : Nat) (h : (decDigits u).head? = some 48) : u = 0 := by
  induction u using Nat.strongRecOn with
  | ind u ih =>
    rw [decDigits] at h
    by_cases hu : u < 10
    · rw [dif_pos hu] at h
      simp at h
      have := congrArg UInt8.toNat h
      simp at this
      omega
    · rw [dif_neg hu] at h
      have : (decDigits (u / 10)).head? = some 48 := by
        cases hd : decDigits (u / 10) with
        | nil => exact absurd hd (digits_ne _)
        | cons a t => rw [hd] at h; simpa using h
      have := ih (u / 10) (by omega) this
      omega
theorem parseMag_digits (u : Nat) (h : u < 18446744073709551616) : parseMag (decDigits u) = .ok u := by
  unfold parseMag
  rw [if_neg (digits_ne u)]
  exact parseUint_of _ _ _ (decFrom_digits u) h
theorem parse_itoa (n : Int) (h0 : -9223372036854775808 ≤ n) (h1 : n ≤ 9223372036854775807) : parseIntB 64 (itoa n) = .ok n := by
  rw [parseIntB_64]
  unfold itoa
  by_cases hn : n < 0
  · rw [if_pos hn]
    unfold atoiAll
    simp only [show (45 : UInt8).toNat = 45 from rfl, or_true, if_true]
    rw [parseMag_digits _ (by omega)]
    simp
    rw [if_neg (by omega)]
    congr 1
    omega
  · rw [if_neg hn]
    obtain ⟨c, r, e, hc1, hc2⟩ := head_digit n.toNat
    have hm := parseMag_digits n.toNat (by omega)
    rw [e] at hm ⊢
    unfold atoiAll
    simp only
    rw [if_neg (by omega), hm]
    simp only
    rw [if_neg (by omega), if_neg (by omega), if_neg (by omega)]
    congr 1
    omega
theorem numOf_iff (l : List UInt8) (n : Int) : numOf l = some n ↔ l = itoa n ∧ -9223372036854775808 ≤ n ∧ n ≤ 9223372036854775807 := by
  constructor
  · intro h
    unfold numOf at h
    split at h
    · rename_i v hv
      split at h
      · rename_i he
        simp at h
        subst h
        have := parseIntB_bounds hv
        refine ⟨he.symm, ?_, ?_⟩
        · have := this.1; rw [show ((2 ^ (64 - 1) : Nat) : Int) = 9223372036854775808 from rfl] at this; omega
        · have := this.2; rw [show ((2 ^ (64 - 1) : Nat) : Int) = 9223372036854775808 from rfl] at this; omega
      · simp at h
    · simp at h
  · rintro ⟨rfl, h0, h1⟩
    unfold numOf
    rw [parse_itoa n h0 h1]
    simp

theorem nDigits_le (k u : Nat) (h : u < 10 ^ (k + 1)) : nDigits u ≤ k + 1 := by
  induction k generalizing u with
  | zero => rw [nDigits_small (by simpa using h)]; omega
  | succ k ih =>
    by_cases hu : u < 10
    · rw [nDigits_small hu]; omega
    · rw [nDigits_big hu]
      have := ih (u / 10) (by rw [Nat.div_lt_iff_lt_mul (by omega), ← Nat.pow_succ]; exact h)
      omega
/-- How the page's own reads a number. -/
def refNeg (t : List UInt8) : Option Int :=
  if t = [] ∨ 19 < t.length ∨ t.head? = some 48 then none
  else (decFrom 0 t).bind fun u => if 9223372036854775808 < u then none else some (-(u : Int))
def refPos (w : List UInt8) : Option Int :=
  if w = [] ∨ 19 < w.length ∨ (w.head? = some 48 ∧ 1 < w.length) then none
  else (decFrom 0 w).bind fun u => if 9223372036854775808 ≤ u then none else some (u : Int)
def refNum (w : List UInt8) : Option Int := if w.head? = some 45 then refNeg w.tail else refPos w
theorem itoa_neg (u : Nat) (h : u ≠ 0) : itoa (-(u : Int)) = 45 :: decDigits u := by
  unfold itoa
  rw [if_pos (by omega)]
  simp
theorem itoa_nat (u : Nat) : itoa (u : Int) = decDigits u := by
  unfold itoa
  rw [if_neg (by omega)]
  simp
theorem refNum_iff (l : List UInt8) (n : Int) : refNum l = some n ↔ l = itoa n ∧ -9223372036854775808 ≤ n ∧ n ≤ 9223372036854775807 := by
  constructor
  · intro h
    unfold refNum at h
    by_cases hs : l.head? = some 45
    · rw [if_pos hs] at h
      obtain ⟨t, rfl⟩ : ∃ t, l = 45 :: t := by
        cases l with
        | nil => simp at hs
        | cons a t => simp at hs; subst hs; exact ⟨t, rfl⟩
      rw [List.tail_cons] at h
      unfold refNeg at h
      by_cases hb : t = [] ∨ 19 < t.length ∨ t.head? = some 48
      · rw [if_pos hb] at h; simp at h
      · rw [if_neg hb] at h
        cases hd : decFrom 0 t with
        | none => rw [hd] at h; simp at h
        | some u =>
          rw [hd] at h
          simp at h
          obtain ⟨h1, h2⟩ := h
          have ht := digits_of _ t u rfl (fun h => hb (.inl h)) hd (fun h => absurd h (fun h => hb (.inr (.inr h))))
          have hu : u ≠ 0 := by
            intro hu
            subst hu
            rw [digits_zero] at ht
            exact hb (.inr (.inr (by rw [ht]; rfl)))
          subst h2
          exact ⟨by rw [itoa_neg u hu, ht], by omega, by omega⟩
    · rw [if_neg hs] at h
      unfold refPos at h
      by_cases hb : l = [] ∨ 19 < l.length ∨ (l.head? = some 48 ∧ 1 < l.length)
      · rw [if_pos hb] at h; simp at h
      · rw [if_neg hb] at h
        cases hd : decFrom 0 l with
        | none => rw [hd] at h; simp at h
        | some u =>
          rw [hd] at h
          simp at h
          obtain ⟨h1, h2⟩ := h
          have hne : l ≠ [] := fun h => hb (.inl h)
          have hlen : 0 < l.length := List.length_pos_iff.2 hne
          have ht := digits_of _ l u rfl hne hd (fun h => by
            by_cases h1 : 1 < l.length
            · exact absurd (Or.inr (.inr ⟨h, h1⟩)) hb
            · omega)
          subst h2
          exact ⟨by rw [itoa_nat, ← ht], by omega, by omega⟩
  · rintro ⟨rfl, h0, h1⟩
    unfold refNum
    by_cases hn : n < 0
    · obtain ⟨u, rfl⟩ : ∃ u : Nat, n = -(u : Int) := ⟨n.natAbs, by omega⟩
      rw [itoa_neg u (by omega)]
      rw [List.head?_cons, if_pos rfl, List.tail_cons]
      unfold refNeg
      have hl : (decDigits u).length ≤ 19 := by rw [decDigits_length]; exact nDigits_le 18 u (by rw [show (10 : Nat) ^ (18 + 1) = 10000000000000000000 from rfl]; omega)
      rw [if_neg]
      · rw [decFrom_digits]
        simp
        omega
      · rintro (h | h | h)
        · exact digits_ne u h
        · omega
        · have := head_zero u h; omega
    · obtain ⟨u, rfl⟩ : ∃ u : Nat, n = (u : Int) := ⟨n.toNat, by omega⟩
      rw [itoa_nat]
      obtain ⟨c, r, e, hc1, hc2⟩ := head_digit u
      have hl : (decDigits u).length ≤ 19 := by rw [decDigits_length]; exact nDigits_le 18 u (by rw [show (10 : Nat) ^ (18 + 1) = 10000000000000000000 from rfl]; omega)
      rw [if_neg (by rw [e]; simp; intro h; subst h; simp at hc1)]
      unfold refPos
      rw [if_neg]
      · rw [decFrom_digits]
        simp
        omega
      · rintro (h | h | ⟨h, h2⟩)
        · exact digits_ne u h
        · omega
        · have := head_zero u h
          subst this
          rw [digits_zero] at h2
          simp at h2
theorem refNum_eq (l : List UInt8) : refNum l = numOf l := by
  cases h : numOf l with
  | some n => exact (refNum_iff l n).2 ((numOf_iff l n).1 h)
  | none =>
    cases h2 : refNum l with
    | none => rfl
    | some n => rw [(numOf_iff l n).2 ((refNum_iff l n).1 h2)] at h; simp at h
end Go.Proofs.YtaagllbcmgnbnaaGreatDoor
