/- Texts laid together: LNum, LSplit, LParse, LText, LMem, LOps, LBox, LOwn, LGrow, LCount, CPlain, LOkAt. -/
import Derived.Lib.Atoi
import Derived.Lib.ParseIntBTie
import Derived.Lib.ParseIntBCases
import Derived.Lib.ItoaNum
import Derived.Lib.FieldsP
import Derived.Lib.SpaceUEq
import Derived.Lib.Join
import Derived.Test.YtclcgakfmcofaaaGreatDoorMW1
import Derived.Test.YtclcgakfmcofaaaGreatDoorRows
import Derived.WalkKit
import Derived.WalkSmall
import Derived.Below
import Derived.OwnWalk
import Derived.Maps.AppendAt
import Derived.Deep.QuietTactic
import Derived.BigQuiet
set_option linter.unusedVariables false
set_option maxRecDepth 100000
set_option maxHeartbeats 800000
namespace Go.Proofs.YtclcgakfmcofaaaGreatDoor
open Go.Lib
def ch (l : List UInt8) : Option Int :=
 match parseIntB 64 l with
 | .ok v => if itoa v = l then some v else none
 | _ => none
theorem jM (l : List UInt8) (c : UInt8) : ∀ acc : Nat, decFrom acc (l ++ [c]) = (decFrom acc l).bind fun n => (digitVal c).map fun d => n * 10 + d := by
 induction l with
 | nil => intro acc; simp only [List.nil_append, decFrom]; cases digitVal c <;> simp
 | cons b r ih =>
  intro acc
  simp only [List.cons_append, decFrom]
  cases digitVal b with
  | none => rfl
  | some d => exact ih _
theorem lj (d : Nat) (h : d < 10) : digitVal (UInt8.ofNat (48 + d)) = some d := by
 have : ∀ d : Fin 10, digitVal (UInt8.ofNat (48 + d.val)) = some d.val := by decide
 exact this ⟨d, h⟩
theorem dF (u : Nat) : decFrom 0 (decDigits u) = some u := by
 induction u using Nat.strongRecOn with
 | ind u ih =>
  rw [decDigits]
  by_cases h : u < 10
  ·rw [dif_pos h]
   simp only [decFrom, lj u h, Nat.zero_mul, Nat.zero_add]
  ·rw [dif_neg h, jM, ih (u / 10) (by omega)]
   simp only [Option.bind_some, lj (u % 10) (by omega), Option.map_some]
   congr 1
   omega
theorem fF (u : Nat) : decDigits u ≠ [] := by
 rw [decDigits]; split <;> simp
theorem gK : decDigits 0 = [48] := by rw [decDigits]; rfl
theorem ofNat_toNat (c : UInt8) (d : Nat) (h : digitVal c = some d) : UInt8.ofNat (48 + d) = c ∧ d < 10 := by
 obtain ⟨h1, h2, h3⟩ := digitVal_eq h
 refine ⟨?_, by omega⟩
 have : 48 + d = c.toNat := by omega
 rw [this]
 simp
theorem om : ∀ (n : Nat) (s : List UInt8) (u : Nat), s.length = n → s ≠ [] → decFrom 0 s = some u → (s.head? = some 48 → s.length = 1) → s = decDigits u := by
 intro n
 induction n with
 | zero => intro s u hl hne; exact absurd (List.length_eq_zero_iff.1 hl) hne
 | succ n ih =>
  intro s u hl hne hd hh
  obtain ⟨t, c, rfl⟩ : ∃ t c, s = t ++ [c] := ⟨s.dropLast, s.getLast hne, (List.dropLast_concat_getLast hne).symm⟩
  rw [jM] at hd
  cases ht : decFrom 0 t with
  | none => rw [ht] at hd; simp at hd
  | some v =>
   rw [ht] at hd
   cases hc : digitVal c with
   | none => rw [hc] at hd; simp at hd
   | some d =>
    rw [hc] at hd
    simp at hd
    obtain ⟨e, hd10⟩ := ofNat_toNat c d hc
    by_cases h0 : t = []
    ·subst h0
     simp [decFrom] at ht
     subst ht
     rw [decDigits, dif_pos (by omega), List.nil_append, show 48 + u = 48 + d by omega, e]
    ·have hh' : t.head? ≠ some 48 := by
      intro h48
      have : (t ++ [c]).head? = some 48 := by
       cases t with
       | nil => exact absurd rfl h0
       | cons a t => simpa using h48
      have := hh this
      simp only [List.length_append, List.length_singleton] at this
      exact h0 (List.length_eq_zero_iff.1 (by omega))
     have e2 := ih t v (by simp at hl; omega) h0 ht (fun h => absurd h hh')
     have hv : v ≠ 0 := by
      intro hv
      rw [hv, gK] at e2
      rw [e2] at hh'
      simp at hh'
     rw [decDigits, dif_neg (by omega)]
     rw [show u / 10 = v by omega, show u % 10 = d by omega, ← e2, e]
theorem decFrom_le : ∀ (l : List UInt8) (acc u : Nat), decFrom acc l = some u → acc ≤ u := by
 intro l
 induction l with
 | nil => intro acc u h; simp [decFrom] at h; omega
 | cons b r ih =>
  intro acc u h
  simp only [decFrom] at h
  cases hb : digitVal b with
  | none => rw [hb] at h; simp at h
  | some d => rw [hb] at h; have := ih _ _ h; omega
theorem parseUint_of : ∀ (l : List UInt8) (acc u : Nat), decFrom acc l = some u → u < 18446744073709551616 → parseUint10 acc l = .ok u := by
 intro l
 induction l with
 | nil => intro acc u h _; simp [decFrom] at h; simp [parseUint10, h]
 | cons b r ih =>
  intro acc u h hu
  simp only [decFrom] at h
  cases hb : digitVal b with
  | none => rw [hb] at h; simp at h
  | some d =>
   rw [hb] at h
   simp only at h
   have hle := decFrom_le _ _ _ h
   obtain ⟨h1, h2, h3⟩ := digitVal_eq hb
   subst h3
   simp only [parseUint10]
   rw [if_pos ⟨h1, h2⟩, if_neg (by omega), if_neg (by omega)]
   exact ih _ _ h hu
theorem mD (u : Nat) : ∃ c r, decDigits u = c :: r ∧ 48 ≤ c.toNat ∧ c.toNat ≤ 57 := by
 cases h : decDigits u with
 | nil => exact absurd h (fF u)
 | cons c r =>
  refine ⟨c, r, rfl, ?_⟩
  obtain ⟨d, hd⟩ := digit_of_decFrom _ 0 u (dF u) 0 c (by rw [h]; rfl)
  obtain ⟨h1, h2, _⟩ := digitVal_eq hd
  exact ⟨h1, h2⟩
theorem oo (u : Nat) (h : (decDigits u).head? = some 48) : u = 0 := by
 induction u using Nat.strongRecOn with
 | ind u ih =>
  rw [decDigits] at h
  by_cases hu : u < 10
  ·rw [dif_pos hu] at h
   simp at h
   have := congrArg UInt8.toNat h
   simp at this
   omega
  ·rw [dif_neg hu] at h
   have : (decDigits (u / 10)).head? = some 48 := by
    cases hd : decDigits (u / 10) with
    | nil => exact absurd hd (fF _)
    | cons a t => rw [hd] at h; simpa using h
   have := ih (u / 10) (by omega) this
   omega
theorem gB (u : Nat) (h : u < 18446744073709551616) : parseMag (decDigits u) = .ok u := by
 unfold parseMag
 rw [if_neg (fF u)]
 exact parseUint_of _ _ _ (dF u) h
theorem parse_itoa (n : Int) (h0 : -9223372036854775808 ≤ n) (h1 : n ≤ 9223372036854775807) : parseIntB 64 (itoa n) = .ok n := by
 rw [parseIntB_64]
 unfold itoa
 by_cases hn : n < 0
 ·rw [if_pos hn]
  unfold atoiAll
  simp only [show (45 : UInt8).toNat = 45 from rfl, or_true, if_true]
  rw [gB _ (by omega)]
  simp
  rw [if_neg (by omega)]
  congr 1
  omega
 ·rw [if_neg hn]
  obtain ⟨c, r, e, hc1, hc2⟩ := mD n.toNat
  have hm := gB n.toNat (by omega)
  rw [e] at hm ⊢
  unfold atoiAll
  simp only
  rw [if_neg (by omega), hm]
  simp only
  rw [if_neg (by omega), if_neg (by omega), if_neg (by omega)]
  congr 1
  omega
theorem kD (l : List UInt8) (n : Int) : ch l = some n ↔ l = itoa n ∧ -9223372036854775808 ≤ n ∧ n ≤ 9223372036854775807 := by
 constructor
 ·intro h
  unfold ch at h
  split at h
  ·rename_i v hv
   split at h
   ·rename_i he
    simp at h
    subst h
    have := parseIntB_bounds hv
    refine ⟨he.symm, ?_, ?_⟩
    ·have := this.1; rw [show ((2 ^ (64 - 1) : Nat) : Int) = 9223372036854775808 from rfl] at this; omega
    ·have := this.2; rw [show ((2 ^ (64 - 1) : Nat) : Int) = 9223372036854775808 from rfl] at this; omega
   ·simp at h
  ·simp at h
 ·rintro ⟨rfl, h0, h1⟩
  unfold ch
  rw [parse_itoa n h0 h1]
  simp
theorem mE (k u : Nat) (h : u < 10 ^ (k + 1)) : nDigits u ≤ k + 1 := by
 induction k generalizing u with
 | zero => rw [nDigits_small (by simpa using h)]; omega
 | succ k ih =>
  by_cases hu : u < 10
  ·rw [nDigits_small hu]; omega
  ·rw [nDigits_big hu]
   have := ih (u / 10) (by rw [Nat.div_lt_iff_lt_mul (by omega), ← Nat.pow_succ]; exact h)
   omega
def cZ (t : List UInt8) : Option Int :=
 if t = [] ∨ 19 < t.length ∨ t.head? = some 48 then none
 else (decFrom 0 t).bind fun u => if 9223372036854775808 < u then none else some (-(u : Int))
def da (w : List UInt8) : Option Int :=
 if w = [] ∨ 19 < w.length ∨ (w.head? = some 48 ∧ 1 < w.length) then none
 else (decFrom 0 w).bind fun u => if 9223372036854775808 ≤ u then none else some (u : Int)
def iU (w : List UInt8) : Option Int := if w.head? = some 45 then cZ w.tail else da w
theorem itoa_neg (u : Nat) (h : u ≠ 0) : itoa (-(u : Int)) = 45 :: decDigits u := by
 unfold itoa
 rw [if_pos (by omega)]
 simp
theorem itoa_nat (u : Nat) : itoa (u : Int) = decDigits u := by
 unfold itoa
 rw [if_neg (by omega)]
 simp
theorem mF (l : List UInt8) (n : Int) : iU l = some n ↔ l = itoa n ∧ -9223372036854775808 ≤ n ∧ n ≤ 9223372036854775807 := by
 constructor
 ·intro h
  unfold iU at h
  by_cases hs : l.head? = some 45
  ·rw [if_pos hs] at h
   obtain ⟨t, rfl⟩ : ∃ t, l = 45 :: t := by
    cases l with
    | nil => simp at hs
    | cons a t => simp at hs; subst hs; exact ⟨t, rfl⟩
   rw [List.tail_cons] at h
   unfold cZ at h
   by_cases hb : t = [] ∨ 19 < t.length ∨ t.head? = some 48
   ·rw [if_pos hb] at h; simp at h
   ·rw [if_neg hb] at h
    cases hd : decFrom 0 t with
    | none => rw [hd] at h; simp at h
    | some u =>
     rw [hd] at h
     simp at h
     obtain ⟨h1, h2⟩ := h
     have ht := om _ t u rfl (fun h => hb (.inl h)) hd (fun h => absurd h (fun h => hb (.inr (.inr h))))
     have hu : u ≠ 0 := by
      intro hu
      subst hu
      rw [gK] at ht
      exact hb (.inr (.inr (by rw [ht]; rfl)))
     subst h2
     exact ⟨by rw [itoa_neg u hu, ht], by omega, by omega⟩
  ·rw [if_neg hs] at h
   unfold da at h
   by_cases hb : l = [] ∨ 19 < l.length ∨ (l.head? = some 48 ∧ 1 < l.length)
   ·rw [if_pos hb] at h; simp at h
   ·rw [if_neg hb] at h
    cases hd : decFrom 0 l with
    | none => rw [hd] at h; simp at h
    | some u =>
     rw [hd] at h
     simp at h
     obtain ⟨h1, h2⟩ := h
     have hne : l ≠ [] := fun h => hb (.inl h)
     have hlen : 0 < l.length := List.length_pos_iff.2 hne
     have ht := om _ l u rfl hne hd (fun h => by
      by_cases h1 : 1 < l.length
      ·exact absurd (Or.inr (.inr ⟨h, h1⟩)) hb
      ·omega)
     subst h2
     exact ⟨by rw [itoa_nat, ← ht], by omega, by omega⟩
 ·rintro ⟨rfl, h0, h1⟩
  unfold iU
  by_cases hn : n < 0
  ·obtain ⟨u, rfl⟩ : ∃ u : Nat, n = -(u : Int) := ⟨n.natAbs, by omega⟩
   rw [itoa_neg u (by omega)]
   rw [List.head?_cons, if_pos rfl, List.tail_cons]
   unfold cZ
   have hl : (decDigits u).length ≤ 19 := by rw [decDigits_length]; exact mE 18 u (by rw [show (10 : Nat) ^ (18 + 1) = 10000000000000000000 from rfl]; omega)
   rw [if_neg]
   ·rw [dF]
    simp
    omega
   ·rintro (h | h | h)
    ·exact fF u h
    ·omega
    ·have := oo u h; omega
  ·obtain ⟨u, rfl⟩ : ∃ u : Nat, n = (u : Int) := ⟨n.toNat, by omega⟩
   rw [itoa_nat]
   obtain ⟨c, r, e, hc1, hc2⟩ := mD u
   have hl : (decDigits u).length ≤ 19 := by rw [decDigits_length]; exact mE 18 u (by rw [show (10 : Nat) ^ (18 + 1) = 10000000000000000000 from rfl]; omega)
   rw [if_neg (by rw [e]; simp; intro h; subst h; simp at hc1)]
   unfold da
   rw [if_neg]
   ·rw [dF]
    simp
    omega
   ·rintro (h | h | ⟨h, h2⟩)
    ·exact fF u h
    ·omega
    ·have := oo u h
     subst this
     rw [gK] at h2
     simp at h2
theorem oq (l : List UInt8) : iU l = ch l := by
 cases h : ch l with
 | some n => exact (mF l n).2 ((kD l n).1 h)
 | none =>
  cases h2 : iU l with
  | none => rfl
  | some n => rw [(kD l n).2 ((mF l n).1 h2)] at h; simp at h
abbrev cm (c : UInt8) : Bool := c == 32 || c == 10
def eK (r : Nat) : Bool := r == 32 || r == 10
def aD : List UInt8 → List UInt8 → List (List UInt8)
 | acc, [] => if acc = [] then [] else [acc]
 | acc, c :: r => if cm c then (if acc = [] then aD [] r else acc :: aD [] r) else aD (acc ++ [c]) r
def kE (s : ByteArray) : List ByteArray := (aD [] (L s)).map fun l => ⟨l.toArray⟩
theorem splitG_solid : ∀ (t acc r : List UInt8), (∀ c ∈ t, cm c = false) → aD acc (t ++ r) = aD (acc ++ t) r := by
 intro t
 induction t with
 | nil => intro acc r _; simp
 | cons c t ih =>
  intro acc r h
  rw [List.cons_append, aD, if_neg (by rw [h c (by simp)]; simp), ih _ _ (fun x hx => h x (by simp [hx]))]
  simp
theorem nM (n b0 b1 b2 b3 : Nat) : (b0 < 128 ∧ decodeN n b0 b1 b2 b3 = (b0, 1)) ∨ (128 ≤ b0 ∧ 128 ≤ (decodeN n b0 b1 b2 b3).1 ∧
  ((decodeN n b0 b1 b2 b3).2 = 1 ∨ ((decodeN n b0 b1 b2 b3).2 = 2 ∧ 128 ≤ b1) ∨ ((decodeN n b0 b1 b2 b3).2 = 3 ∧ 128 ≤ b1 ∧ 128 ≤ b2) ∨ ((decodeN n b0 b1 b2 b3).2 = 4 ∧ 128 ≤ b1 ∧ 128 ≤ b2 ∧ 128 ≤ b3))) := by
 by_cases h : b0 < 128
 ·left; exact ⟨h, by unfold decodeN; rw [if_pos h]⟩
 ·right
  refine ⟨by omega, ?_⟩
  unfold decodeN
  rw [if_neg h]
  repeat' split
  all_goals (refine ⟨by show 128 ≤ _; dsimp only; omega, ?_⟩; first | exact .inl rfl | exact .inr (.inl ⟨rfl, by omega⟩) | exact .inr (.inr (.inl ⟨rfl, by omega, by omega⟩)) | exact .inr (.inr (.inr ⟨rfl, by omega, by omega, by omega⟩)))
theorem get!_L (s : ByteArray) (i : Nat) (h : i < s.size) : (L s)[i]? = some (s.get! i) := by
 have : s.get! i = s.data[i]! := rfl
 rw [this, getElem!_pos s.data i (by simpa using h)]
 simp [L, h]
theorem rune_bytes (s : ByteArray) (pos : Nat) (h : pos < s.size) :
  (eK (Utf8.decode s pos).1 = true ∧ (Utf8.decode s pos).2 = 1 ∧ cm (s.get! pos) = true) ∨
  (eK (Utf8.decode s pos).1 = false ∧ ∀ c ∈ ((L s).drop pos).take (Utf8.decode s pos).2, cm c = false) := by
 rw [decode_at]
 have hb : ∀ j, pos + j < s.size → (L s)[pos + j]? = some (s.get! (pos + j)) := fun j hj => get!_L s _ hj
 have hn := decodeN_le_n' (s.size - pos) (s.get! pos).toNat (s.get! (pos + 1)).toNat (s.get! (pos + 2)).toNat (s.get! (pos + 3)).toNat (by omega)
 have hbig : ∀ c : UInt8, 128 ≤ c.toNat → cm c = false := by
  intro c hc
  simp only [cm, Bool.or_eq_false_iff, beq_eq_false_iff_ne]
  constructor <;> (intro e; subst e; simp at hc)
 rcases nM (s.size - pos) (s.get! pos).toNat (s.get! (pos + 1)).toNat (s.get! (pos + 2)).toNat (s.get! (pos + 3)).toNat with ⟨h1, h2⟩ | ⟨h1, h2, h3⟩
 ·rw [h2]
  simp only
  have hx := hb 0 (by omega)
  simp only [Nat.add_zero] at hx
  have ht : ((L s).drop pos).take 1 = [s.get! pos] := by
   have : ((L s).drop pos)[0]? = some (s.get! pos) := by rw [List.getElem?_drop]; simpa using hx
   cases hd : (L s).drop pos with
   | nil => rw [hd] at this; simp at this
   | cons a t => rw [hd] at this; simp at this; simp [this]
  have hiff : eK (s.get! pos).toNat = cm (s.get! pos) := by
   generalize s.get! pos = c
   have : ∀ c : Fin 256, eK (UInt8.ofNat c.val).toNat = cm (UInt8.ofNat c.val) := by decide +kernel
   have := this ⟨c.toNat, c.toNat_lt⟩
   simpa using this
  cases hk : cm (s.get! pos) with
  | true => left; exact ⟨by rw [hiff, hk], trivial, by first | exact hk | rfl | trivial⟩
  | false => right; refine ⟨by rw [hiff, hk], ?_⟩; rw [ht]; intro c hc; simp at hc; subst hc; exact hk
 ·right
  refine ⟨by unfold eK; simp; omega, ?_⟩
  intro c hc
  obtain ⟨j, hj⟩ := List.getElem?_of_mem hc
  have hjk : j < (decodeN (s.size - pos) (s.get! pos).toNat (s.get! (pos + 1)).toNat (s.get! (pos + 2)).toNat (s.get! (pos + 3)).toNat).2 := by
   have := (List.getElem?_eq_some_iff.1 hj).1
   simp at this
   omega
  rw [List.getElem?_take_of_lt hjk, List.getElem?_drop, hb j (by omega)] at hj
  simp at hj
  subst hj
  apply hbig
  have : j = 0 ∨ j = 1 ∨ j = 2 ∨ j = 3 := by omega
  rcases this with rfl | rfl | rfl | rfl
  ·exact h1
  all_goals omega
theorem ext_piece (s : ByteArray) (a b : Nat) : s.extract a b = ⟨(pieceU (L s) a b).toArray⟩ := by
 apply bT
 show L _ = _
 rw [L_ext]
 rfl
theorem spans_split (s : ByteArray) : ∀ (f pos : Nat) (st : Option Nat) (acc : List (Nat × Nat)), s.size ≤ pos + f → (∀ a, st = some a → a < pos) → pos ≤ s.size →
  (closeSpans s (spansFromP eK s f pos st acc)).map (fun x => pieceU (L s) x.1 x.2) = acc.map (fun x => pieceU (L s) x.1 x.2) ++ aD (openPiece (L s) st pos) ((L s).drop pos) := by
 intro f
 have hend : ∀ pos (st : Option Nat) (acc : List (Nat × Nat)), pos = s.size → (∀ a, st = some a → a < pos) → (closeSpans s (acc, st)).map (fun x => pieceU (L s) x.1 x.2) = acc.map (fun x => pieceU (L s) x.1 x.2) ++ aD (openPiece (L s) st pos) ((L s).drop pos) := by
  intro pos st acc hp hs
  subst hp
  rw [List.drop_of_length_le (by rw [dd]; exact Nat.le_refl _)]
  cases st with
  | none => simp [closeSpans, openPiece, aD]
  | some a =>
   have := pieceU_ne (L s) a s.size (hs a rfl) (by rw [dd]; exact Nat.le_refl _)
   simp [closeSpans, openPiece, aD, this]
 induction f with
 | zero => intro pos st acc h1 h2 h3; exact hend pos st acc (by omega) h2
 | succ f ih =>
  intro pos st acc h1 h2 h3
  unfold spansFromP
  by_cases hlt : pos < s.size
  ·rw [if_pos hlt]
   have hw := width_pos s pos
   have hwn : pos + (Utf8.decode s pos).2 ≤ s.size := by
    have := decodeN_le_n' (s.size - pos) (s.get! pos).toNat (s.get! (pos + 1)).toNat (s.get! (pos + 2)).toNat (s.get! (pos + 3)).toNat (by omega)
    rw [← decode_at] at this
    omega
   have hdr : (L s).drop pos = ((L s).drop pos).take (Utf8.decode s pos).2 ++ (L s).drop (pos + (Utf8.decode s pos).2) := by
    rw [← List.drop_drop, List.take_append_drop]
   rcases rune_bytes s pos hlt with ⟨hb1, hb2, hb3⟩ | ⟨hb1, hb2⟩
   ·rw [if_pos hb1, hb2]
    have hx := get!_L s pos hlt
    have hc : (L s).drop pos = s.get! pos :: (L s).drop (pos + 1) := by
     rw [List.drop_eq_getElem_cons (by rw [dd]; exact hlt)]
     congr 1
     have := (List.getElem?_eq_some_iff.1 hx).2
     exact this
    cases st with
    | none =>
     rw [ih (pos + 1) none acc (by omega) (fun a h => by cases h) (by omega), hc, aD, if_pos hb3]
     rfl
    | some a =>
     have hne := pieceU_ne (L s) a pos (h2 a rfl) (by rw [dd]; omega)
     rw [ih (pos + 1) none _ (by omega) (fun a h => by cases h) (by omega), hc, aD, if_pos hb3]
     rw [show openPiece (L s) (some a) pos = pieceU (L s) a pos from rfl, if_neg hne]
     simp [openPiece]
   ·rw [if_neg (by rw [hb1]; simp)]
    rw [hdr, splitG_solid _ _ _ hb2]
    cases st with
    | none =>
     rw [ih _ (some pos) acc (by omega) (fun a h => by cases h; omega) hwn]
     simp [openPiece, pieceU]
    | some a =>
     have ha := h2 a rfl
     rw [ih _ (some a) acc (by omega) (fun b h => by cases h; omega) hwn]
     simp only [openPiece]
     rw [pieceU_grow _ _ _ _ (by omega)]
  ·rw [if_neg hlt]; exact hend pos st acc (by omega) h2
theorem fields_split (s : ByteArray) : goFieldsP eK s = kE s := by
 unfold goFieldsP kE spansOfP
 have h := spans_split s s.size 0 none [] (by omega) (fun a h => by cases h) (Nat.zero_le _)
 simp only [List.map_nil, List.nil_append, openPiece, List.drop_zero] at h
 rw [← h, List.map_map]
 apply List.map_congr_left
 intro x hx
 exact ext_piece s x.1 x.2
def Solid (l : List UInt8) : Prop := l ≠ [] ∧ ∀ c ∈ l, cm c = false
theorem jN : ∀ (l : List UInt8) (acc : List UInt8), (∀ c ∈ acc, cm c = false) → ∀ x ∈ aD acc l, Solid x := by
 intro l
 induction l with
 | nil =>
  intro acc ha x hx
  simp only [aD] at hx
  by_cases h : acc = []
  ·simp [h] at hx
  ·simp [h] at hx; subst hx; exact ⟨h, ha⟩
 | cons c r ih =>
  intro acc ha x hx
  rw [aD] at hx
  cases hc : cm c with
  | true =>
   rw [if_pos hc] at hx
   by_cases h : acc = []
   ·rw [if_pos h] at hx; exact ih [] (fun c hc => by cases hc) x hx
   ·rw [if_neg h] at hx
    rcases List.mem_cons.1 hx with rfl | hx
    ·exact ⟨h, ha⟩
    ·exact ih [] (fun c hc => by cases hc) x hx
  | false =>
   rw [if_neg (by rw [hc]; simp)] at hx
   exact ih (acc ++ [c]) (fun d hd => by
    rcases List.mem_append.1 hd with h | h
    ·exact ha d h
    ·simp at h; subst h; exact hc) x hx
theorem splitG_len : ∀ (l acc : List UInt8), (aD acc l).length ≤ l.length + (if acc = [] then 0 else 1) := by
 intro l
 induction l with
 | nil => intro acc; simp only [aD]; split <;> simp_all
 | cons c r ih =>
  intro acc
  rw [aD]
  have h1 := ih []
  have h2 := ih (acc ++ [c])
  simp at h1 h2
  split
  ·split
   ·rw [List.length_cons]; omega
   ·rw [List.length_cons, List.length_cons]; omega
  ·rw [List.length_cons]; split <;> omega
inductive Fo where
 | nil
 | cons (k n : Int) (b r : Fo)
namespace Fo
def len : Fo → Nat
 | .nil => 0
 | .cons _ _ _ r => r.len + 1
def app : Fo → Fo → Fo
 | .nil, g => g
 | .cons k n b r, g => .cons k n b (r.app g)
theorem app_nil (f : Fo) : f.app .nil = f := by
 induction f with
 | nil => rfl
 | cons k n b r _ ih => simp [app, ih]
theorem app_assoc (f g h : Fo) : (f.app g).app h = f.app (g.app h) := by
 induction f with
 | nil => rfl
 | cons k n b r _ ih => simp [app, ih]
theorem len_app (f g : Fo) : (f.app g).len = f.len + g.len := by
 induction f with
 | nil => simp [app, len]
 | cons k n b r _ ih => simp [app, len, ih]; omega
theorem len_nil {f : Fo} (h : f.len = 0) : f = .nil := by
 cases f with
 | nil => rfl
 | cons k n b r => simp [len] at h
end Fo
def bm (k : Int) : Bool := k == 28 || k == 29
def im : List (List UInt8) := [[], [], [97], [108, 101, 110], [118], [43], [45], [42], [47], [37], [38], [124], [94], [60, 60], [62, 62], [62, 62, 62], [60], [61], [110, 111, 116], [117, 56], [117, 49, 54], [117, 51, 50], [115, 56], [115, 49, 54], [115, 51, 50], [100, 117, 112], [115, 119, 97, 112], [112, 111, 112], [105, 102], [114, 101, 112], [101, 109, 105, 116]]
abbrev ba (l : List UInt8) : ByteArray := ⟨l.toArray⟩
theorem ba_L (s : ByteArray) : ba (L s) = s := by apply bT; simp [L]
theorem iV (l : List UInt8) : L (ba l) = l := by simp [L]
def fh : List UInt8 := [91]
def ee : List UInt8 := [93]
def bV (w : List UInt8) : Option Nat := im.findIdx? (· == w)
def gL (w : List UInt8) : Option (Int × Int) :=
 match bV w with
 | some k => some ((k : Int), 0)
 | none => (ch w).map fun n => (1, n)
inductive Rs where
 | err (e : Int)
 | ok (f : Fo) (ws : List (List UInt8)) (m : Nat)
def Rs.pre (g : Fo) : Rs → Rs
 | .err e => .err e
 | .ok f ws m => .ok (g.app f) ws m
theorem Rs.pre_nil (r : Rs) : r.pre .nil = r := by cases r <;> rfl
theorem Rs.pre_pre (r : Rs) (f g : Fo) : (r.pre g).pre f = r.pre (f.app g) := by
 cases r with
 | err e => rfl
 | ok h ws m => simp [Rs.pre, Fo.app_assoc]
abbrev one (k n : Int) (b : Fo) : Fo := .cons k n b .nil
def pl : Nat → Nat → List (List UInt8) → Nat → Option Rs
 | 0, _, _, _ => none
 | _ + 1, d, [], m => some (if 0 < d then .err 6 else .ok .nil [] m)
 | fu + 1, d, w :: ws, m =>
  if w = ee ∧ 0 < d then some (.ok .nil ws m)
  else match gL w with
   | none => some (.err 7)
   | some (k, n) =>
    if m = 128 then some (.err 2)
    else if bm k then
     match ws with
     | [] => some (.err 6)
     | x :: ws' =>
      if x ≠ fh then some (.err 7)
      else if 6 < d + 1 then some (.err 2)
      else match pl fu (d + 1) ws' (m + 1) with
       | none => none
       | some (.err e) => some (.err e)
       | some (.ok b ws2 m2) => (pl fu d ws2 m2).map (Rs.pre (one k n b))
    else (pl fu d ws (m + 1)).map (Rs.pre (one k n .nil))
theorem pl_mono : ∀ (fu d : Nat) (ws : List (List UInt8)) (m : Nat) (r : Rs), pl fu d ws m = some r → pl (fu + 1) d ws m = some r := by
 intro fu
 induction fu with
 | zero => intro d ws m r h; simp [pl] at h
 | succ fu ih =>
  intro d ws m r h
  cases ws with
  | nil => simpa [pl] using h
  | cons w ws =>
   rw [pl] at h ⊢
   by_cases h1 : w = ee ∧ 0 < d
   ·rw [if_pos h1] at h ⊢; exact h
   rw [if_neg h1] at h ⊢
   cases ho : gL w with
   | none => rw [ho] at h; exact h
   | some kn =>
    obtain ⟨k, n⟩ := kn
    rw [ho] at h
    simp only at h ⊢
    by_cases h2 : m = 128
    ·rw [if_pos h2] at h ⊢; exact h
    rw [if_neg h2] at h ⊢
    cases hb : bm k with
    | false =>
     rw [hb, if_neg (by simp)] at h
     rw [if_neg (by simp)]
     cases hp : pl fu d ws (m + 1) with
     | none => rw [hp] at h; simp at h
     | some r' => rw [hp] at h; rw [ih _ _ _ _ hp]; exact h
    | true =>
     rw [hb, if_pos rfl] at h
     rw [if_pos rfl]
     cases ws with
     | nil => exact h
     | cons x ws =>
      simp only at h ⊢
      by_cases h3 : x ≠ fh
      ·rw [if_pos h3] at h ⊢; exact h
      rw [if_neg h3] at h ⊢
      by_cases h4 : 6 < d + 1
      ·rw [if_pos h4] at h ⊢; exact h
      rw [if_neg h4] at h ⊢
      cases hp : pl fu (d + 1) ws (m + 1) with
      | none => rw [hp] at h; simp at h
      | some r' =>
       rw [hp] at h
       rw [ih _ _ _ _ hp]
       cases r' with
       | err e => exact h
       | ok b ws2 m2 =>
        simp only at h ⊢
        cases hq : pl fu d ws2 m2 with
        | none => rw [hq] at h; simp at h
        | some r2 => rw [hq] at h; rw [ih _ _ _ _ hq]; exact h
theorem pl_le {fu fu' d m : Nat} {ws : List (List UInt8)} {r : Rs} (h : pl fu d ws m = some r) (hle : fu ≤ fu') : pl fu' d ws m = some r := by
 obtain ⟨k, rfl⟩ := Nat.exists_eq_add_of_le hle
 clear hle
 induction k with
 | zero => exact h
 | succ k ih => exact pl_mono _ _ _ _ _ ih
def PL (d : Nat) (ws : List (List UInt8)) (m : Nat) (r : Rs) : Prop := ∃ fu, pl fu d ws m = some r
theorem PL.unique {d m : Nat} {ws : List (List UInt8)} {r r' : Rs} (h : PL d ws m r) (h' : PL d ws m r') : r = r' := by
 obtain ⟨a, ha⟩ := h
 obtain ⟨b, hb⟩ := h'
 have h1 := pl_le ha (Nat.le_add_right a b)
 have h2 := pl_le hb (Nat.le_add_left b a)
 rw [h1] at h2
 exact Option.some.inj h2
theorem ou : gL ee = none := by
 unfold gL
 have h1 : bV ee = none := by decide
 rw [h1]
 have h2 : parseIntB 64 ee = .syntax := by decide +kernel
 simp [ch, h2]
theorem eL {w : List UInt8} {kn : Int × Int} (h : gL w = some kn) : w ≠ ee := by
 rintro rfl
 rw [ou] at h
 simp at h
theorem PL.end0 (m : Nat) : PL 0 [] m (.ok .nil [] m) := ⟨1, by simp [pl]⟩
theorem PL.endB {d : Nat} (hd : 0 < d) (m : Nat) : PL d [] m (.err 6) := ⟨1, by simp [pl, hd]⟩
theorem PL.shut {d : Nat} (hd : 0 < d) (ws : List (List UInt8)) (m : Nat) : PL d (ee :: ws) m (.ok .nil ws m) := ⟨1, by simp [pl, hd]⟩
theorem PL.bad {d : Nat} {w : List UInt8} (hs : ¬ (w = ee ∧ 0 < d)) (ho : gL w = none) (ws : List (List UInt8)) (m : Nat) : PL d (w :: ws) m (.err 7) := ⟨1, by rw [pl, if_neg hs, ho]⟩
theorem PL.full {w : List UInt8} {k n : Int} (ho : gL w = some (k, n)) (d : Nat) (ws : List (List UInt8)) : PL d (w :: ws) 128 (.err 2) :=
 ⟨1, by rw [pl, if_neg (fun h => eL ho h.1), ho]; simp⟩
theorem PL.cutB {w : List UInt8} {k n : Int} (ho : gL w = some (k, n)) (hb : bm k = true) (d : Nat) {m : Nat} (hm : m ≠ 128) : PL d [w] m (.err 6) :=
 ⟨1, by rw [pl, if_neg (fun h => eL ho h.1), ho]; simp [hm, hb]⟩
theorem PL.badB {w x : List UInt8} {k n : Int} (ho : gL w = some (k, n)) (hb : bm k = true) (d : Nat) {m : Nat} (hm : m ≠ 128) (hx : x ≠ fh) (ws : List (List UInt8)) : PL d (w :: x :: ws) m (.err 7) :=
 ⟨1, by rw [pl, if_neg (fun h => eL ho h.1), ho]; simp [hm, hb, hx]⟩
theorem PL.deepB {w : List UInt8} {k n : Int} (ho : gL w = some (k, n)) (hb : bm k = true) {d : Nat} {m : Nat} (hm : m ≠ 128) (hd : 6 < d + 1) (ws : List (List UInt8)) : PL d (w :: fh :: ws) m (.err 2) :=
 ⟨1, by rw [pl, if_neg (fun h => eL ho h.1), ho]; simp [hm, hb, hd]⟩
theorem PL.errB {w : List UInt8} {k n : Int} (ho : gL w = some (k, n)) (hb : bm k = true) {d : Nat} {m : Nat} (hm : m ≠ 128) (hd : ¬ 6 < d + 1) {ws : List (List UInt8)} {e : Int} (h : PL (d + 1) ws (m + 1) (.err e)) : PL d (w :: fh :: ws) m (.err e) := by
 obtain ⟨fu, h⟩ := h
 exact ⟨fu + 1, by rw [pl, if_neg (fun h => eL ho h.1), ho]; simp only; rw [if_neg hm, if_pos hb, if_neg (by simp), if_neg hd, h]⟩
theorem PL.blk {w : List UInt8} {k n : Int} (ho : gL w = some (k, n)) (hb : bm k = true) {d : Nat} {m : Nat} (hm : m ≠ 128) (hd : ¬ 6 < d + 1) {ws ws2 : List (List UInt8)} {b : Fo} {m2 : Nat} {r : Rs}
  (h : PL (d + 1) ws (m + 1) (.ok b ws2 m2)) (h2 : PL d ws2 m2 r) : PL d (w :: fh :: ws) m (r.pre (one k n b)) := by
 obtain ⟨fu, h⟩ := h
 obtain ⟨fv, h2⟩ := h2
 exact ⟨fu + fv + 1, by rw [pl, if_neg (fun h => eL ho h.1), ho]; simp only; rw [if_neg hm, if_pos hb, if_neg (by simp), if_neg hd, pl_le h (Nat.le_add_right _ _)]; simp only; rw [pl_le h2 (Nat.le_add_left _ _)]; rfl⟩
theorem PL.one {w : List UInt8} {k n : Int} (ho : gL w = some (k, n)) (hb : bm k = false) {d : Nat} {m : Nat} (hm : m ≠ 128) {ws : List (List UInt8)} {r : Rs} (h : PL d ws (m + 1) r) : PL d (w :: ws) m (r.pre (.cons k n .nil .nil)) := by
 obtain ⟨fu, h⟩ := h
 exact ⟨fu + 1, by rw [pl, if_neg (fun h => eL ho h.1), ho]; simp only; rw [if_neg hm, if_neg (by rw [hb]; simp), h]; rfl⟩
theorem kF {w : List UInt8} {k : Nat} (h : bV w = some k) : k < 31 ∧ im.getD k [] = w := by
 unfold bV at h
 obtain ⟨hk, h1, _⟩ := List.findIdx?_eq_some_iff_getElem.1 h
 refine ⟨by simpa [im] using hk, ?_⟩
 rw [List.getD_eq_getElem?_getD, List.getElem?_eq_getElem hk]
 simpa using h1
theorem kindOf_tab : ∀ k : Fin 31, 2 ≤ k.val → bV (im.getD k.val []) = some k.val := by decide +kernel
theorem tab_no_num : ∀ k : Fin 31, ch (im.getD k.val []) = none := by
 have h : ∀ k : Fin 31, parseIntB 64 (im.getD k.val []) = .syntax := by decide +kernel
 intro k
 unfold ch
 rw [h k]
theorem kind_no_num {w : List UInt8} {k : Nat} (h : bV w = some k) : ch w = none := by
 obtain ⟨h1, h2⟩ := kF h
 have := tab_no_num ⟨k, h1⟩
 simp only at this
 rw [h2] at this
 exact this
theorem num_no_kind {w : List UInt8} {n : Int} (h : ch w = some n) : bV w = none := by
 cases hk : bV w with
 | none => rfl
 | some k => rw [kind_no_num hk] at h; simp at h
theorem opW_some {w : List UInt8} {k n : Int} (hw : w ≠ []) (h : gL w = some (k, n)) : (2 ≤ k ∧ k ≤ 30 ∧ n = 0 ∧ bV w = some k.toNat) ∨ (k = 1 ∧ ch w = some n ∧ bV w = none) := by
 unfold gL at h
 cases hk : bV w with
 | some j =>
  rw [hk] at h
  simp at h
  obtain ⟨rfl, rfl⟩ := h
  obtain ⟨h1, h2⟩ := kF hk
  left
  refine ⟨?_, by omega, rfl, by simp⟩
  rcases j with _ | _ | j
  ·exact absurd h2.symm hw
  ·exact absurd h2.symm hw
  ·omega
 | none =>
  rw [hk] at h
  cases hn : ch w with
  | none => rw [hn] at h; simp at h
  | some v =>
   rw [hn] at h
   simp at h
   obtain ⟨rfl, rfl⟩ := h
   exact .inr ⟨rfl, rfl, rfl⟩
def wordOf (k n : Int) : List UInt8 := if k = 1 then itoa n else im.getD k.toNat []
def bQ (k n : Int) (b : Fo) : Bool := decide (1 ≤ k) && decide (k ≤ 30) && (n == 0 || k == 1) && (b.len == 0 || bm k)
theorem eM {k n : Int} {b : Fo} (h : bQ k n b = true) (hb : bm k = false) : b = .nil := by
 unfold bQ at h
 simp [hb] at h
 exact Fo.len_nil h.2
def eZ : Fo → Nat → Bool
 | .nil, d => decide (d ≤ 6)
 | .cons k n b r, d => decide (d ≤ 6) && bQ k n b && (!bm k || eZ b (d + 1)) && eZ r d
def eN : Fo → Nat
 | .nil => 0
 | .cons k _ b r => 1 + (if bm k then eN b else 0) + eN r
def WfN : Fo → Prop
 | .nil => True
 | .cons k n b r => (-9223372036854775808 ≤ k ∧ k ≤ 9223372036854775807) ∧ (-9223372036854775808 ≤ n ∧ n ≤ 9223372036854775807) ∧ WfN b ∧ WfN r
theorem tot_len (f : Fo) : f.len ≤ eN f := by
 induction f with
 | nil => simp [Fo.len, eN]
 | cons k n b r _ ih => simp only [Fo.len, eN]; omega
theorem okF_deep {f : Fo} {d : Nat} (h : eZ f d = true) : d ≤ 6 := by
 cases f <;> simp [eZ] at h
 ·exact h
 ·exact h.1.1.1
theorem read_ok : ∀ (fu d : Nat) (ws : List (List UInt8)) (m : Nat) (f : Fo) (ws' : List (List UInt8)) (m' : Nat), pl fu d ws m = some (.ok f ws' m') → (∀ x ∈ ws, x ≠ []) → d ≤ 6 → m ≤ 128 →
  eZ f d = true ∧ WfN f ∧ m' = m + eN f ∧ m' ≤ 128 ∧ ∃ u, ws = u ++ ws' := by
 intro fu
 induction fu with
 | zero => intro d ws m f ws' m' h; simp [pl] at h
 | succ fu ih =>
  intro d ws m f ws' m' h hne hd hm
  cases ws with
  | nil =>
   simp only [pl] at h
   by_cases h0 : 0 < d
   ·simp [h0] at h
   ·simp [h0] at h
    obtain ⟨rfl, rfl, rfl⟩ := h
    exact ⟨by simp [eZ, hd], trivial, by simp [eN], hm, [], rfl⟩
  | cons w ws =>
   rw [pl] at h
   by_cases h1 : w = ee ∧ 0 < d
   ·rw [if_pos h1] at h
    simp at h
    obtain ⟨rfl, rfl, rfl⟩ := h
    exact ⟨by simp [eZ, hd], trivial, by simp [eN], hm, [w], rfl⟩
   rw [if_neg h1] at h
   cases ho : gL w with
   | none => rw [ho] at h; simp at h
   | some kn =>
    obtain ⟨k, n⟩ := kn
    rw [ho] at h
    simp only at h
    by_cases h2 : m = 128
    ·rw [if_pos h2] at h; simp at h
    rw [if_neg h2] at h
    have hkn : bQ k n .nil = true ∧ (bm k = true → ∀ b, bQ k n b = true) ∧ (-9223372036854775808 ≤ k ∧ k ≤ 9223372036854775807) ∧ (-9223372036854775808 ≤ n ∧ n ≤ 9223372036854775807) := by
     rcases opW_some (hne w (by simp)) ho with ⟨a, b, rfl, _⟩ | ⟨rfl, hn, _⟩
     ·exact ⟨by simp [bQ, Fo.len]; omega, fun hb c => by simp [bQ, hb]; omega, by omega, by omega⟩
     ·have := (kD w n).1 hn
      exact ⟨by simp [bQ, Fo.len], fun hb c => by simp [bm] at hb, by omega, this.2⟩
    cases hb : bm k with
    | false =>
     rw [hb, if_neg (by simp)] at h
     cases hp : pl fu d ws (m + 1) with
     | none => rw [hp] at h; simp at h
     | some r' =>
      rw [hp] at h
      cases r' with
      | err e => simp [Rs.pre] at h
      | ok g ws2 m2 =>
       simp [Rs.pre, Fo.app] at h
       obtain ⟨rfl, rfl, rfl⟩ := h
       obtain ⟨a1, a2, a3, a4, u, a5⟩ := ih _ _ _ _ _ _ hp (fun x hx => hne x (by simp [hx])) hd (by omega)
       exact ⟨by simp [eZ, hd, hkn.1, hb, a1], ⟨hkn.2.2.1, hkn.2.2.2, trivial, a2⟩, by simp [eN, hb]; omega, a4, w :: u, by rw [a5]; rfl⟩
    | true =>
     rw [hb, if_pos rfl] at h
     cases ws with
     | nil => simp at h
     | cons x ws =>
      simp only at h
      by_cases h3 : x ≠ fh
      ·rw [if_pos h3] at h; simp at h
      rw [if_neg h3] at h
      by_cases h4 : 6 < d + 1
      ·rw [if_pos h4] at h; simp at h
      rw [if_neg h4] at h
      cases hp : pl fu (d + 1) ws (m + 1) with
      | none => rw [hp] at h; simp at h
      | some r' =>
       rw [hp] at h
       cases r' with
       | err e => simp at h
       | ok b ws2 m2 =>
        simp only at h
        cases hq : pl fu d ws2 m2 with
        | none => rw [hq] at h; simp at h
        | some r2 =>
         rw [hq] at h
         cases r2 with
         | err e => simp [Rs.pre] at h
         | ok g ws3 m3 =>
          simp [Rs.pre, Fo.app] at h
          obtain ⟨rfl, rfl, rfl⟩ := h
          obtain ⟨a1, a2, a3, a4, u, a5⟩ := ih _ _ _ _ _ _ hp (fun x hx => hne x (by simp [hx])) (by omega) (by omega)
          obtain ⟨b1, b2, b3, b4, v, b5⟩ := ih _ _ _ _ _ _ hq (fun x hx => hne x (by simp [a5, hx])) hd a4
          exact ⟨by simp [eZ, hd, hkn.2.1 hb, hb, a1, b1], ⟨hkn.2.2.1, hkn.2.2.2, a2, b2⟩, by simp [eN, hb]; omega, b4, w :: x :: (u ++ v), by rw [a5, b5]; simp⟩
def txt : Bool → Fo → List UInt8
 | _, .nil => []
 | first, .cons k n b r => (if first then [] else [32]) ++ (wordOf k n ++ (if bm k then [32, 91, 32] ++ ((if txt true b = [] then [] else txt true b ++ [32]) ++ [93]) else [])) ++ txt false r
end Go.Proofs.YtclcgakfmcofaaaGreatDoor
namespace Go.Proofs.YtclcgakfmcofaaaGreatDoor
open Go.RowKit
namespace Fo
def drop : Nat → Fo → Fo
 | 0, f => f
 | _ + 1, .nil => .nil
 | i + 1, .cons _ _ _ r => drop i r
def take : Nat → Fo → Fo
 | 0, _ => .nil
 | _ + 1, .nil => .nil
 | i + 1, .cons k n b r => .cons k n b (take i r)
def sz : Fo → Nat
 | .nil => 0
 | .cons _ _ b r => b.sz + r.sz + 1
theorem drop_lt : ∀ (i : Nat) (f : Fo), i < f.len → ∃ k n b r, f.drop i = .cons k n b r ∧ f.drop (i + 1) = r ∧ f.take (i + 1) = (f.take i).app (.cons k n b .nil)
 | i, .nil, h => by simp [len] at h
 | 0, .cons k n b r, _ => ⟨k, n, b, r, rfl, by simp [drop], by simp [take, app]⟩
 | i + 1, .cons k n b r, h => by
  obtain ⟨k', n', b', r', h1, h2, h3⟩ := drop_lt i r (by simp [len] at h; omega)
  exact ⟨k', n', b', r', h1, by rw [← h2]; rfl, by rw [take, h3]; rfl⟩
theorem drop_all : ∀ (i : Nat) (f : Fo), f.len ≤ i → f.drop i = .nil
 | 0, .nil, _ => rfl
 | 0, .cons k n b r, h => by simp [len] at h
 | _ + 1, .nil, _ => rfl
 | i + 1, .cons k n b r, h => drop_all i r (by simp [len] at h; omega)
theorem take_all : ∀ (i : Nat) (f : Fo), f.len ≤ i → f.take i = f
 | 0, .nil, _ => rfl
 | 0, .cons k n b r, h => by simp [len] at h
 | _ + 1, .nil, _ => rfl
 | i + 1, .cons k n b r, h => by rw [take, take_all i r (by simp [len] at h; omega)]
theorem sz_drop : ∀ (i : Nat) (f : Fo), (f.drop i).sz ≤ f.sz
 | 0, f => Nat.le_refl _
 | _ + 1, .nil => Nat.le_refl _
 | i + 1, .cons k n b r => by have := sz_drop i r; simp only [drop, sz]; omega
theorem sz_blk {i : Nat} {f b r : Fo} {k n : Int} (h : f.drop i = .cons k n b r) : b.sz < f.sz := by
 have := sz_drop i f
 rw [h] at this
 simp only [sz] at this
 omega
theorem take_drop : ∀ (i : Nat) (f : Fo), (f.take i).app (f.drop i) = f
 | 0, f => rfl
 | _ + 1, .nil => rfl
 | i + 1, .cons k n b r => by simp [take, drop, app, take_drop i r]
end Fo
deriving instance DecidableEq for Fo
def fG (Q : World → Nat → Nat → Prop) (w : World) : Fo → Nat → Nat → Prop
 | .nil, _, _ => True
 | .cons k n b r, g, o => w.cell? ⟨g, o, none⟩ = some (.int .i64 k) ∧ w.cell? ⟨g, o + 1, none⟩ = some (.int .i64 n) ∧
   (∃ a cap, w.cell? ⟨g, o + 2, none⟩ = some (.slice a b.len cap) ∧ (b = .nil ∨ ∃ g' o', a = some ⟨g', o', none⟩ ∧ Q w g' o' ∧ fG Q w b g' o')) ∧ fG Q w r g (o + 3)
def FS (Q : World → Nat → Nat → Prop) (w : World) (v : Value) (f : Fo) : Prop :=
 ∃ a cap, v = .slice a f.len cap ∧ (f = .nil ∨ ∃ g o, a = some ⟨g, o, none⟩ ∧ Q w g o ∧ fG Q w f g o)
theorem fG.move {Q Q' : World → Nat → Nat → Prop} {w w' : World} {f : Fo} : ∀ {g o : Nat}, fG Q w f g o → (∀ b o, Q w b o → w'.heap[b]? = w.heap[b]? ∧ Q' w' b o) → w'.heap[g]? = w.heap[g]? → fG Q' w' f g o := by
 induction f with
 | nil => intro g o _ _ _; trivial
 | cons k n b r ihb ihr =>
  intro g o h hQ hg
  obtain ⟨h0, h1, ⟨a, cap, h2, h3⟩, h4⟩ := h
  have e := hg
  refine ⟨(World.cell?_of_block (a := ⟨g, o, none⟩) e).trans h0, (World.cell?_of_block (a := ⟨g, o + 1, none⟩) e).trans h1, ⟨a, cap, (World.cell?_of_block (a := ⟨g, o + 2, none⟩) e).trans h2, ?_⟩, ihr h4 hQ hg⟩
  rcases h3 with h3 | ⟨g', o', ha, hq, h3⟩
  ·exact .inl h3
  ·exact .inr ⟨g', o', ha, (hQ g' o' hq).2, ihb h3 hQ (hQ g' o' hq).1⟩
theorem FS.move {Q Q' : World → Nat → Nat → Prop} {w w' : World} {v : Value} {f : Fo} (h : FS Q w v f) (hQ : ∀ b o, Q w b o → w'.heap[b]? = w.heap[b]? ∧ Q' w' b o) : FS Q' w' v f := by
 obtain ⟨a, cap, rfl, h⟩ := h
 refine ⟨a, cap, rfl, ?_⟩
 rcases h with h | ⟨g, o, ha, hq, h⟩
 ·exact .inl h
 ·exact .inr ⟨g, o, ha, (hQ g o hq).2, h.move hQ (hQ g o hq).1⟩
theorem fG.drop {Q : World → Nat → Nat → Prop} {w : World} : ∀ (i : Nat) (f : Fo) {g o : Nat}, fG Q w f g o → fG Q w (f.drop i) g (o + i * 3)
 | 0, f, g, o, h => by simpa [Fo.drop] using h
 | i + 1, .nil, g, o, h => trivial
 | i + 1, .cons k n b r, g, o, h => by
  have := fG.drop i r h.2.2.2
  rw [show o + (i + 1) * 3 = o + 3 + i * 3 by omega]
  exact this
theorem fG.at {Q : World → Nat → Nat → Prop} {w : World} {f : Fo} {g o i : Nat} (h : fG Q w f g o) (hi : i < f.len) : ∃ k n b r v, f.drop i = .cons k n b r ∧ f.drop (i + 1) = r ∧ f.take (i + 1) = (f.take i).app (.cons k n b .nil) ∧
  w.cell? ⟨g, o + i * 3, none⟩ = some (.int .i64 k) ∧ w.cell? ⟨g, o + i * 3 + 1, none⟩ = some (.int .i64 n) ∧ w.cell? ⟨g, o + i * 3 + 2, none⟩ = some v ∧ FS Q w v b := by
 obtain ⟨k, n, b, r, h1, h2, h3⟩ := Fo.drop_lt i f hi
 have hd := fG.drop i f h
 rw [h1] at hd
 obtain ⟨c0, c1, ⟨a, cap, c2, hb⟩, _⟩ := hd
 exact ⟨k, n, b, r, _, h1, h2, h3, c0, c1, c2, a, cap, rfl, hb⟩
def QA (w : World) (b _ : Nat) : Prop := b < w.heap.size
def QO (lo : Nat) (w : World) (b o : Nat) : Prop := (o = 0 ∧ lo ≤ b) ∧ ∃ cur, w.heap[b]? = some (.cells cur 230 (0, 0))
theorem QO.lt {lo : Nat} {w : World} {b o : Nat} (h : QO lo w b o) : b < w.heap.size := by
 obtain ⟨_, cur, h⟩ := h
 exact (Array.getElem?_eq_some_iff.1 h).1
def QX (lo : Nat) (v : Value) (w : World) (b o : Nat) : Prop := QO lo w b o ∧ some b ≠ v.ownBlock
theorem FS.below {w w' : World} {v : Value} {f : Fo} (h : FS QA w v f) (hb : Below w.heap.size w w') : FS QA w' v f :=
 h.move fun b o hq => ⟨hb.block b hq, Nat.lt_of_lt_of_le hq hb.size⟩
theorem FS.arg {lo : Nat} {w : World} {v : Value} {f : Fo} (h : FS (QO lo) w v f) : FS QA w v f := h.move fun b o hq => ⟨rfl, hq.lt⟩
theorem FS.nil {Q : World → Nat → Nat → Prop} (w : World) : FS Q w (.slice none 0 0) .nil := ⟨none, 0, rfl, .inl rfl⟩
theorem FS.shape {Q : World → Nat → Nat → Prop} {w : World} {v : Value} {f : Fo} (h : FS Q w v f) : (∃ a cap, v = .slice a 0 cap ∧ f = .nil) ∨ ∃ g o cap, v = .slice (some ⟨g, o, none⟩) f.len cap ∧ Q w g o ∧ fG Q w f g o := by
 obtain ⟨a, cap, rfl, h⟩ := h
 rcases h with rfl | ⟨g, o, rfl, hq, h⟩
 ·exact .inl ⟨a, cap, rfl, rfl⟩
 ·exact .inr ⟨g, o, cap, rfl, hq, h⟩
theorem FS.val {Q : World → Nat → Nat → Prop} {w : World} {v : Value} {f : Fo} (h : FS Q w v f) : ∃ a cap, v = .slice a f.len cap := by
 obtain ⟨a, cap, rfl, _⟩ := h
 exact ⟨a, cap, rfl⟩
abbrev Ro := Int × Int × Value
abbrev ef (l : List Ro) : List Value := l.flatMap fun x => [.int .i64 x.1, .int .i64 x.2.1, x.2.2]
theorem flatO_app (l m : List Ro) : ef (l ++ m) = ef l ++ ef m := by simp [ef]
theorem ov : ∀ (l : List Ro) (i : Nat) (x : Ro), l[i]? = some x → (ef l)[i * 3]? = some (.int .i64 x.1) ∧ (ef l)[i * 3 + 1]? = some (.int .i64 x.2.1) ∧ (ef l)[i * 3 + 2]? = some x.2.2
 | [], i, x, h => by simp at h
 | a :: l, 0, x, h => by simp at h; subst h; simp [ef]
 | a :: l, i + 1, x, h => by
  simp at h
  have := ov l i x h
  simp only [ef, List.flatMap_cons] at this ⊢
  have e : (i + 1) * 3 = i * 3 + 1 + 1 + 1 := by omega
  rw [e]
  simpa using this
def Rows' (Q : World → Nat → Nat → Prop) (w : World) : List Ro → Fo → Prop
 | [], .nil => True
 | x :: l, .cons k n b r => x.1 = k ∧ x.2.1 = n ∧ FS Q w x.2.2 b ∧ Rows' Q w l r
 | _, _ => False
theorem Rows'.len {Q : World → Nat → Nat → Prop} {w : World} : ∀ {l : List Ro} {f : Fo}, Rows' Q w l f → l.length = f.len
 | [], .nil, _ => rfl
 | x :: l, .cons k n b r, h => by simp [Fo.len, Rows'.len h.2.2.2]
 | [], .cons _ _ _ _, h => by simp [Rows'] at h
 | _ :: _, .nil, h => by simp [Rows'] at h
theorem Rows'.move {Q Q' : World → Nat → Nat → Prop} {w w' : World} (hQ : ∀ b o, Q w b o → w'.heap[b]? = w.heap[b]? ∧ Q' w' b o) : ∀ {l : List Ro} {f : Fo}, Rows' Q w l f → Rows' Q' w' l f
 | [], .nil, _ => trivial
 | x :: l, .cons k n b r, h => ⟨h.1, h.2.1, h.2.2.1.move hQ, Rows'.move hQ h.2.2.2⟩
 | [], .cons _ _ _ _, h => by simp [Rows'] at h
 | _ :: _, .nil, h => by simp [Rows'] at h
theorem Rows'.snoc {Q : World → Nat → Nat → Prop} {w : World} {k n : Int} {b : Fo} {v : Value} (hv : FS Q w v b) : ∀ {l : List Ro} {f : Fo}, Rows' Q w l f → Rows' Q w (l ++ [(k, n, v)]) (f.app (.cons k n b .nil))
 | [], .nil, _ => ⟨rfl, rfl, hv, trivial⟩
 | x :: l, .cons k n b r, h => ⟨h.1, h.2.1, h.2.2.1, Rows'.snoc hv h.2.2.2⟩
 | [], .cons _ _ _ _, h => by simp [Rows'] at h
 | _ :: _, .nil, h => by simp [Rows'] at h
theorem ow {Q : World → Nat → Nat → Prop} {w : World} {g : Nat} : ∀ {l : List Ro} {f : Fo} {o : Nat}, Rows' Q w l f → (∀ i x, l[i]? = some x → w.cell? ⟨g, o + i * 3, none⟩ = some (.int .i64 x.1) ∧ w.cell? ⟨g, o + i * 3 + 1, none⟩ = some (.int .i64 x.2.1) ∧ w.cell? ⟨g, o + i * 3 + 2, none⟩ = some x.2.2) → fG Q w f g o
 | [], .nil, o, _, _ => trivial
 | x :: l, .cons k n b r, o, h, hc => by
  obtain ⟨h1, h2, h3, h4⟩ := h
  have c := hc 0 x rfl
  simp only [Nat.zero_mul, Nat.add_zero] at c
  obtain ⟨a, cap, hv, hb⟩ := h3
  refine ⟨by rw [← h1]; exact c.1, by rw [← h2]; exact c.2.1, ⟨a, cap, by rw [← hv]; exact c.2.2, hb⟩, ow h4 fun i y hy => ?_⟩
  have := hc (i + 1) y hy
  rw [show o + 3 + i * 3 = o + (i + 1) * 3 by omega]
  exact this
 | [], .cons _ _ _ _, o, h, _ => by simp [Rows'] at h
 | _ :: _, .nil, o, h, _ => by simp [Rows'] at h
def dI (lo : Nat) (w : World) (v : Value) (f : Fo) : Prop :=
 ∃ l : List Ro, w.ownsRow lo 230 3 v l.length (ef l) ∧ Rows' (QX lo v) w l f
theorem dI.nil (lo : Nat) (w : World) : dI lo w (.slice none 0 0) .nil := ⟨[], World.ownsRow_nil _ _ _ _, trivial⟩
theorem dI.fs {lo : Nat} {w : World} {v : Value} {f : Fo} (h : dI lo w v f) : FS (QO lo) w v f := by
 obtain ⟨l, ho, hr⟩ := h
 have hr' : Rows' (QO lo) w l f := hr.move fun b o hq => ⟨rfl, hq.1⟩
 rcases ho.2 with ⟨rfl, h0⟩ | ⟨g, cap, cur, rfl, hlo, hb, _, _, _, ht⟩
 ·have : f = .nil := Fo.len_nil (by rw [← hr.len, h0])
  subst this
  exact FS.nil w
 ·refine ⟨_, cap, by rw [hr.len], .inr ⟨g, 0, rfl, ⟨⟨rfl, hlo⟩, cur, hb⟩, ow hr' fun i x hx => ?_⟩⟩
  have hi : i < l.length := (List.getElem?_eq_some_iff.1 hx).1
  obtain ⟨h0, h1, h2⟩ := ov l i x hx
  rw [← ht, List.getElem?_take_of_lt (by omega)] at h0 h1 h2
  refine ⟨?_, ?_, ?_⟩
  ·simp only [World.cell?, hb, Nat.zero_add]; simpa using h0
  ·simp only [World.cell?, hb, Nat.zero_add]; simpa using h1
  ·simp only [World.cell?, hb, Nat.zero_add]; simpa using h2
theorem dI.len {lo : Nat} {w : World} {v : Value} {f : Fo} (h : dI lo w v f) : ∃ a cap, v = .slice a f.len cap := h.fs.val
theorem dI.keep {lo : Nat} {w w' : World} {v : Value} {f : Fo} (h : dI lo w v f) (hk : ∀ k, lo ≤ k → k < w.heap.size → w'.heap[k]? = w.heap[k]?) : dI lo w' v f := by
 obtain ⟨l, ho, hr⟩ := h
 refine ⟨l, ⟨ho.1, ?_⟩, hr.move fun b o hq => ?_⟩
 ·rcases ho.2 with h1 | ⟨g, cap, cur, h1, h2, h3, h4⟩
  ·exact .inl h1
  ·exact .inr ⟨g, cap, cur, h1, h2, by rw [hk g h2 (Array.getElem?_eq_some_iff.1 h3).1]; exact h3, h4⟩
 ·obtain ⟨⟨h1, cur, h2⟩, h3⟩ := hq
  have e := hk b h1.2 (Array.getElem?_eq_some_iff.1 h2).1
  exact ⟨e, ⟨h1, cur, by rw [e]; exact h2⟩, h3⟩
theorem FS.keep {lo : Nat} {w w' : World} {v : Value} {f : Fo} (h : FS (QO lo) w v f) (hk : ∀ k, lo ≤ k → k < w.heap.size → w'.heap[k]? = w.heap[k]?) : FS (QO lo) w' v f :=
 h.move fun b o hq => by
  have hl := hq.lt
  obtain ⟨h1, cur, h2⟩ := hq
  have e := hk b h1.2 hl
  exact ⟨e, h1, cur, by rw [e]; exact h2⟩
theorem dI.lower {lo lo' : Nat} {w : World} {v : Value} {f : Fo} (h : dI lo w v f) (hl : lo' ≤ lo) : dI lo' w v f := by
 obtain ⟨l, ho, hr⟩ := h
 refine ⟨l, ⟨ho.1, ?_⟩, hr.move fun b o hq => ⟨rfl, ⟨⟨hq.1.1.1, Nat.le_trans hl hq.1.1.2⟩, hq.1.2⟩, hq.2⟩⟩
 rcases ho.2 with h1 | ⟨g, cap, cur, h1, h2, h3⟩
 ·exact .inl h1
 ·exact .inr ⟨g, cap, cur, h1, Nat.le_trans hl h2, h3⟩
theorem dI.snoc {lo : Nat} {w w3 : World} {v v3 sv : Value} {f b : Fo} {l : List Ro} {k n : Int} (ho : w.ownsRow lo 230 3 v l.length (ef l)) (hr : Rows' (QX lo v) w l f)
  (hv : FS (QX lo v) w sv b) (ho3 : w3.ownsRow lo 230 3 v3 (l.length + 1) (ef l ++ [.int .i64 k, .int .i64 n, sv])) (hg : w.grownBy w3 v.ownBlock) (hat : v3.ownBlock = v.ownBlock ∨ v3.ownBlock = some w.heap.size) :
  dI lo w3 v3 (f.app (.cons k n b .nil)) := by
 have hmv : ∀ c o, QX lo v w c o → w3.heap[c]? = w.heap[c]? ∧ QX lo v3 w3 c o := by
  intro c o hq
  have hl := hq.1.lt
  obtain ⟨⟨h1, cur, h2⟩, h3⟩ := hq
  have e := hg.block c hl h3
  refine ⟨e, ⟨h1, cur, by rw [e]; exact h2⟩, ?_⟩
  rcases hat with h | h
  ·rw [h]; exact h3
  ·rw [h]; intro hc; injection hc with hc; omega
 refine ⟨l ++ [(k, n, sv)], ?_, (hr.snoc hv).move hmv⟩
 rw [List.length_append, flatO_app]
 exact ho3
def jo : Fo → Prop
 | .nil => True
 | .cons _ _ b r => b.len ≤ 3518437208780 ∧ jo b ∧ jo r
theorem jo.at : ∀ {i : Nat} {f b r : Fo} {k n : Int}, jo f → f.drop i = .cons k n b r → b.len ≤ 3518437208780 ∧ jo b
 | 0, .nil, b, r, k, n, h, e => by simp [Fo.drop] at e
 | 0, .cons _ _ _ _, b, r, k, n, h, e => by simp [Fo.drop] at e; obtain ⟨rfl, rfl, rfl, rfl⟩ := e; exact ⟨h.1, h.2.1⟩
 | i + 1, .nil, b, r, k, n, h, e => by simp [Fo.drop] at e
 | i + 1, .cons _ _ _ _, b, r, k, n, h, e => jo.at (i := i) h.2.2 e
theorem jo.of_tot (f : Fo) : ∀ d, eZ f d = true → eN f ≤ 128 → f.len ≤ 128 ∧ jo f := by
 induction f with
 | nil => intro d _ _; exact ⟨by simp [Fo.len], trivial⟩
 | cons k n b r ihb ihr =>
  intro d hok ht
  have hl := tot_len (.cons k n b r)
  simp only [eZ, Bool.and_eq_true, decide_eq_true_eq] at hok
  obtain ⟨⟨⟨hd, ha⟩, hB⟩, hr⟩ := hok
  refine ⟨by omega, ?_⟩
  simp only [eN] at ht
  obtain ⟨_, h2⟩ := ihr d hr (by omega)
  cases hb : bm k with
  | false => rw [eM ha hb]; exact ⟨by simp [Fo.len], trivial, h2⟩
  | true =>
   rw [hb] at hB ht
   simp at hB ht
   obtain ⟨h3, h4⟩ := ihb (d + 1) hB (by omega)
   exact ⟨by omega, h4, h2⟩
def DrawnL (w wr : World) : Prop := ∃ q, wr = w.drewN q
theorem DrawnL.refl (w : World) : DrawnL w w := ⟨0, rfl⟩
theorem iW {p : Prop} (h : p) : Hid p := h
def aA (W : World) (b : Nat) (k n : Int) (v : Value) : Prop := W.heap[b]? = some (.cells #[.int .i64 k, .int .i64 n, v] 230 (0, 0))
theorem aA.new (W : World) (k n : Int) (v : Value) : aA (W.alloc (.cells #[.int .i64 k, .int .i64 n, v] 230)) W.heap.size k n v := heap_alloc_new W _
theorem aA.lt {W : World} {b : Nat} {k n : Int} {v : Value} (h : aA W b k n v) : b < W.heap.size := (Array.getElem?_eq_some_iff.1 h).1
theorem aA.step {W W' : World} {b : Nat} {k n : Int} {v : Value} (h : aA W b k n v) (hw : Below W.heap.size W W') : aA W' b k n v := by unfold aA; rw [hw.block b h.lt]; exact h
theorem aA.cells {W : World} {b : Nat} {k n : Int} {v : Value} (h : aA W b k n v) : W.cell? ⟨b, 0, none⟩ = some (.int .i64 k) ∧ W.cell? ⟨b, 1, none⟩ = some (.int .i64 n) ∧ W.cell? ⟨b, 2, none⟩ = some v := by
 unfold aA at h
 refine ⟨?_, ?_, ?_⟩ <;> simp [World.cell?, h]
theorem aA.free {W : World} {b : Nat} {k n : Int} {v : Value} (h : aA W b k n v) : W.frozen? ⟨b, 0, none⟩ = false ∧ W.frozen? ⟨b, 1, none⟩ = false ∧ W.frozen? ⟨b, 2, none⟩ = false := by
 unfold aA at h
 refine ⟨?_, ?_, ?_⟩ <;> simp [World.frozen?, h]
theorem aA.put {W : World} {b : Nat} {k n : Int} {v : Value} (h : aA W b k n v) (k' n' : Int) (v' : Value) :
  aA (((W.setCell ⟨b, 0, none⟩ (.int .i64 k')).setCell ⟨b, 1, none⟩ (.int .i64 n')).setCell ⟨b, 2, none⟩ v') b k' n' v' := by
 unfold aA at h ⊢
 simp only [World.setCell, Array.getElem?_modify, h]
 simp
theorem aA.put2 {W : World} {b : Nat} {k n : Int} {v : Value} (h : aA W b k n v) (v' : Value) : aA (W.setCell ⟨b, 2, none⟩ v') b k n v' := by
 unfold aA at h ⊢
 simp only [World.setCell, Array.getElem?_modify, h]
 simp
theorem bel_put {w W : World} {b B : Nat} (h : Below B w W) (hb : B ≤ b) (u0 u1 u2 : Value) :
  Below B w (((W.setCell ⟨b, 0, none⟩ u0).setCell ⟨b, 1, none⟩ u1).setCell ⟨b, 2, none⟩ u2) :=
 ((h.setCell (p := ⟨b, 0, none⟩) hb _).setCell (p := ⟨b, 1, none⟩) hb _).setCell (p := ⟨b, 2, none⟩) hb _
theorem loadO {W : World} {b : Nat} {k n : Int} {v : Value} (h : aA W b k n v) :
  (loadVar 230 ⟨b, 0, none⟩).run Tryz.prog W = .ok (.agg #[.int .i64 k, .int .i64 n, v]) W := by
 have a30 := Tryz.isAgg230
 have z30 := Tryz.sizeOf230
 obtain ⟨h0, h1, h2⟩ := h.cells
 have hc := run_loadCells_list (P := Tryz.prog) W ⟨b, 0, none⟩ [.int .i64 k, .int .i64 n, v] (fun j v hj => by
  match j, hj with
  | 0, hj => simp at hj; subst hj; simpa [Addr.add] using h0
  | 1, hj => simp at hj; subst hj; simpa [Addr.add] using h1
  | 2, hj => simp at hj; subst hj; simpa [Addr.add] using h2)
 simp [loadVar, a30, z30]
 have hc' : (loadCells ⟨b, 0, none⟩ 3).run Tryz.prog W = .ok #[.int .i64 k, .int .i64 n, v] W := hc
 rw [hc']
 rfl
theorem mG {P : Program} {fn : Func} {t u : Tmp} {T : TypeId} {a : Addr} {x : Value} (h : fn.results = #[.cell t T, .tmp u]) {tmps : Array Value} {w : World} (hp : tmps.getD t undef = .pointer (some a)) (hl : (loadVar T a).run P w = .ok x w) :
  (results fn tmps).run P w = .ok (.tuple #[x, tmps.getD u undef]) w := by
 have hp' : tmps[t]?.getD undef = .pointer (some a) := by simpa using hp
 simp [results, h, hp', hl, asAddr]
theorem aA.ret {fn : Func} {t u : Tmp} {W : World} {b : Nat} {k n : Int} {x : Value} (hB : aA W b k n x) (h : fn.results = #[.cell t 230, .tmp u]) {tmps : Array Value} (hp : tmps.getD t undef = .pointer (some ⟨b, 0, none⟩)) :
  (results fn tmps).run Tryz.prog W = .ok (.tuple #[.agg #[.int .i64 k, .int .i64 n, x], tmps.getD u undef]) W :=
 mG h hp (loadO hB)
theorem jO (k : Int) (w : World) : Calls Tryz.prog 186 #[.int .i64 k] w fun e w' => e = .returned (.bool (bm k)) ∧ w' = w := by
 unfold bm
 cases h1 : k == 28 with
 | true =>
  go_enter Tryz.func186, Tryz.ntmps186
  go_wp2
  go_ret
  exact ⟨rfl, rfl⟩
 | false =>
  go_enter Tryz.func186, Tryz.ntmps186
  go_wp2
  go_ret
  exact ⟨rfl, rfl⟩
theorem Tryz.infoOp : (Tryz.prog.info? 230).map (fun i => (i.zero, i.size, i.bytes)) = some (some (.agg #[.int .i64 0, .int .i64 0, .slice none 0 0]), 3, 40) := by kernel_rfl
theorem jP {w : World} {base n : Nat} {e : TypeId} {size : Nat} {v : Value} {xs : List Value} (h : w.ownsRow base e size v n xs) : ∀ k, v.ownBlock = some k → base ≤ k := fun k hk => (h.lt k hk).1
theorem cell3 {w : World} {g : Nat} {x y z : Value} {T : TypeId} {fr : Nat × Nat} (h : w.heap[g]? = some (.cells #[x, y, z] T fr)) : w.cell? ⟨g, 0, none⟩ = some x ∧ w.cell? ⟨g, 1, none⟩ = some y ∧ w.cell? ⟨g, 2, none⟩ = some z := by
 refine ⟨?_, ?_, ?_⟩ <;> simp [World.cell?, h]
theorem lk {w : World} {g : Nat} {x y z : Value} {T : TypeId} {fr : Nat × Nat} (h : w.heap[g]? = some (.cells #[x, y, z] T fr)) : ∀ j u, [x, y, z][j]? = some u → w.cell? ((⟨g, 0, none⟩ : Addr).add j) = some u := by
 intro j u hj
 rw [Addr.add_lit, Nat.zero_add]
 obtain ⟨a, b, c⟩ := cell3 h
 match j, hj with
 | 0, hj => simp at hj; subst hj; exact a
 | 1, hj => simp at hj; subst hj; exact b
 | 2, hj => simp at hj; subst hj; exact c
theorem new3 (w : World) (x y z : Value) (T : TypeId) : (w.alloc (.cells #[x, y, z] T)).heap[w.heap.size]? = some (.cells #[x, y, z] T (0, 0)) := heap_alloc_new w _
theorem op_cells (k n : Int) (a : Option Addr) (l c : Nat) : ∀ u ∈ [Value.int .i64 k, .int .i64 n, .slice a l c], u.oneCell' = true := by
 intro u hu
 simp only [List.mem_cons, List.not_mem_nil, or_false] at hu
 rcases hu with rfl | rfl | rfl <;> rfl
theorem fi {w w' : World} {base n size : Nat} {e : TypeId} {v : Value} {xs : List Value} (h : w.ownsRow base e size v n xs) (hb : Below w.heap.size w w') : w'.ownsRow base e size v n xs := by
 refine ⟨h.1, ?_⟩
 rcases h.2 with ⟨h1, h2⟩ | ⟨g, cap, cur, h1, h2, h3, h4⟩
 ·exact .inl ⟨h1, h2⟩
 ·exact .inr ⟨g, cap, cur, h1, h2, by rw [hb.block g (Array.getElem?_eq_some_iff.1 h3).1]; exact h3, h4⟩
theorem inner_fs {lo lo1 : Nat} {w1 w3 : World} {v u : Value} {b : Fo} (h : FS (QO lo1) w1 v b) (hk : ∀ k, lo1 ≤ k → k < w1.heap.size → w3.heap[k]? = w1.heap[k]?) (hlo : lo ≤ lo1) (hu : ∀ k, u.ownBlock = some k → k < lo1) : FS (QX lo u) w3 v b :=
 h.move fun c o hq => by
  have hl := hq.lt
  obtain ⟨h1, cur, h2⟩ := hq
  have e := hk c h1.2 hl
  exact ⟨e, ⟨⟨h1.1, Nat.le_trans hlo h1.2⟩, cur, by rw [e]; exact h2⟩, fun hc => by have := hu c hc.symm; have := h1.2; omega⟩
theorem mH {lo : Nat} {w w3 : World} {v : Value} {f : Fo} {l : List Ro} (h : Rows' (QX lo v) w l f) (hb : Below w.heap.size w w3) : Rows' (QX lo v) w3 l f :=
 h.move fun c o hq => by
  have hl := hq.1.lt
  obtain ⟨⟨h1, cur, h2⟩, h3⟩ := hq
  have e := hb.block c hl
  exact ⟨e, ⟨h1, cur, by rw [e]; exact h2⟩, h3⟩
theorem box_kept {W w1 : World} {x y z : Value} {T : TypeId} (hb : Below (W.alloc (.cells #[x, y, z] T)).heap.size (W.alloc (.cells #[x, y, z] T)) w1) : w1.heap[W.heap.size]? = some (.cells #[x, y, z] T (0, 0)) := by
 rw [hb.block _ (by simp)]
 exact new3 W x y z T
theorem et (w : World) (g q : Nat) (u : Value) : w.grownBy (w.setCell ⟨g, q, none⟩ u) (some g) :=
 ⟨rfl, rfl, rfl, by simp [World.setCell], fun k hk hne => Below.heap_setCell _ _ _ _ (fun e => hne (by rw [e]))⟩
theorem eO {w w' : World} (h : Below w.heap.size w w') (r : Option Nat) : w.grownBy w' r := ⟨h.os, h.tape, h.output, h.size, fun k hk _ => h.block k hk⟩
def WW (ws : List (List UInt8)) : Prop := ws.length ≤ 600 ∧ ∀ x ∈ ws, x ≠ [] ∧ x.length ≤ 512
theorem WW.tail {x : List UInt8} {ws : List (List UInt8)} (h : WW (x :: ws)) : WW ws := ⟨by have := h.1; simp at this; omega, fun y hy => h.2 y (by simp [hy])⟩
theorem WW.suffix {u ws : List (List UInt8)} (h : WW (u ++ ws)) : WW ws := ⟨by have := h.1; simp at this; omega, fun y hy => h.2 y (by simp [hy])⟩
theorem gset {w w1 : World} {r : Option Nat} (h : w.grownBy w1 r) {b q : Nat} (hb : w.heap.size ≤ b) (u : Value) : w.grownBy (w1.setCell ⟨b, q, none⟩ u) r :=
 ⟨h.os, h.tape, h.output, by simpa [World.setCell] using h.size, fun k hk hne => (Below.heap_setCell _ _ _ _ (by show k ≠ b; omega)).trans (h.block k hk hne)⟩
theorem gsetR {w w1 : World} {R q : Nat} (h : w.grownBy w1 (some R)) (u : Value) : w.grownBy (w1.setCell ⟨R, q, none⟩ u) (some R) := h.trans (et _ _ _ _)
theorem eP {w w1 : World} {r : Option Nat} (h : w.grownBy w1 r) (o : Obj) : w.grownBy (w1.alloc o) r := h.trans (World.grownBy_alloc _ _ _)
theorem gbel {w w1 w2 : World} {r : Option Nat} (h : w.grownBy w1 r) (hb : Below w1.heap.size w1 w2) : w.grownBy w2 r := h.trans (eO hb r)
theorem aj {p : Prop} (h : p) : Hid p := h
theorem aA.set {W : World} {b b' q : Nat} {k n : Int} {v : Value} (h : aA W b k n v) (hne : b ≠ b') (u : Value) : aA (W.setCell ⟨b', q, none⟩ u) b k n v := by
 unfold aA
 rw [Below.heap_setCell _ _ _ _ hne]
 exact h
theorem aA.grown {W W' : World} {b R : Nat} {k n : Int} {v : Value} (h : aA W b k n v) (hg : W.grownBy W' (some R)) (hne : b ≠ R) : aA W' b k n v := by
 unfold aA
 rw [hg.block b h.lt (fun e => hne (by injection e))]
 exact h
theorem ww_split (s : ByteArray) (hs : s.size ≤ 512) : WW (aD [] (L s)) := by
 have hl := splitG_len (L s) []
 simp only [if_true, dd] at hl
 refine ⟨by omega, fun x hx => ⟨(jN _ [] (fun c hc => by cases hc) x hx).1, ?_⟩⟩
 have : ∀ (l acc : List UInt8), ∀ x ∈ aD acc l, x.length ≤ acc.length + l.length := by
  intro l
  induction l with
  | nil => intro acc x hx; simp only [aD] at hx; split at hx <;> simp_all
  | cons c r ih =>
   intro acc x hx
   rw [aD] at hx
   split at hx
   ·split at hx
    ·have := ih [] x hx; simp at this ⊢; omega
    ·rcases List.mem_cons.1 hx with rfl | hx
     ·simp
     ·have := ih [] x hx; simp at this ⊢; omega
   ·have := ih _ x hx; simp at this ⊢; omega
 have := this (L s) [] x hx
 rw [dd] at this
 simp at this
 omega
def PRes (w w' : World) (e : Ending) : Rs → Prop
 | .err c => e = .returned (.tuple #[.slice none 0 0, .int .i64 c]) ∧ c ≠ 0
 | .ok f _ _ => ∃ v, e = .returned (.tuple #[v, .int .i64 0]) ∧ dI w.heap.size w' v f
def cG (s : ByteArray) (r : Rs) : Prop := if 512 < s.size then r = .err 2 else PL 0 (aD [] (L s)) 0 r
theorem cG.unique {s : ByteArray} {r r' : Rs} (h : cG s r) (h' : cG s r') : r = r' := by
 unfold cG at h h'
 split at h
 ·rename_i hs
  rw [if_pos hs] at h'
  rw [h, h']
 ·rename_i hs
  rw [if_neg hs] at h'
  exact h.unique h'
theorem cO {p : Prop} (h : p) : Hid p := h
def ox (k n : Int) (b : Fo) (d : Nat) : Bool := bQ k n b && (!bm k || eZ b (d + 1))
def dX : Fo → Nat → Bool
 | .nil, _ => true
 | .cons k n b r, d => ox k n b d && dX r d
def bt : Fo → Nat
 | .nil => 0
 | .cons k _ b r => (if bm k then eN b else 0) + bt r
theorem okF_all (f : Fo) (d : Nat) : eZ f d = (decide (d ≤ 6) && dX f d) := by
 induction f with
 | nil => simp [eZ, dX]
 | cons k n b r _ ih =>
  simp only [eZ, dX, ox, ih]
  cases decide (d ≤ 6) <;> cases bQ k n b <;> cases (!bm k || eZ b (d + 1)) <;> rfl
theorem tot_bt (f : Fo) : eN f = f.len + bt f := by
 induction f with
 | nil => rfl
 | cons k n b r _ ih => simp only [eN, Fo.len, bt, ih]; omega
theorem eQ (f g : Fo) (d : Nat) : dX (f.app g) d = (dX f d && dX g d) := by
 induction f with
 | nil => simp [Fo.app, dX]
 | cons k n b r _ ih => simp only [Fo.app, dX, ih, Bool.and_assoc]
theorem gM (f g : Fo) : bt (f.app g) = bt f + bt g := by
 induction f with
 | nil => simp [Fo.app, bt]
 | cons k n b r _ ih => simp only [Fo.app, bt, ih]; omega
theorem eR {f b r : Fo} {i d a : Nat} {k n : Int} (h : f.drop i = .cons k n b r) (hn : ox k n b d = false ∨ 128 < a + f.len + bt (f.take i) + (if bm k then eN b else 0)) : ¬ (eZ f d = true ∧ a + eN f ≤ 128) := by
 rintro ⟨h1, h2⟩
 have e := Fo.take_drop i f
 rw [h] at e
 rcases hn with hn | hn
 ·rw [okF_all, ← e, eQ] at h1
  simp [dX, hn] at h1
 ·have hb : bt f = bt (f.take i) + ((if bm k then eN b else 0) + bt r) := by rw [show bt f = bt ((f.take i).app (.cons k n b r)) by rw [e], gM]; rfl
  rw [tot_bt, hb] at h2
  omega
theorem alone_any (k n : Int) (a : Option Addr) (b : Fo) (cap : Nat) (w : World) : Calls Tryz.prog 247 #[.agg #[.int .i64 k, .int .i64 n, .slice a b.len cap]] w fun e w' => e = .returned (.bool (bQ k n b)) ∧ Below w.heap.size w w' := by
 have Hh := cO (fun W => jO k W)
 have hB := (Below.refl w.heap.size w).alloc (Nat.le_refl _) (.cells #[.int .i64 k, .int .i64 n, .slice a b.len cap] 230)
 unfold bQ
 have e5 : ((b.len : Int) == 0) = (b.len == 0) := by
  by_cases h : b.len = 0
  ·simp [h]
  ·rw [beq_eq_false_iff_ne.2 (by omega), beq_eq_false_iff_ne.2 h]
 cases h1 : decide (1 ≤ k) with
 | false =>
  go_enter Tryz.func247, Tryz.ntmps247
  go_wp2
  go_ret
  exact ⟨rfl, hB⟩
 | true =>
  cases h2 : decide (k ≤ 30) with
  | false =>
   go_enter Tryz.func247, Tryz.ntmps247
   go_wp2
   go_ret
   exact ⟨rfl, hB⟩
  | true =>
   cases h3 : n == 0 with
   | true =>
    cases h5 : b.len == 0 with
    | true =>
     go_enter Tryz.func247, Tryz.ntmps247
     go_wp2
     go_ret
     exact ⟨rfl, hB⟩
    | false =>
     go_enter Tryz.func247, Tryz.ntmps247
     go_wp2_with (go_at_call 186; refine (Hh.out _).mono ?_; rintro e w' ⟨rfl, rfl⟩)
     go_ret
     exact ⟨rfl, hB⟩
   | false =>
    cases h4 : k == 1 with
    | false =>
     go_enter Tryz.func247, Tryz.ntmps247
     go_wp2
     go_ret
     exact ⟨rfl, hB⟩
    | true =>
     cases h5 : b.len == 0 with
     | true =>
      go_enter Tryz.func247, Tryz.ntmps247
      go_wp2
      go_ret
      exact ⟨rfl, hB⟩
     | false =>
      go_enter Tryz.func247, Tryz.ntmps247
      go_wp2_with (go_at_call 186; refine (Hh.out _).mono ?_; rintro e w' ⟨rfl, rfl⟩)
      go_ret
      exact ⟨rfl, hB⟩
end Go.Proofs.YtclcgakfmcofaaaGreatDoor
namespace Go.Proofs.YtclcgakfmcofaaaGreatDoor
def tk (k : Int) : Int := if k ≤ 4 then 0 else if k ≤ 17 then 2 else if k ≤ 25 then 1 else if k ≤ 26 then 2 else if k ≤ 29 then 1 else 2
def lv (k : Int) : Int := if k ≤ 24 then 1 else if k ≤ 26 then 2 else 0
theorem tk_bd (k : Int) : 0 ≤ tk k ∧ tk k ≤ 2 := by unfold tk; split <;> (try split) <;> (try split) <;> (try split) <;> (try split) <;> (try split) <;> omega
theorem jQ (k : Int) : 0 ≤ lv k ∧ lv k ≤ 2 := by unfold lv; split <;> (try split) <;> omega
def nd : Fo → Int → Int → Int → Option (Int × Int)
 | .nil, h, _, m => some (h, m)
 | .cons k _ b r, h, fl, m =>
  if h - tk k < fl then none else if 16 < h - tk k + lv k then none else
  match nd b (h - tk k + lv k) (h - tk k + lv k) (max m (h - tk k + lv k)) with
  | none => none
  | some (l, m2) => if l = h - tk k + lv k then nd r l fl m2 else none
theorem jR {k n : Int} {b r : Fo} {h fl m : Int} {x : Int × Int} (e : nd (.cons k n b r) h fl m = some x) : fl ≤ h - tk k ∧ h - tk k + lv k ≤ 16 ∧ ∃ m2, nd b (h - tk k + lv k) (h - tk k + lv k) (max m (h - tk k + lv k)) = some (h - tk k + lv k, m2) ∧ nd r (h - tk k + lv k) fl m2 = some x := by
 rw [nd] at e
 split at e
 ·cases e
 split at e
 ·cases e
 split at e
 ·cases e
 ·rename_i l m2 hb
  split at e
  ·rename_i hl
   subst hl
   exact ⟨by omega, by omega, m2, hb, e⟩
  ·cases e
theorem nd_mk {k n : Int} {b r : Fo} {h fl m m2 : Int} (h1 : fl ≤ h - tk k) (h2 : h - tk k + lv k ≤ 16) (h3 : nd b (h - tk k + lv k) (h - tk k + lv k) (max m (h - tk k + lv k)) = some (h - tk k + lv k, m2)) : nd (.cons k n b r) h fl m = nd r (h - tk k + lv k) fl m2 := by
 rw [nd, if_neg (by omega), if_neg (by omega), h3]
 simp
theorem nd_no1 {k n : Int} {b r : Fo} {h fl m : Int} (h1 : h - tk k < fl) : nd (.cons k n b r) h fl m = none := by rw [nd, if_pos h1]
theorem nd_no2 {k n : Int} {b r : Fo} {h fl m : Int} (h2 : 16 < h - tk k + lv k) : nd (.cons k n b r) h fl m = none := by
 rw [nd, if_pos h2]
 split <;> rfl
theorem nd_no3 {k n : Int} {b r : Fo} {h fl m : Int} (h3 : ∀ m2, nd b (h - tk k + lv k) (h - tk k + lv k) (max m (h - tk k + lv k)) ≠ some (h - tk k + lv k, m2)) : nd (.cons k n b r) h fl m = none := by
 cases e : nd (.cons k n b r) h fl m with
 | none => rfl
 | some x => obtain ⟨_, _, m2, h4, _⟩ := jR e; exact absurd h4 (h3 m2)
theorem oy : ∀ (f : Fo) (h fl m l p : Int), nd f h fl m = some (l, p) → fl ≤ h → h ≤ m → m ≤ 16 → fl ≤ l ∧ l ≤ p ∧ m ≤ p ∧ p ≤ 16 := by
 intro f
 induction f with
 | nil => intro h fl m l p e h1 h2 h3; simp only [nd, Option.some.injEq, Prod.mk.injEq] at e; omega
 | cons k n b r ihb ihr =>
  intro h fl m l p e h1 h2 h3
  obtain ⟨a1, a2, m2, a3, a4⟩ := jR e
  have hl := jQ k
  have b1 := ihb _ _ _ _ _ a3 (by omega) (by omega) (by omega)
  have b2 := ihr _ _ _ _ _ a4 (by omega) (by omega) (by omega)
  omega
def ll (f : Fo) : Option (Int × Int) := nd f 0 0 0
theorem need0_bd {f : Fo} {l p : Int} (h : ll f = some (l, p)) : 0 ≤ l ∧ l ≤ p ∧ p ≤ 16 := by
 have := oy f 0 0 0 l p h (by omega) (by omega) (by omega)
 omega
end Go.Proofs.YtclcgakfmcofaaaGreatDoor
namespace Go.Proofs.YtclcgakfmcofaaaGreatDoor
open Go.RowKit
theorem mI : ∀ {i : Nat} {f b r : Fo} {k n : Int} {d : Nat}, eZ f d = true → f.drop i = .cons k n b r → bQ k n b = true ∧ (bm k = true → eZ b (d + 1) = true)
 | 0, .nil, b, r, k, n, d, h, e => by simp [Fo.drop] at e
 | 0, .cons _ _ _ _, b, r, k, n, d, h, e => by
  simp [Fo.drop] at e
  obtain ⟨rfl, rfl, rfl, rfl⟩ := e
  simp only [eZ, Bool.and_eq_true, decide_eq_true_eq] at h
  refine ⟨h.1.1.2, fun hk => ?_⟩
  have := h.1.2
  rw [hk] at this
  simpa using this
 | i + 1, .nil, b, r, k, n, d, h, e => by simp [Fo.drop] at e
 | i + 1, .cons _ _ _ _, b, r, k, n, d, h, e => by
  simp only [eZ, Bool.and_eq_true, decide_eq_true_eq] at h
  exact mI (i := i) h.2 e
theorem fH {k n : Int} {b : Fo} (h : bQ k n b = true) : 1 ≤ k ∧ k ≤ 30 := by
 unfold bQ at h
 simp only [Bool.and_eq_true, decide_eq_true_eq] at h
 omega
end Go.Proofs.YtclcgakfmcofaaaGreatDoor
