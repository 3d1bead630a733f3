/- Cells: what two are together, and that the order does not matter. No program in this text. -/
import Derived.WalkKit
namespace Go.Proofs.Yticpaemmdfmbfaa
open Go.RowKit
set_option linter.unusedVariables false
set_option maxRecDepth 100000

/-! ### Rising lists -/
abbrev Rise (l : List Int) : Prop := l.Pairwise (· < ·)
theorem Rise.nil : Rise [] := List.Pairwise.nil
theorem rise_cons {x : Int} {l : List Int} : Rise (x :: l) ↔ (∀ y ∈ l, x < y) ∧ Rise l := List.pairwise_cons
theorem rise_snoc {x : Int} {l : List Int} (h : Rise l) (hx : ∀ y ∈ l, y < x) : Rise (l ++ [x]) := by
  unfold Rise
  rw [List.pairwise_append]
  exact ⟨h, by simp, fun a ha b hb => by simp at hb; subst hb; exact hx a ha⟩
/-- A rising list is told by what is in it. -/
theorem rise_ext : ∀ {l m : List Int}, Rise l → Rise m → (∀ z, z ∈ l ↔ z ∈ m) → l = m
  | [], [], _, _, _ => rfl
  | [], y :: m, _, _, h => by have := (h y).2 (by simp); simp at this
  | x :: l, [], _, _, h => by have := (h x).1 (by simp); simp at this
  | x :: l, y :: m, hl, hm, h => by
    rw [rise_cons] at hl hm
    have hxy : x = y := by
      have h1 := (h x).1 (by simp)
      have h2 := (h y).2 (by simp)
      rw [List.mem_cons] at h1 h2
      rcases h1 with h1 | h1
      · exact h1
      · rcases h2 with h2 | h2
        · exact h2.symm
        · have := hm.1 x h1
          have := hl.1 y h2
          omega
    subst hxy
    have : l = m := rise_ext hl.2 hm.2 fun z => by
      have hz := h z
      rw [List.mem_cons, List.mem_cons] at hz
      constructor
      · intro h1
        rcases hz.1 (.inr h1) with h2 | h2
        · have := hl.1 z h1; omega
        · exact h2
      · intro h1
        rcases hz.2 (.inr h1) with h2 | h2
        · have := hm.1 z h1; omega
        · exact h2
    rw [this]
def ins (x : Int) : List Int → List Int
  | [] => [x]
  | y :: l => if x < y then x :: y :: l else if x = y then y :: l else y :: ins x l
theorem mem_ins (x z : Int) : ∀ l, z ∈ ins x l ↔ z = x ∨ z ∈ l
  | [] => by simp [ins]
  | y :: l => by
    unfold ins
    split
    · simp
    · split
      · rename_i h1 h2
        subst h2
        simp
      · simp only [List.mem_cons, mem_ins x z l]
        constructor
        · rintro (h | h | h)
          · exact .inr (.inl h)
          · exact .inl h
          · exact .inr (.inr h)
        · rintro (h | h | h)
          · exact .inr (.inl h)
          · exact .inl h
          · exact .inr (.inr h)
theorem rise_ins (x : Int) : ∀ l, Rise l → Rise (ins x l)
  | [], _ => by simp [ins, Rise]
  | y :: l, h => by
    rw [rise_cons] at h
    unfold ins
    split
    · rename_i h1
      rw [rise_cons, rise_cons]
      exact ⟨fun z hz => by rw [List.mem_cons] at hz; rcases hz with rfl | hz; exact h1; have := h.1 z hz; omega, h⟩
    · split
      · rw [rise_cons]; exact h
      · rename_i h1 h2
        rw [rise_cons]
        exact ⟨fun z hz => by rw [mem_ins] at hz; rcases hz with rfl | hz; omega; exact h.1 z hz, rise_ins x l h.2⟩
/-- All that is in both. -/
def uni (a b : List Int) : List Int := a.foldr ins b
theorem mem_uni (a b : List Int) (z : Int) : z ∈ uni a b ↔ z ∈ a ∨ z ∈ b := by
  induction a with
  | nil => simp [uni]
  | cons x a ih =>
    show z ∈ ins x (uni a b) ↔ _
    rw [mem_ins, ih, List.mem_cons]
    constructor
    · rintro (h | h | h)
      · exact .inl (.inl h)
      · exact .inl (.inr h)
      · exact .inr h
    · rintro ((h | h) | h)
      · exact .inl h
      · exact .inr (.inl h)
      · exact .inr (.inr h)
theorem rise_uni (a : List Int) {b : List Int} (h : Rise b) : Rise (uni a b) := by
  induction a with
  | nil => exact h
  | cons x a ih => exact rise_ins x _ ih
/-- Each once, in order. -/
def once (l : List Int) : List Int := uni l []
theorem mem_once (l : List Int) (z : Int) : z ∈ once l ↔ z ∈ l := by unfold once; rw [mem_uni]; simp
theorem rise_once (l : List Int) : Rise (once l) := rise_uni l Rise.nil
theorem once_app (a b : List Int) : once (a ++ b) = uni (once a) (once b) :=
  rise_ext (rise_once _) (rise_uni _ (rise_once b)) fun z => by rw [mem_once, mem_uni, mem_once, mem_once, List.mem_append]
theorem once_self {l : List Int} (h : Rise l) : once l = l := rise_ext (rise_once l) h fun z => mem_once l z
theorem once_one (x : Int) : once [x] = [x] := rfl
theorem rise_len : ∀ {a b : List Int}, Rise a → Rise b → (∀ z ∈ a, z ∈ b) → a.length ≤ b.length
  | [], b, _, _, _ => by simp
  | x :: a, b, ha, hb, h => by
    rw [rise_cons] at ha
    have hx := h x (by simp)
    obtain ⟨s, t, rfl⟩ := List.append_of_mem hx
    have hb' : Rise (s ++ t) := by
      unfold Rise at hb ⊢
      rw [List.pairwise_append] at hb ⊢
      rw [List.pairwise_cons] at hb
      exact ⟨hb.1, hb.2.1.2, fun a ha c hc => hb.2.2 a ha c (by simp [hc])⟩
    have := rise_len ha.2 hb' fun z hz => by
      have h1 := h z (by simp [hz])
      have h2 := ha.1 z hz
      rw [List.mem_append, List.mem_cons] at h1
      rw [List.mem_append]
      rcases h1 with h1 | h1 | h1
      · exact .inl h1
      · omega
      · exact .inr h1
    rw [List.length_append] at this ⊢
    simp only [List.length_cons]
    omega

/-! ### Numbers gathered two and two -/
def fo1 (f : Int → Int → Int) : List Int → Int
  | [] => 0
  | [x] => x
  | x :: y :: l => f x (fo1 f (y :: l))
theorem fo1_P {P : Int → Prop} {f : Int → Int → Int} (hc : ∀ x y, P x → P y → P (f x y)) : ∀ (l : List Int), l ≠ [] → (∀ x ∈ l, P x) → P (fo1 f l)
  | [], h, _ => absurd rfl h
  | [x], _, h => h x (by simp)
  | x :: y :: l, _, h => hc _ _ (h x (by simp)) (fo1_P hc (y :: l) (by simp) fun z hz => h z (by simp at hz ⊢; exact .inr hz))
/-- Where it does not matter how three are taken together, lists behind each other are taken each by itself. -/
theorem fo1_app {P : Int → Prop} {f : Int → Int → Int} (hc : ∀ x y, P x → P y → P (f x y)) (ha : ∀ x y z, P x → P y → P z → f (f x y) z = f x (f y z)) : ∀ (a b : List Int), a ≠ [] → b ≠ [] → (∀ x ∈ a, P x) → (∀ x ∈ b, P x) → fo1 f (a ++ b) = f (fo1 f a) (fo1 f b)
  | [], b, h, _, _, _ => absurd rfl h
  | [x], [], _, h, _, _ => absurd rfl h
  | [x], y :: b, _, _, _, _ => rfl
  | x :: y :: a, b, _, hb, hpa, hpb => by
    have ih := fo1_app hc ha (y :: a) b (by simp) hb (fun z hz => hpa z (by simp at hz ⊢; exact .inr hz)) hpb
    show f x (fo1 f ((y :: a) ++ b)) = f (f x (fo1 f (y :: a))) (fo1 f b)
    rw [ih, ha _ _ _ (hpa x (by simp)) (fo1_P hc _ (by simp) fun z hz => hpa z (by simp at hz ⊢; exact .inr hz)) (fo1_P hc _ hb hpb)]
def sumF (x y : Int) : Int := wrap64 (x + y)
def cntF (x y : Int) : Int := if 4611686018427387904 - y < x then 4611686018427387904 else x + y
def orF (x y : Int) : Int := bits .or .i64 x y
theorem sum_assoc (x y z : Int) : sumF (sumF x y) z = sumF x (sumF y z) := by unfold sumF wrap64; omega
theorem cnt_assoc (x y z : Int) (hx : 0 ≤ x ∧ x ≤ 4611686018427387904) (hy : 0 ≤ y ∧ y ≤ 4611686018427387904) (hz : 0 ≤ z ∧ z ≤ 4611686018427387904) : cntF (cntF x y) z = cntF x (cntF y z) := by
  unfold cntF
  split <;> split <;> split <;> (try split) <;> omega
theorem cnt_P (x y : Int) (hx : 0 ≤ x ∧ x ≤ 4611686018427387904) (hy : 0 ≤ y ∧ y ≤ 4611686018427387904) : 0 ≤ cntF x y ∧ cntF x y ≤ 4611686018427387904 := by unfold cntF; split <;> omega
theorem ofInt_wrap (x : BitVec 64) : BitVec.ofInt 64 (IntKind.i64.wrap (x.toNat : Int)) = x := by
  apply BitVec.eq_of_toNat_eq
  rw [BitVec.toNat_ofInt, IntKind.wrap_i64]
  have := x.isLt
  omega
theorem or_assoc (x y z : Int) : orF (orF x y) z = orF x (orF y z) := by
  show IntKind.i64.wrap ((BitVec.ofInt 64 (IntKind.i64.wrap ((BitVec.ofInt 64 x ||| BitVec.ofInt 64 y).toNat : Int)) ||| BitVec.ofInt 64 z).toNat : Int) = IntKind.i64.wrap ((BitVec.ofInt 64 x ||| BitVec.ofInt 64 (IntKind.i64.wrap ((BitVec.ofInt 64 y ||| BitVec.ofInt 64 z).toNat : Int))).toNat : Int)
  rw [ofInt_wrap, ofInt_wrap, BitVec.or_assoc]
/-- What two numbers are together, by the way. -/
def nF (agg : Int) : Int → Int → Int := if agg = 1 then sumF else if agg = 2 then cntF else if agg = 3 then min else if agg = 4 then max else orF
def nP (agg : Int) (x : Int) : Prop := agg = 2 → 0 ≤ x ∧ x ≤ 4611686018427387904
theorem nF_P (agg : Int) (x y : Int) (hx : nP agg x) (hy : nP agg y) : nP agg (nF agg x y) := by
  intro h
  subst h
  exact cnt_P x y (hx rfl) (hy rfl)
theorem nF_assoc (agg : Int) (x y z : Int) (hx : nP agg x) (hy : nP agg y) (hz : nP agg z) : nF agg (nF agg x y) z = nF agg x (nF agg y z) := by
  unfold nF
  by_cases h1 : agg = 1
  · rw [if_pos h1]; exact sum_assoc x y z
  rw [if_neg h1]
  by_cases h2 : agg = 2
  · rw [if_pos h2]; exact cnt_assoc x y z (hx h2) (hy h2) (hz h2)
  rw [if_neg h2]
  by_cases h3 : agg = 3
  · rw [if_pos h3]; omega
  rw [if_neg h3]
  by_cases h4 : agg = 4
  · rw [if_pos h4]; omega
  rw [if_neg h4]
  exact or_assoc x y z
/-- The number of one. -/
def n1 (agg v : Int) : Int := if agg = 2 then 1 else v
/-- A cell: its number, its set. -/
abbrev Cl := Int × List Int
/-- What two cells are together: the cell, and the error. -/
def joinC (agg : Int) (bound : Nat) (a b : Cl) : Cl × Int :=
  if agg = 6 then (if (uni a.2 b.2).length ≤ bound then ((0, uni a.2 b.2), 0) else ((0, []), 11)) else ((nF agg a.1 b.1, []), 0)
def oneC (agg v : Int) : Cl := if agg = 6 then (0, [v]) else (n1 agg v, [])
/-- What numbers come to, all of them at once. -/
def allC (agg : Int) (bound : Nat) (l : List Int) : Cl × Int :=
  if agg = 6 then (if (once l).length ≤ bound then ((0, once l), 0) else ((0, []), 11)) else ((fo1 (nF agg) (l.map (n1 agg)), []), 0)
theorem allC_one (agg : Int) (bound : Nat) (v : Int) (hb : agg = 6 → 1 ≤ bound) : allC agg bound [v] = (oneC agg v, 0) := by
  unfold allC oneC
  by_cases h : agg = 6
  · rw [if_pos h, if_pos h, once_one, if_pos (by simpa using hb h)]
  · rw [if_neg h, if_neg h]; rfl
/-- In two parts, each by itself. -/
theorem allC_app (agg : Int) (bound : Nat) (a b : List Int) (ha : a ≠ []) (hb : b ≠ []) :
    ((allC agg bound a).2 = 0 → (allC agg bound b).2 = 0 → allC agg bound (a ++ b) = joinC agg bound (allC agg bound a).1 (allC agg bound b).1) ∧
    (((allC agg bound a).2 ≠ 0 ∨ (allC agg bound b).2 ≠ 0) → allC agg bound (a ++ b) = ((0, []), 11) ∧ max (allC agg bound a).2 (allC agg bound b).2 = 11) := by
  unfold allC joinC
  by_cases h : agg = 6
  · simp only [if_pos h]
    have hla : (once a).length ≤ (once (a ++ b)).length := rise_len (rise_once a) (rise_once _) fun z hz => by rw [mem_once] at hz ⊢; simp [hz]
    have hlb : (once b).length ≤ (once (a ++ b)).length := rise_len (rise_once b) (rise_once _) fun z hz => by rw [mem_once] at hz ⊢; simp [hz]
    by_cases h1 : (once a).length ≤ bound <;> by_cases h2 : (once b).length ≤ bound
    · simp only [if_pos h1, if_pos h2]
      exact ⟨fun _ _ => by rw [once_app], fun h => by simp at h⟩
    · simp only [if_pos h1, if_neg h2]
      rw [if_neg (by omega)]
      exact ⟨fun _ h => by simp at h, fun _ => ⟨rfl, by decide⟩⟩
    · simp only [if_neg h1, if_pos h2]
      rw [if_neg (by omega)]
      exact ⟨fun h => by simp at h, fun _ => ⟨rfl, by decide⟩⟩
    · simp only [if_neg h1, if_neg h2]
      rw [if_neg (by omega)]
      exact ⟨fun h => by simp at h, fun _ => ⟨rfl, by decide⟩⟩
  · simp only [if_neg h]
    refine ⟨fun _ _ => ?_, fun h => by simp at h⟩
    rw [List.map_append, fo1_app (P := nP agg) (nF_P agg) (nF_assoc agg) _ _ (by simpa using ha) (by simpa using hb)]
    all_goals
      intro x hx
      obtain ⟨v, _, rfl⟩ := List.mem_map.1 hx
      intro h2
      unfold n1
      rw [if_pos h2]
      decide
end Go.Proofs.Yticpaemmdfmbfaa
