/- Texts laid together: YtejgcflcckjlpaaDoorOC1, YtejgcflcckjlpaaDoorOC2. -/
import Derived.WalkKit
import Derived.Lib.Small
import Derived.Lib.Bytealg
/- Texts laid together: KBase, KOrd, GPlain, WPlain. -/
/- Keys as pairs of a number and a text. -/
namespace Go.Proofs.YtejgcflcckjlpaaDoor
set_option linter.unusedVariables false
set_option maxRecDepth 100000

abbrev Ky := Int × ByteArray
abbrev k0 : Ky := (0, ⟨#[]⟩)
def encK (x : Ky) : List Value := [.int .i64 x.1, .string x.2]
def valK (x : Ky) : Value := .agg #[.int .i64 x.1, .string x.2]
theorem ba_ext {a b : ByteArray} (h : a.data.toList = b.data.toList) : a = b := by
  cases a; cases b; simp at h; rw [h]
end Go.Proofs.YtejgcflcckjlpaaDoor
/- Keys: how two stand. -/
namespace Go.Proofs.YtejgcflcckjlpaaDoor
open Go.RowKit
set_option linter.unusedVariables false
set_option maxRecDepth 100000

theorem bl_irrefl : ∀ a : List UInt8, Op.bytesLess a a = false
  | [] => rfl
  | a :: x => by simp [Op.bytesLess, bl_irrefl x]
theorem bl_trans : ∀ a b c : List UInt8, Op.bytesLess a b = true → Op.bytesLess b c = true → Op.bytesLess a c = true
  | [], [], _, h, _ => by simp [Op.bytesLess] at h
  | [], _ :: _, [], _, h => by simp [Op.bytesLess] at h
  | [], _ :: _, _ :: _, _, _ => rfl
  | _ :: _, [], _, h, _ => by simp [Op.bytesLess] at h
  | _ :: _, _ :: _, [], _, h => by simp [Op.bytesLess] at h
  | a :: x, b :: y, c :: z, h1, h2 => by
    simp only [Op.bytesLess, Bool.or_eq_true, decide_eq_true_eq, Bool.and_eq_true, beq_iff_eq] at *
    rcases h1 with h1 | ⟨rfl, h1⟩
    · rcases h2 with h2 | ⟨rfl, h2⟩
      · exact .inl (UInt8.lt_trans h1 h2)
      · exact .inl h1
    · rcases h2 with h2 | ⟨rfl, h2⟩
      · exact .inl h2
      · exact .inr ⟨rfl, bl_trans x y z h1 h2⟩
theorem bl_total : ∀ a b : List UInt8, Op.bytesLess a b = false → Op.bytesLess b a = false → a = b
  | [], [], _, _ => rfl
  | [], _ :: _, h, _ => by simp [Op.bytesLess] at h
  | _ :: _, [], _, h => by simp [Op.bytesLess] at h
  | a :: x, b :: y, h1, h2 => by
    simp only [Op.bytesLess, Bool.or_eq_false_iff, decide_eq_false_iff_not, Bool.and_eq_false_iff, beq_eq_false_iff_ne] at *
    have e : a = b := UInt8.le_antisymm (UInt8.not_lt.1 h2.1) (UInt8.not_lt.1 h1.1)
    subst e
    rw [bl_total x y (by simpa using h1.2) (by simpa using h2.2)]
theorem cb_eq : ∀ a b : List UInt8, Lib.compareBytes a b = if Op.bytesLess a b then -1 else if a = b then 0 else 1
  | [], [] => rfl
  | [], _ :: _ => rfl
  | _ :: _, [] => rfl
  | a :: x, b :: y => by
    unfold Lib.compareBytes
    by_cases h1 : a < b
    · simp [Op.bytesLess, h1]
    · by_cases h2 : b < a
      · have hne : a ≠ b := fun e => by subst e; exact UInt8.lt_irrefl _ h2
        simp [Op.bytesLess, h1, h2, hne]
      · have e : a = b := UInt8.le_antisymm (UInt8.not_lt.1 h2) (UInt8.not_lt.1 h1)
        subst e
        rw [if_neg h1, if_neg h1, cb_eq x y]
        simp [Op.bytesLess]


/-- x stands ahead of y. -/
def ltK (x y : Ky) : Bool := decide (x.1 < y.1) || (decide (x.1 = y.1) && Op.bytesLess x.2.data.toList y.2.data.toList)
/-- What Cmp answers. -/
def cfK (x y : Ky) : Int := if ltK x y then -1 else if x = y then 0 else 1

theorem ltK_irrefl (x : Ky) : ltK x x = false := by simp [ltK, bl_irrefl]
theorem ltK_trans {x y z : Ky} (h1 : ltK x y = true) (h2 : ltK y z = true) : ltK x z = true := by
  simp only [ltK, Bool.or_eq_true, decide_eq_true_eq, Bool.and_eq_true] at *
  rcases h1 with h1 | ⟨e1, h1⟩ <;> rcases h2 with h2 | ⟨e2, h2⟩
  · exact .inl (by omega)
  · exact .inl (by omega)
  · exact .inl (by omega)
  · exact .inr ⟨by omega, bl_trans _ _ _ h1 h2⟩
theorem ltK_total {x y : Ky} (h1 : ltK x y = false) (h2 : ltK y x = false) : x = y := by
  simp only [ltK, Bool.or_eq_false_iff, decide_eq_false_iff_not, Bool.and_eq_false_iff] at *
  have e : x.1 = y.1 := by omega
  refine Prod.ext e (ba_ext (bl_total _ _ ?_ ?_))
  · exact h1.2.resolve_left (fun h => h e)
  · exact h2.2.resolve_left (fun h => h e.symm)
theorem ltK_asymm {x y : Ky} (h : ltK x y = true) : ltK y x = false := by
  cases h2 : ltK y x
  · rfl
  · have := ltK_trans h h2; rw [ltK_irrefl] at this; cases this
theorem ltK_ne {x y : Ky} (h : ltK x y = true) : x ≠ y := fun e => by rw [e, ltK_irrefl] at h; cases h
theorem leK_trans {x y z : Ky} (h1 : ltK y x = false) (h2 : ltK z y = false) : ltK z x = false := by
  cases h : ltK z x
  · rfl
  · cases h3 : ltK x y
    · have e := ltK_total h3 h1; subst e; rw [h] at h2; cases h2
    · rw [ltK_trans h h3] at h2; cases h2
theorem ltK_le {x y z : Ky} (h1 : ltK x y = true) (h2 : ltK z y = false) : ltK x z = true := by
  cases h3 : ltK x z
  · cases h4 : ltK z x
    · have e := ltK_total h3 h4; subst e; rw [h1] at h2; cases h2
    · rw [ltK_trans h4 h1] at h2; cases h2
  · rfl
theorem le_ltK {x y z : Ky} (h1 : ltK y x = false) (h2 : ltK y z = true) : ltK x z = true := by
  cases h3 : ltK x z
  · cases h4 : ltK z x
    · have e := ltK_total h3 h4; subst e; rw [h2] at h1; cases h1
    · rw [ltK_trans h2 h4] at h1; cases h1
  · rfl

theorem cfK_eq (x y : Ky) : cfK x y = if Lib.compareInt x.1 y.1 ≠ 0 then Lib.compareInt x.1 y.1 else Lib.compareBytes x.2.data.toList y.2.data.toList := by
  unfold cfK Lib.compareInt
  rw [cb_eq]
  by_cases h1 : x.1 < y.1
  · simp [ltK, h1]
  · by_cases h2 : y.1 < x.1
    · have hne : x ≠ y := fun e => by rw [e] at h2; omega
      have : ¬ x.1 = y.1 := by omega
      simp [ltK, h1, h2, hne, this]
    · have e : x.1 = y.1 := by omega
      have hiff : x = y ↔ x.2.data.toList = y.2.data.toList := ⟨fun e => by rw [e], fun h => Prod.ext e (ba_ext h)⟩
      simp [ltK, e, hiff]
theorem cfK_neg1 {x y : Ky} (h : ltK x y = true) : cfK x y = -1 := by simp [cfK, h]
theorem cfK_not1 {x y : Ky} (h : ltK y x = false) : cfK x y ≠ 1 := by
  unfold cfK
  split
  · decide
  · split
    · decide
    · next h1 h2 => exact absurd (ltK_total (by simpa using h1) h) h2
theorem strict_eq : ∀ {s t : List Ky}, (∀ x, x ∈ s ↔ x ∈ t) → s.Pairwise (fun x y => ltK x y = true) → t.Pairwise (fun x y => ltK x y = true) → s = t
  | [], [], _, _, _ => rfl
  | [], b :: t, h, _, _ => by have := (h b).2 List.mem_cons_self; simp at this
  | a :: s, [], h, _, _ => by have := (h a).1 List.mem_cons_self; simp at this
  | a :: s, b :: t, h, h1, h2 => by
    obtain ⟨a1, a2⟩ := List.pairwise_cons.1 h1
    obtain ⟨b1, b2⟩ := List.pairwise_cons.1 h2
    have e : a = b := by
      rcases List.mem_cons.1 ((h a).1 List.mem_cons_self) with e | ha
      · exact e
      rcases List.mem_cons.1 ((h b).2 List.mem_cons_self) with e | hb
      · exact e.symm
      have := ltK_asymm (b1 a ha)
      rw [a1 b hb] at this; cases this
    subst e
    have hm : ∀ x, x ∈ s ↔ x ∈ t := fun x => by
      constructor
      · intro hx
        rcases List.mem_cons.1 ((h x).1 (List.mem_cons_of_mem _ hx)) with e | hx'
        · subst e; have := a1 x hx; rw [ltK_irrefl] at this; cases this
        · exact hx'
      · intro hx
        rcases List.mem_cons.1 ((h x).2 (List.mem_cons_of_mem _ hx)) with e | hx'
        · subst e; have := b1 x hx; rw [ltK_irrefl] at this; cases this
        · exact hx'
    rw [strict_eq hm a2 b2]
theorem nodup_le : ∀ {ks l : List Ky}, ks.Nodup → (∀ x ∈ ks, x ∈ l) → ks.length ≤ l.length
  | [], _, _, _ => Nat.zero_le _
  | k :: ks, l, hn, h => by
    obtain ⟨h1, h2⟩ := List.nodup_cons.1 hn
    obtain ⟨s, t, rfl⟩ := List.append_of_mem (h k List.mem_cons_self)
    have := nodup_le (l := s ++ t) h2 (fun x hx => by
      have h3 := h x (List.mem_cons_of_mem _ hx)
      have hne : x ≠ k := fun e => h1 (e ▸ hx)
      simpa [hne] using h3)
    simp at this ⊢
    omega
end Go.Proofs.YtejgcflcckjlpaaDoor
/- Cells: what two are together, and that the order does not matter. No program in this text. -/
namespace Go.Proofs.YtejgcflcckjlpaaDoor
open Go.RowKit
set_option linter.unusedVariables false
set_option maxRecDepth 100000

/-! ### Rising lists -/
abbrev Rise (l : List Int) : Prop := l.Pairwise (· < ·)
theorem Rise.nil : Rise [] := List.Pairwise.nil
theorem rise_cons {x : Int} {l : List Int} : Rise (x :: l) ↔ (∀ y ∈ l, x < y) ∧ Rise l := List.pairwise_cons
theorem rise_snoc {x : Int} {l : List Int} (h : Rise l) (hx : ∀ y ∈ l, y < x) : Rise (l ++ [x]) := by
  unfold Rise
  rw [List.pairwise_append]
  exact ⟨h, by simp, fun a ha b hb => by simp at hb; subst hb; exact hx a ha⟩
/-- A rising list is told by what is in it. -/
theorem rise_ext : ∀ {l m : List Int}, Rise l → Rise m → (∀ z, z ∈ l ↔ z ∈ m) → l = m
  | [], [], _, _, _ => rfl
  | [], y :: m, _, _, h => by have := (h y).2 (by simp); simp at this
  | x :: l, [], _, _, h => by have := (h x).1 (by simp); simp at this
  | x :: l, y :: m, hl, hm, h => by
    rw [rise_cons] at hl hm
    have hxy : x = y := by
      have h1 := (h x).1 (by simp)
      have h2 := (h y).2 (by simp)
      rw [List.mem_cons] at h1 h2
      rcases h1 with h1 | h1
      · exact h1
      · rcases h2 with h2 | h2
        · exact h2.symm
        · have := hm.1 x h1
          have := hl.1 y h2
          omega
    subst hxy
    have : l = m := rise_ext hl.2 hm.2 fun z => by
      have hz := h z
      rw [List.mem_cons, List.mem_cons] at hz
      constructor
      · intro h1
        rcases hz.1 (.inr h1) with h2 | h2
        · have := hl.1 z h1; omega
        · exact h2
      · intro h1
        rcases hz.2 (.inr h1) with h2 | h2
        · have := hm.1 z h1; omega
        · exact h2
    rw [this]
def ins (x : Int) : List Int → List Int
  | [] => [x]
  | y :: l => if x < y then x :: y :: l else if x = y then y :: l else y :: ins x l
theorem mem_ins (x z : Int) : ∀ l, z ∈ ins x l ↔ z = x ∨ z ∈ l
  | [] => by simp [ins]
  | y :: l => by
    unfold ins
    split
    · simp
    · split
      · rename_i h1 h2
        subst h2
        simp
      · simp only [List.mem_cons, mem_ins x z l]
        constructor
        · rintro (h | h | h)
          · exact .inr (.inl h)
          · exact .inl h
          · exact .inr (.inr h)
        · rintro (h | h | h)
          · exact .inr (.inl h)
          · exact .inl h
          · exact .inr (.inr h)
theorem rise_ins (x : Int) : ∀ l, Rise l → Rise (ins x l)
  | [], _ => by simp [ins, Rise]
  | y :: l, h => by
    rw [rise_cons] at h
    unfold ins
    split
    · rename_i h1
      rw [rise_cons, rise_cons]
      exact ⟨fun z hz => by rw [List.mem_cons] at hz; rcases hz with rfl | hz; exact h1; have := h.1 z hz; omega, h⟩
    · split
      · rw [rise_cons]; exact h
      · rename_i h1 h2
        rw [rise_cons]
        exact ⟨fun z hz => by rw [mem_ins] at hz; rcases hz with rfl | hz; omega; exact h.1 z hz, rise_ins x l h.2⟩
/-- All that is in both. -/
def uni (a b : List Int) : List Int := a.foldr ins b
theorem mem_uni (a b : List Int) (z : Int) : z ∈ uni a b ↔ z ∈ a ∨ z ∈ b := by
  induction a with
  | nil => simp [uni]
  | cons x a ih =>
    show z ∈ ins x (uni a b) ↔ _
    rw [mem_ins, ih, List.mem_cons]
    constructor
    · rintro (h | h | h)
      · exact .inl (.inl h)
      · exact .inl (.inr h)
      · exact .inr h
    · rintro ((h | h) | h)
      · exact .inl h
      · exact .inr (.inl h)
      · exact .inr (.inr h)
theorem rise_uni (a : List Int) {b : List Int} (h : Rise b) : Rise (uni a b) := by
  induction a with
  | nil => exact h
  | cons x a ih => exact rise_ins x _ ih
/-- Each once, in order. -/
def once (l : List Int) : List Int := uni l []
theorem mem_once (l : List Int) (z : Int) : z ∈ once l ↔ z ∈ l := by unfold once; rw [mem_uni]; simp
theorem rise_once (l : List Int) : Rise (once l) := rise_uni l Rise.nil
theorem once_app (a b : List Int) : once (a ++ b) = uni (once a) (once b) :=
  rise_ext (rise_once _) (rise_uni _ (rise_once b)) fun z => by rw [mem_once, mem_uni, mem_once, mem_once, List.mem_append]
theorem once_self {l : List Int} (h : Rise l) : once l = l := rise_ext (rise_once l) h fun z => mem_once l z
theorem once_one (x : Int) : once [x] = [x] := rfl
theorem rise_len : ∀ {a b : List Int}, Rise a → Rise b → (∀ z ∈ a, z ∈ b) → a.length ≤ b.length
  | [], b, _, _, _ => by simp
  | x :: a, b, ha, hb, h => by
    rw [rise_cons] at ha
    have hx := h x (by simp)
    obtain ⟨s, t, rfl⟩ := List.append_of_mem hx
    have hb' : Rise (s ++ t) := by
      unfold Rise at hb ⊢
      rw [List.pairwise_append] at hb ⊢
      rw [List.pairwise_cons] at hb
      exact ⟨hb.1, hb.2.1.2, fun a ha c hc => hb.2.2 a ha c (by simp [hc])⟩
    have := rise_len ha.2 hb' fun z hz => by
      have h1 := h z (by simp [hz])
      have h2 := ha.1 z hz
      rw [List.mem_append, List.mem_cons] at h1
      rw [List.mem_append]
      rcases h1 with h1 | h1 | h1
      · exact .inl h1
      · omega
      · exact .inr h1
    rw [List.length_append] at this ⊢
    simp only [List.length_cons]
    omega

/-! ### Numbers gathered two and two -/
def fo1 (f : Int → Int → Int) : List Int → Int
  | [] => 0
  | [x] => x
  | x :: y :: l => f x (fo1 f (y :: l))
theorem fo1_P {P : Int → Prop} {f : Int → Int → Int} (hc : ∀ x y, P x → P y → P (f x y)) : ∀ (l : List Int), l ≠ [] → (∀ x ∈ l, P x) → P (fo1 f l)
  | [], h, _ => absurd rfl h
  | [x], _, h => h x (by simp)
  | x :: y :: l, _, h => hc _ _ (h x (by simp)) (fo1_P hc (y :: l) (by simp) fun z hz => h z (by simp at hz ⊢; exact .inr hz))
/-- Where it does not matter how three are taken together, lists behind each other are taken each by itself. -/
theorem fo1_app {P : Int → Prop} {f : Int → Int → Int} (hc : ∀ x y, P x → P y → P (f x y)) (ha : ∀ x y z, P x → P y → P z → f (f x y) z = f x (f y z)) : ∀ (a b : List Int), a ≠ [] → b ≠ [] → (∀ x ∈ a, P x) → (∀ x ∈ b, P x) → fo1 f (a ++ b) = f (fo1 f a) (fo1 f b)
  | [], b, h, _, _, _ => absurd rfl h
  | [x], [], _, h, _, _ => absurd rfl h
  | [x], y :: b, _, _, _, _ => rfl
  | x :: y :: a, b, _, hb, hpa, hpb => by
    have ih := fo1_app hc ha (y :: a) b (by simp) hb (fun z hz => hpa z (by simp at hz ⊢; exact .inr hz)) hpb
    show f x (fo1 f ((y :: a) ++ b)) = f (f x (fo1 f (y :: a))) (fo1 f b)
    rw [ih, ha _ _ _ (hpa x (by simp)) (fo1_P hc _ (by simp) fun z hz => hpa z (by simp at hz ⊢; exact .inr hz)) (fo1_P hc _ hb hpb)]
def sumF (x y : Int) : Int := wrap64 (x + y)
def cntF (x y : Int) : Int := if 4611686018427387904 - y < x then 4611686018427387904 else x + y
def orF (x y : Int) : Int := bits .or .i64 x y
theorem sum_assoc (x y z : Int) : sumF (sumF x y) z = sumF x (sumF y z) := by unfold sumF wrap64; omega
theorem cnt_assoc (x y z : Int) (hx : 0 ≤ x ∧ x ≤ 4611686018427387904) (hy : 0 ≤ y ∧ y ≤ 4611686018427387904) (hz : 0 ≤ z ∧ z ≤ 4611686018427387904) : cntF (cntF x y) z = cntF x (cntF y z) := by
  unfold cntF
  split <;> split <;> split <;> (try split) <;> omega
theorem cnt_P (x y : Int) (hx : 0 ≤ x ∧ x ≤ 4611686018427387904) (hy : 0 ≤ y ∧ y ≤ 4611686018427387904) : 0 ≤ cntF x y ∧ cntF x y ≤ 4611686018427387904 := by unfold cntF; split <;> omega
theorem ofInt_wrap (x : BitVec 64) : BitVec.ofInt 64 (IntKind.i64.wrap (x.toNat : Int)) = x := by
  apply BitVec.eq_of_toNat_eq
  rw [BitVec.toNat_ofInt, IntKind.wrap_i64]
  have := x.isLt
  omega
theorem or_assoc (x y z : Int) : orF (orF x y) z = orF x (orF y z) := by
  show IntKind.i64.wrap ((BitVec.ofInt 64 (IntKind.i64.wrap ((BitVec.ofInt 64 x ||| BitVec.ofInt 64 y).toNat : Int)) ||| BitVec.ofInt 64 z).toNat : Int) = IntKind.i64.wrap ((BitVec.ofInt 64 x ||| BitVec.ofInt 64 (IntKind.i64.wrap ((BitVec.ofInt 64 y ||| BitVec.ofInt 64 z).toNat : Int))).toNat : Int)
  rw [ofInt_wrap, ofInt_wrap, BitVec.or_assoc]
/-- What two numbers are together, by the way. -/
def nF (agg : Int) : Int → Int → Int := if agg = 1 then sumF else if agg = 2 then cntF else if agg = 3 then min else if agg = 4 then max else orF
def nP (agg : Int) (x : Int) : Prop := agg = 2 → 0 ≤ x ∧ x ≤ 4611686018427387904
theorem nF_P (agg : Int) (x y : Int) (hx : nP agg x) (hy : nP agg y) : nP agg (nF agg x y) := by
  intro h
  subst h
  exact cnt_P x y (hx rfl) (hy rfl)
theorem nF_assoc (agg : Int) (x y z : Int) (hx : nP agg x) (hy : nP agg y) (hz : nP agg z) : nF agg (nF agg x y) z = nF agg x (nF agg y z) := by
  unfold nF
  by_cases h1 : agg = 1
  · rw [if_pos h1]; exact sum_assoc x y z
  rw [if_neg h1]
  by_cases h2 : agg = 2
  · rw [if_pos h2]; exact cnt_assoc x y z (hx h2) (hy h2) (hz h2)
  rw [if_neg h2]
  by_cases h3 : agg = 3
  · rw [if_pos h3]; omega
  rw [if_neg h3]
  by_cases h4 : agg = 4
  · rw [if_pos h4]; omega
  rw [if_neg h4]
  exact or_assoc x y z
/-- The number of one. -/
def n1 (agg v : Int) : Int := if agg = 2 then 1 else v
/-- A cell: its number, its set. -/
abbrev Cl := Int × List Int
/-- What two cells are together: the cell, and the error. -/
def joinC (agg : Int) (bound : Nat) (a b : Cl) : Cl × Int :=
  if agg = 6 then (if (uni a.2 b.2).length ≤ bound then ((0, uni a.2 b.2), 0) else ((0, []), 11)) else ((nF agg a.1 b.1, []), 0)
def oneC (agg v : Int) : Cl := if agg = 6 then (0, [v]) else (n1 agg v, [])
/-- What numbers come to, all of them at once. -/
def allC (agg : Int) (bound : Nat) (l : List Int) : Cl × Int :=
  if agg = 6 then (if (once l).length ≤ bound then ((0, once l), 0) else ((0, []), 11)) else ((fo1 (nF agg) (l.map (n1 agg)), []), 0)
theorem allC_one (agg : Int) (bound : Nat) (v : Int) (hb : agg = 6 → 1 ≤ bound) : allC agg bound [v] = (oneC agg v, 0) := by
  unfold allC oneC
  by_cases h : agg = 6
  · rw [if_pos h, if_pos h, once_one, if_pos (by simpa using hb h)]
  · rw [if_neg h, if_neg h]; rfl
/-- In two parts, each by itself. -/
theorem allC_app (agg : Int) (bound : Nat) (a b : List Int) (ha : a ≠ []) (hb : b ≠ []) :
    ((allC agg bound a).2 = 0 → (allC agg bound b).2 = 0 → allC agg bound (a ++ b) = joinC agg bound (allC agg bound a).1 (allC agg bound b).1) ∧
    (((allC agg bound a).2 ≠ 0 ∨ (allC agg bound b).2 ≠ 0) → allC agg bound (a ++ b) = ((0, []), 11) ∧ max (allC agg bound a).2 (allC agg bound b).2 = 11) := by
  unfold allC joinC
  by_cases h : agg = 6
  · simp only [if_pos h]
    have hla : (once a).length ≤ (once (a ++ b)).length := rise_len (rise_once a) (rise_once _) fun z hz => by rw [mem_once] at hz ⊢; simp [hz]
    have hlb : (once b).length ≤ (once (a ++ b)).length := rise_len (rise_once b) (rise_once _) fun z hz => by rw [mem_once] at hz ⊢; simp [hz]
    by_cases h1 : (once a).length ≤ bound <;> by_cases h2 : (once b).length ≤ bound
    · simp only [if_pos h1, if_pos h2]
      exact ⟨fun _ _ => by rw [once_app], fun h => by simp at h⟩
    · simp only [if_pos h1, if_neg h2]
      rw [if_neg (by omega)]
      exact ⟨fun _ h => by simp at h, fun _ => ⟨rfl, by decide⟩⟩
    · simp only [if_neg h1, if_pos h2]
      rw [if_neg (by omega)]
      exact ⟨fun h => by simp at h, fun _ => ⟨rfl, by decide⟩⟩
    · simp only [if_neg h1, if_neg h2]
      rw [if_neg (by omega)]
      exact ⟨fun h => by simp at h, fun _ => ⟨rfl, by decide⟩⟩
  · simp only [if_neg h]
    refine ⟨fun _ _ => ?_, fun h => by simp at h⟩
    rw [List.map_append, fo1_app (P := nP agg) (nF_P agg) (nF_assoc agg) _ _ (by simpa using ha) (by simpa using hb)]
    all_goals
      intro x hx
      obtain ⟨v, _, rfl⟩ := List.mem_map.1 hx
      intro h2
      unfold n1
      rw [if_pos h2]
      decide
end Go.Proofs.YtejgcflcckjlpaaDoor
/- Rows: cells by rising keys; one more put among them; gathered. No program in this text. -/
namespace Go.Proofs.YtejgcflcckjlpaaDoor
open Go.RowKit
set_option linter.unusedVariables false
set_option maxRecDepth 100000

/-- A row: its key, its cell. -/
abbrev Rw := Ky × Cl
abbrev RiseK (l : List Rw) : Prop := l.Pairwise (fun a b => ltK a.1 b.1 = true)
theorem riseK_cons {r : Rw} {l : List Rw} : RiseK (r :: l) ↔ (∀ y ∈ l, ltK r.1 y.1 = true) ∧ RiseK l := List.pairwise_cons
/-- The cell of a key. -/
def look : List Rw → Ky → Option Cl
  | [], _ => none
  | r :: l, k => if r.1 = k then some r.2 else look l k
theorem look_skip {r : Rw} {l : List Rw} {k : Ky} (h : r.1 ≠ k) : look (r :: l) k = look l k := by
  rw [look.eq_def]
  simp only [if_neg h]
theorem look_none {l : List Rw} {k : Ky} : look l k = none ↔ ∀ r ∈ l, r.1 ≠ k := by
  induction l with
  | nil => simp [look]
  | cons r l ih =>
    unfold look
    by_cases h : r.1 = k
    · simp [h]
    · rw [if_neg h, ih]
      simp [h]
theorem look_mem {l : List Rw} {k : Ky} {c : Cl} (h : look l k = some c) : (k, c) ∈ l := by
  induction l with
  | nil => simp [look] at h
  | cons r l ih =>
    unfold look at h
    by_cases e : r.1 = k
    · rw [if_pos e] at h
      injection h with h
      subst e h
      simp
    · rw [if_neg e] at h
      exact List.mem_cons_of_mem _ (ih h)
theorem mem_look {l : List Rw} (hl : RiseK l) {r : Rw} (h : r ∈ l) : look l r.1 = some r.2 := by
  induction l with
  | nil => simp at h
  | cons a l ih =>
    rw [riseK_cons] at hl
    unfold look
    rcases List.mem_cons.1 h with rfl | h
    · rw [if_pos rfl]
    · rw [if_neg (ltK_ne (hl.1 r h)), ih hl.2 h]
theorem riseK_ext {l m : List Rw} (hl : RiseK l) (hm : RiseK m) (h : ∀ x, look l x = look m x) : l = m := by
  have hk : l.map (·.1) = m.map (·.1) := by
    refine strict_eq (fun x => ?_) (by rw [List.pairwise_map]; exact hl) (by rw [List.pairwise_map]; exact hm)
    constructor
    · intro hx
      obtain ⟨r, hr, rfl⟩ := List.mem_map.1 hx
      have := mem_look hl hr
      rw [h] at this
      exact List.mem_map.2 ⟨_, look_mem this, rfl⟩
    · intro hx
      obtain ⟨r, hr, rfl⟩ := List.mem_map.1 hx
      have := mem_look hm hr
      rw [← h] at this
      exact List.mem_map.2 ⟨_, look_mem this, rfl⟩
  apply List.ext_getElem?
  intro i
  have hi : (l.map (·.1))[i]? = (m.map (·.1))[i]? := by rw [hk]
  rw [List.getElem?_map, List.getElem?_map] at hi
  cases h1 : l[i]? with
  | none => rw [h1] at hi; cases h2 : m[i]? with
    | none => rfl
    | some b => rw [h2] at hi; cases hi
  | some a => cases h2 : m[i]? with
    | none => rw [h1, h2] at hi; cases hi
    | some b =>
      rw [h1, h2] at hi
      injection hi with hi
      have hi : a.1 = b.1 := hi
      have e1 := mem_look hl (List.mem_of_getElem? h1)
      have e2 := mem_look hm (List.mem_of_getElem? h2)
      rw [h, hi, e2] at e1
      injection e1 with e1
      rw [Prod.ext hi e1.symm]
/-- One more among rows: they, and the error; J: what two cells are together. -/
def putR (J : Cl → Cl → Cl × Int) (k : Ky) (c : Cl) : List Rw → List Rw × Int
  | [] => ([(k, c)], 0)
  | r :: l => if ltK k r.1 then ((k, c) :: r :: l, 0)
    else if r.1 = k then (if (J r.2 c).2 = 0 then ((k, (J r.2 c).1) :: l, 0) else (r :: l, (J r.2 c).2))
    else (r :: (putR J k c l).1, (putR J k c l).2)
theorem putR_key {J : Cl → Cl → Cl × Int} {k : Ky} {c : Cl} {l : List Rw} : ∀ {r}, r ∈ (putR J k c l).1 → r.1 = k ∨ ∃ r' ∈ l, r'.1 = r.1 := by
  induction l with
  | nil => intro r hr; simp [putR] at hr; exact .inl (by rw [hr])
  | cons a l ih =>
    intro r hr
    unfold putR at hr
    by_cases h1 : ltK k a.1 = true
    · rw [if_pos h1] at hr
      rcases List.mem_cons.1 hr with rfl | hr
      · exact .inl rfl
      · exact .inr ⟨r, hr, rfl⟩
    · rw [if_neg h1] at hr
      by_cases h2 : a.1 = k
      · rw [if_pos h2] at hr
        split at hr
        · rcases List.mem_cons.1 hr with rfl | hr
          · exact .inl rfl
          · exact .inr ⟨r, by simp [hr], rfl⟩
        · exact .inr ⟨r, hr, rfl⟩
      · rw [if_neg h2] at hr
        rcases List.mem_cons.1 hr with rfl | hr
        · exact .inr ⟨r, by simp, rfl⟩
        · rcases ih hr with h | ⟨r', h, e⟩
          · exact .inl h
          · exact .inr ⟨r', by simp [h], e⟩
theorem rise_putR {J : Cl → Cl → Cl × Int} {k : Ky} {c : Cl} : ∀ {l : List Rw}, RiseK l → RiseK (putR J k c l).1
  | [], _ => by simp [putR, RiseK]
  | a :: l, h => by
    have h0 := h
    rw [riseK_cons] at h
    unfold putR
    by_cases h1 : ltK k a.1 = true
    · rw [if_pos h1]
      rw [riseK_cons]
      refine ⟨fun y hy => ?_, h0⟩
      rcases List.mem_cons.1 hy with rfl | hy
      · exact h1
      · exact ltK_trans h1 (h.1 y hy)
    · rw [if_neg h1]
      by_cases h2 : a.1 = k
      · rw [if_pos h2]
        split
        · rw [riseK_cons]
          exact ⟨fun y hy => by rw [← h2]; exact h.1 y hy, h.2⟩
        · exact h0
      · rw [if_neg h2, riseK_cons]
        refine ⟨fun y hy => ?_, rise_putR h.2⟩
        rcases putR_key hy with e | ⟨r', hr', e⟩
        · rw [e]
          cases h3 : ltK a.1 k
          · exact absurd (ltK_total h3 (by simpa using h1)) h2
          · rfl
        · rw [← e]; exact h.1 r' hr'
theorem look_low {l : List Rw} {k : Ky} (h : ∀ y ∈ l, ltK k y.1 = true) : look l k = none := look_none.2 fun r hr e => by have := h r hr; rw [e, ltK_irrefl] at this; cases this
/-- What lies under the key then. -/
def both (J : Cl → Cl → Cl × Int) (c : Cl) : Option Cl → Cl
  | none => c
  | some d => if (J d c).2 = 0 then (J d c).1 else d
def errB (J : Cl → Cl → Cl × Int) (c : Cl) : Option Cl → Int
  | none => 0
  | some d => (J d c).2
theorem look_putR {J : Cl → Cl → Cl × Int} {k : Ky} {c : Cl} : ∀ {l : List Rw}, RiseK l → ∀ x, look (putR J k c l).1 x = if x = k then some (both J c (look l k)) else look l x
  | [], _, x => by
    unfold putR look
    by_cases h : k = x
    · subst h; simp [both]
    · rw [if_neg h, if_neg (fun e => h e.symm)]
      rfl
  | a :: l, h, x => by
    rw [riseK_cons] at h
    unfold putR
    by_cases h1 : ltK k a.1 = true
    · rw [if_pos h1]
      have hn : look (a :: l) k = none := look_low fun y hy => by
        rcases List.mem_cons.1 hy with rfl | hy
        · exact h1
        · exact ltK_trans h1 (h.1 y hy)
      rw [hn]
      show (if k = x then some c else look (a :: l) x) = _
      by_cases e : k = x
      · subst e; simp [both]
      · rw [if_neg e, if_neg (fun e' => e e'.symm)]
    · rw [if_neg h1]
      by_cases h2 : a.1 = k
      · rw [if_pos h2]
        have hk : look (a :: l) k = some a.2 := by unfold look; rw [if_pos h2]
        rw [hk]
        by_cases hj : (J a.2 c).2 = 0
        · rw [if_pos hj]
          show (if k = x then some (J a.2 c).1 else look l x) = _
          by_cases e : k = x
          · subst e
            rw [if_pos rfl, if_pos rfl, both, if_pos hj]
          · rw [if_neg e, if_neg (fun e' => e e'.symm), look_skip (fun e' => e (h2.symm.trans e'))]
        · rw [if_neg hj]
          show look (a :: l) x = _
          by_cases e : k = x
          · subst e
            rw [if_pos rfl, both, if_neg hj, hk]
          · rw [if_neg (fun e' => e e'.symm)]
      · rw [if_neg h2]
        show (if a.1 = x then some a.2 else look (putR J k c l).1 x) = _
        rw [look_putR h.2 x]
        have hk : look (a :: l) k = look l k := by
          rw [look.eq_def]
          simp only [if_neg h2]
        rw [hk]
        by_cases e : a.1 = x
        · rw [if_pos e, if_neg (fun e' => h2 (e.trans e'))]
          unfold look
          rw [if_pos e]
        · rw [if_neg e]
          split
          · rfl
          · show _ = look (a :: l) x
            rw [look.eq_def (a :: l)]
            simp only [if_neg e]
theorem err_putR {J : Cl → Cl → Cl × Int} {k : Ky} {c : Cl} : ∀ {l : List Rw}, RiseK l → (putR J k c l).2 = errB J c (look l k)
  | [], _ => rfl
  | a :: l, h => by
    rw [riseK_cons] at h
    unfold putR
    by_cases h1 : ltK k a.1 = true
    · rw [if_pos h1]
      have hn : look (a :: l) k = none := look_low fun y hy => by
        rcases List.mem_cons.1 hy with rfl | hy
        · exact h1
        · exact ltK_trans h1 (h.1 y hy)
      rw [hn]
      rfl
    · rw [if_neg h1]
      by_cases h2 : a.1 = k
      · rw [if_pos h2]
        have hk : look (a :: l) k = some a.2 := by unfold look; rw [if_pos h2]
        rw [hk]
        unfold errB
        split
        · next h3 => exact h3.symm
        · rfl
      · rw [if_neg h2]
        have hk : look (a :: l) k = look l k := by
          rw [look.eq_def]
          simp only [if_neg h2]
        rw [hk]
        exact err_putR h.2
theorem len_putR {J : Cl → Cl → Cl × Int} {k : Ky} {c : Cl} : ∀ {l : List Rw}, RiseK l → (putR J k c l).1.length = if (look l k).isSome then l.length else l.length + 1
  | [], _ => rfl
  | a :: l, h => by
    rw [riseK_cons] at h
    unfold putR
    by_cases h1 : ltK k a.1 = true
    · rw [if_pos h1]
      have hn : look (a :: l) k = none := look_low fun y hy => by
        rcases List.mem_cons.1 hy with rfl | hy
        · exact h1
        · exact ltK_trans h1 (h.1 y hy)
      rw [hn]
      rfl
    · rw [if_neg h1]
      by_cases h2 : a.1 = k
      · rw [if_pos h2]
        have hk : look (a :: l) k = some a.2 := by unfold look; rw [if_pos h2]
        rw [hk]
        split <;> rfl
      · rw [if_neg h2]
        have hk : look (a :: l) k = look l k := by
          rw [look.eq_def]
          simp only [if_neg h2]
        rw [hk]
        show (putR J k c l).1.length + 1 = _
        rw [len_putR h.2]
        split <;> rfl
/-- By the place where it belongs. -/
theorem putR_at {J : Cl → Cl → Cl × Int} {k : Ky} {c : Cl} : ∀ {l : List Rw} {n : Nat}, RiseK l → n ≤ l.length → (∀ y ∈ l.take n, ltK y.1 k = true) → (∀ y ∈ l.drop n, ltK y.1 k = false) →
    (∀ d, l[n]? = some (k, d) → putR J k c l = (if (J d c).2 = 0 then (l.set n (k, (J d c).1), 0) else (l, (J d c).2))) ∧
    ((∀ d, l[n]? ≠ some (k, d)) → putR J k c l = (l.take n ++ [(k, c)] ++ l.drop n, 0))
  | [], n, _, hn, _, _ => by
    have : n = 0 := by simpa using hn
    subst this
    exact ⟨fun d hd => by simp at hd, fun _ => rfl⟩
  | a :: l, 0, h, _, _, h2 => by
    have ha := h2 a (by simp)
    rw [riseK_cons] at h
    refine ⟨fun d hd => ?_, fun hd => ?_⟩
    · simp at hd
      subst hd
      unfold putR
      rw [if_neg (by rw [ltK_irrefl]; simp), if_pos rfl]
      rfl
    · have hne : a.1 ≠ k := fun e => hd a.2 (by rw [← e]; rfl)
      have hlt : ltK k a.1 = true := by
        cases h3 : ltK k a.1
        · exact absurd (ltK_total ha h3) hne
        · rfl
      unfold putR
      rw [if_pos hlt]
      rfl
  | a :: l, n + 1, h, hn, h1, h2 => by
    have ha := h1 a (by simp)
    rw [riseK_cons] at h
    obtain ⟨g1, g2⟩ := putR_at (J := J) (c := c) h.2 (by simpa using hn) (fun y hy => h1 y (by simp [hy])) (fun y hy => h2 y (by simpa using hy))
    have e0 : putR J k c (a :: l) = (a :: (putR J k c l).1, (putR J k c l).2) := by
      rw [putR.eq_def]
      simp only
      rw [if_neg (by rw [ltK_asymm ha]; simp), if_neg (ltK_ne ha)]
    refine ⟨fun d hd => ?_, fun hd => ?_⟩
    · rw [e0, g1 d (by simpa using hd)]
      split <;> rfl
    · rw [e0, g2 (fun d => by simpa using hd d)]
      rfl
/-- Rows gathered: what lies there, and the last error. -/
def stepG (J : Cl → Cl → Cl × Int) (s : List Rw × Int) (r : Rw) : List Rw × Int := ((putR J r.1 r.2 s.1).1, if (putR J r.1 r.2 s.1).2 = 0 then s.2 else (putR J r.1 r.2 s.1).2)
def gat (J : Cl → Cl → Cl × Int) (l : List Rw) : List Rw × Int := l.foldl (stepG J) ([], 0)
theorem gat_nil (J : Cl → Cl → Cl × Int) : gat J [] = ([], 0) := rfl
theorem gat_snoc (J : Cl → Cl → Cl × Int) (l : List Rw) (r : Rw) : gat J (l ++ [r]) = stepG J (gat J l) r := by unfold gat; rw [List.foldl_append]; rfl
theorem snoc_ind {α : Type} {P : List α → Prop} (h0 : P []) (h1 : ∀ l r, P l → P (l ++ [r])) (l : List α) : P l := by
  have : ∀ n, ∀ l : List α, l.length = n → P l := by
    intro n
    induction n with
    | zero => intro l hl; rw [List.length_eq_zero_iff.1 hl]; exact h0
    | succ n ih =>
      intro l hl
      have hne : l ≠ [] := fun e => by rw [e] at hl; simp at hl
      rw [← List.dropLast_concat_getLast hne]
      exact h1 _ _ (ih _ (by simp [hl]))
  exact this _ l rfl
theorem rise_gat (J : Cl → Cl → Cl × Int) (l : List Rw) : RiseK (gat J l).1 := by
  induction l using snoc_ind with
  | h0 => simp [gat_nil, RiseK]
  | h1 l r ih => rw [gat_snoc]; exact rise_putR ih
/-- Just the keys that came. -/
theorem keys_gat (J : Cl → Cl → Cl × Int) (l : List Rw) (x : Ky) : (look (gat J l).1 x).isSome = true ↔ ∃ r ∈ l, r.1 = x := by
  induction l using snoc_ind with
  | h0 => simp [gat_nil, look]
  | h1 l r ih =>
    rw [gat_snoc]
    unfold stepG
    simp only
    rw [look_putR (rise_gat J l)]
    by_cases e : x = r.1
    · rw [if_pos e]
      simp only [Option.isSome_some, true_iff]
      exact ⟨r, by simp, e.symm⟩
    · rw [if_neg e, ih]
      constructor
      · rintro ⟨a, ha, h⟩; exact ⟨a, by simp [ha], h⟩
      · rintro ⟨a, ha, h⟩
        rcases List.mem_append.1 ha with ha | ha
        · exact ⟨a, ha, h⟩
        · simp at ha; subst ha; exact absurd h.symm e
theorem len_gat (J : Cl → Cl → Cl × Int) (l : List Rw) : (gat J l).1.length ≤ l.length := by
  induction l using snoc_ind with
  | h0 => simp [gat_nil]
  | h1 l r ih =>
    rw [gat_snoc]
    unfold stepG
    simp only
    rw [len_putR (rise_gat J l), List.length_append]
    split <;> simp <;> omega
/-- What holds of all cells that come, and of two together, holds of all that lie there; and what the errors are. -/
theorem all_gat {J : Cl → Cl → Cl × Int} {P : Cl → Prop} {E : Int → Prop} (hJ : ∀ a b, P a → P b → ((J a b).2 = 0 → P (J a b).1) ∧ E (J a b).2) (h0 : E 0) (l : List Rw) (hl : ∀ r ∈ l, P r.2) : (∀ x c, look (gat J l).1 x = some c → P c) ∧ E (gat J l).2 := by
  induction l using snoc_ind with
  | h0 => exact ⟨fun x c h => by simp [gat_nil, look] at h, h0⟩
  | h1 l r ih =>
    obtain ⟨i1, i2⟩ := ih (fun y hy => hl y (by simp [hy]))
    have hr := hl r (by simp)
    rw [gat_snoc]
    unfold stepG
    simp only
    rw [err_putR (rise_gat J l)]
    refine ⟨fun x c h => ?_, ?_⟩
    · rw [look_putR (rise_gat J l)] at h
      by_cases e : x = r.1
      · rw [if_pos e] at h
        injection h with h
        subst h
        cases h1 : look (gat J l).1 r.1 with
        | none => exact hr
        | some d =>
          have hd := i1 _ _ h1
          unfold both
          simp only
          split
          · next h2 => exact (hJ d r.2 hd hr).1 h2
          · exact hd
      · rw [if_neg e] at h
        exact i1 x c h
    · cases h1 : look (gat J l).1 r.1 with
      | none => unfold errB; simp only [if_true]; exact i2
      | some d =>
        unfold errB
        simp only
        split
        · exact i2
        · exact (hJ d r.2 (i1 _ _ h1) hr).2
/-- Behind others: from where they stand. -/
theorem gat_app (J : Cl → Cl → Cl × Int) (a b : List Rw) : gat J (a ++ b) = b.foldl (stepG J) (gat J a) := by unfold gat; rw [List.foldl_append]
/-- How many keys: as many as lie there. -/
theorem keys_len {J : Cl → Cl → Cl × Int} {l : List Rw} {ks : List Ky} (hk : ks.Pairwise (fun x y => ltK x y = true)) (hm : ∀ x, x ∈ ks ↔ ∃ r ∈ l, r.1 = x) : ks.length = (gat J l).1.length := by
  have : ks = (gat J l).1.map (·.1) := by
    refine strict_eq (fun x => ?_) hk (by rw [List.pairwise_map]; exact rise_gat J l)
    rw [hm, ← keys_gat J l x]
    constructor
    · intro h
      obtain ⟨c, hc⟩ := Option.isSome_iff_exists.1 h
      exact List.mem_map.2 ⟨_, look_mem hc, rfl⟩
    · intro h
      obtain ⟨r, hr, rfl⟩ := List.mem_map.1 h
      rw [mem_look (rise_gat J l) hr]
      rfl
  rw [this, List.length_map]
end Go.Proofs.YtejgcflcckjlpaaDoor
/- Texts laid together: RBase, WPart. -/
/- Records as pairs of a key and a number. -/
namespace Go.Proofs.YtejgcflcckjlpaaDoor
set_option linter.unusedVariables false
set_option maxRecDepth 100000

abbrev Rc := Ky × Int
abbrev r0 : Rc := (k0, 0)
def encR (x : Rc) : List Value := [.int .i64 x.1.1, .string x.1.2, .int .i64 x.2]
end Go.Proofs.YtejgcflcckjlpaaDoor
/- Folded in parts, and joined in whatever order. No program in this text. -/
namespace Go.Proofs.YtejgcflcckjlpaaDoor
open Go.RowKit
set_option linter.unusedVariables false
set_option maxRecDepth 100000

theorem uni_comm {a b : List Int} (ha : Rise a) (hb : Rise b) : uni a b = uni b a := rise_ext (rise_uni a hb) (rise_uni b ha) fun z => by rw [mem_uni, mem_uni]; exact Or.comm
theorem nF_comm (agg x y : Int) : nF agg x y = nF agg y x := by
  unfold nF
  by_cases h1 : agg = 1
  · rw [if_pos h1]; unfold sumF; rw [Int.add_comm]
  rw [if_neg h1]
  by_cases h2 : agg = 2
  · rw [if_pos h2]; unfold cntF; split <;> split <;> omega
  rw [if_neg h2]
  by_cases h3 : agg = 3
  · rw [if_pos h3]; omega
  rw [if_neg h3]
  by_cases h4 : agg = 4
  · rw [if_pos h4]; omega
  rw [if_neg h4]
  show IntKind.i64.wrap ((BitVec.ofInt 64 x ||| BitVec.ofInt 64 y).toNat : Int) = IntKind.i64.wrap ((BitVec.ofInt 64 y ||| BitVec.ofInt 64 x).toNat : Int)
  rw [BitVec.or_comm]
theorem joinC_comm {agg : Int} {bd : Nat} {a b : Cl} (ha : Rise a.2) (hb : Rise b.2) : joinC agg bd a b = joinC agg bd b a := by
  unfold joinC
  rw [uni_comm ha hb, nF_comm]
theorem joinC_err (agg : Int) (bd : Nat) (a b : Cl) : (joinC agg bd a b).2 = 0 ∨ (joinC agg bd a b).2 = 11 := by
  unfold joinC
  split
  · split
    · exact .inl rfl
    · exact .inr rfl
  · exact .inl rfl
theorem allC_rise (agg : Int) (bd : Nat) (l : List Int) : Rise (allC agg bd l).1.2 := by
  unfold allC
  split
  · split
    · exact rise_once l
    · exact Rise.nil
  · exact Rise.nil
theorem allC_err (agg : Int) (bd : Nat) (l : List Int) : (allC agg bd l).2 = 0 ∨ (allC agg bd l).2 = 11 := by
  unfold allC
  split
  · split
    · exact .inl rfl
    · exact .inr rfl
  · exact .inl rfl
/-- The numbers of a key. -/
def valsK (k : Ky) (l : List Rc) : List Int := (l.filter fun r => decide (r.1 = k)).map (·.2)
theorem vals_app (k : Ky) (a b : List Rc) : valsK k (a ++ b) = valsK k a ++ valsK k b := by unfold valsK; rw [List.filter_append, List.map_append]
theorem vals_same (k : Ky) (v : Int) : valsK k [(k, v)] = [v] := by simp [valsK]
theorem vals_other {k k' : Ky} (v : Int) (h : k' ≠ k) : valsK k [(k', v)] = [] := by simp [valsK, h]
def ones (agg : Int) (l : List Rc) : List Rw := l.map fun r => (r.1, oneC agg r.2)
theorem ones_app (agg : Int) (a b : List Rc) : ones agg (a ++ b) = ones agg a ++ ones agg b := by unfold ones; rw [List.map_append]
def foldR (agg : Int) (bd : Nat) (l : List Rc) : List Rw × Int := gat (joinC agg bd) (ones agg l)
theorem foldR_snoc (agg : Int) (bd : Nat) (l : List Rc) (r : Rc) : foldR agg bd (l ++ [r]) = stepG (joinC agg bd) (foldR agg bd l) (r.1, oneC agg r.2) := by
  unfold foldR
  rw [ones_app]
  exact gat_snoc _ _ _
theorem fold_rise (agg : Int) (bd : Nat) (l : List Rc) : RiseK (foldR agg bd l).1 := rise_gat _ _
theorem gat_err (agg : Int) (bd : Nat) (l : List Rw) : (gat (joinC agg bd) l).2 = 0 ∨ (gat (joinC agg bd) l).2 = 11 :=
  (all_gat (P := fun _ => True) (E := fun e => e = 0 ∨ e = 11) (fun a b _ _ => ⟨fun _ => trivial, joinC_err agg bd a b⟩) (.inl rfl) l (fun _ _ => trivial)).2
/-- What lies under each key, and when there is an error. -/
theorem fold_told (agg : Int) (bd : Nat) (hb : agg = 6 → 1 ≤ bd) (l : List Rc) :
    ((foldR agg bd l).2 = 0 → ∀ k, look (foldR agg bd l).1 k = (if valsK k l = [] then none else some (allC agg bd (valsK k l)).1) ∧ (valsK k l ≠ [] → (allC agg bd (valsK k l)).2 = 0)) ∧
    ((foldR agg bd l).2 ≠ 0 → ∃ k, valsK k l ≠ [] ∧ (allC agg bd (valsK k l)).2 ≠ 0) := by
  induction l using snoc_ind with
  | h0 => exact ⟨fun _ k => ⟨rfl, fun h => absurd rfl h⟩, fun h => absurd rfl h⟩
  | h1 l r ih =>
    obtain ⟨k0, v⟩ := r
    obtain ⟨i1, i2⟩ := ih
    have hone := allC_one agg bd v hb
    have herr := err_putR (J := joinC agg bd) (k := k0) (c := oneC agg v) (fold_rise agg bd l)
    rw [foldR_snoc]
    unfold stepG
    simp only
    have hwit : (∃ k, valsK k l ≠ [] ∧ (allC agg bd (valsK k l)).2 ≠ 0) → ∃ k, valsK k (l ++ [(k0, v)]) ≠ [] ∧ (allC agg bd (valsK k (l ++ [(k0, v)]))).2 ≠ 0 := by
      rintro ⟨k, hk, he⟩
      refine ⟨k, by rw [vals_app]; simp [hk], ?_⟩
      rw [vals_app]
      by_cases e : k0 = k
      · subst e
        rw [vals_same, ((allC_app agg bd _ [v] hk (by simp)).2 (.inl he)).1]
        decide
      · rw [vals_other v e, List.append_nil]
        exact he
    by_cases h0 : (foldR agg bd l).2 = 0
    · have t1 := i1 h0
      rw [herr, (t1 k0).1]
      by_cases hv : valsK k0 l = []
      · rw [if_pos hv]
        refine ⟨fun _ k => ?_, fun h => ?_⟩
        · rw [look_putR (fold_rise agg bd l), vals_app]
          by_cases e : k = k0
          · subst e
            rw [if_pos rfl, vals_same, hv, (t1 k).1, if_pos hv, List.nil_append, if_neg (by simp), hone]
            exact ⟨rfl, fun _ => rfl⟩
          · rw [if_neg e, vals_other v (fun e' => e e'.symm), List.append_nil]
            exact t1 k
        · simp only [errB, if_true] at h
          exact absurd h0 h
      · rw [if_neg hv]
        have happ := (allC_app agg bd (valsK k0 l) [v] hv (by simp)).1 ((t1 k0).2 hv) (by rw [hone])
        rw [hone] at happ
        rw [show errB (joinC agg bd) (oneC agg v) (some (allC agg bd (valsK k0 l)).1) = (allC agg bd (valsK k0 l ++ [v])).2 by rw [happ]; rfl]
        refine ⟨fun h k => ?_, fun h => ?_⟩
        · have he : (allC agg bd (valsK k0 l ++ [v])).2 = 0 := by
            by_cases h2 : (allC agg bd (valsK k0 l ++ [v])).2 = 0
            · exact h2
            · rw [if_neg h2] at h; exact h
          rw [look_putR (fold_rise agg bd l), vals_app]
          by_cases e : k = k0
          · subst e
            rw [if_pos rfl, vals_same, (t1 k).1, if_neg hv, if_neg (by simp)]
            refine ⟨?_, fun _ => he⟩
            rw [both, show joinC agg bd (allC agg bd (valsK k l)).1 (oneC agg v) = allC agg bd (valsK k l ++ [v]) from happ.symm, if_pos he]
          · rw [if_neg e, vals_other v (fun e' => e e'.symm), List.append_nil]
            exact t1 k
        · refine ⟨k0, by rw [vals_app, vals_same]; simp, ?_⟩
          rw [vals_app, vals_same]
          intro h2
          rw [if_pos h2] at h
          exact h h0
    · have w2 := hwit (i2 h0)
      refine ⟨fun h => ?_, fun _ => w2⟩
      exfalso
      split at h
      · exact h0 h
      · next h3 => exact h3 h
/-- Rows that rise stay as they are. -/
theorem gat_rise (J : Cl → Cl → Cl × Int) (A : List Rw) (h : RiseK A) : gat J A = (A, 0) := by
  induction A using snoc_ind with
  | h0 => rfl
  | h1 l r ih =>
    unfold RiseK at h
    rw [List.pairwise_append] at h
    rw [gat_snoc, ih h.1]
    unfold stepG
    have hlt : ∀ y ∈ l, ltK y.1 r.1 = true := fun y hy => h.2.2 y hy r (by simp)
    have hp := (putR_at (J := J) (k := r.1) (c := r.2) (n := l.length) h.1 (Nat.le_refl _) (fun y hy => hlt y (by simpa using hy)) (by simp)).2 (by simp)
    rw [hp]
    simp
/-- Two that rise, joined. -/
def meet (J : Cl → Cl → Cl × Int) : Option Cl → Option Cl → Option Cl
  | none, y => y
  | some a, none => some a
  | some a, some b => some (both J b (some a))
theorem look_app {l : List Rw} {r : Rw} {k : Ky} : look (l ++ [r]) k = match look l k with | some c => some c | none => if r.1 = k then some r.2 else none := by
  induction l with
  | nil => rfl
  | cons a l ih =>
    rw [List.cons_append]
    unfold look
    split
    · rfl
    · exact ih
theorem gat_two (J : Cl → Cl → Cl × Int) (A B : List Rw) (hA : RiseK A) (hB : RiseK B) :
    (∀ k, look (gat J (A ++ B)).1 k = meet J (look A k) (look B k)) ∧ ((gat J (A ++ B)).2 = 0 ↔ ∀ k a b, look A k = some a → look B k = some b → (J a b).2 = 0) := by
  induction B using snoc_ind with
  | h0 =>
    rw [List.append_nil, gat_rise J A hA]
    refine ⟨fun k => ?_, ⟨fun _ k a b _ h => by simp [look] at h, fun _ => rfl⟩⟩
    show look A k = meet J (look A k) none
    cases look A k <;> rfl
  | h1 B r ih =>
    unfold RiseK at hB
    rw [List.pairwise_append] at hB
    obtain ⟨i1, i2⟩ := ih hB.1
    have hnB : look B r.1 = none := look_none.2 fun y hy => ltK_ne (hB.2.2 y hy r (by simp))
    have hr := rise_gat J (A ++ B)
    have hk : look (gat J (A ++ B)).1 r.1 = look A r.1 := by
      rw [i1, hnB]
      cases look A r.1 <;> rfl
    rw [← List.append_assoc, gat_snoc]
    unfold stepG
    simp only
    rw [err_putR hr, hk]
    refine ⟨fun k => ?_, ?_⟩
    · rw [look_putR hr, look_app]
      by_cases e : k = r.1
      · subst e
        rw [if_pos rfl, hnB, hk]
        simp only [if_true]
        cases look A r.1 <;> rfl
      · rw [if_neg e, i1]
        cases look B k with
        | none => simp only; rw [if_neg (fun e' => e e'.symm)]
        | some c => rfl
    · constructor
      · intro h
        have h2 : errB J r.2 (look A r.1) = 0 ∧ (gat J (A ++ B)).2 = 0 := by
          by_cases h3 : errB J r.2 (look A r.1) = 0
          · rw [if_pos h3] at h; exact ⟨h3, h⟩
          · rw [if_neg h3] at h; exact absurd h h3
        intro k a b ha hb'
        rw [look_app] at hb'
        cases h4 : look B k with
        | some c =>
          rw [h4] at hb'
          injection hb' with hb'
          subst hb'
          exact i2.1 h2.2 k a c ha h4
        | none =>
          rw [h4] at hb'
          simp only at hb'
          by_cases e : r.1 = k
          · subst e
            rw [if_pos rfl] at hb'
            injection hb' with hb'
            subst hb'
            have := h2.1
            rw [ha] at this
            exact this
          · rw [if_neg e] at hb'; cases hb'
      · intro h
        have h3 : errB J r.2 (look A r.1) = 0 := by
          cases ha : look A r.1 with
          | none => rfl
          | some a => exact h r.1 a r.2 ha (by rw [look_app, hnB]; simp)
        rw [if_pos h3]
        exact i2.2 fun k a b ha hb' => h k a b ha (by rw [look_app, hb'])
/-- What is handed back: the rows, or the error alone. -/
def fin (s : List Rw × Int) : List Rw × Int := if s.2 = 0 then s else ([], s.2)
theorem fin_ok {s : List Rw × Int} (h : s.2 = 0) : fin s = s := by unfold fin; rw [if_pos h]
theorem fin_bad {s : List Rw × Int} (h : s.2 ≠ 0) : fin s = ([], s.2) := by unfold fin; rw [if_neg h]
/-- Folded in parts: an error in one is an error in all; else the two joined are the fold of all, in whatever order. -/
theorem parts_bad (agg : Int) (bd : Nat) (hb : agg = 6 → 1 ≤ bd) (L1 L2 : List Rc) (h : (foldR agg bd L1).2 ≠ 0 ∨ (foldR agg bd L2).2 ≠ 0) : (foldR agg bd (L1 ++ L2)).2 = 11 := by
  rcases gat_err agg bd (ones agg (L1 ++ L2)) with h0 | h0
  · exfalso
    have t := (fold_told agg bd hb (L1 ++ L2)).1 h0
    rcases h with h | h
    · obtain ⟨k, hk, he⟩ := (fold_told agg bd hb L1).2 h
      have := (t k).2 (by rw [vals_app]; simp [hk])
      rw [vals_app] at this
      by_cases h2 : valsK k L2 = []
      · rw [h2, List.append_nil] at this; exact he this
      · rw [((allC_app agg bd _ _ hk h2).2 (.inl he)).1] at this; cases this
    · obtain ⟨k, hk, he⟩ := (fold_told agg bd hb L2).2 h
      have := (t k).2 (by rw [vals_app]; simp [hk])
      rw [vals_app] at this
      by_cases h2 : valsK k L1 = []
      · rw [h2, List.nil_append] at this; exact he this
      · rw [((allC_app agg bd _ _ h2 hk).2 (.inr he)).1] at this; cases this
  · exact h0
theorem parts_ok (agg : Int) (bd : Nat) (hb : agg = 6 → 1 ≤ bd) (L1 L2 : List Rc) (h1 : (foldR agg bd L1).2 = 0) (h2 : (foldR agg bd L2).2 = 0) :
    fin (gat (joinC agg bd) ((foldR agg bd L1).1 ++ (foldR agg bd L2).1)) = fin (foldR agg bd (L1 ++ L2)) ∧ fin (gat (joinC agg bd) ((foldR agg bd L2).1 ++ (foldR agg bd L1).1)) = fin (foldR agg bd (L1 ++ L2)) := by
  have t1 := (fold_told agg bd hb L1).1 h1
  have t2 := (fold_told agg bd hb L2).1 h2
  have r1 := fold_rise agg bd L1
  have r2 := fold_rise agg bd L2
  obtain ⟨g1, g2⟩ := gat_two (joinC agg bd) _ _ r1 r2
  obtain ⟨g3, g4⟩ := gat_two (joinC agg bd) _ _ r2 r1
  -- two cells of one key
  have hj : ∀ k, valsK k L1 ≠ [] → valsK k L2 ≠ [] → joinC agg bd (allC agg bd (valsK k L1)).1 (allC agg bd (valsK k L2)).1 = allC agg bd (valsK k (L1 ++ L2)) ∧ joinC agg bd (allC agg bd (valsK k L2)).1 (allC agg bd (valsK k L1)).1 = allC agg bd (valsK k (L1 ++ L2)) := by
    intro k n1 n2
    have := (allC_app agg bd _ _ n1 n2).1 ((t1 k).2 n1) ((t2 k).2 n2)
    rw [vals_app]
    refine ⟨this.symm, ?_⟩
    rw [joinC_comm (allC_rise _ _ _) (allC_rise _ _ _)]
    exact this.symm
  have lk : ∀ {L : List Rc} {k : Ky} {a : Cl}, (look (foldR agg bd L).1 k = (if valsK k L = [] then none else some (allC agg bd (valsK k L)).1)) → look (foldR agg bd L).1 k = some a → valsK k L ≠ [] ∧ a = (allC agg bd (valsK k L)).1 := by
    intro L k a e1 e2
    rw [e1] at e2
    by_cases h : valsK k L = []
    · rw [if_pos h] at e2; cases e2
    · rw [if_neg h] at e2
      injection e2 with e2
      exact ⟨h, e2.symm⟩
  have kl : ∀ {L : List Rc} {k : Ky}, (look (foldR agg bd L).1 k = (if valsK k L = [] then none else some (allC agg bd (valsK k L)).1)) → valsK k L ≠ [] → look (foldR agg bd L).1 k = some (allC agg bd (valsK k L)).1 := by
    intro L k e1 h
    rw [e1, if_neg h]
  by_cases h0 : (foldR agg bd (L1 ++ L2)).2 = 0
  · have t := (fold_told agg bd hb (L1 ++ L2)).1 h0
    have e1 : (gat (joinC agg bd) ((foldR agg bd L1).1 ++ (foldR agg bd L2).1)).2 = 0 := g2.2 fun k a b ha hb' => by
      obtain ⟨n1, rfl⟩ := lk (t1 k).1 ha
      obtain ⟨n2, rfl⟩ := lk (t2 k).1 hb'
      rw [(hj k n1 n2).1]
      exact (t k).2 (by rw [vals_app]; simp [n1])
    have e2 : (gat (joinC agg bd) ((foldR agg bd L2).1 ++ (foldR agg bd L1).1)).2 = 0 := g4.2 fun k a b ha hb' => by
      obtain ⟨n1, rfl⟩ := lk (t2 k).1 ha
      obtain ⟨n2, rfl⟩ := lk (t1 k).1 hb'
      rw [(hj k n2 n1).2]
      exact (t k).2 (by rw [vals_app]; simp [n1])
    have hm : ∀ k, (meet (joinC agg bd) (look (foldR agg bd L1).1 k) (look (foldR agg bd L2).1 k) = look (foldR agg bd (L1 ++ L2)).1 k) ∧ (meet (joinC agg bd) (look (foldR agg bd L2).1 k) (look (foldR agg bd L1).1 k) = look (foldR agg bd (L1 ++ L2)).1 k) := by
      intro k
      rw [(t k).1, (t1 k).1, (t2 k).1, vals_app]
      by_cases n1 : valsK k L1 = [] <;> by_cases n2 : valsK k L2 = []
      · simp [n1, n2, meet]
      · simp [n1, n2, meet]
      · rw [n2, List.append_nil, if_neg n1, if_pos rfl]
        exact ⟨rfl, rfl⟩
      · have hz := (t k).2 (by rw [vals_app]; simp [n1])
        obtain ⟨j1, j2⟩ := hj k n1 n2
        rw [vals_app] at hz j1 j2
        simp only [if_neg n1, if_neg n2, meet, both]
        rw [j1, j2, if_neg (show ¬ (valsK k L1 ++ valsK k L2 = []) by simp [n1])]
        simp [hz]
    rw [fin_ok e1, fin_ok e2, fin_ok h0]
    refine ⟨Prod.ext (riseK_ext (rise_gat _ _) (fold_rise _ _ _) fun k => ?_) (by rw [e1, h0]), Prod.ext (riseK_ext (rise_gat _ _) (fold_rise _ _ _) fun k => ?_) (by rw [e2, h0])⟩
    · rw [g1, (hm k).1]
    · rw [g3, (hm k).2]
  · obtain ⟨k, hk, he⟩ := (fold_told agg bd hb (L1 ++ L2)).2 h0
    have n1 : valsK k L1 ≠ [] := fun n => by
      rw [vals_app, n, List.nil_append] at hk he
      exact he ((t2 k).2 hk)
    have n2 : valsK k L2 ≠ [] := fun n => by
      rw [vals_app, n, List.append_nil] at hk he
      exact he ((t1 k).2 hk)
    obtain ⟨j1, j2⟩ := hj k n1 n2
    have e1 : (gat (joinC agg bd) ((foldR agg bd L1).1 ++ (foldR agg bd L2).1)).2 ≠ 0 := fun e => by
      have := g2.1 e k _ _ (kl (t1 k).1 n1) (kl (t2 k).1 n2)
      rw [j1] at this
      exact he this
    have e2 : (gat (joinC agg bd) ((foldR agg bd L2).1 ++ (foldR agg bd L1).1)).2 ≠ 0 := fun e => by
      have := g4.1 e k _ _ (kl (t2 k).1 n2) (kl (t1 k).1 n1)
      rw [j2] at this
      exact he this
    rw [fin_bad e1, fin_bad e2, fin_bad h0]
    rw [(gat_err agg bd _).resolve_left e1, (gat_err agg bd _).resolve_left e2, show (foldR agg bd (L1 ++ L2)).2 = 11 from (gat_err agg bd (ones agg (L1 ++ L2))).resolve_left h0]
    exact ⟨rfl, rfl⟩
end Go.Proofs.YtejgcflcckjlpaaDoor
