/- Texts laid together: KBase, KOrd. -/
import Derived.WalkKit
import Derived.Lib.Small
import Derived.Lib.Bytealg
/- Keys as pairs of a number and a text. -/
namespace Go.Proofs.Yticpaemmdfmbfaa
set_option linter.unusedVariables false
set_option maxRecDepth 100000

abbrev Ky := Int × ByteArray
abbrev k0 : Ky := (0, ⟨#[]⟩)
def encK (x : Ky) : List Value := [.int .i64 x.1, .string x.2]
def valK (x : Ky) : Value := .agg #[.int .i64 x.1, .string x.2]
theorem ba_ext {a b : ByteArray} (h : a.data.toList = b.data.toList) : a = b := by
  cases a; cases b; simp at h; rw [h]
end Go.Proofs.Yticpaemmdfmbfaa
/- Keys: how two stand. -/
namespace Go.Proofs.Yticpaemmdfmbfaa
open Go.RowKit
set_option linter.unusedVariables false
set_option maxRecDepth 100000

theorem bl_irrefl : ∀ a : List UInt8, Op.bytesLess a a = false
  | [] => rfl
  | a :: x => by simp [Op.bytesLess, bl_irrefl x]
theorem bl_trans : ∀ a b c : List UInt8, Op.bytesLess a b = true → Op.bytesLess b c = true → Op.bytesLess a c = true
  | [], [], _, h, _ => by simp [Op.bytesLess] at h
  | [], _ :: _, [], _, h => by simp [Op.bytesLess] at h
  | [], _ :: _, _ :: _, _, _ => rfl
  | _ :: _, [], _, h, _ => by simp [Op.bytesLess] at h
  | _ :: _, _ :: _, [], _, h => by simp [Op.bytesLess] at h
  | a :: x, b :: y, c :: z, h1, h2 => by
    simp only [Op.bytesLess, Bool.or_eq_true, decide_eq_true_eq, Bool.and_eq_true, beq_iff_eq] at *
    rcases h1 with h1 | ⟨rfl, h1⟩
    · rcases h2 with h2 | ⟨rfl, h2⟩
      · exact .inl (UInt8.lt_trans h1 h2)
      · exact .inl h1
    · rcases h2 with h2 | ⟨rfl, h2⟩
      · exact .inl h2
      · exact .inr ⟨rfl, bl_trans x y z h1 h2⟩
theorem bl_total : ∀ a b : List UInt8, Op.bytesLess a b = false → Op.bytesLess b a = false → a = b
  | [], [], _, _ => rfl
  | [], _ :: _, h, _ => by simp [Op.bytesLess] at h
  | _ :: _, [], _, h => by simp [Op.bytesLess] at h
  | a :: x, b :: y, h1, h2 => by
    simp only [Op.bytesLess, Bool.or_eq_false_iff, decide_eq_false_iff_not, Bool.and_eq_false_iff, beq_eq_false_iff_ne] at *
    have e : a = b := UInt8.le_antisymm (UInt8.not_lt.1 h2.1) (UInt8.not_lt.1 h1.1)
    subst e
    rw [bl_total x y (by simpa using h1.2) (by simpa using h2.2)]
theorem cb_eq : ∀ a b : List UInt8, Lib.compareBytes a b = if Op.bytesLess a b then -1 else if a = b then 0 else 1
  | [], [] => rfl
  | [], _ :: _ => rfl
  | _ :: _, [] => rfl
  | a :: x, b :: y => by
    unfold Lib.compareBytes
    by_cases h1 : a < b
    · simp [Op.bytesLess, h1]
    · by_cases h2 : b < a
      · have hne : a ≠ b := fun e => by subst e; exact UInt8.lt_irrefl _ h2
        simp [Op.bytesLess, h1, h2, hne]
      · have e : a = b := UInt8.le_antisymm (UInt8.not_lt.1 h2) (UInt8.not_lt.1 h1)
        subst e
        rw [if_neg h1, if_neg h1, cb_eq x y]
        simp [Op.bytesLess]


/-- x stands ahead of y. -/
def ltK (x y : Ky) : Bool := decide (x.1 < y.1) || (decide (x.1 = y.1) && Op.bytesLess x.2.data.toList y.2.data.toList)
/-- What Cmp answers. -/
def cfK (x y : Ky) : Int := if ltK x y then -1 else if x = y then 0 else 1

theorem ltK_irrefl (x : Ky) : ltK x x = false := by simp [ltK, bl_irrefl]
theorem ltK_trans {x y z : Ky} (h1 : ltK x y = true) (h2 : ltK y z = true) : ltK x z = true := by
  simp only [ltK, Bool.or_eq_true, decide_eq_true_eq, Bool.and_eq_true] at *
  rcases h1 with h1 | ⟨e1, h1⟩ <;> rcases h2 with h2 | ⟨e2, h2⟩
  · exact .inl (by omega)
  · exact .inl (by omega)
  · exact .inl (by omega)
  · exact .inr ⟨by omega, bl_trans _ _ _ h1 h2⟩
theorem ltK_total {x y : Ky} (h1 : ltK x y = false) (h2 : ltK y x = false) : x = y := by
  simp only [ltK, Bool.or_eq_false_iff, decide_eq_false_iff_not, Bool.and_eq_false_iff] at *
  have e : x.1 = y.1 := by omega
  refine Prod.ext e (ba_ext (bl_total _ _ ?_ ?_))
  · exact h1.2.resolve_left (fun h => h e)
  · exact h2.2.resolve_left (fun h => h e.symm)
theorem ltK_asymm {x y : Ky} (h : ltK x y = true) : ltK y x = false := by
  cases h2 : ltK y x
  · rfl
  · have := ltK_trans h h2; rw [ltK_irrefl] at this; cases this
theorem ltK_ne {x y : Ky} (h : ltK x y = true) : x ≠ y := fun e => by rw [e, ltK_irrefl] at h; cases h
theorem leK_trans {x y z : Ky} (h1 : ltK y x = false) (h2 : ltK z y = false) : ltK z x = false := by
  cases h : ltK z x
  · rfl
  · cases h3 : ltK x y
    · have e := ltK_total h3 h1; subst e; rw [h] at h2; cases h2
    · rw [ltK_trans h h3] at h2; cases h2
theorem ltK_le {x y z : Ky} (h1 : ltK x y = true) (h2 : ltK z y = false) : ltK x z = true := by
  cases h3 : ltK x z
  · cases h4 : ltK z x
    · have e := ltK_total h3 h4; subst e; rw [h1] at h2; cases h2
    · rw [ltK_trans h4 h1] at h2; cases h2
  · rfl
theorem le_ltK {x y z : Ky} (h1 : ltK y x = false) (h2 : ltK y z = true) : ltK x z = true := by
  cases h3 : ltK x z
  · cases h4 : ltK z x
    · have e := ltK_total h3 h4; subst e; rw [h2] at h1; cases h1
    · rw [ltK_trans h2 h4] at h1; cases h1
  · rfl

theorem cfK_eq (x y : Ky) : cfK x y = if Lib.compareInt x.1 y.1 ≠ 0 then Lib.compareInt x.1 y.1 else Lib.compareBytes x.2.data.toList y.2.data.toList := by
  unfold cfK Lib.compareInt
  rw [cb_eq]
  by_cases h1 : x.1 < y.1
  · simp [ltK, h1]
  · by_cases h2 : y.1 < x.1
    · have hne : x ≠ y := fun e => by rw [e] at h2; omega
      have : ¬ x.1 = y.1 := by omega
      simp [ltK, h1, h2, hne, this]
    · have e : x.1 = y.1 := by omega
      have hiff : x = y ↔ x.2.data.toList = y.2.data.toList := ⟨fun e => by rw [e], fun h => Prod.ext e (ba_ext h)⟩
      simp [ltK, e, hiff]
theorem cfK_neg1 {x y : Ky} (h : ltK x y = true) : cfK x y = -1 := by simp [cfK, h]
theorem cfK_not1 {x y : Ky} (h : ltK y x = false) : cfK x y ≠ 1 := by
  unfold cfK
  split
  · decide
  · split
    · decide
    · next h1 h2 => exact absurd (ltK_total (by simpa using h1) h) h2
theorem strict_eq : ∀ {s t : List Ky}, (∀ x, x ∈ s ↔ x ∈ t) → s.Pairwise (fun x y => ltK x y = true) → t.Pairwise (fun x y => ltK x y = true) → s = t
  | [], [], _, _, _ => rfl
  | [], b :: t, h, _, _ => by have := (h b).2 List.mem_cons_self; simp at this
  | a :: s, [], h, _, _ => by have := (h a).1 List.mem_cons_self; simp at this
  | a :: s, b :: t, h, h1, h2 => by
    obtain ⟨a1, a2⟩ := List.pairwise_cons.1 h1
    obtain ⟨b1, b2⟩ := List.pairwise_cons.1 h2
    have e : a = b := by
      rcases List.mem_cons.1 ((h a).1 List.mem_cons_self) with e | ha
      · exact e
      rcases List.mem_cons.1 ((h b).2 List.mem_cons_self) with e | hb
      · exact e.symm
      have := ltK_asymm (b1 a ha)
      rw [a1 b hb] at this; cases this
    subst e
    have hm : ∀ x, x ∈ s ↔ x ∈ t := fun x => by
      constructor
      · intro hx
        rcases List.mem_cons.1 ((h x).1 (List.mem_cons_of_mem _ hx)) with e | hx'
        · subst e; have := a1 x hx; rw [ltK_irrefl] at this; cases this
        · exact hx'
      · intro hx
        rcases List.mem_cons.1 ((h x).2 (List.mem_cons_of_mem _ hx)) with e | hx'
        · subst e; have := b1 x hx; rw [ltK_irrefl] at this; cases this
        · exact hx'
    rw [strict_eq hm a2 b2]
theorem nodup_le : ∀ {ks l : List Ky}, ks.Nodup → (∀ x ∈ ks, x ∈ l) → ks.length ≤ l.length
  | [], _, _, _ => Nat.zero_le _
  | k :: ks, l, hn, h => by
    obtain ⟨h1, h2⟩ := List.nodup_cons.1 hn
    obtain ⟨s, t, rfl⟩ := List.append_of_mem (h k List.mem_cons_self)
    have := nodup_le (l := s ++ t) h2 (fun x hx => by
      have h3 := h x (List.mem_cons_of_mem _ hx)
      have hne : x ≠ k := fun e => h1 (e ▸ hx)
      simpa [hne] using h3)
    simp at this ⊢
    omega
end Go.Proofs.Yticpaemmdfmbfaa
