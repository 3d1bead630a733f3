/- Texts laid together: KBase, KOrd, GPlain, WPlain, RBase, WPart, MPlain, Plain, Back, BaL, KBy, RetI. -/
import Derived.WalkKit
import Derived.Lib.Small
import Derived.Lib.Bytealg
import Derived.Lib.Strings
import Derived.Test.YtclcgakfmcofaaaGreatDoorRows
namespace Go.Proofs.YtclcgakfmcofaaaGreatDoor
set_option linter.unusedVariables false
set_option maxRecDepth 100000
abbrev Ky := Int × ByteArray
abbrev k0 : Ky := (0, ⟨#[]⟩)
def encK (x : Ky) : List Value := [.int .i64 x.1, .string x.2]
theorem ba_ext {a b : ByteArray} (h : a.data.toList = b.data.toList) : a = b := by
 cases a; cases b; simp at h; rw [h]
end Go.Proofs.YtclcgakfmcofaaaGreatDoor
namespace Go.Proofs.YtclcgakfmcofaaaGreatDoor
open Go.RowKit
set_option linter.unusedVariables false

set_option maxRecDepth 100000
theorem bl_irrefl : ∀ a : List UInt8, Op.bytesLess a a = false
 | [] => rfl
 | a :: x => by simp [Op.bytesLess, bl_irrefl x]
theorem bl_trans : ∀ a b c : List UInt8, Op.bytesLess a b = true → Op.bytesLess b c = true → Op.bytesLess a c = true
 | [], [], _, h, _ => by simp [Op.bytesLess] at h
 | [], _ :: _, [], _, h => by simp [Op.bytesLess] at h
 | [], _ :: _, _ :: _, _, _ => rfl
 | _ :: _, [], _, h, _ => by simp [Op.bytesLess] at h
 | _ :: _, _ :: _, [], _, h => by simp [Op.bytesLess] at h
 | a :: x, b :: y, c :: z, h1, h2 => by
  simp only [Op.bytesLess, Bool.or_eq_true, decide_eq_true_eq, Bool.and_eq_true, beq_iff_eq] at *
  rcases h1 with h1 | ⟨rfl, h1⟩
  ·rcases h2 with h2 | ⟨rfl, h2⟩
   ·exact .inl (UInt8.lt_trans h1 h2)
   ·exact .inl h1
  ·rcases h2 with h2 | ⟨rfl, h2⟩
   ·exact .inl h2
   ·exact .inr ⟨rfl, bl_trans x y z h1 h2⟩
theorem bl_total : ∀ a b : List UInt8, Op.bytesLess a b = false → Op.bytesLess b a = false → a = b
 | [], [], _, _ => rfl
 | [], _ :: _, h, _ => by simp [Op.bytesLess] at h
 | _ :: _, [], _, h => by simp [Op.bytesLess] at h
 | a :: x, b :: y, h1, h2 => by
  simp only [Op.bytesLess, Bool.or_eq_false_iff, decide_eq_false_iff_not, Bool.and_eq_false_iff, beq_eq_false_iff_ne] at *
  have e : a = b := UInt8.le_antisymm (UInt8.not_lt.1 h2.1) (UInt8.not_lt.1 h1.1)
  subst e
  rw [bl_total x y (by simpa using h1.2) (by simpa using h2.2)]
theorem cb_eq : ∀ a b : List UInt8, Lib.compareBytes a b = if Op.bytesLess a b then -1 else if a = b then 0 else 1
 | [], [] => rfl
 | [], _ :: _ => rfl
 | _ :: _, [] => rfl
 | a :: x, b :: y => by
  unfold Lib.compareBytes
  by_cases h1 : a < b
  ·simp [Op.bytesLess, h1]
  ·by_cases h2 : b < a
   ·have hne : a ≠ b := fun e => by subst e; exact UInt8.lt_irrefl _ h2
    simp [Op.bytesLess, h1, h2, hne]
   ·have e : a = b := UInt8.le_antisymm (UInt8.not_lt.1 h2) (UInt8.not_lt.1 h1)
    subst e
    rw [if_neg h1, if_neg h1, cb_eq x y]
    simp [Op.bytesLess]
def ltK (x y : Ky) : Bool := decide (x.1 < y.1) || (decide (x.1 = y.1) && Op.bytesLess x.2.data.toList y.2.data.toList)
def cfK (x y : Ky) : Int := if ltK x y then -1 else if x = y then 0 else 1
theorem ltK_irrefl (x : Ky) : ltK x x = false := by simp [ltK, bl_irrefl]
theorem ltK_trans {x y z : Ky} (h1 : ltK x y = true) (h2 : ltK y z = true) : ltK x z = true := by
 simp only [ltK, Bool.or_eq_true, decide_eq_true_eq, Bool.and_eq_true] at *
 rcases h1 with h1 | ⟨e1, h1⟩ <;> rcases h2 with h2 | ⟨e2, h2⟩
 ·exact .inl (by omega)
 ·exact .inl (by omega)
 ·exact .inl (by omega)
 ·exact .inr ⟨by omega, bl_trans _ _ _ h1 h2⟩
theorem ltK_total {x y : Ky} (h1 : ltK x y = false) (h2 : ltK y x = false) : x = y := by
 simp only [ltK, Bool.or_eq_false_iff, decide_eq_false_iff_not, Bool.and_eq_false_iff] at *
 have e : x.1 = y.1 := by omega
 refine Prod.ext e (ba_ext (bl_total _ _ ?_ ?_))
 ·exact h1.2.resolve_left (fun h => h e)
 ·exact h2.2.resolve_left (fun h => h e.symm)
theorem ltK_asymm {x y : Ky} (h : ltK x y = true) : ltK y x = false := by
 cases h2 : ltK y x
 ·rfl
 ·have := ltK_trans h h2; rw [ltK_irrefl] at this; cases this
theorem ltK_ne {x y : Ky} (h : ltK x y = true) : x ≠ y := fun e => by rw [e, ltK_irrefl] at h; cases h
theorem leK_trans {x y z : Ky} (h1 : ltK y x = false) (h2 : ltK z y = false) : ltK z x = false := by
 cases h : ltK z x
 ·rfl
 ·cases h3 : ltK x y
  ·have e := ltK_total h3 h1; subst e; rw [h] at h2; cases h2
  ·rw [ltK_trans h h3] at h2; cases h2
theorem le_ltK {x y z : Ky} (h1 : ltK y x = false) (h2 : ltK y z = true) : ltK x z = true := by
 cases h3 : ltK x z
 ·cases h4 : ltK z x
  ·have e := ltK_total h3 h4; subst e; rw [h2] at h1; cases h1
  ·rw [ltK_trans h2 h4] at h1; cases h1
 ·rfl
theorem cfK_eq (x y : Ky) : cfK x y = if Lib.compareInt x.1 y.1 ≠ 0 then Lib.compareInt x.1 y.1 else Lib.compareBytes x.2.data.toList y.2.data.toList := by
 unfold cfK Lib.compareInt
 rw [cb_eq]
 by_cases h1 : x.1 < y.1
 ·simp [ltK, h1]
 ·by_cases h2 : y.1 < x.1
  ·have hne : x ≠ y := fun e => by rw [e] at h2; omega
   have : ¬ x.1 = y.1 := by omega
   simp [ltK, h1, h2, hne, this]
  ·have e : x.1 = y.1 := by omega
   have hiff : x = y ↔ x.2.data.toList = y.2.data.toList := ⟨fun e => by rw [e], fun h => Prod.ext e (ba_ext h)⟩
   simp [ltK, e, hiff]
theorem cfK_neg1 {x y : Ky} (h : ltK x y = true) : cfK x y = -1 := by simp [cfK, h]
theorem strict_eq : ∀ {s t : List Ky}, (∀ x, x ∈ s ↔ x ∈ t) → s.Pairwise (fun x y => ltK x y = true) → t.Pairwise (fun x y => ltK x y = true) → s = t
 | [], [], _, _, _ => rfl
 | [], b :: t, h, _, _ => by have := (h b).2 List.mem_cons_self; simp at this
 | a :: s, [], h, _, _ => by have := (h a).1 List.mem_cons_self; simp at this
 | a :: s, b :: t, h, h1, h2 => by
  obtain ⟨a1, a2⟩ := List.pairwise_cons.1 h1
  obtain ⟨b1, b2⟩ := List.pairwise_cons.1 h2
  have e : a = b := by
   rcases List.mem_cons.1 ((h a).1 List.mem_cons_self) with e | ha
   ·exact e
   rcases List.mem_cons.1 ((h b).2 List.mem_cons_self) with e | hb
   ·exact e.symm
   have := ltK_asymm (b1 a ha)
   rw [a1 b hb] at this; cases this
  subst e
  have hm : ∀ x, x ∈ s ↔ x ∈ t := fun x => by
   constructor
   ·intro hx
    rcases List.mem_cons.1 ((h x).1 (List.mem_cons_of_mem _ hx)) with e | hx'
    ·subst e; have := a1 x hx; rw [ltK_irrefl] at this; cases this
    ·exact hx'
   ·intro hx
    rcases List.mem_cons.1 ((h x).2 (List.mem_cons_of_mem _ hx)) with e | hx'
    ·subst e; have := b1 x hx; rw [ltK_irrefl] at this; cases this
    ·exact hx'
  rw [strict_eq hm a2 b2]
theorem nodup_le : ∀ {ks l : List Ky}, ks.Nodup → (∀ x ∈ ks, x ∈ l) → ks.length ≤ l.length
 | [], _, _, _ => Nat.zero_le _
 | k :: ks, l, hn, h => by
  obtain ⟨h1, h2⟩ := List.nodup_cons.1 hn
  obtain ⟨s, t, rfl⟩ := List.append_of_mem (h k List.mem_cons_self)
  have := nodup_le (l := s ++ t) h2 (fun x hx => by
   have h3 := h x (List.mem_cons_of_mem _ hx)
   have hne : x ≠ k := fun e => h1 (e ▸ hx)
   simpa [hne] using h3)
  simp at this ⊢
  omega
set_option maxRecDepth 100000
abbrev Rise (l : List Int) : Prop := l.Pairwise (· < ·)
theorem Rise.nil : Rise [] := List.Pairwise.nil
theorem rise_cons {x : Int} {l : List Int} : Rise (x :: l) ↔ (∀ y ∈ l, x < y) ∧ Rise l := List.pairwise_cons
theorem rise_snoc {x : Int} {l : List Int} (h : Rise l) (hx : ∀ y ∈ l, y < x) : Rise (l ++ [x]) := by
 unfold Rise
 rw [List.pairwise_append]
 exact ⟨h, by simp, fun a ha b hb => by simp at hb; subst hb; exact hx a ha⟩
theorem rise_ext : ∀ {l m : List Int}, Rise l → Rise m → (∀ z, z ∈ l ↔ z ∈ m) → l = m
 | [], [], _, _, _ => rfl
 | [], y :: m, _, _, h => by have := (h y).2 (by simp); simp at this
 | x :: l, [], _, _, h => by have := (h x).1 (by simp); simp at this
 | x :: l, y :: m, hl, hm, h => by
  rw [rise_cons] at hl hm
  have hxy : x = y := by
   have h1 := (h x).1 (by simp)
   have h2 := (h y).2 (by simp)
   rw [List.mem_cons] at h1 h2
   rcases h1 with h1 | h1
   ·exact h1
   ·rcases h2 with h2 | h2
    ·exact h2.symm
    ·have := hm.1 x h1
     have := hl.1 y h2
     omega
  subst hxy
  have : l = m := rise_ext hl.2 hm.2 fun z => by
   have hz := h z
   rw [List.mem_cons, List.mem_cons] at hz
   constructor
   ·intro h1
    rcases hz.1 (.inr h1) with h2 | h2
    ·have := hl.1 z h1; omega
    ·exact h2
   ·intro h1
    rcases hz.2 (.inr h1) with h2 | h2
    ·have := hm.1 z h1; omega
    ·exact h2
  rw [this]
def ins (x : Int) : List Int → List Int
 | [] => [x]
 | y :: l => if x < y then x :: y :: l else if x = y then y :: l else y :: ins x l
theorem mem_ins (x z : Int) : ∀ l, z ∈ ins x l ↔ z = x ∨ z ∈ l
 | [] => by simp [ins]
 | y :: l => by
  unfold ins
  split
  ·simp
  ·split
   ·rename_i h1 h2
    subst h2
    simp
   ·simp only [List.mem_cons, mem_ins x z l]
    constructor
    ·rintro (h | h | h)
     ·exact .inr (.inl h)
     ·exact .inl h
     ·exact .inr (.inr h)
    ·rintro (h | h | h)
     ·exact .inr (.inl h)
     ·exact .inl h
     ·exact .inr (.inr h)
theorem rise_ins (x : Int) : ∀ l, Rise l → Rise (ins x l)
 | [], _ => by simp [ins, Rise]
 | y :: l, h => by
  rw [rise_cons] at h
  unfold ins
  split
  ·rename_i h1
   rw [rise_cons, rise_cons]
   exact ⟨fun z hz => by rw [List.mem_cons] at hz; rcases hz with rfl | hz; exact h1; have := h.1 z hz; omega, h⟩
  ·split
   ·rw [rise_cons]; exact h
   ·rename_i h1 h2
    rw [rise_cons]
    exact ⟨fun z hz => by rw [mem_ins] at hz; rcases hz with rfl | hz; omega; exact h.1 z hz, rise_ins x l h.2⟩
def uni (a b : List Int) : List Int := a.foldr ins b
theorem mem_uni (a b : List Int) (z : Int) : z ∈ uni a b ↔ z ∈ a ∨ z ∈ b := by
 induction a with
 | nil => simp [uni]
 | cons x a ih =>
  show z ∈ ins x (uni a b) ↔ _
  rw [mem_ins, ih, List.mem_cons]
  constructor
  ·rintro (h | h | h)
   ·exact .inl (.inl h)
   ·exact .inl (.inr h)
   ·exact .inr h
  ·rintro ((h | h) | h)
   ·exact .inl h
   ·exact .inr (.inl h)
   ·exact .inr (.inr h)
theorem rise_uni (a : List Int) {b : List Int} (h : Rise b) : Rise (uni a b) := by
 induction a with
 | nil => exact h
 | cons x a ih => exact rise_ins x _ ih
def once (l : List Int) : List Int := uni l []
theorem mem_once (l : List Int) (z : Int) : z ∈ once l ↔ z ∈ l := by unfold once; rw [mem_uni]; simp
theorem rise_once (l : List Int) : Rise (once l) := rise_uni l Rise.nil
theorem once_app (a b : List Int) : once (a ++ b) = uni (once a) (once b) :=
 rise_ext (rise_once _) (rise_uni _ (rise_once b)) fun z => by rw [mem_once, mem_uni, mem_once, mem_once, List.mem_append]
theorem once_one (x : Int) : once [x] = [x] := rfl
theorem rise_len : ∀ {a b : List Int}, Rise a → Rise b → (∀ z ∈ a, z ∈ b) → a.length ≤ b.length
 | [], b, _, _, _ => by simp
 | x :: a, b, ha, hb, h => by
  rw [rise_cons] at ha
  have hx := h x (by simp)
  obtain ⟨s, t, rfl⟩ := List.append_of_mem hx
  have hb' : Rise (s ++ t) := by
   unfold Rise at hb ⊢
   rw [List.pairwise_append] at hb ⊢
   rw [List.pairwise_cons] at hb
   exact ⟨hb.1, hb.2.1.2, fun a ha c hc => hb.2.2 a ha c (by simp [hc])⟩
  have := rise_len ha.2 hb' fun z hz => by
   have h1 := h z (by simp [hz])
   have h2 := ha.1 z hz
   rw [List.mem_append, List.mem_cons] at h1
   rw [List.mem_append]
   rcases h1 with h1 | h1 | h1
   ·exact .inl h1
   ·omega
   ·exact .inr h1
  rw [List.length_append] at this ⊢
  simp only [List.length_cons]
  omega
def fo1 (f : Int → Int → Int) : List Int → Int
 | [] => 0
 | [x] => x
 | x :: y :: l => f x (fo1 f (y :: l))
theorem fo1_P {P : Int → Prop} {f : Int → Int → Int} (hc : ∀ x y, P x → P y → P (f x y)) : ∀ (l : List Int), l ≠ [] → (∀ x ∈ l, P x) → P (fo1 f l)
 | [], h, _ => absurd rfl h
 | [x], _, h => h x (by simp)
 | x :: y :: l, _, h => hc _ _ (h x (by simp)) (fo1_P hc (y :: l) (by simp) fun z hz => h z (by simp at hz ⊢; exact .inr hz))
theorem fo1_app {P : Int → Prop} {f : Int → Int → Int} (hc : ∀ x y, P x → P y → P (f x y)) (ha : ∀ x y z, P x → P y → P z → f (f x y) z = f x (f y z)) : ∀ (a b : List Int), a ≠ [] → b ≠ [] → (∀ x ∈ a, P x) → (∀ x ∈ b, P x) → fo1 f (a ++ b) = f (fo1 f a) (fo1 f b)
 | [], b, h, _, _, _ => absurd rfl h
 | [x], [], _, h, _, _ => absurd rfl h
 | [x], y :: b, _, _, _, _ => rfl
 | x :: y :: a, b, _, hb, hpa, hpb => by
  have ih := fo1_app hc ha (y :: a) b (by simp) hb (fun z hz => hpa z (by simp at hz ⊢; exact .inr hz)) hpb
  show f x (fo1 f ((y :: a) ++ b)) = f (f x (fo1 f (y :: a))) (fo1 f b)
  rw [ih, ha _ _ _ (hpa x (by simp)) (fo1_P hc _ (by simp) fun z hz => hpa z (by simp at hz ⊢; exact .inr hz)) (fo1_P hc _ hb hpb)]
def sumF (x y : Int) : Int := wrap64 (x + y)
def cntF (x y : Int) : Int := if 4611686018427387904 - y < x then 4611686018427387904 else x + y
def orF (x y : Int) : Int := bits .or .i64 x y
theorem sum_assoc (x y z : Int) : sumF (sumF x y) z = sumF x (sumF y z) := by unfold sumF wrap64; omega
theorem cnt_assoc (x y z : Int) (hx : 0 ≤ x ∧ x ≤ 4611686018427387904) (hy : 0 ≤ y ∧ y ≤ 4611686018427387904) (hz : 0 ≤ z ∧ z ≤ 4611686018427387904) : cntF (cntF x y) z = cntF x (cntF y z) := by
 unfold cntF
 split <;> split <;> split <;> (try split) <;> omega
theorem cnt_P (x y : Int) (hx : 0 ≤ x ∧ x ≤ 4611686018427387904) (hy : 0 ≤ y ∧ y ≤ 4611686018427387904) : 0 ≤ cntF x y ∧ cntF x y ≤ 4611686018427387904 := by unfold cntF; split <;> omega
theorem ofInt_wrap (x : BitVec 64) : BitVec.ofInt 64 (IntKind.i64.wrap (x.toNat : Int)) = x := by
 apply BitVec.eq_of_toNat_eq
 rw [BitVec.toNat_ofInt, IntKind.wrap_i64]
 have := x.isLt
 omega
theorem or_assoc (x y z : Int) : orF (orF x y) z = orF x (orF y z) := by
 show IntKind.i64.wrap ((BitVec.ofInt 64 (IntKind.i64.wrap ((BitVec.ofInt 64 x ||| BitVec.ofInt 64 y).toNat : Int)) ||| BitVec.ofInt 64 z).toNat : Int) = IntKind.i64.wrap ((BitVec.ofInt 64 x ||| BitVec.ofInt 64 (IntKind.i64.wrap ((BitVec.ofInt 64 y ||| BitVec.ofInt 64 z).toNat : Int))).toNat : Int)
 rw [ofInt_wrap, ofInt_wrap, BitVec.or_assoc]
def nF (agg : Int) : Int → Int → Int := if agg = 1 then sumF else if agg = 2 then cntF else if agg = 3 then min else if agg = 4 then max else orF
def nP (agg : Int) (x : Int) : Prop := agg = 2 → 0 ≤ x ∧ x ≤ 4611686018427387904
theorem nF_P (agg : Int) (x y : Int) (hx : nP agg x) (hy : nP agg y) : nP agg (nF agg x y) := by
 intro h
 subst h
 exact cnt_P x y (hx rfl) (hy rfl)
theorem nF_assoc (agg : Int) (x y z : Int) (hx : nP agg x) (hy : nP agg y) (hz : nP agg z) : nF agg (nF agg x y) z = nF agg x (nF agg y z) := by
 unfold nF
 by_cases h1 : agg = 1
 ·rw [if_pos h1]; exact sum_assoc x y z
 rw [if_neg h1]
 by_cases h2 : agg = 2
 ·rw [if_pos h2]; exact cnt_assoc x y z (hx h2) (hy h2) (hz h2)
 rw [if_neg h2]
 by_cases h3 : agg = 3
 ·rw [if_pos h3]; omega
 rw [if_neg h3]
 by_cases h4 : agg = 4
 ·rw [if_pos h4]; omega
 rw [if_neg h4]
 exact or_assoc x y z
def n1 (agg v : Int) : Int := if agg = 2 then 1 else v
abbrev Cl := Int × List Int
def joinC (agg : Int) (bound : Nat) (a b : Cl) : Cl × Int :=
 if agg = 6 then (if (uni a.2 b.2).length ≤ bound then ((0, uni a.2 b.2), 0) else ((0, []), 11)) else ((nF agg a.1 b.1, []), 0)
def oneC (agg v : Int) : Cl := if agg = 6 then (0, [v]) else (n1 agg v, [])
def allC (agg : Int) (bound : Nat) (l : List Int) : Cl × Int :=
 if agg = 6 then (if (once l).length ≤ bound then ((0, once l), 0) else ((0, []), 11)) else ((fo1 (nF agg) (l.map (n1 agg)), []), 0)
theorem allC_one (agg : Int) (bound : Nat) (v : Int) (hb : agg = 6 → 1 ≤ bound) : allC agg bound [v] = (oneC agg v, 0) := by
 unfold allC oneC
 by_cases h : agg = 6
 ·rw [if_pos h, if_pos h, once_one, if_pos (by simpa using hb h)]
 ·rw [if_neg h, if_neg h]; rfl
theorem allC_app (agg : Int) (bound : Nat) (a b : List Int) (ha : a ≠ []) (hb : b ≠ []) :
  ((allC agg bound a).2 = 0 → (allC agg bound b).2 = 0 → allC agg bound (a ++ b) = joinC agg bound (allC agg bound a).1 (allC agg bound b).1) ∧
  (((allC agg bound a).2 ≠ 0 ∨ (allC agg bound b).2 ≠ 0) → allC agg bound (a ++ b) = ((0, []), 11) ∧ max (allC agg bound a).2 (allC agg bound b).2 = 11) := by
 unfold allC joinC
 by_cases h : agg = 6
 ·simp only [if_pos h]
  have hla : (once a).length ≤ (once (a ++ b)).length := rise_len (rise_once a) (rise_once _) fun z hz => by rw [mem_once] at hz ⊢; simp [hz]
  have hlb : (once b).length ≤ (once (a ++ b)).length := rise_len (rise_once b) (rise_once _) fun z hz => by rw [mem_once] at hz ⊢; simp [hz]
  by_cases h1 : (once a).length ≤ bound <;> by_cases h2 : (once b).length ≤ bound
  ·simp only [if_pos h1, if_pos h2]
   exact ⟨fun _ _ => by rw [once_app], fun h => by simp at h⟩
  ·simp only [if_pos h1, if_neg h2]
   rw [if_neg (by omega)]
   exact ⟨fun _ h => by simp at h, fun _ => ⟨rfl, by decide⟩⟩
  ·simp only [if_neg h1, if_pos h2]
   rw [if_neg (by omega)]
   exact ⟨fun h => by simp at h, fun _ => ⟨rfl, by decide⟩⟩
  ·simp only [if_neg h1, if_neg h2]
   rw [if_neg (by omega)]
   exact ⟨fun h => by simp at h, fun _ => ⟨rfl, by decide⟩⟩
 ·simp only [if_neg h]
  refine ⟨fun _ _ => ?_, fun h => by simp at h⟩
  rw [List.map_append, fo1_app (P := nP agg) (nF_P agg) (nF_assoc agg) _ _ (by simpa using ha) (by simpa using hb)]
  all_goals
   intro x hx
   obtain ⟨v, _, rfl⟩ := List.mem_map.1 hx
   intro h2
   unfold n1
   rw [if_pos h2]
   decide
set_option maxRecDepth 100000
abbrev Rw := Ky × Cl
abbrev RiseK (l : List Rw) : Prop := l.Pairwise (fun a b => ltK a.1 b.1 = true)
theorem riseK_cons {r : Rw} {l : List Rw} : RiseK (r :: l) ↔ (∀ y ∈ l, ltK r.1 y.1 = true) ∧ RiseK l := List.pairwise_cons
def look : List Rw → Ky → Option Cl
 | [], _ => none
 | r :: l, k => if r.1 = k then some r.2 else look l k
theorem look_skip {r : Rw} {l : List Rw} {k : Ky} (h : r.1 ≠ k) : look (r :: l) k = look l k := by
 rw [look.eq_def]
 simp only [if_neg h]
theorem look_none {l : List Rw} {k : Ky} : look l k = none ↔ ∀ r ∈ l, r.1 ≠ k := by
 induction l with
 | nil => simp [look]
 | cons r l ih =>
  unfold look
  by_cases h : r.1 = k
  ·simp [h]
  ·rw [if_neg h, ih]
   simp [h]
theorem look_mem {l : List Rw} {k : Ky} {c : Cl} (h : look l k = some c) : (k, c) ∈ l := by
 induction l with
 | nil => simp [look] at h
 | cons r l ih =>
  unfold look at h
  by_cases e : r.1 = k
  ·rw [if_pos e] at h
   injection h with h
   subst e h
   simp
  ·rw [if_neg e] at h
   exact List.mem_cons_of_mem _ (ih h)
theorem mem_look {l : List Rw} (hl : RiseK l) {r : Rw} (h : r ∈ l) : look l r.1 = some r.2 := by
 induction l with
 | nil => simp at h
 | cons a l ih =>
  rw [riseK_cons] at hl
  unfold look
  rcases List.mem_cons.1 h with rfl | h
  ·rw [if_pos rfl]
  ·rw [if_neg (ltK_ne (hl.1 r h)), ih hl.2 h]
theorem riseK_ext {l m : List Rw} (hl : RiseK l) (hm : RiseK m) (h : ∀ x, look l x = look m x) : l = m := by
 have hk : l.map (·.1) = m.map (·.1) := by
  refine strict_eq (fun x => ?_) (by rw [List.pairwise_map]; exact hl) (by rw [List.pairwise_map]; exact hm)
  constructor
  ·intro hx
   obtain ⟨r, hr, rfl⟩ := List.mem_map.1 hx
   have := mem_look hl hr
   rw [h] at this
   exact List.mem_map.2 ⟨_, look_mem this, rfl⟩
  ·intro hx
   obtain ⟨r, hr, rfl⟩ := List.mem_map.1 hx
   have := mem_look hm hr
   rw [← h] at this
   exact List.mem_map.2 ⟨_, look_mem this, rfl⟩
 apply List.ext_getElem?
 intro i
 have hi : (l.map (·.1))[i]? = (m.map (·.1))[i]? := by rw [hk]
 rw [List.getElem?_map, List.getElem?_map] at hi
 cases h1 : l[i]? with
 | none => rw [h1] at hi; cases h2 : m[i]? with
  | none => rfl
  | some b => rw [h2] at hi; cases hi
 | some a => cases h2 : m[i]? with
  | none => rw [h1, h2] at hi; cases hi
  | some b =>
   rw [h1, h2] at hi
   injection hi with hi
   have hi : a.1 = b.1 := hi
   have e1 := mem_look hl (List.mem_of_getElem? h1)
   have e2 := mem_look hm (List.mem_of_getElem? h2)
   rw [h, hi, e2] at e1
   injection e1 with e1
   rw [Prod.ext hi e1.symm]
def putR (J : Cl → Cl → Cl × Int) (k : Ky) (c : Cl) : List Rw → List Rw × Int
 | [] => ([(k, c)], 0)
 | r :: l => if ltK k r.1 then ((k, c) :: r :: l, 0)
  else if r.1 = k then (if (J r.2 c).2 = 0 then ((k, (J r.2 c).1) :: l, 0) else (r :: l, (J r.2 c).2))
  else (r :: (putR J k c l).1, (putR J k c l).2)
theorem putR_key {J : Cl → Cl → Cl × Int} {k : Ky} {c : Cl} {l : List Rw} : ∀ {r}, r ∈ (putR J k c l).1 → r.1 = k ∨ ∃ r' ∈ l, r'.1 = r.1 := by
 induction l with
 | nil => intro r hr; simp [putR] at hr; exact .inl (by rw [hr])
 | cons a l ih =>
  intro r hr
  unfold putR at hr
  by_cases h1 : ltK k a.1 = true
  ·rw [if_pos h1] at hr
   rcases List.mem_cons.1 hr with rfl | hr
   ·exact .inl rfl
   ·exact .inr ⟨r, hr, rfl⟩
  ·rw [if_neg h1] at hr
   by_cases h2 : a.1 = k
   ·rw [if_pos h2] at hr
    split at hr
    ·rcases List.mem_cons.1 hr with rfl | hr
     ·exact .inl rfl
     ·exact .inr ⟨r, by simp [hr], rfl⟩
    ·exact .inr ⟨r, hr, rfl⟩
   ·rw [if_neg h2] at hr
    rcases List.mem_cons.1 hr with rfl | hr
    ·exact .inr ⟨r, by simp, rfl⟩
    ·rcases ih hr with h | ⟨r', h, e⟩
     ·exact .inl h
     ·exact .inr ⟨r', by simp [h], e⟩
theorem rise_putR {J : Cl → Cl → Cl × Int} {k : Ky} {c : Cl} : ∀ {l : List Rw}, RiseK l → RiseK (putR J k c l).1
 | [], _ => by simp [putR, RiseK]
 | a :: l, h => by
  have h0 := h
  rw [riseK_cons] at h
  unfold putR
  by_cases h1 : ltK k a.1 = true
  ·rw [if_pos h1]
   rw [riseK_cons]
   refine ⟨fun y hy => ?_, h0⟩
   rcases List.mem_cons.1 hy with rfl | hy
   ·exact h1
   ·exact ltK_trans h1 (h.1 y hy)
  ·rw [if_neg h1]
   by_cases h2 : a.1 = k
   ·rw [if_pos h2]
    split
    ·rw [riseK_cons]
     exact ⟨fun y hy => by rw [← h2]; exact h.1 y hy, h.2⟩
    ·exact h0
   ·rw [if_neg h2, riseK_cons]
    refine ⟨fun y hy => ?_, rise_putR h.2⟩
    rcases putR_key hy with e | ⟨r', hr', e⟩
    ·rw [e]
     cases h3 : ltK a.1 k
     ·exact absurd (ltK_total h3 (by simpa using h1)) h2
     ·rfl
    ·rw [← e]; exact h.1 r' hr'
theorem look_low {l : List Rw} {k : Ky} (h : ∀ y ∈ l, ltK k y.1 = true) : look l k = none := look_none.2 fun r hr e => by have := h r hr; rw [e, ltK_irrefl] at this; cases this
def both (J : Cl → Cl → Cl × Int) (c : Cl) : Option Cl → Cl
 | none => c
 | some d => if (J d c).2 = 0 then (J d c).1 else d
def errB (J : Cl → Cl → Cl × Int) (c : Cl) : Option Cl → Int
 | none => 0
 | some d => (J d c).2
theorem look_putR {J : Cl → Cl → Cl × Int} {k : Ky} {c : Cl} : ∀ {l : List Rw}, RiseK l → ∀ x, look (putR J k c l).1 x = if x = k then some (both J c (look l k)) else look l x
 | [], _, x => by
  unfold putR look
  by_cases h : k = x
  ·subst h; simp [both]
  ·rw [if_neg h, if_neg (fun e => h e.symm)]
   rfl
 | a :: l, h, x => by
  rw [riseK_cons] at h
  unfold putR
  by_cases h1 : ltK k a.1 = true
  ·rw [if_pos h1]
   have hn : look (a :: l) k = none := look_low fun y hy => by
    rcases List.mem_cons.1 hy with rfl | hy
    ·exact h1
    ·exact ltK_trans h1 (h.1 y hy)
   rw [hn]
   show (if k = x then some c else look (a :: l) x) = _
   by_cases e : k = x
   ·subst e; simp [both]
   ·rw [if_neg e, if_neg (fun e' => e e'.symm)]
  ·rw [if_neg h1]
   by_cases h2 : a.1 = k
   ·rw [if_pos h2]
    have hk : look (a :: l) k = some a.2 := by unfold look; rw [if_pos h2]
    rw [hk]
    by_cases hj : (J a.2 c).2 = 0
    ·rw [if_pos hj]
     show (if k = x then some (J a.2 c).1 else look l x) = _
     by_cases e : k = x
     ·subst e
      rw [if_pos rfl, if_pos rfl, both, if_pos hj]
     ·rw [if_neg e, if_neg (fun e' => e e'.symm), look_skip (fun e' => e (h2.symm.trans e'))]
    ·rw [if_neg hj]
     show look (a :: l) x = _
     by_cases e : k = x
     ·subst e
      rw [if_pos rfl, both, if_neg hj, hk]
     ·rw [if_neg (fun e' => e e'.symm)]
   ·rw [if_neg h2]
    show (if a.1 = x then some a.2 else look (putR J k c l).1 x) = _
    rw [look_putR h.2 x]
    have hk : look (a :: l) k = look l k := by
     rw [look.eq_def]
     simp only [if_neg h2]
    rw [hk]
    by_cases e : a.1 = x
    ·rw [if_pos e, if_neg (fun e' => h2 (e.trans e'))]
     unfold look
     rw [if_pos e]
    ·rw [if_neg e]
     split
     ·rfl
     ·show _ = look (a :: l) x
      rw [look.eq_def (a :: l)]
      simp only [if_neg e]
theorem err_putR {J : Cl → Cl → Cl × Int} {k : Ky} {c : Cl} : ∀ {l : List Rw}, RiseK l → (putR J k c l).2 = errB J c (look l k)
 | [], _ => rfl
 | a :: l, h => by
  rw [riseK_cons] at h
  unfold putR
  by_cases h1 : ltK k a.1 = true
  ·rw [if_pos h1]
   have hn : look (a :: l) k = none := look_low fun y hy => by
    rcases List.mem_cons.1 hy with rfl | hy
    ·exact h1
    ·exact ltK_trans h1 (h.1 y hy)
   rw [hn]
   rfl
  ·rw [if_neg h1]
   by_cases h2 : a.1 = k
   ·rw [if_pos h2]
    have hk : look (a :: l) k = some a.2 := by unfold look; rw [if_pos h2]
    rw [hk]
    unfold errB
    split
    ·next h3 => exact h3.symm
    ·rfl
   ·rw [if_neg h2]
    have hk : look (a :: l) k = look l k := by
     rw [look.eq_def]
     simp only [if_neg h2]
    rw [hk]
    exact err_putR h.2
theorem len_putR {J : Cl → Cl → Cl × Int} {k : Ky} {c : Cl} : ∀ {l : List Rw}, RiseK l → (putR J k c l).1.length = if (look l k).isSome then l.length else l.length + 1
 | [], _ => rfl
 | a :: l, h => by
  rw [riseK_cons] at h
  unfold putR
  by_cases h1 : ltK k a.1 = true
  ·rw [if_pos h1]
   have hn : look (a :: l) k = none := look_low fun y hy => by
    rcases List.mem_cons.1 hy with rfl | hy
    ·exact h1
    ·exact ltK_trans h1 (h.1 y hy)
   rw [hn]
   rfl
  ·rw [if_neg h1]
   by_cases h2 : a.1 = k
   ·rw [if_pos h2]
    have hk : look (a :: l) k = some a.2 := by unfold look; rw [if_pos h2]
    rw [hk]
    split <;> rfl
   ·rw [if_neg h2]
    have hk : look (a :: l) k = look l k := by
     rw [look.eq_def]
     simp only [if_neg h2]
    rw [hk]
    show (putR J k c l).1.length + 1 = _
    rw [len_putR h.2]
    split <;> rfl
theorem putR_at {J : Cl → Cl → Cl × Int} {k : Ky} {c : Cl} : ∀ {l : List Rw} {n : Nat}, RiseK l → n ≤ l.length → (∀ y ∈ l.take n, ltK y.1 k = true) → (∀ y ∈ l.drop n, ltK y.1 k = false) →
  (∀ d, l[n]? = some (k, d) → putR J k c l = (if (J d c).2 = 0 then (l.set n (k, (J d c).1), 0) else (l, (J d c).2))) ∧
  ((∀ d, l[n]? ≠ some (k, d)) → putR J k c l = (l.take n ++ [(k, c)] ++ l.drop n, 0))
 | [], n, _, hn, _, _ => by
  have : n = 0 := by simpa using hn
  subst this
  exact ⟨fun d hd => by simp at hd, fun _ => rfl⟩
 | a :: l, 0, h, _, _, h2 => by
  have ha := h2 a (by simp)
  rw [riseK_cons] at h
  refine ⟨fun d hd => ?_, fun hd => ?_⟩
  ·simp at hd
   subst hd
   unfold putR
   rw [if_neg (by rw [ltK_irrefl]; simp), if_pos rfl]
   rfl
  ·have hne : a.1 ≠ k := fun e => hd a.2 (by rw [← e]; rfl)
   have hlt : ltK k a.1 = true := by
    cases h3 : ltK k a.1
    ·exact absurd (ltK_total ha h3) hne
    ·rfl
   unfold putR
   rw [if_pos hlt]
   rfl
 | a :: l, n + 1, h, hn, h1, h2 => by
  have ha := h1 a (by simp)
  rw [riseK_cons] at h
  obtain ⟨g1, g2⟩ := putR_at (J := J) (c := c) h.2 (by simpa using hn) (fun y hy => h1 y (by simp [hy])) (fun y hy => h2 y (by simpa using hy))
  have e0 : putR J k c (a :: l) = (a :: (putR J k c l).1, (putR J k c l).2) := by
   rw [putR.eq_def]
   simp only
   rw [if_neg (by rw [ltK_asymm ha]; simp), if_neg (ltK_ne ha)]
  refine ⟨fun d hd => ?_, fun hd => ?_⟩
  ·rw [e0, g1 d (by simpa using hd)]
   split <;> rfl
  ·rw [e0, g2 (fun d => by simpa using hd d)]
   rfl
def stepG (J : Cl → Cl → Cl × Int) (s : List Rw × Int) (r : Rw) : List Rw × Int := ((putR J r.1 r.2 s.1).1, if (putR J r.1 r.2 s.1).2 = 0 then s.2 else (putR J r.1 r.2 s.1).2)
def gat (J : Cl → Cl → Cl × Int) (l : List Rw) : List Rw × Int := l.foldl (stepG J) ([], 0)
theorem gat_nil (J : Cl → Cl → Cl × Int) : gat J [] = ([], 0) := rfl
theorem gat_snoc (J : Cl → Cl → Cl × Int) (l : List Rw) (r : Rw) : gat J (l ++ [r]) = stepG J (gat J l) r := by unfold gat; rw [List.foldl_append]; rfl
theorem snoc_ind {α : Type} {P : List α → Prop} (h0 : P []) (h1 : ∀ l r, P l → P (l ++ [r])) (l : List α) : P l := by
 have : ∀ n, ∀ l : List α, l.length = n → P l := by
  intro n
  induction n with
  | zero => intro l hl; rw [List.length_eq_zero_iff.1 hl]; exact h0
  | succ n ih =>
   intro l hl
   have hne : l ≠ [] := fun e => by rw [e] at hl; simp at hl
   rw [← List.dropLast_concat_getLast hne]
   exact h1 _ _ (ih _ (by simp [hl]))
 exact this _ l rfl
theorem rise_gat (J : Cl → Cl → Cl × Int) (l : List Rw) : RiseK (gat J l).1 := by
 induction l using snoc_ind with
 | h0 => simp [gat_nil, RiseK]
 | h1 l r ih => rw [gat_snoc]; exact rise_putR ih
theorem keys_gat (J : Cl → Cl → Cl × Int) (l : List Rw) (x : Ky) : (look (gat J l).1 x).isSome = true ↔ ∃ r ∈ l, r.1 = x := by
 induction l using snoc_ind with
 | h0 => simp [gat_nil, look]
 | h1 l r ih =>
  rw [gat_snoc]
  unfold stepG
  simp only
  rw [look_putR (rise_gat J l)]
  by_cases e : x = r.1
  ·rw [if_pos e]
   simp only [Option.isSome_some, true_iff]
   exact ⟨r, by simp, e.symm⟩
  ·rw [if_neg e, ih]
   constructor
   ·rintro ⟨a, ha, h⟩; exact ⟨a, by simp [ha], h⟩
   ·rintro ⟨a, ha, h⟩
    rcases List.mem_append.1 ha with ha | ha
    ·exact ⟨a, ha, h⟩
    ·simp at ha; subst ha; exact absurd h.symm e
theorem len_gat (J : Cl → Cl → Cl × Int) (l : List Rw) : (gat J l).1.length ≤ l.length := by
 induction l using snoc_ind with
 | h0 => simp [gat_nil]
 | h1 l r ih =>
  rw [gat_snoc]
  unfold stepG
  simp only
  rw [len_putR (rise_gat J l), List.length_append]
  split <;> simp <;> omega
theorem all_gat {J : Cl → Cl → Cl × Int} {P : Cl → Prop} {E : Int → Prop} (hJ : ∀ a b, P a → P b → ((J a b).2 = 0 → P (J a b).1) ∧ E (J a b).2) (h0 : E 0) (l : List Rw) (hl : ∀ r ∈ l, P r.2) : (∀ x c, look (gat J l).1 x = some c → P c) ∧ E (gat J l).2 := by
 induction l using snoc_ind with
 | h0 => exact ⟨fun x c h => by simp [gat_nil, look] at h, h0⟩
 | h1 l r ih =>
  obtain ⟨i1, i2⟩ := ih (fun y hy => hl y (by simp [hy]))
  have hr := hl r (by simp)
  rw [gat_snoc]
  unfold stepG
  simp only
  rw [err_putR (rise_gat J l)]
  refine ⟨fun x c h => ?_, ?_⟩
  ·rw [look_putR (rise_gat J l)] at h
   by_cases e : x = r.1
   ·rw [if_pos e] at h
    injection h with h
    subst h
    cases h1 : look (gat J l).1 r.1 with
    | none => exact hr
    | some d =>
     have hd := i1 _ _ h1
     unfold both
     simp only
     split
     ·next h2 => exact (hJ d r.2 hd hr).1 h2
     ·exact hd
   ·rw [if_neg e] at h
    exact i1 x c h
  ·cases h1 : look (gat J l).1 r.1 with
   | none => unfold errB; simp only [if_true]; exact i2
   | some d =>
    unfold errB
    simp only
    split
    ·exact i2
    ·exact (hJ d r.2 (i1 _ _ h1) hr).2
theorem keys_len {J : Cl → Cl → Cl × Int} {l : List Rw} {ks : List Ky} (hk : ks.Pairwise (fun x y => ltK x y = true)) (hm : ∀ x, x ∈ ks ↔ ∃ r ∈ l, r.1 = x) : ks.length = (gat J l).1.length := by
 have : ks = (gat J l).1.map (·.1) := by
  refine strict_eq (fun x => ?_) hk (by rw [List.pairwise_map]; exact rise_gat J l)
  rw [hm, ← keys_gat J l x]
  constructor
  ·intro h
   obtain ⟨c, hc⟩ := Option.isSome_iff_exists.1 h
   exact List.mem_map.2 ⟨_, look_mem hc, rfl⟩
  ·intro h
   obtain ⟨r, hr, rfl⟩ := List.mem_map.1 h
   rw [mem_look (rise_gat J l) hr]
   rfl
 rw [this, List.length_map]
end Go.Proofs.YtclcgakfmcofaaaGreatDoor
namespace Go.Proofs.YtclcgakfmcofaaaGreatDoor
set_option linter.unusedVariables false

set_option maxRecDepth 100000
abbrev Rc := Ky × Int
abbrev r0 : Rc := (k0, 0)
def encR (x : Rc) : List Value := [.int .i64 x.1.1, .string x.1.2, .int .i64 x.2]
end Go.Proofs.YtclcgakfmcofaaaGreatDoor
namespace Go.Proofs.YtclcgakfmcofaaaGreatDoor
open Go.RowKit
set_option linter.unusedVariables false

set_option maxRecDepth 100000
theorem joinC_err (agg : Int) (bd : Nat) (a b : Cl) : (joinC agg bd a b).2 = 0 ∨ (joinC agg bd a b).2 = 11 := by
 unfold joinC
 split
 ·split
  ·exact .inl rfl
  ·exact .inr rfl
 ·exact .inl rfl
def valsK (k : Ky) (l : List Rc) : List Int := (l.filter fun r => decide (r.1 = k)).map (·.2)
theorem vals_app (k : Ky) (a b : List Rc) : valsK k (a ++ b) = valsK k a ++ valsK k b := by unfold valsK; rw [List.filter_append, List.map_append]
theorem vals_same (k : Ky) (v : Int) : valsK k [(k, v)] = [v] := by simp [valsK]
theorem vals_other {k k' : Ky} (v : Int) (h : k' ≠ k) : valsK k [(k', v)] = [] := by simp [valsK, h]
def ones (agg : Int) (l : List Rc) : List Rw := l.map fun r => (r.1, oneC agg r.2)
theorem ones_app (agg : Int) (a b : List Rc) : ones agg (a ++ b) = ones agg a ++ ones agg b := by unfold ones; rw [List.map_append]
def foldR (agg : Int) (bd : Nat) (l : List Rc) : List Rw × Int := gat (joinC agg bd) (ones agg l)
theorem foldR_snoc (agg : Int) (bd : Nat) (l : List Rc) (r : Rc) : foldR agg bd (l ++ [r]) = stepG (joinC agg bd) (foldR agg bd l) (r.1, oneC agg r.2) := by
 unfold foldR
 rw [ones_app]
 exact gat_snoc _ _ _
theorem fold_rise (agg : Int) (bd : Nat) (l : List Rc) : RiseK (foldR agg bd l).1 := rise_gat _ _
theorem gat_err (agg : Int) (bd : Nat) (l : List Rw) : (gat (joinC agg bd) l).2 = 0 ∨ (gat (joinC agg bd) l).2 = 11 :=
 (all_gat (P := fun _ => True) (E := fun e => e = 0 ∨ e = 11) (fun a b _ _ => ⟨fun _ => trivial, joinC_err agg bd a b⟩) (.inl rfl) l (fun _ _ => trivial)).2
theorem fold_told (agg : Int) (bd : Nat) (hb : agg = 6 → 1 ≤ bd) (l : List Rc) :
  ((foldR agg bd l).2 = 0 → ∀ k, look (foldR agg bd l).1 k = (if valsK k l = [] then none else some (allC agg bd (valsK k l)).1) ∧ (valsK k l ≠ [] → (allC agg bd (valsK k l)).2 = 0)) ∧
  ((foldR agg bd l).2 ≠ 0 → ∃ k, valsK k l ≠ [] ∧ (allC agg bd (valsK k l)).2 ≠ 0) := by
 induction l using snoc_ind with
 | h0 => exact ⟨fun _ k => ⟨rfl, fun h => absurd rfl h⟩, fun h => absurd rfl h⟩
 | h1 l r ih =>
  obtain ⟨k0, v⟩ := r
  obtain ⟨i1, i2⟩ := ih
  have hone := allC_one agg bd v hb
  have herr := err_putR (J := joinC agg bd) (k := k0) (c := oneC agg v) (fold_rise agg bd l)
  rw [foldR_snoc]
  unfold stepG
  simp only
  have hwit : (∃ k, valsK k l ≠ [] ∧ (allC agg bd (valsK k l)).2 ≠ 0) → ∃ k, valsK k (l ++ [(k0, v)]) ≠ [] ∧ (allC agg bd (valsK k (l ++ [(k0, v)]))).2 ≠ 0 := by
   rintro ⟨k, hk, he⟩
   refine ⟨k, by rw [vals_app]; simp [hk], ?_⟩
   rw [vals_app]
   by_cases e : k0 = k
   ·subst e
    rw [vals_same, ((allC_app agg bd _ [v] hk (by simp)).2 (.inl he)).1]
    decide
   ·rw [vals_other v e, List.append_nil]
    exact he
  by_cases h0 : (foldR agg bd l).2 = 0
  ·have t1 := i1 h0
   rw [herr, (t1 k0).1]
   by_cases hv : valsK k0 l = []
   ·rw [if_pos hv]
    refine ⟨fun _ k => ?_, fun h => ?_⟩
    ·rw [look_putR (fold_rise agg bd l), vals_app]
     by_cases e : k = k0
     ·subst e
      rw [if_pos rfl, vals_same, hv, (t1 k).1, if_pos hv, List.nil_append, if_neg (by simp), hone]
      exact ⟨rfl, fun _ => rfl⟩
     ·rw [if_neg e, vals_other v (fun e' => e e'.symm), List.append_nil]
      exact t1 k
    ·simp only [errB, if_true] at h
     exact absurd h0 h
   ·rw [if_neg hv]
    have happ := (allC_app agg bd (valsK k0 l) [v] hv (by simp)).1 ((t1 k0).2 hv) (by rw [hone])
    rw [hone] at happ
    rw [show errB (joinC agg bd) (oneC agg v) (some (allC agg bd (valsK k0 l)).1) = (allC agg bd (valsK k0 l ++ [v])).2 by rw [happ]; rfl]
    refine ⟨fun h k => ?_, fun h => ?_⟩
    ·have he : (allC agg bd (valsK k0 l ++ [v])).2 = 0 := by
      by_cases h2 : (allC agg bd (valsK k0 l ++ [v])).2 = 0
      ·exact h2
      ·rw [if_neg h2] at h; exact h
     rw [look_putR (fold_rise agg bd l), vals_app]
     by_cases e : k = k0
     ·subst e
      rw [if_pos rfl, vals_same, (t1 k).1, if_neg hv, if_neg (by simp)]
      refine ⟨?_, fun _ => he⟩
      rw [both, show joinC agg bd (allC agg bd (valsK k l)).1 (oneC agg v) = allC agg bd (valsK k l ++ [v]) from happ.symm, if_pos he]
     ·rw [if_neg e, vals_other v (fun e' => e e'.symm), List.append_nil]
      exact t1 k
    ·refine ⟨k0, by rw [vals_app, vals_same]; simp, ?_⟩
     rw [vals_app, vals_same]
     intro h2
     rw [if_pos h2] at h
     exact h h0
  ·have w2 := hwit (i2 h0)
   refine ⟨fun h => ?_, fun _ => w2⟩
   exfalso
   split at h
   ·exact h0 h
   ·next h3 => exact h3 h
def fin (s : List Rw × Int) : List Rw × Int := if s.2 = 0 then s else ([], s.2)
theorem fin_ok {s : List Rw × Int} (h : s.2 = 0) : fin s = s := by unfold fin; rw [if_pos h]
theorem fin_bad {s : List Rw × Int} (h : s.2 ≠ 0) : fin s = ([], s.2) := by unfold fin; rw [if_neg h]
theorem parts_bad (agg : Int) (bd : Nat) (hb : agg = 6 → 1 ≤ bd) (L1 L2 : List Rc) (h : (foldR agg bd L1).2 ≠ 0 ∨ (foldR agg bd L2).2 ≠ 0) : (foldR agg bd (L1 ++ L2)).2 = 11 := by
 rcases gat_err agg bd (ones agg (L1 ++ L2)) with h0 | h0
 ·exfalso
  have t := (fold_told agg bd hb (L1 ++ L2)).1 h0
  rcases h with h | h
  ·obtain ⟨k, hk, he⟩ := (fold_told agg bd hb L1).2 h
   have := (t k).2 (by rw [vals_app]; simp [hk])
   rw [vals_app] at this
   by_cases h2 : valsK k L2 = []
   ·rw [h2, List.append_nil] at this; exact he this
   ·rw [((allC_app agg bd _ _ hk h2).2 (.inl he)).1] at this; cases this
  ·obtain ⟨k, hk, he⟩ := (fold_told agg bd hb L2).2 h
   have := (t k).2 (by rw [vals_app]; simp [hk])
   rw [vals_app] at this
   by_cases h2 : valsK k L1 = []
   ·rw [h2, List.nil_append] at this; exact he this
   ·rw [((allC_app agg bd _ _ h2 hk).2 (.inr he)).1] at this; cases this
 ·exact h0
set_option maxRecDepth 100000
theorem foldR_part {agg : Int} {bd : Nat} (hb : agg = 6 → 1 ≤ bd) {C : List (List Rc)} {c : List Rc} (hc : c ∈ C) (h : (foldR agg bd c).2 ≠ 0) : (foldR agg bd C.flatten).2 = 11 := by
 obtain ⟨A, B, rfl⟩ := List.append_of_mem hc
 rw [List.flatten_append, List.flatten_cons]
 refine parts_bad agg bd hb _ _ (.inr ?_)
 rw [parts_bad agg bd hb _ _ (.inl h)]
 decide
end Go.Proofs.YtclcgakfmcofaaaGreatDoor
namespace Go.Proofs.YtclcgakfmcofaaaGreatDoor
open Go.RowKit

theorem not_u64 (a : Int) (h0 : 0 ≤ a) (h1 : a < 18446744073709551616) : bits .xor .u64 IntKind.u64.max a = 18446744073709551615 - a := by
 obtain ⟨n, rfl⟩ := Int.eq_ofNat_of_zero_le h0
 have hn : n < 2 ^ 64 := by omega
 have hm : IntKind.u64.max = 18446744073709551615 := by decide
 have ha : BitVec.ofInt 64 18446744073709551615 = BitVec.allOnes 64 := by decide
 rw [hm]
 show IntKind.u64.wrap ((BitVec.ofInt 64 18446744073709551615 ^^^ BitVec.ofInt 64 (n : Int)).toNat : Int) = _
 rw [ha, BitVec.allOnes_xor, BitVec.toNat_not, BitVec.ofInt_natCast, BitVec.toNat_ofNat, Nat.mod_eq_of_lt hn, IntKind.wrap_u64]
 omega
theorem not_i64 (a : Int) (h0 : -9223372036854775808 ≤ a) (h1 : a ≤ 9223372036854775807) : bits .xor .i64 (-1) a = -a - 1 := by
 have ha : BitVec.ofInt 64 (-1) = BitVec.allOnes 64 := by decide
 show IntKind.i64.wrap ((BitVec.ofInt 64 (-1) ^^^ BitVec.ofInt 64 a).toNat : Int) = _
 rw [ha, BitVec.allOnes_xor, BitVec.toNat_not, BitVec.toNat_ofInt, IntKind.wrap_i64]
 omega
theorem and_mask (k : Nat) (hk : k < 64) (a : Int) : bits .and .u64 (IntKind.u64.wrap a) (2 ^ k - 1) = a % 2 ^ k := by
 have hm : (2 ^ k : Nat) < 2 ^ 64 := Nat.pow_lt_pow_right (by decide) hk
 have hp : 0 < 2 ^ k := Nat.two_pow_pos k
 have e1 : (BitVec.ofInt 64 (2 ^ k - 1)).toNat = 2 ^ k - 1 := by
  rw [show ((2 : Int) ^ k - 1) = ((2 ^ k - 1 : Nat) : Int) by rw [Int.natCast_sub (by omega)]; push_cast; rfl, BitVec.ofInt_natCast, BitVec.toNat_ofNat]
  exact Nat.mod_eq_of_lt (by omega)
 have e2 : (BitVec.ofInt 64 (IntKind.u64.wrap a)).toNat = (a % 18446744073709551616).toNat := by
  rw [BitVec.toNat_ofInt, IntKind.wrap_u64]
  congr 1
  omega
 show IntKind.u64.wrap ((BitVec.ofInt 64 (IntKind.u64.wrap a) &&& BitVec.ofInt 64 (2 ^ k - 1)).toNat : Int) = _
 rw [BitVec.toNat_and, e1, e2, Nat.and_two_pow_sub_one_eq_mod, IntKind.wrap_u64]
 have h64 : (18446744073709551616 : Int) = 2 ^ k * 2 ^ (64 - k) := by rw [← Int.pow_add, show k + (64 - k) = 64 by omega]; decide
 have e3 : (((a % 18446744073709551616).toNat % 2 ^ k : Nat) : Int) = a % 2 ^ k := by
  rw [Int.natCast_emod, Int.toNat_of_nonneg (by omega)]
  push_cast
  rw [h64]
  exact Int.emod_emod_of_dvd _ (Int.dvd_mul_right _ _)
 rw [e3]
 have hlt : a % 2 ^ k < 18446744073709551616 := by
  have := Int.emod_lt_of_pos a (show (0 : Int) < 2 ^ k from by exact_mod_cast hp)
  have h2 : (2 : Int) ^ k < 18446744073709551616 := by
   rw [show (2 : Int) ^ k = ((2 ^ k : Nat) : Int) by push_cast; rfl]
   omega
  omega
 exact Int.emod_eq_of_lt (Int.emod_nonneg _ (by have : (0 : Int) < 2 ^ k := by exact_mod_cast hp
                                                omega)) hlt
theorem and1 (u : Int) (h0 : 0 ≤ u) (h1 : u ≤ 18446744073709551615) : bits .and .u64 u 1 = u % 2 := by
 have := and_mask 1 (by decide) u
 rw [IntWalk.u64_in u ⟨h0, h1⟩] at this
 exact this
theorem or_join (i : Nat) (x y : Int) (hx0 : 0 ≤ x) (hx1 : x < 18446744073709551616) (hx : x % 2 ^ i = 0) (hy0 : 0 ≤ y) (hy : y < 2 ^ i) (hy1 : y < 18446744073709551616) : bits .or .u64 y x = x + y := by
 obtain ⟨n, rfl⟩ := Int.eq_ofNat_of_zero_le hx0
 obtain ⟨m, rfl⟩ := Int.eq_ofNat_of_zero_le hy0
 have h := nat_join i n m (by exact_mod_cast hx) (by exact_mod_cast hy)
 rw [bits_or_u64_nat m n (by omega) (by omega), Nat.or_comm, h]
 push_cast
 rfl
theorem or128 (u : Int) : bits .or .u8 (IntKind.u8.wrap u) 128 = u % 128 + 128 := by
 rw [IntKind.wrap_u8']
 have key : ∀ n : Nat, n < 256 → bits .or .u8 (n : Int) 128 = (n : Int) % 128 + 128 := by decide +kernel
 obtain ⟨n, hn⟩ := Int.eq_ofNat_of_zero_le (show 0 ≤ u % 256 by omega)
 rw [hn, key n (by omega)]
 omega
theorem andNot128 (u : Int) (h0 : 0 ≤ u) (h1 : u < 256) : bits .andNot .u8 u 128 = u % 128 := by
 have key : ∀ n : Nat, n < 256 → bits .andNot .u8 (n : Int) 128 = (n : Int) % 128 := by decide +kernel
 obtain ⟨n, rfl⟩ := Int.eq_ofNat_of_zero_le h0
 exact key n (by omega)
def zig (n : Int) : Int := if n < 0 then -2 * n - 1 else 2 * n
def zag (u : Int) : Int := if u % 2 = 1 then -(u / 2) - 1 else u / 2
theorem zig_bd (n : Int) (h0 : -9223372036854775808 ≤ n) (h1 : n ≤ 9223372036854775807) : 0 ≤ zig n ∧ zig n ≤ 18446744073709551615 := by unfold zig; split <;> omega
theorem zag_zig (n : Int) : zag (zig n) = n := by unfold zag zig; split <;> split <;> omega
theorem zig_zag (u : Int) (h : 0 ≤ u) : zig (zag u) = u := by unfold zag zig; split <;> split <;> omega
theorem zag_bd (u : Int) (h0 : 0 ≤ u) (h1 : u ≤ 18446744073709551615) : -9223372036854775808 ≤ zag u ∧ zag u ≤ 9223372036854775807 := by unfold zag; split <;> omega
def grp : Nat → Int → List Int
 | 0, _ => []
 | f + 1, u => if u < 128 then [u] else (u % 128 + 128) :: grp f (u / 128)
theorem grp_last (f : Nat) (u : Int) (h : u < 128) (hf : 0 < f) : grp f u = [u] := by
 obtain ⟨f, rfl⟩ := Nat.exists_eq_succ_of_ne_zero (Nat.pos_iff_ne_zero.1 hf)
 simp [grp, h]
theorem grp_more (f : Nat) (u : Int) (h : ¬ u < 128) : grp (f + 1) u = (u % 128 + 128) :: grp f (u / 128) := by simp [grp, h]
def Left (u0 u : Int) (l : List Int) : Prop := ∃ f, 0 < f ∧ l.length + f = 10 ∧ 0 ≤ u ∧ u < 2 ^ (7 * f) ∧ l ++ grp f u = grp 10 u0
theorem left_start (u : Int) (h0 : 0 ≤ u) (h1 : u ≤ 18446744073709551615) : Left u u [] := ⟨10, by decide, rfl, h0, by omega, rfl⟩
theorem left_step {u0 u : Int} {l : List Int} (h : Left u0 u l) (h1 : ¬ u < 128) : Left u0 (u / 128) (l ++ [u % 128 + 128]) := by
 obtain ⟨f, hf, hl, h0, hu, he⟩ := h
 match f, hf with
 | 1, _ => exact absurd hu (by omega)
 | f + 2, _ =>
  refine ⟨f + 1, by omega, by simp; omega, by omega, ?_, ?_⟩
  ·have : (2 : Int) ^ (7 * (f + 2)) = 2 ^ (7 * (f + 1)) * 128 := by rw [show 7 * (f + 2) = 7 * (f + 1) + 7 by omega, Int.pow_add]; rfl
   rw [this] at hu
   exact Int.ediv_lt_of_lt_mul (by decide) hu
  ·rw [← he, grp_more _ _ h1]; simp
theorem left_end {u0 u : Int} {l : List Int} (h : Left u0 u l) (h1 : u < 128) : l ++ [u] = grp 10 u0 := by
 obtain ⟨f, hf, hl, h0, hu, he⟩ := h
 rw [← he, grp_last f u h1 hf]
theorem left_len {u0 u : Int} {l : List Int} (h : Left u0 u l) : l.length ≤ 9 := by obtain ⟨f, hf, hl, _⟩ := h; omega
theorem left_pos {u0 u : Int} {l : List Int} (h : Left u0 u l) : 0 ≤ u := by obtain ⟨f, hf, hl, h0, _⟩ := h; exact h0
def bytesOf (n : Int) : ByteArray := strOfNums (grp 10 (zig n))
def takeL : List UInt8 → Nat → Int → Int × Int × Int
 | [], _, _ => (0, 0, 6)
 | c :: r, i, u =>
  if i = 9 ∧ 1 < c.toNat then (0, 0, 7)
  else if 128 ≤ c.toNat then takeL r (i + 1) (u + (c.toNat : Int) % 128 * 2 ^ (7 * i))
  else if c.toNat = 0 ∧ 0 < i then (0, 0, 7)
  else (zag (u + (c.toNat : Int) % 128 * 2 ^ (7 * i)), (i : Int) + 1, 0)
def takeOf (s : ByteArray) : Int × Int × Int := takeL s.data.toList 0 0
theorem takeL_nil (i : Nat) (u : Int) : takeL [] i u = (0, 0, 6) := rfl
theorem takeL_nine (c : UInt8) (r : List UInt8) (i : Nat) (u : Int) (h : i = 9) (hc : 1 < c.toNat) : takeL (c :: r) i u = (0, 0, 7) := by simp [takeL, h, hc]
theorem takeL_more (c : UInt8) (r : List UInt8) (i : Nat) (u : Int) (h : i ≠ 9) (hc : 128 ≤ c.toNat) : takeL (c :: r) i u = takeL r (i + 1) (u + (c.toNat : Int) % 128 * 2 ^ (7 * i)) := by
 simp [takeL, h, hc]
theorem takeL_zero (c : UInt8) (r : List UInt8) (i : Nat) (u : Int) (h : 0 < i) (hc : c.toNat = 0) : takeL (c :: r) i u = (0, 0, 7) := by simp [takeL, h, hc]
theorem takeL_end (c : UInt8) (r : List UInt8) (i : Nat) (u : Int) (h9 : i = 9 → c.toNat ≤ 1) (hc : c.toNat < 128) (h0 : c.toNat ≠ 0 ∨ i = 0) :
  takeL (c :: r) i u = (zag (u + (c.toNat : Int) % 128 * 2 ^ (7 * i)), (i : Int) + 1, 0) := by
 rw [takeL, if_neg (by omega), if_neg (by omega), if_neg (by omega)]
theorem or_step (k : Nat) (x c : Int) (hx0 : 0 ≤ x) (hx : x < 2 ^ (7 * k)) (hc0 : 0 ≤ c) (hc : c < 256) (hk : k ≤ 8 ∨ k = 9 ∧ c ≤ 1) :
  bits .or .u64 x (IntKind.u64.wrap (IntKind.u64.wrap (bits .andNot .u8 c 128) * 2 ^ (7 * k))) = x + c % 128 * 2 ^ (7 * k) ∧ 0 ≤ x + c % 128 * 2 ^ (7 * k) ∧ x + c % 128 * 2 ^ (7 * k) ≤ 18446744073709551615 ∧
   (k ≤ 8 → x + c % 128 * 2 ^ (7 * k) < 2 ^ (7 * (k + 1))) := by
 rw [andNot128 c hc0 hc, IntWalk.u64_in (c % 128) (by omega)]
 have hk' : k = 0 ∨ k = 1 ∨ k = 2 ∨ k = 3 ∨ k = 4 ∨ k = 5 ∨ k = 6 ∨ k = 7 ∨ k = 8 ∨ k = 9 := by omega
 rcases hk' with rfl | rfl | rfl | rfl | rfl | rfl | rfl | rfl | rfl | rfl
 all_goals
  simp only [Nat.reduceMul, Nat.reduceAdd, Int.reducePow] at hx ⊢
  rw [IntWalk.u64_in _ (by omega)]
 all_goals refine ⟨?_, by omega, by omega, by omega⟩
 ·rw [or_join 0 (c % 128 * 1) x (by omega) (by omega) (by omega) (by omega) (by omega) (by omega)]; omega
 ·rw [or_join 7 (c % 128 * _) x (by omega) (by omega) (by omega) (by omega) (by omega) (by omega)]; omega
 ·rw [or_join 14 (c % 128 * _) x (by omega) (by omega) (by omega) (by omega) (by omega) (by omega)]; omega
 ·rw [or_join 21 (c % 128 * _) x (by omega) (by omega) (by omega) (by omega) (by omega) (by omega)]; omega
 ·rw [or_join 28 (c % 128 * _) x (by omega) (by omega) (by omega) (by omega) (by omega) (by omega)]; omega
 ·rw [or_join 35 (c % 128 * _) x (by omega) (by omega) (by omega) (by omega) (by omega) (by omega)]; omega
 ·rw [or_join 42 (c % 128 * _) x (by omega) (by omega) (by omega) (by omega) (by omega) (by omega)]; omega
 ·rw [or_join 49 (c % 128 * _) x (by omega) (by omega) (by omega) (by omega) (by omega) (by omega)]; omega
 ·rw [or_join 56 (c % 128 * _) x (by omega) (by omega) (by omega) (by omega) (by omega) (by omega)]; omega
 ·rw [or_join 63 (c % 128 * _) x (by omega) (by omega) (by omega) (by omega) (by omega) (by omega)]; omega
theorem drop_byte (s : ByteArray) (k : Nat) (h : k < s.size) : s.data.toList.drop k = s[k] :: s.data.toList.drop (k + 1) := by
 rw [List.drop_eq_getElem_cons (by simpa using h)]; rfl
theorem drop_end (s : ByteArray) (k : Nat) (h : s.size ≤ k) : s.data.toList.drop k = [] := List.drop_of_length_le (by simpa using h)
def enc (l : List Int) : List UInt8 := l.map fun n => UInt8.ofNat n.toNat
theorem bytesOf_list (n : Int) : (bytesOf n).data.toList = enc (grp 10 (zig n)) := strOfNums_data _
theorem bytesOf_size (n : Int) : (bytesOf n).size = (grp 10 (zig n)).length := strOfNums_size _
theorem byte_of (z : Int) (h0 : 0 ≤ z) (h1 : z < 256) : ((UInt8.ofNat z.toNat).toNat : Int) = z := by rw [UInt8.toNat_ofNat']; omega
theorem byte_ofN (z : Int) (h0 : 0 ≤ z) (h1 : z < 256) : (UInt8.ofNat z.toNat).toNat = z.toNat := by rw [UInt8.toNat_ofNat']; omega
theorem parts (u P : Int) : u * P = u % 128 * P + u / 128 * (P * 128) := by
 have h := Int.emod_add_mul_ediv u 128
 have e : u / 128 * (P * 128) = 128 * (u / 128) * P := by rw [Int.mul_comm P 128, ← Int.mul_assoc, Int.mul_comm (u / 128) 128]
 rw [e, ← Int.add_mul, h]
theorem pow7 (i : Nat) : (2 : Int) ^ (7 * (i + 1)) = 2 ^ (7 * i) * 128 := by rw [show 7 * (i + 1) = 7 * i + 7 by omega, Int.pow_add]; rfl
theorem pow7_pos (i : Nat) : (1 : Int) ≤ 2 ^ (7 * i) := Int.pow_pos (by decide)
theorem not_nine {i : Nat} {acc u : Int} (h9 : i ≤ 9) (hacc : 0 ≤ acc) (ht : acc + u * 2 ^ (7 * i) ≤ 18446744073709551615) (hu : ¬ u < 128) : i ≠ 9 := by
 rintro rfl
 simp only [Nat.reduceMul, Int.reducePow] at ht
 omega
theorem nine {i : Nat} {acc u : Int} (hacc : 0 ≤ acc) (ht : acc + u * 2 ^ (7 * i) ≤ 18446744073709551615) (h9 : i = 9) : u ≤ 1 := by
 subst h9
 simp only [Nat.reduceMul, Int.reducePow] at ht
 omega
theorem takes (rest : List UInt8) : ∀ (f i : Nat) (u acc : Int), 0 < f → i ≤ 9 → 0 ≤ u → u < 2 ^ (7 * f) → 0 ≤ acc → acc < 2 ^ (7 * i) → acc + u * 2 ^ (7 * i) ≤ 18446744073709551615 → (u ≠ 0 ∨ i = 0) →
  takeL (enc (grp f u) ++ rest) i acc = (zag (acc + u * 2 ^ (7 * i)), (i : Int) + (grp f u).length, 0) := by
 intro f
 induction f with
 | zero => intro i u acc h; omega
 | succ f ih =>
  intro i u acc _ h9 h0 hu ha0 ha ht hz
  by_cases hl : u < 128
  ·rw [grp_last _ _ hl (by omega)]
   have hb : (UInt8.ofNat u.toNat).toNat = u.toNat := byte_ofN u h0 (by omega)
   have hB := byte_of u h0 (by omega)
   show takeL (UInt8.ofNat u.toNat :: ([] ++ rest)) i acc = _
   rw [takeL_end _ _ _ _ (fun h => by have := nine ha0 ht h; omega) (by omega) (by omega), hB, Int.emod_eq_of_lt h0 hl]
   rfl
  ·have hi := not_nine h9 ha0 ht hl
   have hf : 0 < f := by
    rcases Nat.eq_zero_or_pos f with rfl | h
    ·simp at hu; omega
    ·exact h
   rw [grp_more _ _ hl]
   have hb : (UInt8.ofNat (u % 128 + 128).toNat).toNat = (u % 128 + 128).toNat := byte_ofN _ (by omega) (by omega)
   have hB := byte_of (u % 128 + 128) (by omega) (by omega)
   show takeL (UInt8.ofNat (u % 128 + 128).toNat :: (enc (grp f (u / 128)) ++ rest)) i acc = _
   rw [takeL_more _ _ _ _ hi (by omega), hB, show (u % 128 + 128) % 128 = u % 128 by omega]
   have hp := parts u (2 ^ (7 * i))
   have hP := pow7_pos i
   have hP7 := pow7 i
   have hm : 0 ≤ u % 128 * 2 ^ (7 * i) := Int.mul_nonneg (by omega) (by omega)
   have hm' : u % 128 * 2 ^ (7 * i) ≤ 127 * 2 ^ (7 * i) := Int.mul_le_mul_of_nonneg_right (by omega) (by omega)
   have huf : u / 128 < 2 ^ (7 * f) := by
    rw [pow7] at hu
    exact Int.ediv_lt_of_lt_mul (by decide) hu
   have := ih (i + 1) (u / 128) (acc + u % 128 * 2 ^ (7 * i)) hf (by omega) (by omega) huf (by omega) (by rw [hP7]; omega) (by rw [hP7]; omega) (by left; omega)
   rw [this, hP7, Int.add_assoc, ← hp]
   simp only [List.length_cons]
   congr 2
   push_cast
   omega
theorem taken : ∀ (l : List UInt8) (i : Nat) (acc : Int), i ≤ 9 → 0 ≤ acc → acc < 2 ^ (7 * i) → (takeL l i acc).2.2 = 0 →
  ∃ u : Int, 0 ≤ u ∧ (u ≠ 0 ∨ i = 0) ∧ acc + u * 2 ^ (7 * i) ≤ 18446744073709551615 ∧ (takeL l i acc).1 = zag (acc + u * 2 ^ (7 * i)) ∧ (takeL l i acc).2.1 = (i : Int) + (grp (10 - i) u).length ∧
   (grp (10 - i) u).length ≤ l.length ∧ l.take (grp (10 - i) u).length = enc (grp (10 - i) u) := by
 intro l
 induction l with
 | nil => intro i acc _ _ _ h; simp [takeL] at h
 | cons c r ih =>
  intro i acc h9 h0 ha he
  have hc := c.toNat_lt
  have hP := pow7_pos i
  by_cases hn : i = 9 ∧ 1 < c.toNat
  ·rw [takeL_nine _ _ _ _ hn.1 hn.2] at he; simp at he
  ·by_cases hm : 128 ≤ c.toNat
   ·have hi : i ≠ 9 := by omega
    rw [takeL_more _ _ _ _ hi hm] at he ⊢
    have hm0 : 0 ≤ (c.toNat : Int) % 128 * 2 ^ (7 * i) := Int.mul_nonneg (by omega) (by omega)
    have hm' : (c.toNat : Int) % 128 * 2 ^ (7 * i) ≤ 127 * 2 ^ (7 * i) := Int.mul_le_mul_of_nonneg_right (by omega) (by omega)
    obtain ⟨u, hu0, huz, hut, h1, h2, h3, h4⟩ := ih (i + 1) _ (by omega) (by omega) (by rw [pow7]; omega) he
    have huz' : u ≠ 0 := by omega
    have e1 : ((c.toNat : Int) % 128 + 128 * u) % 128 = (c.toNat : Int) % 128 := by omega
    have e2 : ((c.toNat : Int) % 128 + 128 * u) / 128 = u := by omega
    have hp := parts ((c.toNat : Int) % 128 + 128 * u) (2 ^ (7 * i))
    rw [e1, e2] at hp
    rw [pow7] at hut h1
    have hg : grp (10 - i) ((c.toNat : Int) % 128 + 128 * u) = (c.toNat : Int) :: grp (10 - (i + 1)) u := by
     rw [show 10 - i = (10 - (i + 1)) + 1 by omega, grp_more _ _ (by omega), e1, e2, show (c.toNat : Int) % 128 + 128 = (c.toNat : Int) by omega]
    refine ⟨(c.toNat : Int) % 128 + 128 * u, by omega, by omega, by rw [hp]; omega, ?_, ?_, ?_, ?_⟩
    ·rw [h1, hp, Int.add_assoc]
    ·rw [h2, hg, List.length_cons]; push_cast; omega
    ·rw [hg, List.length_cons, List.length_cons]; omega
    ·rw [hg, List.length_cons, List.take_succ_cons, h4]
     simp [enc]
   ·by_cases hz : c.toNat = 0 ∧ 0 < i
    ·rw [takeL_zero _ _ _ _ hz.2 hz.1] at he; simp at he
    ·rw [takeL_end _ _ _ _ (by omega) (by omega) (by omega)] at he ⊢
     have hg : grp (10 - i) (c.toNat : Int) = [(c.toNat : Int)] := grp_last _ _ (by omega) (by omega)
     rw [show (c.toNat : Int) % 128 = (c.toNat : Int) by omega]
     refine ⟨(c.toNat : Int), by omega, by omega, ?_, rfl, by rw [hg]; rfl, by rw [hg]; simp, by rw [hg]; simp [enc]⟩
     by_cases hi : i = 9
     ·subst hi
      simp only [Nat.reduceMul, Int.reducePow] at ha ⊢
      omega
     ·have h8 : i ≤ 8 := by omega
      have hmm : (c.toNat : Int) * 2 ^ (7 * i) ≤ 127 * 2 ^ (7 * i) := Int.mul_le_mul_of_nonneg_right (by omega) (by omega)
      have hle : (2 : Int) ^ (7 * i) ≤ 2 ^ 56 := by
       exact_mod_cast Nat.pow_le_pow_right (by decide) (show 7 * i ≤ 56 by omega)
      have : (2 : Int) ^ 56 = 72057594037927936 := by decide
      omega
theorem extract_list (s : ByteArray) (t : Nat) : (s.extract 0 t).data.toList = s.data.toList.take t := by
 simp [ByteArray.data_extract]
theorem take_bytes (n : Int) (h1 : -9223372036854775808 ≤ n) (h2 : n ≤ 9223372036854775807) (x : ByteArray) : takeOf (bytesOf n ++ x) = (n, ((bytesOf n).size : Int), 0) := by
 obtain ⟨z0, z1⟩ := zig_bd n h1 h2
 have e : (bytesOf n ++ x).data.toList = enc (grp 10 (zig n)) ++ x.data.toList := by rw [← bytesOf_list]; simp [ByteArray.data_append]
 unfold takeOf
 rw [e, takes x.data.toList 10 0 (zig n) 0 (by decide) (by decide) z0 (by omega) (by decide) (by decide) (by omega) (Or.inr rfl), bytesOf_size]
 simp [zag_zig]
theorem grp_len (f : Nat) : ∀ u : Int, (grp f u).length ≤ f := by
 induction f with
 | zero => intro u; simp [grp]
 | succ f ih =>
  intro u
  unfold grp
  split
  ·simp
  ·simp [ih]
theorem bytes_len (n : Int) : (bytesOf n).size ≤ 10 := by rw [bytesOf_size]; exact grp_len 10 _
theorem take_back (x : ByteArray) (m j : Int) (h : takeOf x = (m, j, 0)) :
  ∃ q : Nat, j = (q : Int) ∧ q ≤ x.size ∧ -9223372036854775808 ≤ m ∧ m ≤ 9223372036854775807 ∧ bytesOf m = x.extract 0 q := by
 unfold takeOf at h
 obtain ⟨u, hu0, _, hut, e1, e2, e3, e4⟩ := taken x.data.toList 0 0 (by decide) (by decide) (by decide) (by rw [h])
 rw [h] at e1 e2
 simp only [Nat.mul_zero, Int.pow_zero, Int.mul_one, Int.zero_add, Nat.sub_zero] at e1 e2 e3 e4 hut
 obtain ⟨b1, b2⟩ := zag_bd u hu0 hut
 refine ⟨(grp 10 u).length, by simpa using e2, by simpa using e3, by rw [e1]; exact b1, by rw [e1]; exact b2, ?_⟩
 apply ByteArray.ext
 apply Array.toList_inj.1
 rw [bytesOf_list, extract_list, e4, e1, zig_zag u hu0]
end Go.Proofs.YtclcgakfmcofaaaGreatDoor
namespace Go.Proofs.YtclcgakfmcofaaaGreatDoor
set_option linter.unusedVariables false

set_option maxRecDepth 100000
def from' (s : ByteArray) (n : Int) : ByteArray := s.extract n.toNat s.size
abbrev L (s : ByteArray) : List UInt8 := s.data.toList
theorem L_app (a b : ByteArray) : L (a ++ b) = L a ++ L b := by simp [L, ByteArray.data_append]
theorem L_ext (s : ByteArray) (i j : Nat) : L (s.extract i j) = ((L s).drop i).take (j - i) := Lib.extract_data s i j
theorem L_len (s : ByteArray) : (L s).length = s.size := (Lib.size_eq s).symm
theorem from_app (a b : ByteArray) : from' (a ++ b) (a.size : Int) = b := by
 apply ba_ext
 show L _ = L b
 unfold from'
 rw [L_ext, L_app, Int.toNat_natCast, ← L_len a, List.drop_left, List.take_of_length_le]
 rw [ByteArray.size_append, L_len, L_len]; omega
theorem app_assoc (a b c : ByteArray) : a ++ b ++ c = a ++ (b ++ c) := by
 apply ba_ext; show L _ = L _; simp only [L_app, List.append_assoc]
theorem ext_mid (a b c : ByteArray) : (a ++ (b ++ c)).extract a.size (a.size + b.size) = b := by
 apply ba_ext; show L _ = L _
 rw [L_ext, L_app, L_app, ← L_len a, List.drop_left, Nat.add_sub_cancel_left, ← L_len b, List.take_left]
theorem nil_app (a : ByteArray) : (⟨#[]⟩ : ByteArray) ++ a = a := by apply ba_ext; show L _ = L _; rw [L_app]; rfl
theorem app_nil (a : ByteArray) : a ++ (⟨#[]⟩ : ByteArray) = a := by apply ba_ext; show L _ = L _; rw [L_app]; simp [L]
set_option maxRecDepth 100000
def kBytes (x : Ky) : ByteArray := bytesOf x.1 ++ bytesOf (x.2.size : Int) ++ x.2
def textOf (s : ByteArray) : ByteArray × Int × Int :=
 if (takeOf s).2.2 ≠ 0 then (⟨#[]⟩, 0, (takeOf s).2.2)
 else if (takeOf s).1 < 0 ∨ 64 < (takeOf s).1 then (⟨#[]⟩, 0, 2)
 else if (s.size : Int) < (takeOf s).2.1 + (takeOf s).1 then (⟨#[]⟩, 0, 6)
 else (s.extract (takeOf s).2.1.toNat ((takeOf s).2.1 + (takeOf s).1).toNat, (takeOf s).2.1 + (takeOf s).1, 0)
def kTake (s : ByteArray) : Ky × Int × Int :=
 if (takeOf s).2.2 ≠ 0 then (k0, 0, (takeOf s).2.2)
 else if (textOf (from' s (takeOf s).2.1)).2.2 ≠ 0 then (k0, 0, (textOf (from' s (takeOf s).2.1)).2.2)
 else (((takeOf s).1, (textOf (from' s (takeOf s).2.1)).1), (takeOf s).2.1 + (textOf (from' s (takeOf s).2.1)).2.1, 0)
theorem textOf_bytes (b y : ByteArray) (h : b.size ≤ 64) : textOf (bytesOf (b.size : Int) ++ (b ++ y)) = (b, (((bytesOf (b.size : Int)).size + b.size : Nat) : Int), 0) := by
 have e := take_bytes (b.size : Int) (by omega) (by omega) (b ++ y)
 unfold textOf
 rw [e]
 simp only [ne_eq, not_true_eq_false, if_false]
 rw [if_neg (by omega), if_neg (by rw [ByteArray.size_append, ByteArray.size_append]; omega)]
 have : (((bytesOf (b.size : Int)).size : Int) + (b.size : Int)).toNat = (bytesOf (b.size : Int)).size + b.size := by omega
 rw [this, Int.toNat_natCast, ext_mid]
 simp
theorem kTake_bytes (x : Ky) (h : x.2.size ≤ 64) (h1 : -9223372036854775808 ≤ x.1) (h2 : x.1 ≤ 9223372036854775807) (y : ByteArray) : kTake (kBytes x ++ y) = (x, ((kBytes x).size : Int), 0) := by
 have e0 : kBytes x ++ y = bytesOf x.1 ++ (bytesOf (x.2.size : Int) ++ (x.2 ++ y)) := by unfold kBytes; simp only [app_assoc]
 have e := take_bytes x.1 h1 h2 (bytesOf (x.2.size : Int) ++ (x.2 ++ y))
 have es : (kBytes x).size = (bytesOf x.1).size + ((bytesOf (x.2.size : Int)).size + x.2.size) := by unfold kBytes; rw [ByteArray.size_append, ByteArray.size_append]; omega
 rw [es, e0]
 unfold kTake
 rw [e]
 simp only [ne_eq, not_true_eq_false, if_false]
 rw [from_app, textOf_bytes _ _ h]
 simp
end Go.Proofs.YtclcgakfmcofaaaGreatDoor
namespace Go.Proofs.YtclcgakfmcofaaaGreatDoor
open Go.RowKit
set_option linter.unusedVariables false

set_option maxRecDepth 100000
theorem ret_int {k : IntKind} {a b : Int} (h : a = b) : Ending.returned (.int k a) = .returned (.int k b) := by rw [h]
end Go.Proofs.YtclcgakfmcofaaaGreatDoor
