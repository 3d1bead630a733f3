/- Texts laid together: KBase, KOrd, GPlain, WPlain, RBase, WPart, MPlain, Plain, Back, BaL, KBy, RetI. -/
import Derived.WalkKit
import Derived.Lib.Small
import Derived.Lib.Bytealg
import Derived.Lib.Strings
import Derived.Test.YtclcgakfmcofaaaGreatDoorRows
set_option linter.unusedVariables false
set_option maxRecDepth 100000
namespace Go.Proofs.YtclcgakfmcofaaaGreatDoor
abbrev Ky := Int × ByteArray
abbrev k0 : Ky := (0, ⟨#[]⟩)
theorem bT {a b : ByteArray} (h : a.data.toList = b.data.toList) : a = b := by
 cases a; cases b; simp at h; rw [h]
end Go.Proofs.YtclcgakfmcofaaaGreatDoor
namespace Go.Proofs.YtclcgakfmcofaaaGreatDoor
open Go.RowKit
theorem nU : ∀ a : List UInt8, Op.bytesLess a a = false
 | [] => rfl
 | a :: x => by simp [Op.bytesLess, nU x]
theorem bl_trans : ∀ a b c : List UInt8, Op.bytesLess a b = true → Op.bytesLess b c = true → Op.bytesLess a c = true
 | [], [], _, h, _ => by simp [Op.bytesLess] at h
 | [], _ :: _, [], _, h => by simp [Op.bytesLess] at h
 | [], _ :: _, _ :: _, _, _ => rfl
 | _ :: _, [], _, h, _ => by simp [Op.bytesLess] at h
 | _ :: _, _ :: _, [], _, h => by simp [Op.bytesLess] at h
 | a :: x, b :: y, c :: z, h1, h2 => by
  simp only [Op.bytesLess, Bool.or_eq_true, decide_eq_true_eq, Bool.and_eq_true, beq_iff_eq] at *
  rcases h1 with h1 | ⟨rfl, h1⟩
  ·rcases h2 with h2 | ⟨rfl, h2⟩
   ·exact .inl (UInt8.lt_trans h1 h2)
   ·exact .inl h1
  ·rcases h2 with h2 | ⟨rfl, h2⟩
   ·exact .inl h2
   ·exact .inr ⟨rfl, bl_trans x y z h1 h2⟩
theorem bl_total : ∀ a b : List UInt8, Op.bytesLess a b = false → Op.bytesLess b a = false → a = b
 | [], [], _, _ => rfl
 | [], _ :: _, h, _ => by simp [Op.bytesLess] at h
 | _ :: _, [], _, h => by simp [Op.bytesLess] at h
 | a :: x, b :: y, h1, h2 => by
  simp only [Op.bytesLess, Bool.or_eq_false_iff, decide_eq_false_iff_not, Bool.and_eq_false_iff, beq_eq_false_iff_ne] at *
  have e : a = b := UInt8.le_antisymm (UInt8.not_lt.1 h2.1) (UInt8.not_lt.1 h1.1)
  subst e
  rw [bl_total x y (by simpa using h1.2) (by simpa using h2.2)]
theorem cb_eq : ∀ a b : List UInt8, Lib.compareBytes a b = if Op.bytesLess a b then -1 else if a = b then 0 else 1
 | [], [] => rfl
 | [], _ :: _ => rfl
 | _ :: _, [] => rfl
 | a :: x, b :: y => by
  unfold Lib.compareBytes
  by_cases h1 : a < b
  ·simp [Op.bytesLess, h1]
  ·by_cases h2 : b < a
   ·have hne : a ≠ b := fun e => by subst e; exact UInt8.lt_irrefl _ h2
    simp [Op.bytesLess, h1, h2, hne]
   ·have e : a = b := UInt8.le_antisymm (UInt8.not_lt.1 h2) (UInt8.not_lt.1 h1)
    subst e
    rw [if_neg h1, if_neg h1, cb_eq x y]
    simp [Op.bytesLess]
def dk (x y : Ky) : Bool := decide (x.1 < y.1) || (decide (x.1 = y.1) && Op.bytesLess x.2.data.toList y.2.data.toList)
def cfK (x y : Ky) : Int := if dk x y then -1 else if x = y then 0 else 1
theorem dr (x : Ky) : dk x x = false := by simp [dk, nU]
theorem cB {x y z : Ky} (h1 : dk x y = true) (h2 : dk y z = true) : dk x z = true := by
 simp only [dk, Bool.or_eq_true, decide_eq_true_eq, Bool.and_eq_true] at *
 rcases h1 with h1 | ⟨e1, h1⟩ <;> rcases h2 with h2 | ⟨e2, h2⟩
 ·exact .inl (by omega)
 ·exact .inl (by omega)
 ·exact .inl (by omega)
 ·exact .inr ⟨by omega, bl_trans _ _ _ h1 h2⟩
theorem hI {x y : Ky} (h1 : dk x y = false) (h2 : dk y x = false) : x = y := by
 simp only [dk, Bool.or_eq_false_iff, decide_eq_false_iff_not, Bool.and_eq_false_iff] at *
 have e : x.1 = y.1 := by omega
 refine Prod.ext e (bT (bl_total _ _ ?_ ?_))
 ·exact h1.2.resolve_left (fun h => h e)
 ·exact h2.2.resolve_left (fun h => h e.symm)
theorem nV {x y : Ky} (h : dk x y = true) : dk y x = false := by
 cases h2 : dk y x
 ·rfl
 ·have := cB h h2; rw [dr] at this; cases this
theorem ltK_ne {x y : Ky} (h : dk x y = true) : x ≠ y := fun e => by rw [e, dr] at h; cases h
theorem leK_trans {x y z : Ky} (h1 : dk y x = false) (h2 : dk z y = false) : dk z x = false := by
 cases h : dk z x
 ·rfl
 ·cases h3 : dk x y
  ·have e := hI h3 h1; subst e; rw [h] at h2; cases h2
  ·rw [cB h h3] at h2; cases h2
theorem cfK_eq (x y : Ky) : cfK x y = if Lib.compareInt x.1 y.1 ≠ 0 then Lib.compareInt x.1 y.1 else Lib.compareBytes x.2.data.toList y.2.data.toList := by
 unfold cfK Lib.compareInt
 rw [cb_eq]
 by_cases h1 : x.1 < y.1
 ·simp [dk, h1]
 ·by_cases h2 : y.1 < x.1
  ·have hne : x ≠ y := fun e => by rw [e] at h2; omega
   have : ¬ x.1 = y.1 := by omega
   simp [dk, h1, h2, hne, this]
  ·have e : x.1 = y.1 := by omega
   have hiff : x = y ↔ x.2.data.toList = y.2.data.toList := ⟨fun e => by rw [e], fun h => Prod.ext e (bT h)⟩
   simp [dk, e, hiff]
theorem ko : ∀ {s t : List Ky}, (∀ x, x ∈ s ↔ x ∈ t) → s.Pairwise (fun x y => dk x y = true) → t.Pairwise (fun x y => dk x y = true) → s = t
 | [], [], _, _, _ => rfl
 | [], b :: t, h, _, _ => by have := (h b).2 List.mem_cons_self; simp at this
 | a :: s, [], h, _, _ => by have := (h a).1 List.mem_cons_self; simp at this
 | a :: s, b :: t, h, h1, h2 => by
  obtain ⟨a1, a2⟩ := List.pairwise_cons.1 h1
  obtain ⟨b1, b2⟩ := List.pairwise_cons.1 h2
  have e : a = b := by
   rcases List.mem_cons.1 ((h a).1 List.mem_cons_self) with e | ha
   ·exact e
   rcases List.mem_cons.1 ((h b).2 List.mem_cons_self) with e | hb
   ·exact e.symm
   have := nV (b1 a ha)
   rw [a1 b hb] at this; cases this
  subst e
  have hm : ∀ x, x ∈ s ↔ x ∈ t := fun x => by
   constructor
   ·intro hx
    rcases List.mem_cons.1 ((h x).1 (List.mem_cons_of_mem _ hx)) with e | hx'
    ·subst e; have := a1 x hx; rw [dr] at this; cases this
    ·exact hx'
   ·intro hx
    rcases List.mem_cons.1 ((h x).2 (List.mem_cons_of_mem _ hx)) with e | hx'
    ·subst e; have := b1 x hx; rw [dr] at this; cases this
    ·exact hx'
  rw [ko hm a2 b2]
theorem nodup_le : ∀ {ks l : List Ky}, ks.Nodup → (∀ x ∈ ks, x ∈ l) → ks.length ≤ l.length
 | [], _, _, _ => Nat.zero_le _
 | k :: ks, l, hn, h => by
  obtain ⟨h1, h2⟩ := List.nodup_cons.1 hn
  obtain ⟨s, t, rfl⟩ := List.append_of_mem (h k List.mem_cons_self)
  have := nodup_le (l := s ++ t) h2 (fun x hx => by
   have h3 := h x (List.mem_cons_of_mem _ hx)
   have hne : x ≠ k := fun e => h1 (e ▸ hx)
   simpa [hne] using h3)
  simp at this ⊢
  omega
abbrev bl (l : List Int) : Prop := l.Pairwise (· < ·)
theorem bl.nil : bl [] := List.Pairwise.nil
theorem cQ {x : Int} {l : List Int} : bl (x :: l) ↔ (∀ y ∈ l, x < y) ∧ bl l := List.pairwise_cons
theorem kp {x : Int} {l : List Int} (h : bl l) (hx : ∀ y ∈ l, y < x) : bl (l ++ [x]) := by
 unfold bl
 rw [List.pairwise_append]
 exact ⟨h, by simp, fun a ha b hb => by simp at hb; subst hb; exact hx a ha⟩
theorem gF : ∀ {l m : List Int}, bl l → bl m → (∀ z, z ∈ l ↔ z ∈ m) → l = m
 | [], [], _, _, _ => rfl
 | [], y :: m, _, _, h => by have := (h y).2 (by simp); simp at this
 | x :: l, [], _, _, h => by have := (h x).1 (by simp); simp at this
 | x :: l, y :: m, hl, hm, h => by
  rw [cQ] at hl hm
  have hxy : x = y := by
   have h1 := (h x).1 (by simp)
   have h2 := (h y).2 (by simp)
   rw [List.mem_cons] at h1 h2
   rcases h1 with h1 | h1
   ·exact h1
   ·rcases h2 with h2 | h2
    ·exact h2.symm
    ·have := hm.1 x h1
     have := hl.1 y h2
     omega
  subst hxy
  have : l = m := gF hl.2 hm.2 fun z => by
   have hz := h z
   rw [List.mem_cons, List.mem_cons] at hz
   constructor
   ·intro h1
    rcases hz.1 (.inr h1) with h2 | h2
    ·have := hl.1 z h1; omega
    ·exact h2
   ·intro h1
    rcases hz.2 (.inr h1) with h2 | h2
    ·have := hm.1 z h1; omega
    ·exact h2
  rw [this]
def jm (x : Int) : List Int → List Int
 | [] => [x]
 | y :: l => if x < y then x :: y :: l else if x = y then y :: l else y :: jm x l
theorem jq (x z : Int) : ∀ l, z ∈ jm x l ↔ z = x ∨ z ∈ l
 | [] => by simp [jm]
 | y :: l => by
  unfold jm
  split
  ·simp
  ·split
   ·rename_i h1 h2
    subst h2
    simp
   ·simp only [List.mem_cons, jq x z l]
    constructor
    ·rintro (h | h | h)
     ·exact .inr (.inl h)
     ·exact .inl h
     ·exact .inr (.inr h)
    ·rintro (h | h | h)
     ·exact .inr (.inl h)
     ·exact .inl h
     ·exact .inr (.inr h)
theorem jr (x : Int) : ∀ l, bl l → bl (jm x l)
 | [], _ => by simp [jm, bl]
 | y :: l, h => by
  rw [cQ] at h
  unfold jm
  split
  ·rename_i h1
   rw [cQ, cQ]
   exact ⟨fun z hz => by rw [List.mem_cons] at hz; rcases hz with rfl | hz; exact h1; have := h.1 z hz; omega, h⟩
  ·split
   ·rw [cQ]; exact h
   ·rename_i h1 h2
    rw [cQ]
    exact ⟨fun z hz => by rw [jq] at hz; rcases hz with rfl | hz; omega; exact h.1 z hz, jr x l h.2⟩
def uni (a b : List Int) : List Int := a.foldr jm b
theorem lR (a b : List Int) (z : Int) : z ∈ uni a b ↔ z ∈ a ∨ z ∈ b := by
 induction a with
 | nil => simp [uni]
 | cons x a ih =>
  show z ∈ jm x (uni a b) ↔ _
  rw [jq, ih, List.mem_cons]
  constructor
  ·rintro (h | h | h)
   ·exact .inl (.inl h)
   ·exact .inl (.inr h)
   ·exact .inr h
  ·rintro ((h | h) | h)
   ·exact .inl h
   ·exact .inr (.inl h)
   ·exact .inr (.inr h)
theorem jt (a : List Int) {b : List Int} (h : bl b) : bl (uni a b) := by
 induction a with
 | nil => exact h
 | cons x a ih => exact jr x _ ih
def once (l : List Int) : List Int := uni l []
theorem mb (l : List Int) (z : Int) : z ∈ once l ↔ z ∈ l := by unfold once; rw [lR]; simp
theorem hU (l : List Int) : bl (once l) := jt l bl.nil
def sumF (x y : Int) : Int := wrap64 (x + y)
def kr (x y : Int) : Int := if 4611686018427387904 - y < x then 4611686018427387904 else x + y
def orF (x y : Int) : Int := bits .or .i64 x y
theorem cnt_P (x y : Int) (hx : 0 ≤ x ∧ x ≤ 4611686018427387904) (hy : 0 ≤ y ∧ y ≤ 4611686018427387904) : 0 ≤ kr x y ∧ kr x y ≤ 4611686018427387904 := by unfold kr; split <;> omega
def nF (agg : Int) : Int → Int → Int := if agg = 1 then sumF else if agg = 2 then kr else if agg = 3 then min else if agg = 4 then max else orF
def nP (agg : Int) (x : Int) : Prop := agg = 2 → 0 ≤ x ∧ x ≤ 4611686018427387904
theorem nF_P (agg : Int) (x y : Int) (hx : nP agg x) (hy : nP agg y) : nP agg (nF agg x y) := by
 intro h
 subst h
 exact cnt_P x y (hx rfl) (hy rfl)
def n1 (agg v : Int) : Int := if agg = 2 then 1 else v
abbrev Cl := Int × List Int
def am (agg : Int) (bound : Nat) (a b : Cl) : Cl × Int :=
 if agg = 6 then (if (uni a.2 b.2).length ≤ bound then ((0, uni a.2 b.2), 0) else ((0, []), 11)) else ((nF agg a.1 b.1, []), 0)
def dt (agg v : Int) : Cl := if agg = 6 then (0, [v]) else (n1 agg v, [])
abbrev Rw := Ky × Cl
abbrev aZ (l : List Rw) : Prop := l.Pairwise (fun a b => dk a.1 b.1 = true)
theorem bU {r : Rw} {l : List Rw} : aZ (r :: l) ↔ (∀ y ∈ l, dk r.1 y.1 = true) ∧ aZ l := List.pairwise_cons
def aC : List Rw → Ky → Option Cl
 | [], _ => none
 | r :: l, k => if r.1 = k then some r.2 else aC l k
theorem look_skip {r : Rw} {l : List Rw} {k : Ky} (h : r.1 ≠ k) : aC (r :: l) k = aC l k := by
 rw [aC.eq_def]
 simp only [if_neg h]
theorem look_none {l : List Rw} {k : Ky} : aC l k = none ↔ ∀ r ∈ l, r.1 ≠ k := by
 induction l with
 | nil => simp [aC]
 | cons r l ih =>
  unfold aC
  by_cases h : r.1 = k
  ·simp [h]
  ·rw [if_neg h, ih]
   simp [h]
theorem jv {l : List Rw} {k : Ky} {c : Cl} (h : aC l k = some c) : (k, c) ∈ l := by
 induction l with
 | nil => simp [aC] at h
 | cons r l ih =>
  unfold aC at h
  by_cases e : r.1 = k
  ·rw [if_pos e] at h
   injection h with h
   subst e h
   simp
  ·rw [if_neg e] at h
   exact List.mem_cons_of_mem _ (ih h)
theorem dc {l : List Rw} (hl : aZ l) {r : Rw} (h : r ∈ l) : aC l r.1 = some r.2 := by
 induction l with
 | nil => simp at h
 | cons a l ih =>
  rw [bU] at hl
  unfold aC
  rcases List.mem_cons.1 h with rfl | h
  ·rw [if_pos rfl]
  ·rw [if_neg (ltK_ne (hl.1 r h)), ih hl.2 h]
theorem riseK_ext {l m : List Rw} (hl : aZ l) (hm : aZ m) (h : ∀ x, aC l x = aC m x) : l = m := by
 have hk : l.map (·.1) = m.map (·.1) := by
  refine ko (fun x => ?_) (by rw [List.pairwise_map]; exact hl) (by rw [List.pairwise_map]; exact hm)
  constructor
  ·intro hx
   obtain ⟨r, hr, rfl⟩ := List.mem_map.1 hx
   have := dc hl hr
   rw [h] at this
   exact List.mem_map.2 ⟨_, jv this, rfl⟩
  ·intro hx
   obtain ⟨r, hr, rfl⟩ := List.mem_map.1 hx
   have := dc hm hr
   rw [← h] at this
   exact List.mem_map.2 ⟨_, jv this, rfl⟩
 apply List.ext_getElem?
 intro i
 have hi : (l.map (·.1))[i]? = (m.map (·.1))[i]? := by rw [hk]
 rw [List.getElem?_map, List.getElem?_map] at hi
 cases h1 : l[i]? with
 | none => rw [h1] at hi; cases h2 : m[i]? with
  | none => rfl
  | some b => rw [h2] at hi; cases hi
 | some a => cases h2 : m[i]? with
  | none => rw [h1, h2] at hi; cases hi
  | some b =>
   rw [h1, h2] at hi
   injection hi with hi
   have hi : a.1 = b.1 := hi
   have e1 := dc hl (List.mem_of_getElem? h1)
   have e2 := dc hm (List.mem_of_getElem? h2)
   rw [h, hi, e2] at e1
   injection e1 with e1
   rw [Prod.ext hi e1.symm]
def bZ (J : Cl → Cl → Cl × Int) (k : Ky) (c : Cl) : List Rw → List Rw × Int
 | [] => ([(k, c)], 0)
 | r :: l => if dk k r.1 then ((k, c) :: r :: l, 0)
  else if r.1 = k then (if (J r.2 c).2 = 0 then ((k, (J r.2 c).1) :: l, 0) else (r :: l, (J r.2 c).2))
  else (r :: (bZ J k c l).1, (bZ J k c l).2)
theorem putR_key {J : Cl → Cl → Cl × Int} {k : Ky} {c : Cl} {l : List Rw} : ∀ {r}, r ∈ (bZ J k c l).1 → r.1 = k ∨ ∃ r' ∈ l, r'.1 = r.1 := by
 induction l with
 | nil => intro r hr; simp [bZ] at hr; exact .inl (by rw [hr])
 | cons a l ih =>
  intro r hr
  unfold bZ at hr
  by_cases h1 : dk k a.1 = true
  ·rw [if_pos h1] at hr
   rcases List.mem_cons.1 hr with rfl | hr
   ·exact .inl rfl
   ·exact .inr ⟨r, hr, rfl⟩
  ·rw [if_neg h1] at hr
   by_cases h2 : a.1 = k
   ·rw [if_pos h2] at hr
    split at hr
    ·rcases List.mem_cons.1 hr with rfl | hr
     ·exact .inl rfl
     ·exact .inr ⟨r, by simp [hr], rfl⟩
    ·exact .inr ⟨r, hr, rfl⟩
   ·rw [if_neg h2] at hr
    rcases List.mem_cons.1 hr with rfl | hr
    ·exact .inr ⟨r, by simp, rfl⟩
    ·rcases ih hr with h | ⟨r', h, e⟩
     ·exact .inl h
     ·exact .inr ⟨r', by simp [h], e⟩
theorem kt {J : Cl → Cl → Cl × Int} {k : Ky} {c : Cl} : ∀ {l : List Rw}, aZ l → aZ (bZ J k c l).1
 | [], _ => by simp [bZ, aZ]
 | a :: l, h => by
  have h0 := h
  rw [bU] at h
  unfold bZ
  by_cases h1 : dk k a.1 = true
  ·rw [if_pos h1]
   rw [bU]
   refine ⟨fun y hy => ?_, h0⟩
   rcases List.mem_cons.1 hy with rfl | hy
   ·exact h1
   ·exact cB h1 (h.1 y hy)
  ·rw [if_neg h1]
   by_cases h2 : a.1 = k
   ·rw [if_pos h2]
    split
    ·rw [bU]
     exact ⟨fun y hy => by rw [← h2]; exact h.1 y hy, h.2⟩
    ·exact h0
   ·rw [if_neg h2, bU]
    refine ⟨fun y hy => ?_, kt h.2⟩
    rcases putR_key hy with e | ⟨r', hr', e⟩
    ·rw [e]
     cases h3 : dk a.1 k
     ·exact absurd (hI h3 (by simpa using h1)) h2
     ·rfl
    ·rw [← e]; exact h.1 r' hr'
theorem mc {l : List Rw} {k : Ky} (h : ∀ y ∈ l, dk k y.1 = true) : aC l k = none := look_none.2 fun r hr e => by have := h r hr; rw [e, dr] at this; cases this
def both (J : Cl → Cl → Cl × Int) (c : Cl) : Option Cl → Cl
 | none => c
 | some d => if (J d c).2 = 0 then (J d c).1 else d
def errB (J : Cl → Cl → Cl × Int) (c : Cl) : Option Cl → Int
 | none => 0
 | some d => (J d c).2
theorem cR {J : Cl → Cl → Cl × Int} {k : Ky} {c : Cl} : ∀ {l : List Rw}, aZ l → ∀ x, aC (bZ J k c l).1 x = if x = k then some (both J c (aC l k)) else aC l x
 | [], _, x => by
  unfold bZ aC
  by_cases h : k = x
  ·subst h; simp [both]
  ·rw [if_neg h, if_neg (fun e => h e.symm)]
   rfl
 | a :: l, h, x => by
  rw [bU] at h
  unfold bZ
  by_cases h1 : dk k a.1 = true
  ·rw [if_pos h1]
   have hn : aC (a :: l) k = none := mc fun y hy => by
    rcases List.mem_cons.1 hy with rfl | hy
    ·exact h1
    ·exact cB h1 (h.1 y hy)
   rw [hn]
   show (if k = x then some c else aC (a :: l) x) = _
   by_cases e : k = x
   ·subst e; simp [both]
   ·rw [if_neg e, if_neg (fun e' => e e'.symm)]
  ·rw [if_neg h1]
   by_cases h2 : a.1 = k
   ·rw [if_pos h2]
    have hk : aC (a :: l) k = some a.2 := by unfold aC; rw [if_pos h2]
    rw [hk]
    by_cases hj : (J a.2 c).2 = 0
    ·rw [if_pos hj]
     show (if k = x then some (J a.2 c).1 else aC l x) = _
     by_cases e : k = x
     ·subst e
      rw [if_pos rfl, if_pos rfl, both, if_pos hj]
     ·rw [if_neg e, if_neg (fun e' => e e'.symm), look_skip (fun e' => e (h2.symm.trans e'))]
    ·rw [if_neg hj]
     show aC (a :: l) x = _
     by_cases e : k = x
     ·subst e
      rw [if_pos rfl, both, if_neg hj, hk]
     ·rw [if_neg (fun e' => e e'.symm)]
   ·rw [if_neg h2]
    show (if a.1 = x then some a.2 else aC (bZ J k c l).1 x) = _
    rw [cR h.2 x]
    have hk : aC (a :: l) k = aC l k := by
     rw [aC.eq_def]
     simp only [if_neg h2]
    rw [hk]
    by_cases e : a.1 = x
    ·rw [if_pos e, if_neg (fun e' => h2 (e.trans e'))]
     unfold aC
     rw [if_pos e]
    ·rw [if_neg e]
     split
     ·rfl
     ·show _ = aC (a :: l) x
      rw [aC.eq_def (a :: l)]
      simp only [if_neg e]
theorem me {J : Cl → Cl → Cl × Int} {k : Ky} {c : Cl} : ∀ {l : List Rw}, aZ l → (bZ J k c l).2 = errB J c (aC l k)
 | [], _ => rfl
 | a :: l, h => by
  rw [bU] at h
  unfold bZ
  by_cases h1 : dk k a.1 = true
  ·rw [if_pos h1]
   have hn : aC (a :: l) k = none := mc fun y hy => by
    rcases List.mem_cons.1 hy with rfl | hy
    ·exact h1
    ·exact cB h1 (h.1 y hy)
   rw [hn]
   rfl
  ·rw [if_neg h1]
   by_cases h2 : a.1 = k
   ·rw [if_pos h2]
    have hk : aC (a :: l) k = some a.2 := by unfold aC; rw [if_pos h2]
    rw [hk]
    unfold errB
    split
    ·next h3 => exact h3.symm
    ·rfl
   ·rw [if_neg h2]
    have hk : aC (a :: l) k = aC l k := by
     rw [aC.eq_def]
     simp only [if_neg h2]
    rw [hk]
    exact me h.2
theorem eG {J : Cl → Cl → Cl × Int} {k : Ky} {c : Cl} : ∀ {l : List Rw}, aZ l → (bZ J k c l).1.length = if (aC l k).isSome then l.length else l.length + 1
 | [], _ => rfl
 | a :: l, h => by
  rw [bU] at h
  unfold bZ
  by_cases h1 : dk k a.1 = true
  ·rw [if_pos h1]
   have hn : aC (a :: l) k = none := mc fun y hy => by
    rcases List.mem_cons.1 hy with rfl | hy
    ·exact h1
    ·exact cB h1 (h.1 y hy)
   rw [hn]
   rfl
  ·rw [if_neg h1]
   by_cases h2 : a.1 = k
   ·rw [if_pos h2]
    have hk : aC (a :: l) k = some a.2 := by unfold aC; rw [if_pos h2]
    rw [hk]
    split <;> rfl
   ·rw [if_neg h2]
    have hk : aC (a :: l) k = aC l k := by
     rw [aC.eq_def]
     simp only [if_neg h2]
    rw [hk]
    show (bZ J k c l).1.length + 1 = _
    rw [eG h.2]
    split <;> rfl
theorem putR_at {J : Cl → Cl → Cl × Int} {k : Ky} {c : Cl} : ∀ {l : List Rw} {n : Nat}, aZ l → n ≤ l.length → (∀ y ∈ l.take n, dk y.1 k = true) → (∀ y ∈ l.drop n, dk y.1 k = false) →
  (∀ d, l[n]? = some (k, d) → bZ J k c l = (if (J d c).2 = 0 then (l.set n (k, (J d c).1), 0) else (l, (J d c).2))) ∧
  ((∀ d, l[n]? ≠ some (k, d)) → bZ J k c l = (l.take n ++ [(k, c)] ++ l.drop n, 0))
 | [], n, _, hn, _, _ => by
  have : n = 0 := by simpa using hn
  subst this
  exact ⟨fun d hd => by simp at hd, fun _ => rfl⟩
 | a :: l, 0, h, _, _, h2 => by
  have ha := h2 a (by simp)
  rw [bU] at h
  refine ⟨fun d hd => ?_, fun hd => ?_⟩
  ·simp at hd
   subst hd
   unfold bZ
   rw [if_neg (by rw [dr]; simp), if_pos rfl]
   rfl
  ·have hne : a.1 ≠ k := fun e => hd a.2 (by rw [← e]; rfl)
   have hlt : dk k a.1 = true := by
    cases h3 : dk k a.1
    ·exact absurd (hI ha h3) hne
    ·rfl
   unfold bZ
   rw [if_pos hlt]
   rfl
 | a :: l, n + 1, h, hn, h1, h2 => by
  have ha := h1 a (by simp)
  rw [bU] at h
  obtain ⟨g1, g2⟩ := putR_at (J := J) (c := c) h.2 (by simpa using hn) (fun y hy => h1 y (by simp [hy])) (fun y hy => h2 y (by simpa using hy))
  have e0 : bZ J k c (a :: l) = (a :: (bZ J k c l).1, (bZ J k c l).2) := by
   rw [bZ.eq_def]
   simp only
   rw [if_neg (by rw [nV ha]; simp), if_neg (ltK_ne ha)]
  refine ⟨fun d hd => ?_, fun hd => ?_⟩
  ·rw [e0, g1 d (by simpa using hd)]
   split <;> rfl
  ·rw [e0, g2 (fun d => by simpa using hd d)]
   rfl
def dP (J : Cl → Cl → Cl × Int) (s : List Rw × Int) (r : Rw) : List Rw × Int := ((bZ J r.1 r.2 s.1).1, if (bZ J r.1 r.2 s.1).2 = 0 then s.2 else (bZ J r.1 r.2 s.1).2)
def em (J : Cl → Cl → Cl × Int) (l : List Rw) : List Rw × Int := l.foldl (dP J) ([], 0)
theorem lS (J : Cl → Cl → Cl × Int) : em J [] = ([], 0) := rfl
theorem fz (J : Cl → Cl → Cl × Int) (l : List Rw) (r : Rw) : em J (l ++ [r]) = dP J (em J l) r := by unfold em; rw [List.foldl_append]; rfl
theorem jx {α : Type} {P : List α → Prop} (h0 : P []) (h1 : ∀ l r, P l → P (l ++ [r])) (l : List α) : P l := by
 have : ∀ n, ∀ l : List α, l.length = n → P l := by
  intro n
  induction n with
  | zero => intro l hl; rw [List.length_eq_zero_iff.1 hl]; exact h0
  | succ n ih =>
   intro l hl
   have hne : l ≠ [] := fun e => by rw [e] at hl; simp at hl
   rw [← List.dropLast_concat_getLast hne]
   exact h1 _ _ (ih _ (by simp [hl]))
 exact this _ l rfl
theorem fA (J : Cl → Cl → Cl × Int) (l : List Rw) : aZ (em J l).1 := by
 induction l using jx with
 | h0 => simp [lS, aZ]
 | h1 l r ih => rw [fz]; exact kt ih
theorem keys_gat (J : Cl → Cl → Cl × Int) (l : List Rw) (x : Ky) : (aC (em J l).1 x).isSome = true ↔ ∃ r ∈ l, r.1 = x := by
 induction l using jx with
 | h0 => simp [lS, aC]
 | h1 l r ih =>
  rw [fz]
  unfold dP
  simp only
  rw [cR (fA J l)]
  by_cases e : x = r.1
  ·rw [if_pos e]
   simp only [Option.isSome_some, true_iff]
   exact ⟨r, by simp, e.symm⟩
  ·rw [if_neg e, ih]
   constructor
   ·rintro ⟨a, ha, h⟩; exact ⟨a, by simp [ha], h⟩
   ·rintro ⟨a, ha, h⟩
    rcases List.mem_append.1 ha with ha | ha
    ·exact ⟨a, ha, h⟩
    ·simp at ha; subst ha; exact absurd h.symm e
theorem len_gat (J : Cl → Cl → Cl × Int) (l : List Rw) : (em J l).1.length ≤ l.length := by
 induction l using jx with
 | h0 => simp [lS]
 | h1 l r ih =>
  rw [fz]
  unfold dP
  simp only
  rw [eG (fA J l), List.length_append]
  split <;> simp <;> omega
theorem all_gat {J : Cl → Cl → Cl × Int} {P : Cl → Prop} {E : Int → Prop} (hJ : ∀ a b, P a → P b → ((J a b).2 = 0 → P (J a b).1) ∧ E (J a b).2) (h0 : E 0) (l : List Rw) (hl : ∀ r ∈ l, P r.2) : (∀ x c, aC (em J l).1 x = some c → P c) ∧ E (em J l).2 := by
 induction l using jx with
 | h0 => exact ⟨fun x c h => by simp [lS, aC] at h, h0⟩
 | h1 l r ih =>
  obtain ⟨i1, i2⟩ := ih (fun y hy => hl y (by simp [hy]))
  have hr := hl r (by simp)
  rw [fz]
  unfold dP
  simp only
  rw [me (fA J l)]
  refine ⟨fun x c h => ?_, ?_⟩
  ·rw [cR (fA J l)] at h
   by_cases e : x = r.1
   ·rw [if_pos e] at h
    injection h with h
    subst h
    cases h1 : aC (em J l).1 r.1 with
    | none => exact hr
    | some d =>
     have hd := i1 _ _ h1
     unfold both
     simp only
     split
     ·next h2 => exact (hJ d r.2 hd hr).1 h2
     ·exact hd
   ·rw [if_neg e] at h
    exact i1 x c h
  ·cases h1 : aC (em J l).1 r.1 with
   | none => unfold errB; simp only [if_true]; exact i2
   | some d =>
    unfold errB
    simp only
    split
    ·exact i2
    ·exact (hJ d r.2 (i1 _ _ h1) hr).2
end Go.Proofs.YtclcgakfmcofaaaGreatDoor
namespace Go.Proofs.YtclcgakfmcofaaaGreatDoor
abbrev Rc := Ky × Int
abbrev r0 : Rc := (k0, 0)
def jy (x : Rc) : List Value := [.int .i64 x.1.1, .string x.1.2, .int .i64 x.2]
end Go.Proofs.YtclcgakfmcofaaaGreatDoor
namespace Go.Proofs.YtclcgakfmcofaaaGreatDoor
open Go.RowKit
theorem joinC_err (agg : Int) (bd : Nat) (a b : Cl) : (am agg bd a b).2 = 0 ∨ (am agg bd a b).2 = 11 := by
 unfold am
 split
 ·split
  ·exact .inl rfl
  ·exact .inr rfl
 ·exact .inl rfl
def eo (agg : Int) (l : List Rc) : List Rw := l.map fun r => (r.1, dt agg r.2)
theorem ones_app (agg : Int) (a b : List Rc) : eo agg (a ++ b) = eo agg a ++ eo agg b := by unfold eo; rw [List.map_append]
def aB (agg : Int) (bd : Nat) (l : List Rc) : List Rw × Int := em (am agg bd) (eo agg l)
theorem foldR_snoc (agg : Int) (bd : Nat) (l : List Rc) (r : Rc) : aB agg bd (l ++ [r]) = dP (am agg bd) (aB agg bd l) (r.1, dt agg r.2) := by
 unfold aB
 rw [ones_app]
 exact fz _ _ _
theorem hY (agg : Int) (bd : Nat) (l : List Rc) : aZ (aB agg bd l).1 := fA _ _
theorem gat_err (agg : Int) (bd : Nat) (l : List Rw) : (em (am agg bd) l).2 = 0 ∨ (em (am agg bd) l).2 = 11 :=
 (all_gat (P := fun _ => True) (E := fun e => e = 0 ∨ e = 11) (fun a b _ _ => ⟨fun _ => trivial, joinC_err agg bd a b⟩) (.inl rfl) l (fun _ _ => trivial)).2
def fin (s : List Rw × Int) : List Rw × Int := if s.2 = 0 then s else ([], s.2)
theorem fin_ok {s : List Rw × Int} (h : s.2 = 0) : fin s = s := by unfold fin; rw [if_pos h]
theorem fS {s : List Rw × Int} (h : s.2 ≠ 0) : fin s = ([], s.2) := by unfold fin; rw [if_neg h]
theorem lT (a : Int) (h0 : 0 ≤ a) (h1 : a < 18446744073709551616) : bits .xor .u64 IntKind.u64.max a = 18446744073709551615 - a := by
 obtain ⟨n, rfl⟩ := Int.eq_ofNat_of_zero_le h0
 have hn : n < 2 ^ 64 := by omega
 have hm : IntKind.u64.max = 18446744073709551615 := by decide
 have ha : BitVec.ofInt 64 18446744073709551615 = BitVec.allOnes 64 := by decide
 rw [hm]
 show IntKind.u64.wrap ((BitVec.ofInt 64 18446744073709551615 ^^^ BitVec.ofInt 64 (n : Int)).toNat : Int) = _
 rw [ha, BitVec.allOnes_xor, BitVec.toNat_not, BitVec.ofInt_natCast, BitVec.toNat_ofNat, Nat.mod_eq_of_lt hn, IntKind.wrap_u64]
 omega
theorem lU (a : Int) (h0 : -9223372036854775808 ≤ a) (h1 : a ≤ 9223372036854775807) : bits .xor .i64 (-1) a = -a - 1 := by
 have ha : BitVec.ofInt 64 (-1) = BitVec.allOnes 64 := by decide
 show IntKind.i64.wrap ((BitVec.ofInt 64 (-1) ^^^ BitVec.ofInt 64 a).toNat : Int) = _
 rw [ha, BitVec.allOnes_xor, BitVec.toNat_not, BitVec.toNat_ofInt, IntKind.wrap_i64]
 omega
theorem gG (k : Nat) (hk : k < 64) (a : Int) : bits .and .u64 (IntKind.u64.wrap a) (2 ^ k - 1) = a % 2 ^ k := by
 have hm : (2 ^ k : Nat) < 2 ^ 64 := Nat.pow_lt_pow_right (by decide) hk
 have hp : 0 < 2 ^ k := Nat.two_pow_pos k
 have e1 : (BitVec.ofInt 64 (2 ^ k - 1)).toNat = 2 ^ k - 1 := by
  rw [show ((2 : Int) ^ k - 1) = ((2 ^ k - 1 : Nat) : Int) by rw [Int.natCast_sub (by omega)]; push_cast; rfl, BitVec.ofInt_natCast, BitVec.toNat_ofNat]
  exact Nat.mod_eq_of_lt (by omega)
 have e2 : (BitVec.ofInt 64 (IntKind.u64.wrap a)).toNat = (a % 18446744073709551616).toNat := by
  rw [BitVec.toNat_ofInt, IntKind.wrap_u64]
  congr 1
  omega
 show IntKind.u64.wrap ((BitVec.ofInt 64 (IntKind.u64.wrap a) &&& BitVec.ofInt 64 (2 ^ k - 1)).toNat : Int) = _
 rw [BitVec.toNat_and, e1, e2, Nat.and_two_pow_sub_one_eq_mod, IntKind.wrap_u64]
 have h64 : (18446744073709551616 : Int) = 2 ^ k * 2 ^ (64 - k) := by rw [← Int.pow_add, show k + (64 - k) = 64 by omega]; decide
 have e3 : (((a % 18446744073709551616).toNat % 2 ^ k : Nat) : Int) = a % 2 ^ k := by
  rw [Int.natCast_emod, Int.toNat_of_nonneg (by omega)]
  push_cast
  rw [h64]
  exact Int.emod_emod_of_dvd _ (Int.dvd_mul_right _ _)
 rw [e3]
 have hlt : a % 2 ^ k < 18446744073709551616 := by
  have := Int.emod_lt_of_pos a (show (0 : Int) < 2 ^ k from by exact_mod_cast hp)
  have h2 : (2 : Int) ^ k < 18446744073709551616 := by
   rw [show (2 : Int) ^ k = ((2 ^ k : Nat) : Int) by push_cast; rfl]
   omega
  omega
 exact Int.emod_eq_of_lt (Int.emod_nonneg _ (by have : (0 : Int) < 2 ^ k := by exact_mod_cast hp
                                                omega)) hlt
theorem and1 (u : Int) (h0 : 0 ≤ u) (h1 : u ≤ 18446744073709551615) : bits .and .u64 u 1 = u % 2 := by
 have := gG 1 (by decide) u
 rw [IntWalk.u64_in u ⟨h0, h1⟩] at this
 exact this
theorem cS (i : Nat) (x y : Int) (hx0 : 0 ≤ x) (hx1 : x < 18446744073709551616) (hx : x % 2 ^ i = 0) (hy0 : 0 ≤ y) (hy : y < 2 ^ i) (hy1 : y < 18446744073709551616) : bits .or .u64 y x = x + y := by
 obtain ⟨n, rfl⟩ := Int.eq_ofNat_of_zero_le hx0
 obtain ⟨m, rfl⟩ := Int.eq_ofNat_of_zero_le hy0
 have h := nat_join i n m (by exact_mod_cast hx) (by exact_mod_cast hy)
 rw [bits_or_u64_nat m n (by omega) (by omega), Nat.or_comm, h]
 push_cast
 rfl
theorem or128 (u : Int) : bits .or .u8 (IntKind.u8.wrap u) 128 = u % 128 + 128 := by
 rw [IntKind.wrap_u8']
 have key : ∀ n : Nat, n < 256 → bits .or .u8 (n : Int) 128 = (n : Int) % 128 + 128 := by decide +kernel
 obtain ⟨n, hn⟩ := Int.eq_ofNat_of_zero_le (show 0 ≤ u % 256 by omega)
 rw [hn, key n (by omega)]
 omega
theorem nW (u : Int) (h0 : 0 ≤ u) (h1 : u < 256) : bits .andNot .u8 u 128 = u % 128 := by
 have key : ∀ n : Nat, n < 256 → bits .andNot .u8 (n : Int) 128 = (n : Int) % 128 := by decide +kernel
 obtain ⟨n, rfl⟩ := Int.eq_ofNat_of_zero_le h0
 exact key n (by omega)
def iL (n : Int) : Int := if n < 0 then -2 * n - 1 else 2 * n
def ku (u : Int) : Int := if u % 2 = 1 then -(u / 2) - 1 else u / 2
theorem zig_bd (n : Int) (h0 : -9223372036854775808 ≤ n) (h1 : n ≤ 9223372036854775807) : 0 ≤ iL n ∧ iL n ≤ 18446744073709551615 := by unfold iL; split <;> omega
theorem zig_zag (u : Int) (h : 0 ≤ u) : iL (ku u) = u := by unfold ku iL; split <;> split <;> omega
theorem zag_bd (u : Int) (h0 : 0 ≤ u) (h1 : u ≤ 18446744073709551615) : -9223372036854775808 ≤ ku u ∧ ku u ≤ 9223372036854775807 := by unfold ku; split <;> omega
def ix : Nat → Int → List Int
 | 0, _ => []
 | f + 1, u => if u < 128 then [u] else (u % 128 + 128) :: ix f (u / 128)
theorem grp_last (f : Nat) (u : Int) (h : u < 128) (hf : 0 < f) : ix f u = [u] := by
 obtain ⟨f, rfl⟩ := Nat.exists_eq_succ_of_ne_zero (Nat.pos_iff_ne_zero.1 hf)
 simp [ix, h]
theorem grp_more (f : Nat) (u : Int) (h : ¬ u < 128) : ix (f + 1) u = (u % 128 + 128) :: ix f (u / 128) := by simp [ix, h]
def Left (u0 u : Int) (l : List Int) : Prop := ∃ f, 0 < f ∧ l.length + f = 10 ∧ 0 ≤ u ∧ u < 2 ^ (7 * f) ∧ l ++ ix f u = ix 10 u0
theorem iM (u : Int) (h0 : 0 ≤ u) (h1 : u ≤ 18446744073709551615) : Left u u [] := ⟨10, by decide, rfl, h0, by omega, rfl⟩
theorem kv {u0 u : Int} {l : List Int} (h : Left u0 u l) (h1 : ¬ u < 128) : Left u0 (u / 128) (l ++ [u % 128 + 128]) := by
 obtain ⟨f, hf, hl, h0, hu, he⟩ := h
 match f, hf with
 | 1, _ => exact absurd hu (by omega)
 | f + 2, _ =>
  refine ⟨f + 1, by omega, by simp; omega, by omega, ?_, ?_⟩
  ·have : (2 : Int) ^ (7 * (f + 2)) = 2 ^ (7 * (f + 1)) * 128 := by rw [show 7 * (f + 2) = 7 * (f + 1) + 7 by omega, Int.pow_add]; rfl
   rw [this] at hu
   exact Int.ediv_lt_of_lt_mul (by decide) hu
  ·rw [← he, grp_more _ _ h1]; simp
theorem mf {u0 u : Int} {l : List Int} (h : Left u0 u l) (h1 : u < 128) : l ++ [u] = ix 10 u0 := by
 obtain ⟨f, hf, hl, h0, hu, he⟩ := h
 rw [← he, grp_last f u h1 hf]
theorem mg {u0 u : Int} {l : List Int} (h : Left u0 u l) : l.length ≤ 9 := by obtain ⟨f, hf, hl, _⟩ := h; omega
theorem mh {u0 u : Int} {l : List Int} (h : Left u0 u l) : 0 ≤ u := by obtain ⟨f, hf, hl, h0, _⟩ := h; exact h0
def bytesOf (n : Int) : ByteArray := strOfNums (ix 10 (iL n))
def dx : List UInt8 → Nat → Int → Int × Int × Int
 | [], _, _ => (0, 0, 6)
 | c :: r, i, u =>
  if i = 9 ∧ 1 < c.toNat then (0, 0, 7)
  else if 128 ≤ c.toNat then dx r (i + 1) (u + (c.toNat : Int) % 128 * 2 ^ (7 * i))
  else if c.toNat = 0 ∧ 0 < i then (0, 0, 7)
  else (ku (u + (c.toNat : Int) % 128 * 2 ^ (7 * i)), (i : Int) + 1, 0)
def ai (s : ByteArray) : Int × Int × Int := dx s.data.toList 0 0
theorem nX (i : Nat) (u : Int) : dx [] i u = (0, 0, 6) := rfl
theorem iN (c : UInt8) (r : List UInt8) (i : Nat) (u : Int) (h : i = 9) (hc : 1 < c.toNat) : dx (c :: r) i u = (0, 0, 7) := by simp [dx, h, hc]
theorem iO (c : UInt8) (r : List UInt8) (i : Nat) (u : Int) (h : i ≠ 9) (hc : 128 ≤ c.toNat) : dx (c :: r) i u = dx r (i + 1) (u + (c.toNat : Int) % 128 * 2 ^ (7 * i)) := by
 simp [dx, h, hc]
theorem iP (c : UInt8) (r : List UInt8) (i : Nat) (u : Int) (h : 0 < i) (hc : c.toNat = 0) : dx (c :: r) i u = (0, 0, 7) := by simp [dx, h, hc]
theorem kw (c : UInt8) (r : List UInt8) (i : Nat) (u : Int) (h9 : i = 9 → c.toNat ≤ 1) (hc : c.toNat < 128) (h0 : c.toNat ≠ 0 ∨ i = 0) :
  dx (c :: r) i u = (ku (u + (c.toNat : Int) % 128 * 2 ^ (7 * i)), (i : Int) + 1, 0) := by
 rw [dx, if_neg (by omega), if_neg (by omega), if_neg (by omega)]
theorem or_step (k : Nat) (x c : Int) (hx0 : 0 ≤ x) (hx : x < 2 ^ (7 * k)) (hc0 : 0 ≤ c) (hc : c < 256) (hk : k ≤ 8 ∨ k = 9 ∧ c ≤ 1) :
  bits .or .u64 x (IntKind.u64.wrap (IntKind.u64.wrap (bits .andNot .u8 c 128) * 2 ^ (7 * k))) = x + c % 128 * 2 ^ (7 * k) ∧ 0 ≤ x + c % 128 * 2 ^ (7 * k) ∧ x + c % 128 * 2 ^ (7 * k) ≤ 18446744073709551615 ∧
   (k ≤ 8 → x + c % 128 * 2 ^ (7 * k) < 2 ^ (7 * (k + 1))) := by
 rw [nW c hc0 hc, IntWalk.u64_in (c % 128) (by omega)]
 have hk' : k = 0 ∨ k = 1 ∨ k = 2 ∨ k = 3 ∨ k = 4 ∨ k = 5 ∨ k = 6 ∨ k = 7 ∨ k = 8 ∨ k = 9 := by omega
 rcases hk' with rfl | rfl | rfl | rfl | rfl | rfl | rfl | rfl | rfl | rfl
 all_goals
  simp only [Nat.reduceMul, Nat.reduceAdd, Int.reducePow] at hx ⊢
  rw [IntWalk.u64_in _ (by omega)]
 all_goals refine ⟨?_, by omega, by omega, by omega⟩
 ·rw [cS 0 (c % 128 * 1) x (by omega) (by omega) (by omega) (by omega) (by omega) (by omega)]; omega
 ·rw [cS 7 (c % 128 * _) x (by omega) (by omega) (by omega) (by omega) (by omega) (by omega)]; omega
 ·rw [cS 14 (c % 128 * _) x (by omega) (by omega) (by omega) (by omega) (by omega) (by omega)]; omega
 ·rw [cS 21 (c % 128 * _) x (by omega) (by omega) (by omega) (by omega) (by omega) (by omega)]; omega
 ·rw [cS 28 (c % 128 * _) x (by omega) (by omega) (by omega) (by omega) (by omega) (by omega)]; omega
 ·rw [cS 35 (c % 128 * _) x (by omega) (by omega) (by omega) (by omega) (by omega) (by omega)]; omega
 ·rw [cS 42 (c % 128 * _) x (by omega) (by omega) (by omega) (by omega) (by omega) (by omega)]; omega
 ·rw [cS 49 (c % 128 * _) x (by omega) (by omega) (by omega) (by omega) (by omega) (by omega)]; omega
 ·rw [cS 56 (c % 128 * _) x (by omega) (by omega) (by omega) (by omega) (by omega) (by omega)]; omega
 ·rw [cS 63 (c % 128 * _) x (by omega) (by omega) (by omega) (by omega) (by omega) (by omega)]; omega
theorem dy (s : ByteArray) (k : Nat) (h : k < s.size) : s.data.toList.drop k = s[k] :: s.data.toList.drop (k + 1) := by
 rw [List.drop_eq_getElem_cons (by simpa using h)]; rfl
theorem drop_end (s : ByteArray) (k : Nat) (h : s.size ≤ k) : s.data.toList.drop k = [] := List.drop_of_length_le (by simpa using h)
def enc (l : List Int) : List UInt8 := l.map fun n => UInt8.ofNat n.toNat
theorem bytesOf_list (n : Int) : (bytesOf n).data.toList = enc (ix 10 (iL n)) := strOfNums_data _
theorem jz (n : Int) : (bytesOf n).size = (ix 10 (iL n)).length := strOfNums_size _
theorem parts (u P : Int) : u * P = u % 128 * P + u / 128 * (P * 128) := by
 have h := Int.emod_add_mul_ediv u 128
 have e : u / 128 * (P * 128) = 128 * (u / 128) * P := by rw [Int.mul_comm P 128, ← Int.mul_assoc, Int.mul_comm (u / 128) 128]
 rw [e, ← Int.add_mul, h]
theorem pow7 (i : Nat) : (2 : Int) ^ (7 * (i + 1)) = 2 ^ (7 * i) * 128 := by rw [show 7 * (i + 1) = 7 * i + 7 by omega, Int.pow_add]; rfl
theorem pow7_pos (i : Nat) : (1 : Int) ≤ 2 ^ (7 * i) := Int.pow_pos (by decide)
theorem taken : ∀ (l : List UInt8) (i : Nat) (acc : Int), i ≤ 9 → 0 ≤ acc → acc < 2 ^ (7 * i) → (dx l i acc).2.2 = 0 →
  ∃ u : Int, 0 ≤ u ∧ (u ≠ 0 ∨ i = 0) ∧ acc + u * 2 ^ (7 * i) ≤ 18446744073709551615 ∧ (dx l i acc).1 = ku (acc + u * 2 ^ (7 * i)) ∧ (dx l i acc).2.1 = (i : Int) + (ix (10 - i) u).length ∧
   (ix (10 - i) u).length ≤ l.length ∧ l.take (ix (10 - i) u).length = enc (ix (10 - i) u) := by
 intro l
 induction l with
 | nil => intro i acc _ _ _ h; simp [dx] at h
 | cons c r ih =>
  intro i acc h9 h0 ha he
  have hc := c.toNat_lt
  have hP := pow7_pos i
  by_cases hn : i = 9 ∧ 1 < c.toNat
  ·rw [iN _ _ _ _ hn.1 hn.2] at he; simp at he
  ·by_cases hm : 128 ≤ c.toNat
   ·have hi : i ≠ 9 := by omega
    rw [iO _ _ _ _ hi hm] at he ⊢
    have hm0 : 0 ≤ (c.toNat : Int) % 128 * 2 ^ (7 * i) := Int.mul_nonneg (by omega) (by omega)
    have hm' : (c.toNat : Int) % 128 * 2 ^ (7 * i) ≤ 127 * 2 ^ (7 * i) := Int.mul_le_mul_of_nonneg_right (by omega) (by omega)
    obtain ⟨u, hu0, huz, hut, h1, h2, h3, h4⟩ := ih (i + 1) _ (by omega) (by omega) (by rw [pow7]; omega) he
    have huz' : u ≠ 0 := by omega
    have e1 : ((c.toNat : Int) % 128 + 128 * u) % 128 = (c.toNat : Int) % 128 := by omega
    have e2 : ((c.toNat : Int) % 128 + 128 * u) / 128 = u := by omega
    have hp := parts ((c.toNat : Int) % 128 + 128 * u) (2 ^ (7 * i))
    rw [e1, e2] at hp
    rw [pow7] at hut h1
    have hg : ix (10 - i) ((c.toNat : Int) % 128 + 128 * u) = (c.toNat : Int) :: ix (10 - (i + 1)) u := by
     rw [show 10 - i = (10 - (i + 1)) + 1 by omega, grp_more _ _ (by omega), e1, e2, show (c.toNat : Int) % 128 + 128 = (c.toNat : Int) by omega]
    refine ⟨(c.toNat : Int) % 128 + 128 * u, by omega, by omega, by rw [hp]; omega, ?_, ?_, ?_, ?_⟩
    ·rw [h1, hp, Int.add_assoc]
    ·rw [h2, hg, List.length_cons]; push_cast; omega
    ·rw [hg, List.length_cons, List.length_cons]; omega
    ·rw [hg, List.length_cons, List.take_succ_cons, h4]
     simp [enc]
   ·by_cases hz : c.toNat = 0 ∧ 0 < i
    ·rw [iP _ _ _ _ hz.2 hz.1] at he; simp at he
    ·rw [kw _ _ _ _ (by omega) (by omega) (by omega)] at he ⊢
     have hg : ix (10 - i) (c.toNat : Int) = [(c.toNat : Int)] := grp_last _ _ (by omega) (by omega)
     rw [show (c.toNat : Int) % 128 = (c.toNat : Int) by omega]
     refine ⟨(c.toNat : Int), by omega, by omega, ?_, rfl, by rw [hg]; rfl, by rw [hg]; simp, by rw [hg]; simp [enc]⟩
     by_cases hi : i = 9
     ·subst hi
      simp only [Nat.reduceMul, Int.reducePow] at ha ⊢
      omega
     ·have h8 : i ≤ 8 := by omega
      have hmm : (c.toNat : Int) * 2 ^ (7 * i) ≤ 127 * 2 ^ (7 * i) := Int.mul_le_mul_of_nonneg_right (by omega) (by omega)
      have hle : (2 : Int) ^ (7 * i) ≤ 2 ^ 56 := by
       exact_mod_cast Nat.pow_le_pow_right (by decide) (show 7 * i ≤ 56 by omega)
      have : (2 : Int) ^ 56 = 72057594037927936 := by decide
      omega
theorem extract_list (s : ByteArray) (t : Nat) : (s.extract 0 t).data.toList = s.data.toList.take t := by
 simp [ByteArray.data_extract]
theorem grp_len (f : Nat) : ∀ u : Int, (ix f u).length ≤ f := by
 induction f with
 | zero => intro u; simp [ix]
 | succ f ih =>
  intro u
  unfold ix
  split
  ·simp
  ·simp [ih]
theorem aN (n : Int) : (bytesOf n).size ≤ 10 := by rw [jz]; exact grp_len 10 _
theorem ib (x : ByteArray) (m j : Int) (h : ai x = (m, j, 0)) :
  ∃ q : Nat, j = (q : Int) ∧ q ≤ x.size ∧ -9223372036854775808 ≤ m ∧ m ≤ 9223372036854775807 ∧ bytesOf m = x.extract 0 q := by
 unfold ai at h
 obtain ⟨u, hu0, _, hut, e1, e2, e3, e4⟩ := taken x.data.toList 0 0 (by decide) (by decide) (by decide) (by rw [h])
 rw [h] at e1 e2
 simp only [Nat.mul_zero, Int.pow_zero, Int.mul_one, Int.zero_add, Nat.sub_zero] at e1 e2 e3 e4 hut
 obtain ⟨b1, b2⟩ := zag_bd u hu0 hut
 refine ⟨(ix 10 u).length, by simpa using e2, by simpa using e3, by rw [e1]; exact b1, by rw [e1]; exact b2, ?_⟩
 apply ByteArray.ext
 apply Array.toList_inj.1
 rw [bytesOf_list, extract_list, e4, e1, zig_zag u hu0]
end Go.Proofs.YtclcgakfmcofaaaGreatDoor
namespace Go.Proofs.YtclcgakfmcofaaaGreatDoor
def from' (s : ByteArray) (n : Int) : ByteArray := s.extract n.toNat s.size
abbrev L (s : ByteArray) : List UInt8 := s.data.toList
theorem L_app (a b : ByteArray) : L (a ++ b) = L a ++ L b := by simp [L, ByteArray.data_append]
theorem L_ext (s : ByteArray) (i j : Nat) : L (s.extract i j) = ((L s).drop i).take (j - i) := Lib.extract_data s i j
theorem dd (s : ByteArray) : (L s).length = s.size := (Lib.size_eq s).symm
theorem app_assoc (a b c : ByteArray) : a ++ b ++ c = a ++ (b ++ c) := by
 apply bT; show L _ = L _; simp only [L_app, List.append_assoc]
theorem nil_app (a : ByteArray) : (⟨#[]⟩ : ByteArray) ++ a = a := by apply bT; show L _ = L _; rw [L_app]; rfl
theorem app_nil (a : ByteArray) : a ++ (⟨#[]⟩ : ByteArray) = a := by apply bT; show L _ = L _; rw [L_app]; simp [L]
def aT (x : Ky) : ByteArray := bytesOf x.1 ++ bytesOf (x.2.size : Int) ++ x.2
def bK (s : ByteArray) : ByteArray × Int × Int :=
 if (ai s).2.2 ≠ 0 then (⟨#[]⟩, 0, (ai s).2.2)
 else if (ai s).1 < 0 ∨ 64 < (ai s).1 then (⟨#[]⟩, 0, 2)
 else if (s.size : Int) < (ai s).2.1 + (ai s).1 then (⟨#[]⟩, 0, 6)
 else (s.extract (ai s).2.1.toNat ((ai s).2.1 + (ai s).1).toNat, (ai s).2.1 + (ai s).1, 0)
def bp (s : ByteArray) : Ky × Int × Int :=
 if (ai s).2.2 ≠ 0 then (k0, 0, (ai s).2.2)
 else if (bK (from' s (ai s).2.1)).2.2 ≠ 0 then (k0, 0, (bK (from' s (ai s).2.1)).2.2)
 else (((ai s).1, (bK (from' s (ai s).2.1)).1), (ai s).2.1 + (bK (from' s (ai s).2.1)).2.1, 0)
end Go.Proofs.YtclcgakfmcofaaaGreatDoor
namespace Go.Proofs.YtclcgakfmcofaaaGreatDoor
open Go.RowKit
theorem bH {k : IntKind} {a b : Int} (h : a = b) : Ending.returned (.int k a) = .returned (.int k b) := by rw [h]
end Go.Proofs.YtclcgakfmcofaaaGreatDoor
