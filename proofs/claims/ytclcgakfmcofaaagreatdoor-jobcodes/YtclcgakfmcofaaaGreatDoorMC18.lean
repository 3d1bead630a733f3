/- Texts laid together: RPlain, SPlain, SRes. -/
import Derived.Test.YtclcgakfmcofaaaGreatDoorMC1
namespace Go.Proofs.YtclcgakfmcofaaaGreatDoor
set_option linter.unusedVariables false
set_option maxRecDepth 100000
def rTake (s : ByteArray) : Rc × Int × Int :=
 if (kTake s).2.2 ≠ 0 then (r0, 0, (kTake s).2.2)
 else if (takeOf (from' s (kTake s).2.1)).2.2 ≠ 0 then (r0, 0, (takeOf (from' s (kTake s).2.1)).2.2)
 else (((kTake s).1, (takeOf (from' s (kTake s).2.1)).1), (kTake s).2.1 + (takeOf (from' s (kTake s).2.1)).2.1, 0)
theorem tq {s : ByteArray} {m j : Int} (h : takeOf s = (m, j, 0)) : ∃ q : Nat, j = (q : Int) ∧ q ≤ s.size ∧ q ≤ 10 ∧ -9223372036854775808 ≤ m ∧ m ≤ 9223372036854775807 := by
 obtain ⟨q, e, hq, h1, h2, h3⟩ := take_back s m j h
 refine ⟨q, e, hq, ?_, h1, h2⟩
 have := bytes_len m
 rw [h3, ByteArray.size_extract] at this
 omega
theorem from_size (s : ByteArray) (n : Nat) : (from' s (n : Int)).size = s.size - n := by
 unfold from'; rw [ByteArray.size_extract, Int.toNat_natCast]; omega
theorem xq {s b : ByteArray} {j : Int} (h : textOf s = (b, j, 0)) : ∃ q : Nat, j = (q : Int) ∧ q ≤ s.size ∧ q ≤ 74 := by
 unfold textOf at h
 split at h
 ·next h0 => injection h with _ h; injection h with _ h; exact absurd h h0
 ·next h0 =>
  have h0 : (takeOf s).2.2 = 0 := by simpa using h0
  obtain ⟨q, e, hq, hq1, _⟩ := tq (s := s) (m := (takeOf s).1) (j := (takeOf s).2.1) (by rw [← h0])
  split at h
  ·injection h with _ h; injection h with _ h; exact absurd h (by decide)
  ·split at h
   ·injection h with _ h; injection h with _ h; exact absurd h (by decide)
   ·next h1 h2 =>
    injection h with _ h; injection h with h _
    exact ⟨((takeOf s).2.1 + (takeOf s).1).toNat, by omega, by omega, by omega⟩
theorem kq {s : ByteArray} {k : Ky} {j : Int} (h : kTake s = (k, j, 0)) : ∃ q : Nat, j = (q : Int) ∧ q ≤ s.size ∧ q ≤ 84 := by
 unfold kTake at h
 split at h
 ·next h0 => injection h with _ h; injection h with _ h; exact absurd h h0
 ·next h0 =>
  have h0 : (takeOf s).2.2 = 0 := by simpa using h0
  obtain ⟨q, e, hq, hq1, _⟩ := tq (s := s) (m := (takeOf s).1) (j := (takeOf s).2.1) (by rw [← h0])
  split at h
  ·next h1 => injection h with _ h; injection h with _ h; exact absurd h h1
  ·next h1 =>
   have h1 : (textOf (from' s (takeOf s).2.1)).2.2 = 0 := by simpa using h1
   obtain ⟨p, e2, hp, hp1⟩ := xq (s := from' s (takeOf s).2.1) (b := (textOf (from' s (takeOf s).2.1)).1) (j := (textOf (from' s (takeOf s).2.1)).2.1) (by rw [← h1])
   injection h with _ h; injection h with h _
   rw [e, from_size] at hp
   exact ⟨q + p, by omega, by omega, by omega⟩
theorem rq {s : ByteArray} {r : Rc} {j : Int} (h : rTake s = (r, j, 0)) : ∃ q : Nat, j = (q : Int) ∧ q ≤ s.size ∧ q ≤ 94 := by
 unfold rTake at h
 split at h
 ·next h0 => injection h with _ h; injection h with _ h; exact absurd h h0
 ·next h0 =>
  have h0 : (kTake s).2.2 = 0 := by simpa using h0
  obtain ⟨q, e, hq, hq1⟩ := kq (s := s) (k := (kTake s).1) (j := (kTake s).2.1) (by rw [← h0])
  split at h
  ·next h1 => injection h with _ h; injection h with _ h; exact absurd h h1
  ·next h1 =>
   have h1 : (takeOf (from' s (kTake s).2.1)).2.2 = 0 := by simpa using h1
   obtain ⟨p, e2, hp, hp1, _⟩ := tq (s := from' s (kTake s).2.1) (m := (takeOf (from' s (kTake s).2.1)).1) (j := (takeOf (from' s (kTake s).2.1)).2.1) (by rw [← h1])
   injection h with _ h; injection h with h _
   rw [e, from_size] at hp
   exact ⟨q + p, by omega, by omega, by omega⟩
def allG : Nat → List Rc → ByteArray → List Rc × Int
 | n, acc, s =>
  if s.size = 0 then (acc, 0)
  else match n with
   | 0 => ([], 2)
   | n + 1 => if (rTake s).2.2 ≠ 0 then ([], (rTake s).2.2) else allG n (acc ++ [(rTake s).1]) (from' s (rTake s).2.1)
def allOf (s : ByteArray) : List Rc × Int := if 8192 < s.size then ([], 2) else allG 64 [] s
theorem allG_nil (n : Nat) (acc : List Rc) (s : ByteArray) (h : s.size = 0) : allG n acc s = (acc, 0) := by unfold allG; rw [if_pos h]
theorem allG_over (acc : List Rc) (s : ByteArray) (h : ¬ s.size = 0) : allG 0 acc s = ([], 2) := by unfold allG; rw [if_neg h]
theorem allG_bad (n : Nat) (acc : List Rc) (s : ByteArray) (h : ¬ s.size = 0) (r : Rc) (j e : Int) (ht : rTake s = (r, j, e)) (he : e ≠ 0) : allG (n + 1) acc s = ([], e) := by
 unfold allG; rw [if_neg h, ht]; simp only [ne_eq, he, not_false_eq_true, if_true]
theorem allG_more (n : Nat) (acc : List Rc) (s : ByteArray) (h : ¬ s.size = 0) (r : Rc) (q : Nat) (ht : rTake s = (r, (q : Int), 0)) : allG (n + 1) acc s = allG n (acc ++ [r]) (s.extract q s.size) := by
 conv => lhs; unfold allG
 rw [if_neg h, ht]; simp only [ne_eq, not_true_eq_false, if_false, from', Int.toNat_natCast]
theorem allG_len : ∀ (n : Nat) (acc : List Rc) (s : ByteArray), acc.length + n ≤ 64 → (allG n acc s).1.length ≤ 64
 | 0, acc, s, h => by unfold allG; split <;> simp <;> omega
 | n + 1, acc, s, h => by
  unfold allG
  split
  ·simp; omega
  ·simp only
   split
   ·simp
   ·exact allG_len n _ _ (by simp; omega)
theorem allOf_len (s : ByteArray) : (allOf s).1.length ≤ 64 := by
 unfold allOf; split
 ·simp
 ·exact allG_len 64 [] s (by simp)
def GoodZ (l : List Rc) : Prop := ∀ x ∈ l, x.1.2.size ≤ 64
instance (l : List Rc) : Decidable (GoodZ l) := inferInstanceAs (Decidable (∀ x ∈ l, x.1.2.size ≤ 64))
end Go.Proofs.YtclcgakfmcofaaaGreatDoor
namespace Go.Proofs.YtclcgakfmcofaaaGreatDoor
open Go.RowKit
set_option linter.unusedVariables false
set_option maxRecDepth 100000
abbrev SpZ := Int × ByteArray × List Int
abbrev s0 : SpZ := (0, ⟨#[]⟩, [])
structure Cfg where
 sites : Int
 splits : List SpZ
 again : Int
 over : Int
def risL (lo hi : Int) (l : List Int) : Bool := l.all (fun x => decide (lo ≤ x ∧ x ≤ hi)) && decide (l.Pairwise (· < ·))
def spB (sites : Int) (s : SpZ) : Bool := decide (1 ≤ s.1 ∧ s.1 ≤ 1048576) && (decide ((allOf s.2.1).2 = 0) && (decide (0 < s.2.2.length) && risL 1 sites s.2.2))
def headB (c : Cfg) : Bool := decide (1 ≤ c.sites ∧ c.sites ≤ 3) && (decide (c.splits.length ≤ 6) && (decide (1 ≤ c.again ∧ c.again ≤ 16) && (decide (16 ≤ c.over ∧ c.over ≤ 64) && decide (2 * c.again ≤ c.over))))
def cfgB (c : Cfg) : Bool := headB c && (c.splits.all (spB c.sites) && decide (c.splits.Pairwise (fun a b => a.1 < b.1)))
theorem risL_of {lo hi : Int} {l : List Int} (h : risL lo hi l = true) : (∀ x ∈ l, lo ≤ x ∧ x ≤ hi) ∧ l.Pairwise (· < ·) := by
 unfold risL at h
 rw [Bool.and_eq_true, List.all_eq_true, decide_eq_true_eq] at h
 exact ⟨fun x hx => of_decide_eq_true (h.1 x hx), h.2⟩
theorem headB_of {c : Cfg} (h : headB c = true) : (1 ≤ c.sites ∧ c.sites ≤ 3) ∧ c.splits.length ≤ 6 ∧ (1 ≤ c.again ∧ c.again ≤ 16) ∧ (16 ≤ c.over ∧ c.over ≤ 64) ∧ 2 * c.again ≤ c.over := by
 unfold headB at h
 rw [Bool.and_eq_true, Bool.and_eq_true, Bool.and_eq_true, Bool.and_eq_true, decide_eq_true_eq, decide_eq_true_eq, decide_eq_true_eq, decide_eq_true_eq, decide_eq_true_eq] at h
 exact ⟨h.1, h.2.1, h.2.2.1, h.2.2.2.1, h.2.2.2.2⟩
theorem headB_mk {c : Cfg} (h : (1 ≤ c.sites ∧ c.sites ≤ 3) ∧ c.splits.length ≤ 6 ∧ (1 ≤ c.again ∧ c.again ≤ 16) ∧ (16 ≤ c.over ∧ c.over ≤ 64) ∧ 2 * c.again ≤ c.over) : headB c = true := by
 unfold headB
 rw [decide_eq_true h.1, decide_eq_true h.2.1, decide_eq_true h.2.2.1, decide_eq_true h.2.2.2.1, decide_eq_true h.2.2.2.2]
 rfl
theorem spB_of {n : Int} {s : SpZ} (h : spB n s = true) : (1 ≤ s.1 ∧ s.1 ≤ 1048576) ∧ (allOf s.2.1).2 = 0 ∧ 0 < s.2.2.length ∧ risL 1 n s.2.2 = true := by
 unfold spB at h
 rw [Bool.and_eq_true, Bool.and_eq_true, Bool.and_eq_true, decide_eq_true_eq, decide_eq_true_eq, decide_eq_true_eq] at h
 exact ⟨h.1, h.2.1, h.2.2.1, h.2.2.2⟩
theorem cfgB_of {c : Cfg} (h : cfgB c = true) : headB c = true ∧ (∀ s ∈ c.splits, spB c.sites s = true) ∧ c.splits.Pairwise (fun a b => a.1 < b.1) := by
 unfold cfgB at h
 rw [Bool.and_eq_true, Bool.and_eq_true, List.all_eq_true, decide_eq_true_eq] at h
 exact ⟨h.1, h.2.1, h.2.2⟩
structure CfgTo (c : Cfg) (k : Nat) : Prop where
 all : ∀ s ∈ c.splits.take k, spB c.sites s = true
 rise : (c.splits.take k).Pairwise (fun a b => a.1 < b.1)
theorem CfgTo.start (c : Cfg) : CfgTo c 0 := ⟨by simp, by simp⟩
theorem CfgTo.step {c : Cfg} {k : Nat} {s : SpZ} (h : CfgTo c k) (hs : c.splits[k]? = some s) (h1 : spB c.sites s = true) (h2 : ∀ m x, k = m + 1 → c.splits[m]? = some x → x.1 < s.1) : CfgTo c (k + 1) := by
 have hstep : c.splits.take (k + 1) = c.splits.take k ++ [s] := by rw [List.take_add_one, hs]; rfl
 have hk := (List.getElem?_eq_some_iff.1 hs).1
 refine ⟨fun x hx => ?_, ?_⟩
 ·rw [hstep] at hx
  rcases List.mem_append.1 hx with hx | hx
  ·exact h.all x hx
  ·simp at hx; subst hx; exact h1
 ·rw [hstep, List.pairwise_append]
  refine ⟨h.rise, by simp, fun x hx y hy => ?_⟩
  simp at hy
  subst hy
  obtain ⟨i, hi, rfl⟩ := List.getElem_of_mem hx
  have hik : i < k := by simp at hi; omega
  have hk0 : k = (k - 1) + 1 := by omega
  have hm : k - 1 < (c.splits.take k).length := by simp; omega
  have hlast := h2 (k - 1) (c.splits.take k)[k - 1] hk0 (by rw [← List.getElem?_take_of_lt (by omega : k - 1 < k)]; exact List.getElem?_eq_getElem hm)
  by_cases e : i = k - 1
  ·subst e; exact hlast
  ·have := (List.pairwise_iff_getElem.1 h.rise) i (k - 1) hi hm (by omega)
   omega
theorem CfgTo.fin {c : Cfg} {k : Nat} (h : CfgTo c k) (hk : c.splits.length ≤ k) (hh : headB c = true) : cfgB c = true := by
 obtain ⟨h1, h2⟩ := h
 rw [List.take_of_length_le hk] at h1 h2
 unfold cfgB
 rw [hh, List.all_eq_true.2 h1, decide_eq_true h2]
 rfl
theorem cfgB_head {c : Cfg} (h : headB c = false) : cfgB c = false := by unfold cfgB; rw [h]; rfl
theorem cfgB_bad {c : Cfg} {k : Nat} {s : SpZ} (hs : c.splits[k]? = some s) (h : spB c.sites s = false) : cfgB c = false := by
 cases e : cfgB c with
 | false => rfl
 | true => rw [(cfgB_of e).2.1 s (List.mem_of_getElem? hs)] at h; cases h
theorem cfgB_two {c : Cfg} {m k : Nat} {x s : SpZ} (hk : k = m + 1) (hx : c.splits[m]? = some x) (hs : c.splits[k]? = some s) (h : ¬ x.1 < s.1) : cfgB c = false := by
 cases e : cfgB c with
 | false => rfl
 | true =>
  obtain ⟨h1, rfl⟩ := List.getElem?_eq_some_iff.1 hx
  obtain ⟨h2, rfl⟩ := List.getElem?_eq_some_iff.1 hs
  exact absurd ((List.pairwise_iff_getElem.1 (cfgB_of e).2.2) m k h1 h2 (by omega)) h
def findC : List SpZ → Int → Option Nat
 | [], _ => none
 | s :: l, id => if s.1 = id then some 0 else (findC l id).map (· + 1)
theorem findC_at {l : List SpZ} {id : Int} {k : Nat} {s : SpZ} (h : l[k]? = some s) (hid : s.1 = id) (hn : ∀ x ∈ l.take k, x.1 ≠ id) : findC l id = some k := by
 induction l generalizing k with
 | nil => simp at h
 | cons a l ih =>
  unfold findC
  cases k with
  | zero => simp at h; subst h; rw [if_pos hid]
  | succ k =>
   simp at h
   rw [if_neg (hn a (by simp)), ih h (fun x hx => hn x (by simp [hx]))]
   rfl
theorem findC_none {l : List SpZ} {id : Int} (hn : ∀ x ∈ l, x.1 ≠ id) : findC l id = none := by
 induction l with
 | nil => rfl
 | cons a l ih => unfold findC; rw [if_neg (hn a (by simp)), ih (fun x hx => hn x (by simp [hx]))]; rfl
theorem findC_some {l : List SpZ} {id : Int} {k : Nat} (h : findC l id = some k) : ∃ s, l[k]? = some s ∧ s.1 = id := by
 induction l generalizing k with
 | nil => cases h
 | cons a l ih =>
  unfold findC at h
  by_cases e : a.1 = id
  ·rw [if_pos e] at h
   injection h with h
   subst h
   exact ⟨a, rfl, e⟩
  ·rw [if_neg e] at h
   cases hf : findC l id with
   | none => rw [hf] at h; cases h
   | some j =>
    rw [hf] at h
    injection h with h
    have h' : j + 1 = k := h
    subst h'
    obtain ⟨s, h1, h2⟩ := ih hf
    exact ⟨s, by simpa using h1, h2⟩
def recsS (s : SpZ) : List Rc := (allOf s.2.1).1
theorem recsS_len (s : SpZ) : (recsS s).length ≤ 64 := allOf_len _
def recsL (l : List SpZ) : List Int → List Rc × Int
 | [] => ([], 0)
 | id :: r => match findC l id with
  | none => ([], 3)
  | some k => if (recsL l r).2 = 0 then (recsS (l.getD k s0) ++ (recsL l r).1, 0) else ([], 3)
set_option maxRecDepth 100000
def checkRes (c : Cfg) : Int := if cfgB c then 0 else 1
def recsRes (c : Cfg) (l : List Int) : List Rc × Int := if cfgB c then recsL c.splits l else ([], 1)
def recsN (S : List SpZ) (r : List Rc × Int) (i : Int) : List Rc × Int := if r.2 = 0 then (match findC S i with | none => ([], 3) | some k => (r.1 ++ recsS (S.getD k s0), 0)) else ([], 3)
theorem recsL_snoc (S : List SpZ) (l : List Int) (i : Int) : recsL S (l ++ [i]) = recsN S (recsL S l) i := by
 unfold recsN
 induction l with
 | nil =>
  show recsL S [i] = _
  unfold recsL
  cases findC S i with
  | none => rfl
  | some k => simp [recsL]
 | cons a l ih =>
  show recsL S (a :: (l ++ [i])) = _
  rw [recsL.eq_def]
  simp only
  rw [recsL.eq_def S (a :: l)]
  simp only
  cases ha : findC S a with
  | none => simp
  | some k =>
   simp only
   rw [ih]
   by_cases h0 : (recsL S l).2 = 0
   ·rw [if_pos h0, if_pos h0, if_pos rfl]
    cases findC S i with
    | none => simp
    | some j => simp
   ·rw [if_neg h0, if_neg h0]
    simp
theorem recsL_err (S : List SpZ) (l : List Int) : (recsL S l).2 = 0 ∨ recsL S l = ([], 3) := by
 cases l with
 | nil => exact .inl rfl
 | cons a l =>
  rw [recsL.eq_def]
  simp only
  cases findC S a with
  | none => exact .inr rfl
  | some k =>
   simp only
   split
   ·exact .inl rfl
   ·exact .inr rfl
theorem recsL_len (S : List SpZ) : ∀ l : List Int, (recsL S l).1.length ≤ 64 * l.length
 | [] => by simp [recsL]
 | a :: l => by
  rw [recsL.eq_def]
  simp only
  have ih := recsL_len S l
  cases findC S a with
  | none => simp
  | some k =>
   simp only
   split
   ·have := recsS_len (S.getD k s0)
    rw [List.length_append, List.length_cons]
    omega
   ·simp
end Go.Proofs.YtclcgakfmcofaaaGreatDoor
