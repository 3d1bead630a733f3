/- Texts laid together: RPlain, SPlain, SRes. -/
import Derived.Test.YtclcgakfmcofaaaGreatDoorMW1
set_option linter.unusedVariables false
set_option maxRecDepth 100000
namespace Go.Proofs.YtclcgakfmcofaaaGreatDoor
def cz (s : ByteArray) : Rc × Int × Int :=
 if (bp s).2.2 ≠ 0 then (r0, 0, (bp s).2.2)
 else if (ai (from' s (bp s).2.1)).2.2 ≠ 0 then (r0, 0, (ai (from' s (bp s).2.1)).2.2)
 else (((bp s).1, (ai (from' s (bp s).2.1)).1), (bp s).2.1 + (ai (from' s (bp s).2.1)).2.1, 0)
theorem tq {s : ByteArray} {m j : Int} (h : ai s = (m, j, 0)) : ∃ q : Nat, j = (q : Int) ∧ q ≤ s.size ∧ q ≤ 10 ∧ -9223372036854775808 ≤ m ∧ m ≤ 9223372036854775807 := by
 obtain ⟨q, e, hq, h1, h2, h3⟩ := ib s m j h
 refine ⟨q, e, hq, ?_, h1, h2⟩
 have := aN m
 rw [h3, ByteArray.size_extract] at this
 omega
theorem oI (s : ByteArray) (n : Nat) : (from' s (n : Int)).size = s.size - n := by
 unfold from'; rw [ByteArray.size_extract, Int.toNat_natCast]; omega
theorem xq {s b : ByteArray} {j : Int} (h : bK s = (b, j, 0)) : ∃ q : Nat, j = (q : Int) ∧ q ≤ s.size ∧ q ≤ 74 := by
 unfold bK at h
 split at h
 ·next h0 => injection h with _ h; injection h with _ h; exact absurd h h0
 ·next h0 =>
  have h0 : (ai s).2.2 = 0 := by simpa using h0
  obtain ⟨q, e, hq, hq1, _⟩ := tq (s := s) (m := (ai s).1) (j := (ai s).2.1) (by rw [← h0])
  split at h
  ·injection h with _ h; injection h with _ h; exact absurd h (by decide)
  ·split at h
   ·injection h with _ h; injection h with _ h; exact absurd h (by decide)
   ·next h1 h2 =>
    injection h with _ h; injection h with h _
    exact ⟨((ai s).2.1 + (ai s).1).toNat, by omega, by omega, by omega⟩
theorem kq {s : ByteArray} {k : Ky} {j : Int} (h : bp s = (k, j, 0)) : ∃ q : Nat, j = (q : Int) ∧ q ≤ s.size ∧ q ≤ 84 := by
 unfold bp at h
 split at h
 ·next h0 => injection h with _ h; injection h with _ h; exact absurd h h0
 ·next h0 =>
  have h0 : (ai s).2.2 = 0 := by simpa using h0
  obtain ⟨q, e, hq, hq1, _⟩ := tq (s := s) (m := (ai s).1) (j := (ai s).2.1) (by rw [← h0])
  split at h
  ·next h1 => injection h with _ h; injection h with _ h; exact absurd h h1
  ·next h1 =>
   have h1 : (bK (from' s (ai s).2.1)).2.2 = 0 := by simpa using h1
   obtain ⟨p, e2, hp, hp1⟩ := xq (s := from' s (ai s).2.1) (b := (bK (from' s (ai s).2.1)).1) (j := (bK (from' s (ai s).2.1)).2.1) (by rw [← h1])
   injection h with _ h; injection h with h _
   rw [e, oI] at hp
   exact ⟨q + p, by omega, by omega, by omega⟩
theorem rq {s : ByteArray} {r : Rc} {j : Int} (h : cz s = (r, j, 0)) : ∃ q : Nat, j = (q : Int) ∧ q ≤ s.size ∧ q ≤ 94 := by
 unfold cz at h
 split at h
 ·next h0 => injection h with _ h; injection h with _ h; exact absurd h h0
 ·next h0 =>
  have h0 : (bp s).2.2 = 0 := by simpa using h0
  obtain ⟨q, e, hq, hq1⟩ := kq (s := s) (k := (bp s).1) (j := (bp s).2.1) (by rw [← h0])
  split at h
  ·next h1 => injection h with _ h; injection h with _ h; exact absurd h h1
  ·next h1 =>
   have h1 : (ai (from' s (bp s).2.1)).2.2 = 0 := by simpa using h1
   obtain ⟨p, e2, hp, hp1, _⟩ := tq (s := from' s (bp s).2.1) (m := (ai (from' s (bp s).2.1)).1) (j := (ai (from' s (bp s).2.1)).2.1) (by rw [← h1])
   injection h with _ h; injection h with h _
   rw [e, oI] at hp
   exact ⟨q + p, by omega, by omega, by omega⟩
def dY : Nat → List Rc → ByteArray → List Rc × Int
 | n, acc, s =>
  if s.size = 0 then (acc, 0)
  else match n with
   | 0 => ([], 2)
   | n + 1 => if (cz s).2.2 ≠ 0 then ([], (cz s).2.2) else dY n (acc ++ [(cz s).1]) (from' s (cz s).2.1)
def bi (s : ByteArray) : List Rc × Int := if 8192 < s.size then ([], 2) else dY 64 [] s
theorem allG_nil (n : Nat) (acc : List Rc) (s : ByteArray) (h : s.size = 0) : dY n acc s = (acc, 0) := by unfold dY; rw [if_pos h]
theorem oJ (acc : List Rc) (s : ByteArray) (h : ¬ s.size = 0) : dY 0 acc s = ([], 2) := by unfold dY; rw [if_neg h]
theorem allG_bad (n : Nat) (acc : List Rc) (s : ByteArray) (h : ¬ s.size = 0) (r : Rc) (j e : Int) (ht : cz s = (r, j, e)) (he : e ≠ 0) : dY (n + 1) acc s = ([], e) := by
 unfold dY; rw [if_neg h, ht]; simp only [ne_eq, he, not_false_eq_true, if_true]
theorem oK (n : Nat) (acc : List Rc) (s : ByteArray) (h : ¬ s.size = 0) (r : Rc) (q : Nat) (ht : cz s = (r, (q : Int), 0)) : dY (n + 1) acc s = dY n (acc ++ [r]) (s.extract q s.size) := by
 conv => lhs; unfold dY
 rw [if_neg h, ht]; simp only [ne_eq, not_true_eq_false, if_false, from', Int.toNat_natCast]
theorem allG_len : ∀ (n : Nat) (acc : List Rc) (s : ByteArray), acc.length + n ≤ 64 → (dY n acc s).1.length ≤ 64
 | 0, acc, s, h => by unfold dY; split <;> simp <;> omega
 | n + 1, acc, s, h => by
  unfold dY
  split
  ·simp; omega
  ·simp only
   split
   ·simp
   ·exact allG_len n _ _ (by simp; omega)
theorem oL (s : ByteArray) : (bi s).1.length ≤ 64 := by
 unfold bi; split
 ·simp
 ·exact allG_len 64 [] s (by simp)
def GoodZ (l : List Rc) : Prop := ∀ x ∈ l, x.1.2.size ≤ 64
instance (l : List Rc) : Decidable (GoodZ l) := inferInstanceAs (Decidable (∀ x ∈ l, x.1.2.size ≤ 64))
end Go.Proofs.YtclcgakfmcofaaaGreatDoor
namespace Go.Proofs.YtclcgakfmcofaaaGreatDoor
open Go.RowKit
abbrev cM := Int × ByteArray × List Int
abbrev s0 : cM := (0, ⟨#[]⟩, [])
structure aX where
 sites : Int
 splits : List cM
 again : Int
 over : Int
def cr (lo hi : Int) (l : List Int) : Bool := l.all (fun x => decide (lo ≤ x ∧ x ≤ hi)) && decide (l.Pairwise (· < ·))
def spB (sites : Int) (s : cM) : Bool := decide (1 ≤ s.1 ∧ s.1 ≤ 1048576) && (decide ((bi s.2.1).2 = 0) && (decide (0 < s.2.2.length) && cr 1 sites s.2.2))
def eh (c : aX) : Bool := decide (1 ≤ c.sites ∧ c.sites ≤ 3) && (decide (c.splits.length ≤ 6) && (decide (1 ≤ c.again ∧ c.again ≤ 16) && (decide (16 ≤ c.over ∧ c.over ≤ 64) && decide (2 * c.again ≤ c.over))))
def cU (c : aX) : Bool := eh c && (c.splits.all (spB c.sites) && decide (c.splits.Pairwise (fun a b => a.1 < b.1)))
theorem gh {lo hi : Int} {l : List Int} (h : cr lo hi l = true) : (∀ x ∈ l, lo ≤ x ∧ x ≤ hi) ∧ l.Pairwise (· < ·) := by
 unfold cr at h
 rw [Bool.and_eq_true, List.all_eq_true, decide_eq_true_eq] at h
 exact ⟨fun x hx => of_decide_eq_true (h.1 x hx), h.2⟩
theorem dG {c : aX} (h : eh c = true) : (1 ≤ c.sites ∧ c.sites ≤ 3) ∧ c.splits.length ≤ 6 ∧ (1 ≤ c.again ∧ c.again ≤ 16) ∧ (16 ≤ c.over ∧ c.over ≤ 64) ∧ 2 * c.again ≤ c.over := by
 unfold eh at h
 rw [Bool.and_eq_true, Bool.and_eq_true, Bool.and_eq_true, Bool.and_eq_true, decide_eq_true_eq, decide_eq_true_eq, decide_eq_true_eq, decide_eq_true_eq, decide_eq_true_eq] at h
 exact ⟨h.1, h.2.1, h.2.2.1, h.2.2.2.1, h.2.2.2.2⟩
theorem headB_mk {c : aX} (h : (1 ≤ c.sites ∧ c.sites ≤ 3) ∧ c.splits.length ≤ 6 ∧ (1 ≤ c.again ∧ c.again ≤ 16) ∧ (16 ≤ c.over ∧ c.over ≤ 64) ∧ 2 * c.again ≤ c.over) : eh c = true := by
 unfold eh
 rw [decide_eq_true h.1, decide_eq_true h.2.1, decide_eq_true h.2.2.1, decide_eq_true h.2.2.2.1, decide_eq_true h.2.2.2.2]
 rfl
theorem kL {n : Int} {s : cM} (h : spB n s = true) : (1 ≤ s.1 ∧ s.1 ≤ 1048576) ∧ (bi s.2.1).2 = 0 ∧ 0 < s.2.2.length ∧ cr 1 n s.2.2 = true := by
 unfold spB at h
 rw [Bool.and_eq_true, Bool.and_eq_true, Bool.and_eq_true, decide_eq_true_eq, decide_eq_true_eq, decide_eq_true_eq] at h
 exact ⟨h.1, h.2.1, h.2.2.1, h.2.2.2⟩
theorem cfgB_of {c : aX} (h : cU c = true) : eh c = true ∧ (∀ s ∈ c.splits, spB c.sites s = true) ∧ c.splits.Pairwise (fun a b => a.1 < b.1) := by
 unfold cU at h
 rw [Bool.and_eq_true, Bool.and_eq_true, List.all_eq_true, decide_eq_true_eq] at h
 exact ⟨h.1, h.2.1, h.2.2⟩
structure jU (c : aX) (k : Nat) : Prop where
 all : ∀ s ∈ c.splits.take k, spB c.sites s = true
 rise : (c.splits.take k).Pairwise (fun a b => a.1 < b.1)
theorem jU.start (c : aX) : jU c 0 := ⟨by simp, by simp⟩
theorem jU.step {c : aX} {k : Nat} {s : cM} (h : jU c k) (hs : c.splits[k]? = some s) (h1 : spB c.sites s = true) (h2 : ∀ m x, k = m + 1 → c.splits[m]? = some x → x.1 < s.1) : jU c (k + 1) := by
 have hstep : c.splits.take (k + 1) = c.splits.take k ++ [s] := by rw [List.take_add_one, hs]; rfl
 have hk := (List.getElem?_eq_some_iff.1 hs).1
 refine ⟨fun x hx => ?_, ?_⟩
 ·rw [hstep] at hx
  rcases List.mem_append.1 hx with hx | hx
  ·exact h.all x hx
  ·simp at hx; subst hx; exact h1
 ·rw [hstep, List.pairwise_append]
  refine ⟨h.rise, by simp, fun x hx y hy => ?_⟩
  simp at hy
  subst hy
  obtain ⟨i, hi, rfl⟩ := List.getElem_of_mem hx
  have hik : i < k := by simp at hi; omega
  have hk0 : k = (k - 1) + 1 := by omega
  have hm : k - 1 < (c.splits.take k).length := by simp; omega
  have hlast := h2 (k - 1) (c.splits.take k)[k - 1] hk0 (by rw [← List.getElem?_take_of_lt (by omega : k - 1 < k)]; exact List.getElem?_eq_getElem hm)
  by_cases e : i = k - 1
  ·subst e; exact hlast
  ·have := (List.pairwise_iff_getElem.1 h.rise) i (k - 1) hi hm (by omega)
   omega
theorem jU.fin {c : aX} {k : Nat} (h : jU c k) (hk : c.splits.length ≤ k) (hh : eh c = true) : cU c = true := by
 obtain ⟨h1, h2⟩ := h
 rw [List.take_of_length_le hk] at h1 h2
 unfold cU
 rw [hh, List.all_eq_true.2 h1, decide_eq_true h2]
 rfl
theorem dB {c : aX} (h : eh c = false) : cU c = false := by unfold cU; rw [h]; rfl
theorem dT {c : aX} {k : Nat} {s : cM} (hs : c.splits[k]? = some s) (h : spB c.sites s = false) : cU c = false := by
 cases e : cU c with
 | false => rfl
 | true => rw [(cfgB_of e).2.1 s (List.mem_of_getElem? hs)] at h; cases h
theorem cfgB_two {c : aX} {m k : Nat} {x s : cM} (hk : k = m + 1) (hx : c.splits[m]? = some x) (hs : c.splits[k]? = some s) (h : ¬ x.1 < s.1) : cU c = false := by
 cases e : cU c with
 | false => rfl
 | true =>
  obtain ⟨h1, rfl⟩ := List.getElem?_eq_some_iff.1 hx
  obtain ⟨h2, rfl⟩ := List.getElem?_eq_some_iff.1 hs
  exact absurd ((List.pairwise_iff_getElem.1 (cfgB_of e).2.2) m k h1 h2 (by omega)) h
def bX : List cM → Int → Option Nat
 | [], _ => none
 | s :: l, id => if s.1 = id then some 0 else (bX l id).map (· + 1)
theorem findC_at {l : List cM} {id : Int} {k : Nat} {s : cM} (h : l[k]? = some s) (hid : s.1 = id) (hn : ∀ x ∈ l.take k, x.1 ≠ id) : bX l id = some k := by
 induction l generalizing k with
 | nil => simp at h
 | cons a l ih =>
  unfold bX
  cases k with
  | zero => simp at h; subst h; rw [if_pos hid]
  | succ k =>
   simp at h
   rw [if_neg (hn a (by simp)), ih h (fun x hx => hn x (by simp [hx]))]
   rfl
theorem mM {l : List cM} {id : Int} (hn : ∀ x ∈ l, x.1 ≠ id) : bX l id = none := by
 induction l with
 | nil => rfl
 | cons a l ih => unfold bX; rw [if_neg (hn a (by simp)), ih (fun x hx => hn x (by simp [hx]))]; rfl
theorem iZ {l : List cM} {id : Int} {k : Nat} (h : bX l id = some k) : ∃ s, l[k]? = some s ∧ s.1 = id := by
 induction l generalizing k with
 | nil => cases h
 | cons a l ih =>
  unfold bX at h
  by_cases e : a.1 = id
  ·rw [if_pos e] at h
   injection h with h
   subst h
   exact ⟨a, rfl, e⟩
  ·rw [if_neg e] at h
   cases hf : bX l id with
   | none => rw [hf] at h; cases h
   | some j =>
    rw [hf] at h
    injection h with h
    have h' : j + 1 = k := h
    subst h'
    obtain ⟨s, h1, h2⟩ := ih hf
    exact ⟨s, by simpa using h1, h2⟩
def lu (s : cM) : List Rc := (bi s.2.1).1
theorem oM (s : cM) : (lu s).length ≤ 64 := oL _
def aR (l : List cM) : List Int → List Rc × Int
 | [] => ([], 0)
 | id :: r => match bX l id with
  | none => ([], 3)
  | some k => if (aR l r).2 = 0 then (lu (l.getD k s0) ++ (aR l r).1, 0) else ([], 3)
def eS (c : aX) : Int := if cU c then 0 else 1
def cV (c : aX) (l : List Int) : List Rc × Int := if cU c then aR c.splits l else ([], 1)
def mN (S : List cM) (r : List Rc × Int) (i : Int) : List Rc × Int := if r.2 = 0 then (match bX S i with | none => ([], 3) | some k => (r.1 ++ lu (S.getD k s0), 0)) else ([], 3)
theorem recsL_snoc (S : List cM) (l : List Int) (i : Int) : aR S (l ++ [i]) = mN S (aR S l) i := by
 unfold mN
 induction l with
 | nil =>
  show aR S [i] = _
  unfold aR
  cases bX S i with
  | none => rfl
  | some k => simp [aR]
 | cons a l ih =>
  show aR S (a :: (l ++ [i])) = _
  rw [aR.eq_def]
  simp only
  rw [aR.eq_def S (a :: l)]
  simp only
  cases ha : bX S a with
  | none => simp
  | some k =>
   simp only
   rw [ih]
   by_cases h0 : (aR S l).2 = 0
   ·rw [if_pos h0, if_pos h0, if_pos rfl]
    cases bX S i with
    | none => simp
    | some j => simp
   ·rw [if_neg h0, if_neg h0]
    simp
theorem oN (S : List cM) (l : List Int) : (aR S l).2 = 0 ∨ aR S l = ([], 3) := by
 cases l with
 | nil => exact .inl rfl
 | cons a l =>
  rw [aR.eq_def]
  simp only
  cases bX S a with
  | none => exact .inr rfl
  | some k =>
   simp only
   split
   ·exact .inl rfl
   ·exact .inr rfl
theorem oO (S : List cM) : ∀ l : List Int, (aR S l).1.length ≤ 64 * l.length
 | [] => by simp [aR]
 | a :: l => by
  rw [aR.eq_def]
  simp only
  have ih := oO S l
  cases bX S a with
  | none => simp
  | some k =>
   simp only
   split
   ·have := oM (S.getD k s0)
    rw [List.length_append, List.length_cons]
    omega
   ·simp
end Go.Proofs.YtclcgakfmcofaaaGreatDoor
