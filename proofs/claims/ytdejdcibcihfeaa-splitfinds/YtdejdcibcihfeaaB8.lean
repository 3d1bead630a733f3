/- Configurations: may one be; which split an ID is; who has it next; its records. No program in this text. -/
import Derived.Test.YtdejdcibcihfeaaB7
namespace Go.Proofs.Ytdejdcibcihfeaa
open Go.RowKit
set_option linter.unusedVariables false
set_option maxRecDepth 100000

/-- A split: its ID, its text, its sites. -/
abbrev Sp := Int × ByteArray × List Int
abbrev s0 : Sp := (0, ⟨#[]⟩, [])
/-- A configuration. -/
structure Cfg where
  sites : Int
  splits : List Sp
  again : Int
  over : Int
/-- Rising numbers, none below lo, none above hi. -/
def risL (lo hi : Int) (l : List Int) : Bool := l.all (fun x => decide (lo ≤ x ∧ x ≤ hi)) && decide (l.Pairwise (· < ·))
/-- A split that may be, as it stands alone. -/
def spB (sites : Int) (s : Sp) : Bool := decide (1 ≤ s.1 ∧ s.1 ≤ 1048576) && (decide ((allOf s.2.1).2 = 0) && (decide (0 < s.2.2.length) && risL 1 sites s.2.2))
def headB (c : Cfg) : Bool := decide (1 ≤ c.sites ∧ c.sites ≤ 3) && (decide (c.splits.length ≤ 6) && (decide (1 ≤ c.again ∧ c.again ≤ 16) && (decide (16 ≤ c.over ∧ c.over ≤ 64) && decide (2 * c.again ≤ c.over))))
/-- May it be? -/
def cfgB (c : Cfg) : Bool := headB c && (c.splits.all (spB c.sites) && decide (c.splits.Pairwise (fun a b => a.1 < b.1)))
theorem risL_of {lo hi : Int} {l : List Int} (h : risL lo hi l = true) : (∀ x ∈ l, lo ≤ x ∧ x ≤ hi) ∧ l.Pairwise (· < ·) := by
  unfold risL at h
  rw [Bool.and_eq_true, List.all_eq_true, decide_eq_true_eq] at h
  exact ⟨fun x hx => of_decide_eq_true (h.1 x hx), h.2⟩
theorem headB_of {c : Cfg} (h : headB c = true) : (1 ≤ c.sites ∧ c.sites ≤ 3) ∧ c.splits.length ≤ 6 ∧ (1 ≤ c.again ∧ c.again ≤ 16) ∧ (16 ≤ c.over ∧ c.over ≤ 64) ∧ 2 * c.again ≤ c.over := by
  unfold headB at h
  rw [Bool.and_eq_true, Bool.and_eq_true, Bool.and_eq_true, Bool.and_eq_true, decide_eq_true_eq, decide_eq_true_eq, decide_eq_true_eq, decide_eq_true_eq, decide_eq_true_eq] at h
  exact ⟨h.1, h.2.1, h.2.2.1, h.2.2.2.1, h.2.2.2.2⟩
theorem headB_mk {c : Cfg} (h : (1 ≤ c.sites ∧ c.sites ≤ 3) ∧ c.splits.length ≤ 6 ∧ (1 ≤ c.again ∧ c.again ≤ 16) ∧ (16 ≤ c.over ∧ c.over ≤ 64) ∧ 2 * c.again ≤ c.over) : headB c = true := by
  unfold headB
  rw [decide_eq_true h.1, decide_eq_true h.2.1, decide_eq_true h.2.2.1, decide_eq_true h.2.2.2.1, decide_eq_true h.2.2.2.2]
  rfl
theorem spB_of {n : Int} {s : Sp} (h : spB n s = true) : (1 ≤ s.1 ∧ s.1 ≤ 1048576) ∧ (allOf s.2.1).2 = 0 ∧ 0 < s.2.2.length ∧ risL 1 n s.2.2 = true := by
  unfold spB at h
  rw [Bool.and_eq_true, Bool.and_eq_true, Bool.and_eq_true, decide_eq_true_eq, decide_eq_true_eq, decide_eq_true_eq] at h
  exact ⟨h.1, h.2.1, h.2.2.1, h.2.2.2⟩
theorem cfgB_of {c : Cfg} (h : cfgB c = true) : headB c = true ∧ (∀ s ∈ c.splits, spB c.sites s = true) ∧ c.splits.Pairwise (fun a b => a.1 < b.1) := by
  unfold cfgB at h
  rw [Bool.and_eq_true, Bool.and_eq_true, List.all_eq_true, decide_eq_true_eq] at h
  exact ⟨h.1, h.2.1, h.2.2⟩
/-- The first k splits may be. -/
structure CfgTo (c : Cfg) (k : Nat) : Prop where
  all : ∀ s ∈ c.splits.take k, spB c.sites s = true
  rise : (c.splits.take k).Pairwise (fun a b => a.1 < b.1)
theorem CfgTo.start (c : Cfg) : CfgTo c 0 := ⟨by simp, by simp⟩
theorem CfgTo.step {c : Cfg} {k : Nat} {s : Sp} (h : CfgTo c k) (hs : c.splits[k]? = some s) (h1 : spB c.sites s = true) (h2 : ∀ m x, k = m + 1 → c.splits[m]? = some x → x.1 < s.1) : CfgTo c (k + 1) := by
  have hstep : c.splits.take (k + 1) = c.splits.take k ++ [s] := by rw [List.take_add_one, hs]; rfl
  have hk := (List.getElem?_eq_some_iff.1 hs).1
  refine ⟨fun x hx => ?_, ?_⟩
  · rw [hstep] at hx
    rcases List.mem_append.1 hx with hx | hx
    · exact h.all x hx
    · simp at hx; subst hx; exact h1
  · rw [hstep, List.pairwise_append]
    refine ⟨h.rise, by simp, fun x hx y hy => ?_⟩
    simp at hy
    subst hy
    obtain ⟨i, hi, rfl⟩ := List.getElem_of_mem hx
    have hik : i < k := by simp at hi; omega
    have hk0 : k = (k - 1) + 1 := by omega
    have hm : k - 1 < (c.splits.take k).length := by simp; omega
    have hlast := h2 (k - 1) (c.splits.take k)[k - 1] hk0 (by rw [← List.getElem?_take_of_lt (by omega : k - 1 < k)]; exact List.getElem?_eq_getElem hm)
    by_cases e : i = k - 1
    · subst e; exact hlast
    · have := (List.pairwise_iff_getElem.1 h.rise) i (k - 1) hi hm (by omega)
      omega
theorem CfgTo.fin {c : Cfg} {k : Nat} (h : CfgTo c k) (hk : c.splits.length ≤ k) (hh : headB c = true) : cfgB c = true := by
  obtain ⟨h1, h2⟩ := h
  rw [List.take_of_length_le hk] at h1 h2
  unfold cfgB
  rw [hh, List.all_eq_true.2 h1, decide_eq_true h2]
  rfl
theorem cfgB_head {c : Cfg} (h : headB c = false) : cfgB c = false := by unfold cfgB; rw [h]; rfl
theorem cfgB_bad {c : Cfg} {k : Nat} {s : Sp} (hs : c.splits[k]? = some s) (h : spB c.sites s = false) : cfgB c = false := by
  cases e : cfgB c with
  | false => rfl
  | true => rw [(cfgB_of e).2.1 s (List.mem_of_getElem? hs)] at h; cases h
theorem cfgB_two {c : Cfg} {m k : Nat} {x s : Sp} (hk : k = m + 1) (hx : c.splits[m]? = some x) (hs : c.splits[k]? = some s) (h : ¬ x.1 < s.1) : cfgB c = false := by
  cases e : cfgB c with
  | false => rfl
  | true =>
    obtain ⟨h1, rfl⟩ := List.getElem?_eq_some_iff.1 hx
    obtain ⟨h2, rfl⟩ := List.getElem?_eq_some_iff.1 hs
    exact absurd ((List.pairwise_iff_getElem.1 (cfgB_of e).2.2) m k h1 h2 (by omega)) h
/-! ### A split found -/
/-- Where the first one of that ID stands. -/
def findC : List Sp → Int → Option Nat
  | [], _ => none
  | s :: l, id => if s.1 = id then some 0 else (findC l id).map (· + 1)
theorem findC_at {l : List Sp} {id : Int} {k : Nat} {s : Sp} (h : l[k]? = some s) (hid : s.1 = id) (hn : ∀ x ∈ l.take k, x.1 ≠ id) : findC l id = some k := by
  induction l generalizing k with
  | nil => simp at h
  | cons a l ih =>
    unfold findC
    cases k with
    | zero => simp at h; subst h; rw [if_pos hid]
    | succ k =>
      simp at h
      rw [if_neg (hn a (by simp)), ih h (fun x hx => hn x (by simp [hx]))]
      rfl
theorem findC_none {l : List Sp} {id : Int} (hn : ∀ x ∈ l, x.1 ≠ id) : findC l id = none := by
  induction l with
  | nil => rfl
  | cons a l ih => unfold findC; rw [if_neg (hn a (by simp)), ih (fun x hx => hn x (by simp [hx]))]; rfl
theorem findC_some {l : List Sp} {id : Int} {k : Nat} (h : findC l id = some k) : ∃ s, l[k]? = some s ∧ s.1 = id := by
  induction l generalizing k with
  | nil => cases h
  | cons a l ih =>
    unfold findC at h
    by_cases e : a.1 = id
    · rw [if_pos e] at h
      injection h with h
      subst h
      exact ⟨a, rfl, e⟩
    · rw [if_neg e] at h
      cases hf : findC l id with
      | none => rw [hf] at h; cases h
      | some j =>
        rw [hf] at h
        injection h with h
        have h' : j + 1 = k := h
        subst h'
        obtain ⟨s, h1, h2⟩ := ih hf
        exact ⟨s, by simpa using h1, h2⟩
/-- Of rising ones each is found by its ID. -/
theorem findC_rise {l : List Sp} (h : l.Pairwise (fun a b => a.1 < b.1)) {k : Nat} {s : Sp} (hs : l[k]? = some s) : findC l s.1 = some k := by
  refine findC_at hs rfl fun x hx => ?_
  obtain ⟨i, hi, rfl⟩ := List.getElem_of_mem hx
  obtain ⟨hk, rfl⟩ := List.getElem?_eq_some_iff.1 hs
  have hik : i < k := by simp at hi; omega
  have := (List.pairwise_iff_getElem.1 h) i k (by omega) hk hik
  rw [List.getElem_take]
  omega
/-! ### Who has it next -/
def nextG (l : List Int) (site d : Int) : Int := match l with
  | [] => d
  | x :: l => if site < x then x else nextG l site d
/-- The first of its sites behind site; the first one of all, if there is none. -/
def nextL (l : List Int) (site : Int) : Int := nextG l site (l.headD 0)
theorem nextG_hit {l : List Int} {site d : Int} {k : Nat} {x : Int} (h : l[k]? = some x) (hx : site < x) (hn : ∀ y ∈ l.take k, ¬ site < y) : nextG l site d = x := by
  induction l generalizing k with
  | nil => simp at h
  | cons a l ih =>
    unfold nextG
    cases k with
    | zero => simp at h; subst h; rw [if_pos hx]
    | succ k =>
      simp at h
      rw [if_neg (hn a (by simp)), ih h (fun y hy => hn y (by simp [hy]))]
theorem nextG_miss {l : List Int} {site d : Int} (hn : ∀ y ∈ l, ¬ site < y) : nextG l site d = d := by
  induction l with
  | nil => rfl
  | cons a l ih => unfold nextG; rw [if_neg (hn a (by simp)), ih (fun y hy => hn y (by simp [hy]))]
theorem nextL_hit {l : List Int} {site : Int} {k : Nat} {x : Int} (h : l[k]? = some x) (hx : site < x) (hn : ∀ y ∈ l.take k, ¬ site < y) : nextL l site = x := nextG_hit h hx hn
theorem nextL_miss {l : List Int} {site x : Int} (hn : ∀ y ∈ l, ¬ site < y) (h0 : l[0]? = some x) : nextL l site = x := by
  unfold nextL
  rw [nextG_miss hn]
  cases l with
  | nil => simp at h0
  | cons a l => simp at h0; simp [h0]
/-- From a site on to the one behind it. -/
theorem next_step {l : List Int} (h : l.Pairwise (· < ·)) {k : Nat} {x y : Int} (hx : l[k]? = some x) (hy : l[k + 1]? = some y) : nextL l x = y := by
  obtain ⟨h1, rfl⟩ := List.getElem?_eq_some_iff.1 hx
  obtain ⟨h2, rfl⟩ := List.getElem?_eq_some_iff.1 hy
  refine nextL_hit hy ((List.pairwise_iff_getElem.1 h) k (k + 1) h1 h2 (by omega)) fun z hz => ?_
  obtain ⟨i, hi, rfl⟩ := List.getElem_of_mem hz
  have hik : i < k + 1 := by simp at hi; omega
  rw [List.getElem_take]
  by_cases e : i = k
  · subst e; omega
  · have := (List.pairwise_iff_getElem.1 h) i k (by omega) h1 (by omega)
    omega
/-- Behind the last: the first. -/
theorem next_turn {l : List Int} (h : l.Pairwise (· < ·)) {x y : Int} (hx : l[l.length - 1]? = some x) (hy : l[0]? = some y) : nextL l x = y := by
  obtain ⟨h1, rfl⟩ := List.getElem?_eq_some_iff.1 hx
  refine nextL_miss (fun z hz => ?_) hy
  obtain ⟨i, hi, rfl⟩ := List.getElem_of_mem hz
  by_cases e : i = l.length - 1
  · subst e; omega
  · have := (List.pairwise_iff_getElem.1 h) i (l.length - 1) hi h1 (by omega)
    omega
/-- Ahead of all: the first. -/
theorem next_zero {l : List Int} {y : Int} (hl : ∀ x ∈ l, 1 ≤ x) (hy : l[0]? = some y) : nextL l 0 = y :=
  nextL_hit hy (by have := hl y (List.mem_of_getElem? hy); omega) (fun z hz => by simp at hz)
/-! ### Its records -/
def recsS (s : Sp) : List Rc := (allOf s.2.1).1
theorem recsS_len (s : Sp) : (recsS s).length ≤ 64 := allOf_len _
/-- Of a row of IDs: their records, or the error. -/
def recsL (l : List Sp) : List Int → List Rc × Int
  | [] => ([], 0)
  | id :: r => match findC l id with
    | none => ([], 3)
    | some k => if (recsL l r).2 = 0 then (recsS (l.getD k s0) ++ (recsL l r).1, 0) else ([], 3)
end Go.Proofs.Ytdejdcibcihfeaa
