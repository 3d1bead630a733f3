/- Two rising lists put together, by sorting and by merging. No program in this text. -/
import Derived.Test.YtejgcflcckjlpaaGreatDoorBC1M
import Derived.Lib.SlicesCompact
namespace Go.Proofs.YtejgcflcckjlpaaGreatDoor
open Go.RowKit Go.Lib
set_option linter.unusedVariables false
set_option maxRecDepth 100000

theorem get_bang {d : Array Int} {j : Nat} (h : j < d.size) : d[j]! = d[j] := getElem!_pos d j h
/-- Of a sorted row, each once: rising, and just what lies there. -/
theorem compact_rise (d : Array Int) (hs : ∀ i j, i < j → j < d.size → d[i]! ≤ d[j]!) : ∀ m, m ≤ d.size → Rise (compactUpTo d m) ∧ ∀ z, z ∈ compactUpTo d m ↔ ∃ j, j < m ∧ d[j]! = z
  | 0, _ => ⟨by simp [compactUpTo, Rise], fun z => by simp [compactUpTo]⟩
  | m + 1, hm => by
    obtain ⟨h1, h2⟩ := compact_rise d hs m (by omega)
    rw [compactUpTo_succ]
    by_cases hk : keeps d m = true
    · rw [if_pos hk]
      have hk' : m = 0 ∨ d[m]! ≠ d[m - 1]! := by simpa [keeps] using hk
      refine ⟨rise_snoc h1 ?_, ?_⟩
      · intro y hy
        obtain ⟨j, hj, rfl⟩ := (h2 y).1 hy
        rcases hk' with rfl | hk'
        · omega
        · have e1 := hs (m - 1) m (by omega) (by omega)
          by_cases e : j = m - 1
          · subst e; omega
          · have e2 := hs j (m - 1) (by omega) (by omega); omega
      · intro z
        rw [List.mem_append, h2]
        constructor
        · rintro (⟨j, hj, e⟩ | h)
          · exact ⟨j, by omega, e⟩
          · simp at h; exact ⟨m, by omega, h.symm⟩
        · rintro ⟨j, hj, e⟩
          by_cases e1 : j = m
          · subst e1; right; simp [← e]
          · left; exact ⟨j, by omega, e⟩
    · rw [if_neg hk, List.append_nil]
      have hk' : ¬ (m = 0 ∨ d[m]! ≠ d[m - 1]!) := by simpa [keeps] using hk
      refine ⟨h1, fun z => ?_⟩
      rw [h2]
      constructor
      · rintro ⟨j, hj, e⟩; exact ⟨j, by omega, e⟩
      · rintro ⟨j, hj, e⟩
        by_cases e1 : j = m
        · refine ⟨m - 1, by omega, ?_⟩
          rw [← e, e1]
          exact (Classical.not_not.1 fun h => hk' (.inr h)).symm
        · exact ⟨j, by omega, e⟩
abbrev leI : Int → Int → Bool := fun x y => decide (x ≤ y)
theorem sorted_get (l : List Int) : ∀ i j, i < j → j < (l.mergeSort leI).toArray.size → (l.mergeSort leI).toArray[i]! ≤ (l.mergeSort leI).toArray[j]! := by
  have hp := List.pairwise_mergeSort (le := leI) (fun a b c h1 h2 => by simp only [leI, decide_eq_true_eq] at h1 h2 ⊢; omega) (fun a b => by simp only [leI, Bool.or_eq_true, decide_eq_true_eq]; omega) l
  intro i j hij hj
  have hj' : j < (l.mergeSort leI).length := by simpa using hj
  have := List.pairwise_iff_getElem.1 hp i j (by omega) hj' hij
  rw [get_bang hj, get_bang (by omega)]
  simpa [leI] using this
/-- Sorted, and each once: all that is in both. -/
theorem sort_compact (a b : List Int) (hb : Rise b) : compactUpTo ((a ++ b).mergeSort leI).toArray ((a ++ b).mergeSort leI).toArray.size = uni a b := by
  obtain ⟨h1, h2⟩ := compact_rise _ (sorted_get (a ++ b)) _ (Nat.le_refl _)
  refine rise_ext h1 (rise_uni a hb) fun z => ?_
  rw [h2, mem_uni, ← List.mem_append, ← (List.mergeSort_perm (a ++ b) leI).mem_iff]
  constructor
  · rintro ⟨j, hj, e⟩
    rw [get_bang hj] at e
    rw [← e]
    simp
  · intro h
    obtain ⟨j, hj, e⟩ := List.getElem_of_mem h
    exact ⟨j, by simpa using hj, by rw [get_bang (by simpa using hj)]; simpa using e⟩
/-- So far of one, so far of the other: both are in it. -/
structure MJ (a b : List Int) (i k : Nat) (l : List Int) : Prop where
  ri : Rise l
  mem : ∀ z, z ∈ l ↔ z ∈ a.take i ∨ z ∈ b.take k
  la : ∀ z ∈ l, ∀ y ∈ a.drop i, z < y
  lb : ∀ z ∈ l, ∀ y ∈ b.drop k, z < y
  len : l.length ≤ i + k
theorem MJ.start (a b : List Int) : MJ a b 0 0 [] := ⟨Rise.nil, fun z => by simp, fun z hz => by simp at hz, fun z hz => by simp at hz, by simp⟩
theorem MJ.done {a b l : List Int} {i k : Nat} (h : MJ a b i k l) (hi : a.length ≤ i) (hk : b.length ≤ k) (hb : Rise b) : l = uni a b :=
  rise_ext h.ri (rise_uni a hb) fun z => by rw [h.mem, mem_uni, List.take_of_length_le hi, List.take_of_length_le hk]
theorem take_snoc {a : List Int} {i : Nat} {x : Int} (hx : a[i]? = some x) : a.take (i + 1) = a.take i ++ [x] := by rw [List.take_add_one, hx]; rfl
theorem drop_head {a : List Int} {i : Nat} {x : Int} (hx : a[i]? = some x) : a.drop i = x :: a.drop (i + 1) := by
  obtain ⟨h, e⟩ := List.getElem?_eq_some_iff.1 hx
  rw [List.drop_eq_getElem_cons h, e]
theorem rise_drop {a : List Int} (h : Rise a) (i : Nat) : Rise (a.drop i) := List.Pairwise.sublist (List.drop_sublist i a) h
theorem rise_behind {a : List Int} (h : Rise a) {i : Nat} {x : Int} (hx : a[i]? = some x) : ∀ y ∈ a.drop (i + 1), x < y := by
  have := rise_drop h i
  rw [drop_head hx, rise_cons] at this
  exact this.1
theorem MJ.left {a b l : List Int} {i k : Nat} {x : Int} (h : MJ a b i k l) (ha : Rise a) (hb : Rise b) (hx : a[i]? = some x) (hk : b.length ≤ k ∨ ∃ y, b[k]? = some y ∧ x < y) : MJ a b (i + 1) k (l ++ [x]) := by
  have hin : x ∈ a.drop i := by rw [drop_head hx]; simp
  refine ⟨rise_snoc h.ri fun y hy => h.la y hy x hin, fun z => ?_, ?_, ?_, by have := h.len; simp; omega⟩
  · rw [take_snoc hx, List.mem_append, List.mem_append, h.mem]
    constructor
    · rintro ((h1 | h1) | h1)
      · exact .inl (.inl h1)
      · exact .inr h1
      · exact .inl (.inr h1)
    · rintro ((h1 | h1) | h1)
      · exact .inl (.inl h1)
      · exact .inr h1
      · exact .inl (.inr h1)
  · intro z hz y hy
    rw [List.mem_append] at hz
    rcases hz with hz | hz
    · exact h.la z hz y (by rw [drop_head hx]; simp [hy])
    · simp at hz; subst hz; exact rise_behind ha hx y hy
  · intro z hz y hy
    rw [List.mem_append] at hz
    rcases hz with hz | hz
    · exact h.lb z hz y hy
    · simp at hz; subst hz
      rcases hk with hk | ⟨v, hv, hlt⟩
      · rw [List.drop_of_length_le hk] at hy; simp at hy
      · rw [drop_head hv, List.mem_cons] at hy
        rcases hy with rfl | hy
        · exact hlt
        · have := rise_behind hb hv y hy; omega
theorem MJ.swap {a b l : List Int} {i k : Nat} (h : MJ a b i k l) : MJ b a k i l := ⟨h.ri, fun z => by rw [h.mem]; exact Or.comm, h.lb, h.la, by have := h.len; omega⟩
theorem MJ.right {a b l : List Int} {i k : Nat} {x : Int} (h : MJ a b i k l) (ha : Rise a) (hb : Rise b) (hx : b[k]? = some x) (hk : a.length ≤ i ∨ ∃ y, a[i]? = some y ∧ x < y) : MJ a b i (k + 1) (l ++ [x]) := (h.swap.left hb ha hx hk).swap
theorem MJ.both {a b l : List Int} {i k : Nat} {x : Int} (h : MJ a b i k l) (ha : Rise a) (hb : Rise b) (hx : a[i]? = some x) (hy : b[k]? = some x) : MJ a b (i + 1) (k + 1) (l ++ [x]) := by
  have hin : x ∈ a.drop i := by rw [drop_head hx]; simp
  refine ⟨rise_snoc h.ri fun y hy => h.la y hy x hin, fun z => ?_, ?_, ?_, by have := h.len; simp; omega⟩
  · rw [take_snoc hx, take_snoc hy, List.mem_append, List.mem_append, List.mem_append, h.mem]
    constructor
    · rintro ((h1 | h1) | h1)
      · exact .inl (.inl h1)
      · exact .inr (.inl h1)
      · exact .inl (.inr h1)
    · rintro ((h1 | h1) | (h1 | h1))
      · exact .inl (.inl h1)
      · exact .inr h1
      · exact .inl (.inr h1)
      · exact .inr h1
  · intro z hz y hy'
    rw [List.mem_append] at hz
    rcases hz with hz | hz
    · exact h.la z hz y (by rw [drop_head hx]; simp [hy'])
    · simp at hz; subst hz; exact rise_behind ha hx y hy'
  · intro z hz y hy'
    rw [List.mem_append] at hz
    rcases hz with hz | hz
    · exact h.lb z hz y (by rw [drop_head hy]; simp [hy'])
    · simp at hz; subst hz; exact rise_behind hb hy y hy'
/-- Neighbours rise: all rise. -/
theorem rise_of_next : ∀ (l : List Int), (∀ i x y, l[i]? = some x → l[i + 1]? = some y → x < y) → Rise l
  | [], _ => Rise.nil
  | [x], _ => by simp [Rise]
  | x :: y :: l, h => by
    have ih := rise_of_next (y :: l) fun i a b h1 h2 => h (i + 1) a b (by simpa using h1) (by simpa using h2)
    rw [rise_cons]
    refine ⟨fun z hz => ?_, ih⟩
    have h0 := h 0 x y rfl rfl
    rw [List.mem_cons] at hz
    rcases hz with rfl | hz
    · exact h0
    · rw [rise_cons] at ih
      have := ih.1 z hz
      omega
theorem rise_next {l : List Int} (h : Rise l) {i : Nat} {x y : Int} (hx : l[i]? = some x) (hy : l[i + 1]? = some y) : x < y :=
  rise_behind h hx y (by rw [drop_head hy]; simp)
end Go.Proofs.YtejgcflcckjlpaaGreatDoor
