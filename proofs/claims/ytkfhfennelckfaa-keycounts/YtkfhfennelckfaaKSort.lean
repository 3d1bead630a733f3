/- key.Sort: a slice of the call's own that holds the keys in order. -/
import Derived.Test.YtkfhfennelckfaaKCopy
import Derived.Shelf.SlSortCmp.NoneTotal
import Derived.Shelf.SlicesE.Clone
import Derived.Shelf.SlGeneric
import Derived.Ground.SlsfProg
import Derived.Ground.SlgnProg
import Derived.Sort.OwnSorted
namespace Go.Proofs.Ytkfhfennelckfaa
open Go.RowKit Go.Shelf
open Go.Sort (grow putRow putCells flatK HoldsK Holds putRowK)
set_option linter.unusedVariables false

shelf_lay_g SlLaysF0.n6 Slsf 6 at Try 32 as Try.sortK
shelf_lay_g SlLaysE0.n41 Slgn 41 at Try 31 as Try.cloneK

theorem flat_eq (l : List Ky) : (flatK encK 2 l.toArray).toList = flatK' l := by
  apply List.ext_getElem?
  intro t
  by_cases ht : t < l.length * 2
  · have hi : t / 2 < l.length := by omega
    obtain ⟨x, hx⟩ := getSome hi
    obtain ⟨g0, g1⟩ := flat_get l (t / 2) x hx
    have h1 := Go.Sort.get_flatK encK 2 l.toArray t (by simpa using ht)
    have hlx : l.toArray[t / 2]! = x := by
      rw [getElem!_pos _ _ (by simpa using hi)]
      have := (List.getElem?_eq_some_iff.1 hx).2
      simpa using this
    rw [hlx] at h1
    have hsz : t < (flatK encK 2 l.toArray).size := by simpa using ht
    rw [getElem!_pos (flatK encK 2 l.toArray) t hsz] at h1
    rw [Array.getElem?_toList, Array.getElem?_eq_getElem hsz, h1]
    rcases Nat.mod_two_eq_zero_or_one t with h2 | h2
    · have e : t = t / 2 * 2 := by omega
      rw [show (flatK' l)[t]? = (flatK' l)[t / 2 * 2]? by rw [← e], g0, h2]
      rfl
    · have e : t = t / 2 * 2 + 1 := by omega
      rw [show (flatK' l)[t]? = (flatK' l)[t / 2 * 2 + 1]? by rw [← e], g1, h2]
      rfl
  · rw [List.getElem?_eq_none (by simp; omega), List.getElem?_eq_none (by rw [flat_len]; omega)]
theorem flat_size (l : List Ky) : (flatK encK 2 l.toArray).size = l.length * 2 := by simp

theorem holds_own {w : World} {g : Nat} {cur : Array Value} {e : TypeId} {l : List Ky} (hb : w.heap[g]? = some (.cells cur e (0, 0))) (ht : cur.toList.take (l.length * 2) = flatK' l) : HoldsK encK 2 w g 0 l.toArray := by
  intro j hj
  rw [flat_size] at hj
  have hsz : j < (flatK encK 2 l.toArray).size := by rw [flat_size]; exact hj
  refine ⟨?_, by simp [World.frozen?, hb]⟩
  have h1 : (cur.toList.take (l.length * 2))[j]? = (flatK encK 2 l.toArray).toList[j]? := by rw [ht, flat_eq]
  rw [List.getElem?_take_of_lt hj] at h1
  simp only [World.cell?, hb, Nat.zero_add]
  simp only [Option.isSome_none, Bool.false_eq_true, if_false]
  rw [← Array.getElem?_toList, h1, Array.getElem?_toList, getElem!_pos (flatK encK 2 l.toArray) j hsz, Array.getElem?_eq_getElem hsz]
  rfl
theorem heap_sortedK {w : World} {g n : Nat} {os : Array Obj} {cur : Array Value} {e : TypeId} {fr : Nat × Nat} (d : Array Value) (hb : w.heap[g]? = some (.cells cur e fr)) :
    (grow (putRow id (Go.Sort.ahead w n) g 0 d) os).heap[g]? = some (.cells (putCells id 0 d cur) e fr) := by
  have hg : g < w.heap.size := (Array.getElem?_eq_some_iff.1 hb).1
  rw [Go.Sort.heap_grow_old _ _ (by simpa using hg)]
  simp [putRow, Go.Sort.mapBlock, Go.Sort.ahead, Array.getElem?_modify, hb, Go.Sort.onCells]
theorem grownBy_sortedK {w : World} {g n : Nat} {os : Array Obj} (d : Array Value) : w.grownBy (grow (putRow id (Go.Sort.ahead w n) g 0 d) os) (some g) := by
  refine ⟨rfl, rfl, rfl, by simp, fun k hk hne => ?_⟩
  rw [Go.Sort.heap_grow_old _ _ (by simpa using hk)]
  have : g ≠ k := fun e => hne (by rw [e])
  simp [putRow, Go.Sort.mapBlock, Go.Sort.ahead, Array.getElem?_modify, this]
theorem take_putK (cur : Array Value) (ts : List Value) (h : ts.length ≤ cur.size) : (putCells id 0 ts.toArray cur).toList.take ts.length = ts := by
  apply List.ext_getElem?
  intro j
  by_cases hj : j < ts.length
  · rw [List.getElem?_take_of_lt hj, Array.getElem?_toList]
    simp [putCells, hj, show j < cur.size by omega]
  · rw [List.getElem?_take_eq_none (by omega), List.getElem?_eq_none (by omega)]

theorem cmpLays (blk off size : Nat) (w : World) : CmpLays Try.prog 23 #[] encK 2 cfK blk off size w :=
  fun _ _ _ _ x y => kcmp_any x y _

/-- slices.SortFunc with key.Cmp, at a row of the call's own. -/
theorem sortFunc_own (v : Value) (base : Nat) (l : List Ky) (w : World) (h : OwnK w base v l) (hb : base ≤ w.heap.size) (hl : l.length ≤ 100000) :
    Calls Try.prog 32 #[v, .func (.func 23) #[] #[]] w fun e w' => e = .returned (.tuple #[]) ∧ ∃ s, Srt l s ∧ OwnK w' base v s ∧ w.grownBy w' v.ownBlock := by
  rcases h.2 with ⟨rfl, h0⟩ | ⟨g, cap, cur, rfl, hg, hbk, hn, hm, hs, ht⟩
  · obtain rfl : l = [] := List.length_eq_zero_iff.1 h0
    have hc := AnyF.slices_SortFunc_none { Try.sortK with } none 0 (.func (.func 23) #[] #[]) w
    exact hc.mono fun e w' ⟨he, hw⟩ => ⟨he, [], Srt.nil, by subst hw; exact h, by subst hw; exact World.grownBy.refl _ _⟩
  · have eg : ∀ args w, (callFunc 23 args).run Try.prog w = .ok (.enter 23 args) w := enters_of Try.func23 (by kernel_rfl) rfl
    have hc := AnyQ.slices_SortFunc_total Try.sortK 2 Try.isAgg30 Try.sizeOf30 encK (fun _ => rfl) (fun x v hv => by simp [encK] at hv; rcases hv with rfl | rfl <;> rfl) cfK swoK 23 #[] g 0 cap l.toArray w eg (cmpLays g 0 _ w) (holds_own hbk ht) (Array.getElem?_eq_some_iff.1 hbk).1 (by simp; omega) totK
    simp only [List.size_toArray] at hc
    change Calls Try.prog 32 _ _ _ at hc
    refine hc.mono fun e w' ⟨he, n, os, hw⟩ => ⟨he, _, srt_merge l, ?_, ?_⟩
    · have hp := (srt_merge l).1.length_eq
      have hfl : (flatK' (l.mergeSort fun x y => !(ltOf cfK) y x)).length = l.length * 2 := by rw [flat_len, hp]
      subst hw
      refine ⟨by rw [flat_len], .inr ⟨g, cap, _, by rw [hp], hg, heap_sortedK _ hbk, by omega, hm, by simp [putCells, hs], ?_⟩⟩
      rw [hp, ← hfl]
      have e1 : flatK encK 2 (l.mergeSort fun x y => !(ltOf cfK) y x).toArray = (flatK' (l.mergeSort fun x y => !(ltOf cfK) y x)).toArray := by rw [← flat_eq]
      rw [show (l.toArray.toList.mergeSort fun x y => !(ltOf cfK) y x) = l.mergeSort fun x y => !(ltOf cfK) y x from rfl, e1]
      exact take_putK cur _ (by rw [hfl, hs]; omega)
    · subst hw
      exact grownBy_sortedK _

set_option maxHeartbeats 400000 in
theorem clone_none (ad : Addr) (cap : Nat) (w : World) :
    Calls Try.prog 31 #[.slice (some ad) 0 cap] w fun e w' => ∃ v', e = .returned v' ∧ OwnK w' w.heap.size v' [] ∧ Below w.heap.size w w' := by
  obtain ⟨i0, hi, hz0, hz1, hz2⟩ := info_parts Try.infoKey
  have q22 : ∀ (w : World) (a : Option Addr) (n c n' c' : Nat), (binOp .eql 22 (.slice a n c) (.slice none n' c')).run Try.prog w = .ok (.bool a.isNone) w := fun w a n c n' c' => Lib.run_eql_slice_nil w _ _ a n c n' c' Try.underlying22
  go_enter Try.func31, Try.ntmps31
  go_wp2_with (at_builtin; refine wpList_append_own _ rfl _ _ 22 rfl w.heap.size 30 i0 _ 2 24 Try.underlying22 hi hz0 hz1 hz2 rfl (by decide) _ _ _ rfl (World.ownsRow_made w #[] 0 (Nat.le_refl _) (Nat.zero_le _) (by simp)) ad 0 cap [] rfl rfl (by simp) (by simp) (by unfold maxLen; omega) (by omega) (by simp) ?_)
  intro v' w1 hown hgrow hnil
  go_wp2
  go_ret
  exact ⟨v', rfl, hown, ((Below.refl _ w).alloc (Nat.le_refl _) _).grown hgrow (by simp) (by intro k hk; simp [Value.ownBlock] at hk; omega)⟩

set_option maxHeartbeats 400000 in
theorem ksort_any (v : Value) (l : List Ky) (w : World) (h : KS w v l) (hl : l.length ≤ 100000) :
    Calls Try.prog 16 #[v] w fun e w' => ∃ v' s, e = .returned v' ∧ Srt l s ∧ OwnK w' w.heap.size v' s ∧ Below w.heap.size w w' := by
  obtain ⟨i0, hi, hz0, hz1, hz2⟩ := info_parts Try.infoKey
  have hclone : Calls Try.prog 31 #[v] w fun e w' => ∃ v', e = .returned v' ∧ OwnK w' w.heap.size v' l ∧ Below w.heap.size w w' := by
    obtain ⟨a, cap, rfl, h⟩ := h
    rcases h with rfl | ⟨b, off, rfl, hb, hat⟩
    · cases a with
      | none => exact (AnyE.slices_Clone_nil { Try.cloneK with } 0 cap w).mono fun e w' ⟨he, hw⟩ => ⟨_, he, World.ownsRow_nil _ _ _ _, by subst hw; exact Below.refl _ _⟩
      | some ad => exact clone_none ad cap w
    · have hc := AnyE.slices_Clone Try.cloneK i0 _ 2 24 hi hz0 hz1 hz2 rfl (by decide) Try.sizeOf30 b off l.length cap (flatK' l) w (flat_len l) (by unfold maxLen; omega) (by omega) (fun j u hj => by have := hat.news j u hj; rwa [Addr.add_lit] at this) (flat_cell l)
      exact hc.mono fun e w' ⟨v', he, ho, _, hbel⟩ => ⟨v', he, ho, hbel⟩
  clear h
  go_enter Try.func16, Try.ntmps16
  go_wp2_with fail
  refine hclone.mono ?_
  rintro e w1 ⟨v1, rfl, hown, hbel⟩
  have hs := sortFunc_own v1 w.heap.size l w1 hown hbel.size hl
  go_wp2_with fail
  refine hs.mono ?_
  rintro e w2 ⟨rfl, s, hsrt, hown2, hgr⟩
  go_wp2
  go_ret
  exact ⟨v1, s, rfl, hsrt, hown2, hbel.grown hgr hbel.size (own_row hown)⟩
end Go.Proofs.Ytkfhfennelckfaa
