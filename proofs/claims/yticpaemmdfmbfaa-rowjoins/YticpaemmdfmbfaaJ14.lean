/- Numbers sorted, and each once, in a row of the call's own. -/
import Derived.Test.YticpaemmdfmbfaaJ9
import Derived.Shelf.SortG.AssemblyIn
import Derived.Shelf.SortG.SortNone
import Derived.Shelf.SlicesE.Compact
import Derived.Shelf.SlGeneric
import Derived.Ground.SlgnProg
import Derived.Sort.EveryDepth
namespace Go.Proofs.Yticpaemmdfmbfaa
open Go.RowKit Go.Shelf
open Go.Sort (grow putRow putCells Holds)
open Go.Lib (compactUpTo)
set_option linter.unusedVariables false
set_option maxRecDepth 100000

shelf_lay_g SlLaysN.n53 Slgn 53 at Try 82 as Try.sortL
shelf_lay_g SlLaysE.n43 Slgn 43 at Try 83 as Try.compactL
abbrev encL : Int → Value := Value.int .i64
theorem holds_own {w : World} {g : Nat} {cur : Array Value} {e : TypeId} {l : List Int} (hb : w.heap[g]? = some (.cells cur e (0, 0))) (ht : cur.toList.take (l.length * 1) = l.map encL) : Holds encL w g 0 l.toArray := by
  intro j hj
  have hj' : j < l.length := by simpa using hj
  refine ⟨?_, by simp [World.frozen?, hb]⟩
  have h1 : (cur.toList.take (l.length * 1))[j]? = (l.map encL)[j]? := by rw [ht]
  rw [List.getElem?_take_of_lt (by omega)] at h1
  simp only [World.cell?, hb, Nat.zero_add]
  simp only [Option.isSome_none, Bool.false_eq_true, if_false]
  rw [← Array.getElem?_toList, h1, get_bang hj]
  simp [hj']
theorem heap_put {w : World} {g n : Nat} {os : Array Obj} {cur : Array Value} {e : TypeId} {fr : Nat × Nat} (d : Array Int) (hb : w.heap[g]? = some (.cells cur e fr)) :
    (grow (putRow encL (Go.Sort.ahead w n) g 0 d) os).heap[g]? = some (.cells (putCells encL 0 d cur) e fr) := by
  have hg : g < w.heap.size := (Array.getElem?_eq_some_iff.1 hb).1
  rw [Go.Sort.heap_grow_old _ _ (by simpa using hg)]
  simp [putRow, Go.Sort.mapBlock, Go.Sort.ahead, Array.getElem?_modify, hb, Go.Sort.onCells]
theorem grownBy_put {w : World} {g n : Nat} {os : Array Obj} (d : Array Int) : w.grownBy (grow (putRow encL (Go.Sort.ahead w n) g 0 d) os) (some g) := by
  refine ⟨rfl, rfl, rfl, by simp, fun k hk hne => ?_⟩
  rw [Go.Sort.heap_grow_old _ _ (by simpa using hk)]
  have : g ≠ k := fun e => hne (by rw [e])
  simp [putRow, Go.Sort.mapBlock, Go.Sort.ahead, Array.getElem?_modify, this]
theorem take_put (cur : Array Value) (ts us : List Int) (h : ts.length + us.length ≤ cur.size) : (putCells encL 0 (ts ++ us).toArray cur).toList.take ts.length = ts.map encL := by
  apply List.ext_getElem?
  intro j
  by_cases hj : j < ts.length
  · rw [List.getElem?_take_of_lt hj, Array.getElem?_toList]
    simp only [putCells, Array.getElem?_mapIdx]
    have h1 : j < cur.size := by omega
    have h2 : j < (ts ++ us).toArray.size := by simp; omega
    rw [Array.getElem?_eq_getElem h1]
    simp only [Option.map_some, Nat.zero_le, true_and, Nat.zero_add, Nat.sub_zero, if_pos h2]
    rw [get_bang h2]
    simp [hj]
  · rw [List.getElem?_take_eq_none (by omega), List.getElem?_eq_none (by simp; omega)]
/-- slices.Sort, at a row of the call's own. -/
theorem sort_own (v : Value) (base : Nat) (l : List Int) (w : World) (h : OwnL w base v l) (hl : l.length ≤ 100000) :
    Calls Try.prog 82 #[v] w fun e w' => e = .returned (.tuple #[]) ∧ OwnL w' base v (l.mergeSort leI) ∧ w.grownBy w' v.ownBlock := by
  rcases h.2 with ⟨rfl, h0⟩ | ⟨g, cap, cur, rfl, hg, hbk, hn, hm, hs, ht⟩
  · obtain rfl : l = [] := List.length_eq_zero_iff.1 h0
    have hc := AnyG.slices_Sort_int_none Try.sortL none 0 w
    exact hc.mono fun e w' ⟨he, hw⟩ => ⟨he, by subst hw; rw [List.mergeSort_nil]; exact OwnL.nil _ _, by subst hw; exact World.grownBy.refl _ _⟩
  · have hc := calls_of_every_depth fun D => AnySG.slices_Sort_int_in Try.sortL D g 0 cap l w (holds_own hbk ht) (Array.getElem?_eq_some_iff.1 hbk).1 (by omega)
    change Calls Try.prog 82 _ _ _ at hc
    refine hc.mono fun e w' ⟨he, n, os, hw⟩ => ⟨he, ?_, ?_⟩
    · have hp := (List.mergeSort_perm l leI).length_eq
      subst hw
      refine ⟨by simp, .inr ⟨g, cap, _, by rw [hp], hg, heap_put _ hbk, by omega, hm, by simp [putCells, hs], ?_⟩⟩
      rw [Nat.mul_one]
      have := take_put cur (l.mergeSort leI) [] (by simp only [List.length_nil]; omega)
      rwa [List.append_nil] at this
    · subst hw
      exact grownBy_put _
/-- slices.Compact, at a row of the call's own. -/
theorem compact_own (v : Value) (base : Nat) (l : List Int) (w : World) (h : OwnL w base v l) (hl : l.length ≤ 100000) :
    Calls Try.prog 83 #[v] w fun e w' => (∃ v', e = .returned v' ∧ OwnL w' base v' (compactUpTo l.toArray l.toArray.size) ∧ v'.ownBlock = v.ownBlock) ∧ w.grownBy w' v.ownBlock := by
  rcases h.2 with ⟨rfl, h0⟩ | ⟨g, cap, cur, rfl, hg, hbk, hn, hm, hs, ht⟩
  · obtain rfl : l = [] := List.length_eq_zero_iff.1 h0
    go_enter Try.func83, Try.ntmps83
    go_wp2
    go_ret
    exact ⟨⟨_, rfl, OwnL.nil _ _, rfl⟩, World.grownBy.refl _ _⟩
  · have hc := AnyE.slices_Compact Try.compactL encL (fun _ => rfl) (EqlAt.intD _ _ .i64) (NeqAt.intD _ _ .i64) 0 Try.zeroValue2 g 0 cap l.toArray w (holds_own hbk ht) (by simp; omega) (by simpa using hn)
    change Calls Try.prog 83 _ _ _ at hc
    have hc' : Calls Try.prog 83 #[.slice (some ⟨g, 0, none⟩) l.length cap] w _ := hc
    refine hc'.mono fun e w' ⟨he, q, hw⟩ => ⟨⟨_, he, ?_, rfl⟩, ?_⟩
    · have hle : (compactUpTo l.toArray l.toArray.size).length ≤ l.length := by
        have := List.length_filter_le (Go.Lib.keeps l.toArray) (List.range l.toArray.size)
        unfold compactUpTo
        simpa using this
      have hw' : w' = grow (putRow encL (Go.Sort.ahead w q) g 0 (compactUpTo l.toArray l.toArray.size ++ List.replicate (l.toArray.size - (compactUpTo l.toArray l.toArray.size).length) 0).toArray) #[] := by rw [hw, Go.Sort.grow_empty]
      subst hw'
      generalize compactUpTo l.toArray l.toArray.size = ts at *
      refine ⟨by simp, .inr ⟨g, cap, _, rfl, hg, heap_put _ hbk, by omega, hm, by simp [putCells, hs], ?_⟩⟩
      rw [Nat.mul_one]
      exact take_put cur ts _ (by rw [List.length_replicate, List.size_toArray]; omega)
    · rw [← Go.Sort.grow_empty w', hw]
      exact grownBy_put _
end Go.Proofs.Yticpaemmdfmbfaa
