/- Rows sorted by their keys: slices.SortFunc off the shelf. -/
import Derived.Test.YtejgcflcckjlpaaDoorOC10
import Derived.Test.YtejgcflcckjlpaaDoorOC24
import Derived.Test.YtejgcflcckjlpaaDoorOC25
import Derived.Shelf.SlSortCmp.NoneTotal
import Derived.Shelf.SlGeneric
import Derived.Ground.SlsfProg
import Derived.Sort.OwnSorted
import Derived.Sort.Lot0
namespace Go.Proofs.YtejgcflcckjlpaaDoor
open Go.RowKit Go.Shelf
open Go.Sort (grow putRow putCells flatK HoldsK Holds putRowK PermIn SortedIn SWO)
set_option linter.unusedVariables false
set_option maxRecDepth 100000
def cfW (x y : Raw) : Int := cfK x.1 y.1
theorem lt_cfW (x y : Raw) : ltOf cfW x y = ltK x.1 y.1 := lt_cfK x.1 y.1
theorem swoW : SWO (ltOf cfW) where
  irrefl x := by rw [lt_cfW]; exact ltK_irrefl _
  trans x y z h1 h2 := by rw [lt_cfW] at *; exact ltK_trans h1 h2
  ntrans x y z h1 h2 := by rw [lt_cfW] at *; exact leK_trans h2 h1
theorem flatW_eq (l : List Raw) : (flatK encW 4 l.toArray).toList = flatW l := by
  apply List.ext_getElem?
  intro t
  by_cases ht : t < l.length * 4
  · have hi : t / 4 < l.length := by omega
    obtain ⟨x, hx⟩ := getSome hi
    obtain ⟨g0, g1, g2, g3⟩ := flatW_get l (t / 4) x hx
    have h1 := Go.Sort.get_flatK encW 4 l.toArray t (by simpa using ht)
    have hlx : l.toArray[t / 4]! = x := by
      rw [getElem!_pos _ _ (by simpa using hi)]
      have := (List.getElem?_eq_some_iff.1 hx).2
      simpa using this
    rw [hlx] at h1
    have hsz : t < (flatK encW 4 l.toArray).size := by simpa using ht
    rw [getElem!_pos (flatK encW 4 l.toArray) t hsz] at h1
    rw [Array.getElem?_toList, Array.getElem?_eq_getElem hsz, h1]
    have h4 : t % 4 = 0 ∨ t % 4 = 1 ∨ t % 4 = 2 ∨ t % 4 = 3 := by omega
    rcases h4 with h2 | h2 | h2 | h2
    · have e : t = t / 4 * 4 := by omega
      rw [show (flatW l)[t]? = (flatW l)[t / 4 * 4]? by rw [← e], g0, h2]
      rfl
    · have e : t = t / 4 * 4 + 1 := by omega
      rw [show (flatW l)[t]? = (flatW l)[t / 4 * 4 + 1]? by rw [← e], g1, h2]
      rfl
    · have e : t = t / 4 * 4 + 2 := by omega
      rw [show (flatW l)[t]? = (flatW l)[t / 4 * 4 + 2]? by rw [← e], g2, h2]
      rfl
    · have e : t = t / 4 * 4 + 3 := by omega
      rw [show (flatW l)[t]? = (flatW l)[t / 4 * 4 + 3]? by rw [← e], g3, h2]
      rfl
  · rw [List.getElem?_eq_none (by simp; omega), List.getElem?_eq_none (by rw [flatW_len]; omega)]
theorem holdsW {w : World} {g : Nat} {cur : Array Value} {e : TypeId} {l : List Raw} (hb : w.heap[g]? = some (.cells cur e (0, 0))) (ht : cur.toList.take (l.length * 4) = flatW l) : HoldsK encW 4 w g 0 l.toArray := by
  intro j hj
  have hs0 : (flatK encW 4 l.toArray).size = l.length * 4 := by simp
  rw [hs0] at hj
  have hsz : j < (flatK encW 4 l.toArray).size := by rw [hs0]; exact hj
  refine ⟨?_, by simp [World.frozen?, hb]⟩
  have h1 : (cur.toList.take (l.length * 4))[j]? = (flatK encW 4 l.toArray).toList[j]? := by rw [ht, flatW_eq]
  rw [List.getElem?_take_of_lt hj] at h1
  simp only [World.cell?, hb, Nat.zero_add]
  simp only [Option.isSome_none, Bool.false_eq_true, if_false]
  rw [← Array.getElem?_toList, h1, Array.getElem?_toList, getElem!_pos (flatK encW 4 l.toArray) j hsz, Array.getElem?_eq_getElem hsz]
  rfl
theorem heap_sortedW {w : World} {g n : Nat} {os : Array Obj} {cur : Array Value} {e : TypeId} {fr : Nat × Nat} (d : Array Value) (hb : w.heap[g]? = some (.cells cur e fr)) :
    (grow (putRow id (Go.Sort.ahead w n) g 0 d) os).heap[g]? = some (.cells (putCells id 0 d cur) e fr) := by
  have hg : g < w.heap.size := (Array.getElem?_eq_some_iff.1 hb).1
  rw [Go.Sort.heap_grow_old _ _ (by simpa using hg)]
  simp [putRow, Go.Sort.mapBlock, Go.Sort.ahead, Array.getElem?_modify, hb, Go.Sort.onCells]
theorem grownBy_sortedW {w : World} {g n : Nat} {os : Array Obj} (d : Array Value) : w.grownBy (grow (putRow id (Go.Sort.ahead w n) g 0 d) os) (some g) := by
  refine ⟨rfl, rfl, rfl, by simp, fun k hk hne => ?_⟩
  rw [Go.Sort.heap_grow_old _ _ (by simpa using hk)]
  have : g ≠ k := fun e => hne (by rw [e])
  simp [putRow, Go.Sort.mapBlock, Go.Sort.ahead, Array.getElem?_modify, this]
theorem take_putW (cur : Array Value) (ts : List Value) (h : ts.length ≤ cur.size) : (putCells id 0 ts.toArray cur).toList.take ts.length = ts := by
  apply List.ext_getElem?
  intro j
  by_cases hj : j < ts.length
  · rw [List.getElem?_take_of_lt hj, Array.getElem?_toList]
    simp [putCells, hj, show j < cur.size by omega]
  · rw [List.getElem?_take_eq_none (by omega), List.getElem?_eq_none (by omega)]
end Go.Proofs.YtejgcflcckjlpaaDoor
