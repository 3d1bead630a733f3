/- Rows sorted by their keys: slices.SortFunc off the shelf. -/
import Derived.Test.YtejgcflcckjlpaaGreatDoorBC8
import Derived.Test.YtejgcflcckjlpaaGreatDoorBC21
import Derived.Test.YtejgcflcckjlpaaGreatDoorBC22
import Derived.Shelf.SlSortCmp.NoneTotal
import Derived.Shelf.SlGeneric
import Derived.Ground.SlsfProg
import Derived.Sort.OwnSorted
import Derived.Sort.Lot0
namespace Go.Proofs.YtejgcflcckjlpaaGreatDoor
open Go.RowKit Go.Shelf
open Go.Sort (grow putRow putCells flatK HoldsK Holds putRowK PermIn SortedIn SWO)
set_option linter.unusedVariables false
set_option maxRecDepth 100000

shelf_lay_g SlLaysF0.n6 Slsf 6 at Tryz 59 as Tryz.sortW

def cfW (x y : Raw) : Int := cfK x.1 y.1
theorem lt_cfW (x y : Raw) : ltOf cfW x y = ltK x.1 y.1 := lt_cfK x.1 y.1
theorem swoW : SWO (ltOf cfW) where
  irrefl x := by rw [lt_cfW]; exact ltK_irrefl _
  trans x y z h1 h2 := by rw [lt_cfW] at *; exact ltK_trans h1 h2
  ntrans x y z h1 h2 := by rw [lt_cfW] at *; exact leK_trans h2 h1
theorem cmpW_any (x y : Raw) (W : World) : Calls Tryz.prog 60 #[.agg (encW x).toArray, .agg (encW y).toArray] W fun e w' => e = .returned (.int .i64 (cfW x y)) ∧ ∃ q os', w' = grow (W.drewN q) os' := by
  obtain ⟨⟨xa, xb⟩, xn, xs⟩ := x
  obtain ⟨⟨ya, yb⟩, yn, ys⟩ := y
  have hcon := fun W' => kcmp_any (xa, xb) (ya, yb) W'
  unfold cfW
  generalize cfK (xa, xb) (ya, yb) = r at hcon ⊢
  simp only [encW]
  go_enter Tryz.func60, Tryz.ntmps60
  go_wp2_with (go_at_call 53; refine (hcon _).mono ?_; rintro e w' ⟨rfl, q, os, rfl⟩)
  go_ret
  refine ⟨rfl, q, _, by rw [Go.Sort.alloc_eq_grow, Go.Sort.alloc_eq_grow, Go.Sort.grow_grow]; exact Go.Sort.grow_grow (W.drewN q) _ os⟩
theorem flatW_eq (l : List Raw) : (flatK encW 4 l.toArray).toList = flatW l := by
  apply List.ext_getElem?
  intro t
  by_cases ht : t < l.length * 4
  · have hi : t / 4 < l.length := by omega
    obtain ⟨x, hx⟩ := getSome hi
    obtain ⟨g0, g1, g2, g3⟩ := flatW_get l (t / 4) x hx
    have h1 := Go.Sort.get_flatK encW 4 l.toArray t (by simpa using ht)
    have hlx : l.toArray[t / 4]! = x := by
      rw [getElem!_pos _ _ (by simpa using hi)]
      have := (List.getElem?_eq_some_iff.1 hx).2
      simpa using this
    rw [hlx] at h1
    have hsz : t < (flatK encW 4 l.toArray).size := by simpa using ht
    rw [getElem!_pos (flatK encW 4 l.toArray) t hsz] at h1
    rw [Array.getElem?_toList, Array.getElem?_eq_getElem hsz, h1]
    have h4 : t % 4 = 0 ∨ t % 4 = 1 ∨ t % 4 = 2 ∨ t % 4 = 3 := by omega
    rcases h4 with h2 | h2 | h2 | h2
    · have e : t = t / 4 * 4 := by omega
      rw [show (flatW l)[t]? = (flatW l)[t / 4 * 4]? by rw [← e], g0, h2]
      rfl
    · have e : t = t / 4 * 4 + 1 := by omega
      rw [show (flatW l)[t]? = (flatW l)[t / 4 * 4 + 1]? by rw [← e], g1, h2]
      rfl
    · have e : t = t / 4 * 4 + 2 := by omega
      rw [show (flatW l)[t]? = (flatW l)[t / 4 * 4 + 2]? by rw [← e], g2, h2]
      rfl
    · have e : t = t / 4 * 4 + 3 := by omega
      rw [show (flatW l)[t]? = (flatW l)[t / 4 * 4 + 3]? by rw [← e], g3, h2]
      rfl
  · rw [List.getElem?_eq_none (by simp; omega), List.getElem?_eq_none (by rw [flatW_len]; omega)]
theorem holdsW {w : World} {g : Nat} {cur : Array Value} {e : TypeId} {l : List Raw} (hb : w.heap[g]? = some (.cells cur e (0, 0))) (ht : cur.toList.take (l.length * 4) = flatW l) : HoldsK encW 4 w g 0 l.toArray := by
  intro j hj
  have hs0 : (flatK encW 4 l.toArray).size = l.length * 4 := by simp
  rw [hs0] at hj
  have hsz : j < (flatK encW 4 l.toArray).size := by rw [hs0]; exact hj
  refine ⟨?_, by simp [World.frozen?, hb]⟩
  have h1 : (cur.toList.take (l.length * 4))[j]? = (flatK encW 4 l.toArray).toList[j]? := by rw [ht, flatW_eq]
  rw [List.getElem?_take_of_lt hj] at h1
  simp only [World.cell?, hb, Nat.zero_add]
  simp only [Option.isSome_none, Bool.false_eq_true, if_false]
  rw [← Array.getElem?_toList, h1, Array.getElem?_toList, getElem!_pos (flatK encW 4 l.toArray) j hsz, Array.getElem?_eq_getElem hsz]
  rfl
theorem heap_sortedW {w : World} {g n : Nat} {os : Array Obj} {cur : Array Value} {e : TypeId} {fr : Nat × Nat} (d : Array Value) (hb : w.heap[g]? = some (.cells cur e fr)) :
    (grow (putRow id (Go.Sort.ahead w n) g 0 d) os).heap[g]? = some (.cells (putCells id 0 d cur) e fr) := by
  have hg : g < w.heap.size := (Array.getElem?_eq_some_iff.1 hb).1
  rw [Go.Sort.heap_grow_old _ _ (by simpa using hg)]
  simp [putRow, Go.Sort.mapBlock, Go.Sort.ahead, Array.getElem?_modify, hb, Go.Sort.onCells]
theorem grownBy_sortedW {w : World} {g n : Nat} {os : Array Obj} (d : Array Value) : w.grownBy (grow (putRow id (Go.Sort.ahead w n) g 0 d) os) (some g) := by
  refine ⟨rfl, rfl, rfl, by simp, fun k hk hne => ?_⟩
  rw [Go.Sort.heap_grow_old _ _ (by simpa using hk)]
  have : g ≠ k := fun e => hne (by rw [e])
  simp [putRow, Go.Sort.mapBlock, Go.Sort.ahead, Array.getElem?_modify, this]
theorem take_putW (cur : Array Value) (ts : List Value) (h : ts.length ≤ cur.size) : (putCells id 0 ts.toArray cur).toList.take ts.length = ts := by
  apply List.ext_getElem?
  intro j
  by_cases hj : j < ts.length
  · rw [List.getElem?_take_of_lt hj, Array.getElem?_toList]
    simp [putCells, hj, show j < cur.size by omega]
  · rw [List.getElem?_take_eq_none (by omega), List.getElem?_eq_none (by omega)]
/-- slices.SortFunc by the keys, at rows of the call's own. -/
theorem sortW_own (v : Value) (base : Nat) (l : List Raw) (w : World) (h : OwnX w base v l) (hb : base ≤ w.heap.size) (hl : l.length ≤ 100000) :
    Calls Tryz.prog 59 #[v, .func (.func 60) #[] #[]] w fun e w' => e = .returned (.tuple #[]) ∧ ∃ s, s.Perm l ∧ s.Pairwise (fun x y => ltK y.1 x.1 = false) ∧ OwnX w' base v s ∧ w.grownBy w' v.ownBlock := by
  rcases h.2 with ⟨rfl, h0⟩ | ⟨g, cap, cur, rfl, hg, hbk, hn, hm, hs, ht⟩
  · obtain rfl : l = [] := List.length_eq_zero_iff.1 h0
    have hc := AnyF.slices_SortFunc_none { Tryz.sortW with } none 0 (.func (.func 60) #[] #[]) w
    exact hc.mono fun e w' ⟨he, hw⟩ => ⟨he, [], .nil, .nil, by subst hw; exact h, by subst hw; exact World.grownBy.refl _ _⟩
  · have eg : ∀ args w, (callFunc 60 args).run Tryz.prog w = .ok (.enter 60 args) w := enters_of Tryz.func60 (by kernel_rfl) rfl
    have hc := AnyQ.slices_SortFunc Tryz.sortW 4 Tryz.isAgg47 Tryz.sizeOf47 encW (fun _ => rfl) (fun x v hv => encW_cell x v hv) cfW swoW 60 #[] g 0 cap l.toArray w eg (fun _ _ _ _ x y => cmpW_any x y _) (holdsW hbk ht) (Array.getElem?_eq_some_iff.1 hbk).1 (by simp; omega)
    simp only [List.size_toArray] at hc
    change Calls Tryz.prog 59 _ _ _ at hc
    refine hc.mono fun e w' ⟨he, d, n, os, hp, hso, hw⟩ => ⟨he, d.toList, ?_, ?_, ?_, ?_⟩
    · have := hp.2.2
      have e1 : d.extract 0 l.length = d := by
        have hds : d.size = l.length := hp.1.trans (by simp)
        rw [← hds]; simp
      rw [e1] at this
      simpa using this
    · have hds : d.size = l.length := hp.1.trans (by simp)
      rw [List.pairwise_iff_getElem]
      intro i j hi hj hij
      have := hso i j (Nat.zero_le _) hij (by simpa [hds] using hj)
      rw [lt_cfW, getElem!_pos d j (by simpa using hj), getElem!_pos d i (by simpa using hi)] at this
      simpa using this
    · have hds : d.toList.length = l.length := by have := hp.1; simpa using this
      have hfl : (flatW d.toList).length = l.length * 4 := by rw [flatW_len, hds]
      subst hw
      refine ⟨by rw [flatW_len], .inr ⟨g, cap, _, by rw [hds], hg, heap_sortedW _ hbk, by omega, hm, by simp [putCells, hs], ?_⟩⟩
      rw [hds, ← hfl]
      have e1 : flatK encW 4 d = (flatW d.toList).toArray := by rw [← flatW_eq]
      rw [e1]
      exact take_putW cur _ (by rw [hfl, hs]; omega)
    · subst hw
      exact grownBy_sortedW _
end Go.Proofs.YtejgcflcckjlpaaGreatDoor
