/- The table of sums, as the program's text lays it; it stands where nothing below is written. -/
import Derived.Test.YtejgcflcckjlpaaDoorOC49
import Derived.ProofKit
import Derived.OpenShut
import Derived.ShutString
import Derived.ChangeOld
import Derived.Below
import Derived.SliceStrings
import Derived.LaidMore
import Derived.WalkSmall
import Derived.Stop.Joined
namespace Go.Proofs.YtejgcflcckjlpaaDoor
open Go.ChangeShapes Go.WideShapes Go.ChangeAt Go.RowKit
set_option linter.unusedVariables false
set_option maxRecDepth 100000


theorem cell_block {w : World} {b o : Nat} {v : Value} (h : w.cell? ⟨b, o, none⟩ = some v) : b < w.heap.size := by
  rcases Nat.lt_or_ge b w.heap.size with h1 | h1
  · exact h1
  · simp [World.cell?, h1] at h

/-- The table as the program's text has it. -/
def tab : List Int := [0, 498536548, 997073096, 651767980, 1994146192, 1802195444, 1303535960, 1342533948, 3988292384, 4027552580, 3604390888, 3412177804, 2607071920, 2262029012, 2685067896, 3183342108]
theorem tab_half : ∀ k : Fin 16, tab[k.val]? = some (wd (half k.val)) := by decide +kernel
theorem gHalves : Tryd.prog.globalNamed "thresher/sum.halves" = some 0 := by kernel_rfl
theorem tHalves : (Tryd.prog.globals[0]?).map (·.type) = some 100 := by kernel_rfl
theorem halves_of_laid {W : World} (h : laidMetH Tryd.prog [("thresher/sum.halves", Rows.laid_thresher_sum_halves)] W) : Halves W := by
  rw [MakeChecks.laidMetH_plain _ _ _ (by kernel_rfl)] at h
  obtain ⟨ps, ⟨g0, t0, cs0, f0, p0, q0, hg0, ht0, hv0, hd0, _, _⟩, _, _⟩ := h
  obtain rfl := Option.some.inj (gHalves.symm.trans hg0)
  obtain rfl := Option.some.inj (tHalves.symm.trans ht0)
  obtain ⟨xs, m1, rfl, hx1, hlen, hn3, hel⟩ := DataW.trod_array Tryd.underlying100 hd0
  have c23 : Tryd.prog.cellsOf 50 = 1 := by kernel_rfl
  have e1 : tab.map (fun n => (.lit (.int .u32 n) : DataW Unit)) = xs.map (fun x => x.fst) := by
    simp only [Prod.mk.injEq] at hx1
    have := hx1.1
    unfold Rows.laid_thresher_sum_halves at this
    exact (DataW.agg.injEq _ _).mp this
  intro k hk
  have ht : tab[k]? = some (wd (half k)) := tab_half ⟨k, hk⟩
  have hx : (xs.map (fun x => x.fst))[k]? = some (.lit (.int .u32 (wd (half k)))) := by
    rw [← e1, List.getElem?_map, ht]
    rfl
  have h1 := hel k hk
  rw [c23, Nat.mul_one] at h1
  rw [List.getElem?_map] at hx
  cases hy : xs[k]? with
  | none => rw [hy] at hx; cases hx
  | some y =>
    rw [hy] at hx h1
    obtain ⟨n, e1, e2, _⟩ := DataW.trod_int Tryd.underlying50 h1
    have hn : n = wd (half k) := by
      rw [e2] at hx
      simpa using hx
    subst hn
    have hc := World.var?_cell hg0 hv0 k
    rw [hc]
    have hd : cs0.toList[k]? = some (.int .u32 (wd (half k))) := by
      have := congrArg (fun l => l[0]?) e1
      simpa using this
    simpa using hd

theorem Halves.below {w W : World} {B : Nat} (h : Halves w) (hb : Below B w W) (h0 : 0 < B) : Halves W := fun k hk => (hb.cell (p := ⟨0, k, none⟩) h0).trans (h k hk)
theorem Halves.pos {w : World} (h : Halves w) : 0 < w.heap.size := cell_block (h 0 (by decide))
theorem Halves.drewN {w : World} (h : Halves w) (q : Nat) : Halves (w.drewN q) := fun k hk => by rw [← h k hk]; simp
end Go.Proofs.YtejgcflcckjlpaaDoor
