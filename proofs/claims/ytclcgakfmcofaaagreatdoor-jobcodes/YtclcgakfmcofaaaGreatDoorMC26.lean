import Derived.Test.YtclcgakfmcofaaaGreatDoorMC15
import Derived.Test.YtclcgakfmcofaaaGreatDoorMC20
import Derived.Test.YtclcgakfmcofaaaGreatDoorMC21
import Derived.Test.YtclcgakfmcofaaaGreatDoorMC22
import Derived.Test.YtclcgakfmcofaaaGreatDoorMC23
import Derived.Test.YtclcgakfmcofaaaGreatDoorMC24
import Derived.Test.YtclcgakfmcofaaaGreatDoorMC25
namespace Go.Proofs.YtclcgakfmcofaaaGreatDoor
open Go.RowKit
set_option linter.unusedVariables false
set_option maxRecDepth 100000
def BlkJ (W : World) (b : Nat) (j : Jb) (v : Value) : Prop := W.heap[b]? = some (.cells #[.int .i64 j.id, .string j.prog, .int .i64 j.agg, .int .i64 j.bound, .int .i64 j.fuel, v, .int .i64 j.parts] 37 (0, 0))
theorem BlkJ.new (W : World) (j : Jb) (v : Value) : BlkJ (W.alloc (.cells #[.int .i64 j.id, .string j.prog, .int .i64 j.agg, .int .i64 j.bound, .int .i64 j.fuel, v, .int .i64 j.parts] 37)) W.heap.size j v := heap_alloc_new W _
theorem BlkJ.lt {W : World} {b : Nat} {j : Jb} {v : Value} (h : BlkJ W b j v) : b < W.heap.size := (Array.getElem?_eq_some_iff.1 h).1
theorem BlkJ.below {W W' : World} {b : Nat} {j : Jb} {v : Value} (h : BlkJ W b j v) (hb : Below W.heap.size W W') : BlkJ W' b j v := by unfold BlkJ; rw [hb.block b h.lt]; exact h
theorem BlkJ.cells {W : World} {b : Nat} {j : Jb} {v : Value} (h : BlkJ W b j v) : W.cell? ⟨b, 0, none⟩ = some (.int .i64 j.id) ∧ W.cell? ⟨b, 1, none⟩ = some (.string j.prog) ∧ W.cell? ⟨b, 2, none⟩ = some (.int .i64 j.agg) ∧ W.cell? ⟨b, 3, none⟩ = some (.int .i64 j.bound) ∧ W.cell? ⟨b, 4, none⟩ = some (.int .i64 j.fuel) ∧ W.cell? ⟨b, 5, none⟩ = some v ∧ W.cell? ⟨b, 6, none⟩ = some (.int .i64 j.parts) := by
 unfold BlkJ at h
 refine ⟨?_, ?_, ?_, ?_, ?_, ?_, ?_⟩ <;> simp [World.cell?, h]
theorem OwnR.down3 {w : World} {base base' : Nat} {v : Value} {l : List Rc} (h : OwnR w base v l) (hb : base' ≤ base) : OwnR w base' v l := by
 refine ⟨h.1, ?_⟩
 rcases h.2 with ⟨h1, h2⟩ | ⟨g, cap, cur, h1, h2, h3, h4⟩
 ·exact .inl ⟨h1, h2⟩
 ·exact .inr ⟨g, cap, cur, h1, by omega, h3, h4⟩
theorem mapP_err (c agg bound fu : Int) (l : List Rc) : mapP (.err c) agg bound fu l = ([], c) := rfl
theorem mapP_need {f : Fo} {ws : List (List UInt8)} {m : Nat} {agg bound fu : Int} {l : List Rc} (h : cE f ≠ 0) : mapP (.ok f ws m) agg bound fu l = ([], cE f) := by unfold mapP; simp only; rw [if_pos h]
theorem mapP_form {f : Fo} {ws : List (List UInt8)} {m : Nat} {agg bound fu : Int} {l : List Rc} (h : cE f = 0) (hm : mayM agg bound fu l = false) : mapP (.ok f ws m) agg bound fu l = ([], 1) := by unfold mapP; simp only; rw [if_neg (by simpa using h), if_neg (by rw [hm]; decide)]
theorem mapP_run {f : Fo} {ws : List (List UInt8)} {m : Nat} {agg bound fu : Int} {l : List Rc} (h : cE f = 0) (hm : mayM agg bound fu l = true) : mapP (.ok f ws m) agg bound fu l = mapL f fu l [] := by unfold mapP; simp only; rw [if_neg (by simpa using h), if_pos hm]
theorem mapRes_of {j : Jb} {r : Rs} (h : Prog j.prog r) (l : List Rc) : mapRes j l = mapP r j.agg j.bound j.fuel l := by unfold mapRes; rw [progOf_eq h]
theorem mapL_cons (f : Fo) (fu : Int) (x : Rc) (l acc : List Rc) : mapL f fu (x :: l) acc = if (runR f x fu).1 ≠ 0 then ([], (runR f x fu).1) else if 256 < (acc ++ (runR f x fu).2.2).length then ([], 2) else mapL f fu l (acc ++ (runR f x fu).2.2) := rfl
theorem runR_len256 (f : Fo) (x : Rc) (fu : Int) : (runR f x fu).2.2.length ≤ 256 := by
 unfold runR
 split
 ·simp
 ·next h1 =>
  split
  ·simp
  ·next h2 =>
   cases he : ev x f ⟨fu.toNat, [], []⟩ with
   | err c => simp
   | ok s =>
    obtain ⟨hm, p, hn⟩ := cE_zero (by simpa using h1)
    exact (ev_keeps x f 0 0 0 0 0 p ⟨fu.toNat, [], []⟩ s hm.1 hn (by omega) ⟨rfl, by simp⟩ he).1.out
end Go.Proofs.YtclcgakfmcofaaaGreatDoor
