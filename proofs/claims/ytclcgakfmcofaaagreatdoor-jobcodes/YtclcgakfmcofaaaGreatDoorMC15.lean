import Derived.Test.YtclcgakfmcofaaaGreatDoorMC1
import Derived.Test.YtclcgakfmcofaaaGreatDoorMC9
import Derived.Test.YtclcgakfmcofaaaGreatDoorMC10
import Derived.Test.YtclcgakfmcofaaaGreatDoorMC13
import Derived.Test.YtclcgakfmcofaaaGreatDoorMC14
namespace Go.Proofs.YtclcgakfmcofaaaGreatDoor
open Go.RowKit
set_option linter.unusedVariables false
set_option maxRecDepth 100000
noncomputable def progOf (s : ByteArray) : Rs := @dite _ (∃ r, Prog s r) (Classical.propDecidable _) (fun h => Classical.choose h) (fun _ => .err 2)
theorem progOf_eq {s : ByteArray} {r : Rs} (h : Prog s r) : progOf s = r := by
 unfold progOf
 rw [dif_pos ⟨r, h⟩]
 exact (Classical.choose_spec (⟨r, h⟩ : ∃ r, Prog s r)).unique h
structure Jb where
 id : Int
 prog : ByteArray
 agg : Int
 bound : Int
 fuel : Int
 parts : Int
abbrev jobV (j : Jb) (v : Value) : Value := .agg #[.int .i64 j.id, .string j.prog, .int .i64 j.agg, .int .i64 j.bound, .int .i64 j.fuel, v, .int .i64 j.parts]
def mapL (f : Fo) (fu : Int) : List Rc → List Rc → List Rc × Int
 | [], acc => (acc, 0)
 | x :: l, acc => if (runR f x fu).1 ≠ 0 then ([], (runR f x fu).1) else if 256 < (acc ++ (runR f x fu).2.2).length then ([], 2) else mapL f fu l (acc ++ (runR f x fu).2.2)
def mayM (agg bound fu : Int) (l : List Rc) : Bool := wayC agg bound && (decide (0 ≤ fu ∧ fu ≤ 2000) && (decide (l.length ≤ 64) && keysOk l))
def mapP (r : Rs) (agg bound fu : Int) (l : List Rc) : List Rc × Int := match r with
 | .err c => ([], c)
 | .ok f _ _ => if cE f ≠ 0 then ([], cE f) else if mayM agg bound fu l = true then mapL f fu l [] else ([], 1)
noncomputable def mapRes (j : Jb) (l : List Rc) : List Rc × Int := mapP (progOf j.prog) j.agg j.bound j.fuel l
def gathP (agg bound : Int) (m : List Rc × Int) : ByteArray × Int :=
 if m.2 ≠ 0 then (⟨#[]⟩, m.2) else if (foldR agg bound.toNat m.1).2 ≠ 0 then (⟨#[]⟩, (foldR agg bound.toNat m.1).2)
 else if 32704 < (frameOf (rowsBy agg (foldR agg bound.toNat m.1).1)).size then (⟨#[]⟩, 2) else (frameOf (rowsBy agg (foldR agg bound.toNat m.1).1), 0)
noncomputable def gathRes (j : Jb) (l : List Rc) : ByteArray × Int := gathP j.agg j.bound (mapRes j l)
def mayFo (agg bound : Int) (l : List Rc) : Bool := wayC agg bound && decide (l.length ≤ 1536) && keysOk l
theorem mapL_end {f : Fo} {fu : Int} {l : List Rc} {k : Nat} {acc : List Rc} (h : l.length ≤ k) : mapL f fu (l.drop k) acc = (acc, 0) := by rw [List.drop_of_length_le h]; rfl
theorem mapL_len {f : Fo} {fu : Int} : ∀ (l acc : List Rc), acc.length ≤ 256 → (mapL f fu l acc).1.length ≤ 256
 | [], acc, h => h
 | x :: l, acc, h => by
  rw [mapL]
  split
  ·simp
  ·split
   ·simp
   ·next h2 => exact mapL_len l _ (by omega)
theorem mapP_len (r : Rs) (agg bound fu : Int) (l : List Rc) : (mapP r agg bound fu l).1.length ≤ 256 := by
 unfold mapP
 cases r with
 | err c => simp
 | ok f a b =>
  simp only
  split
  ·simp
  ·split
   ·exact mapL_len l [] (by simp)
   ·simp
end Go.Proofs.YtclcgakfmcofaaaGreatDoor
