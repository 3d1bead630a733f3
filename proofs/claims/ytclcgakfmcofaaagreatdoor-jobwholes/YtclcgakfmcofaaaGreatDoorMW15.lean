import Derived.Test.YtclcgakfmcofaaaGreatDoorMW1
import Derived.Test.YtclcgakfmcofaaaGreatDoorMW9
import Derived.Test.YtclcgakfmcofaaaGreatDoorMW10
import Derived.Test.YtclcgakfmcofaaaGreatDoorMW13
import Derived.Test.YtclcgakfmcofaaaGreatDoorMW14
set_option linter.unusedVariables false
set_option maxRecDepth 100000
namespace Go.Proofs.YtclcgakfmcofaaaGreatDoor
open Go.RowKit
noncomputable def dw (s : ByteArray) : Rs := @dite _ (∃ r, cG s r) (Classical.propDecidable _) (fun h => Classical.choose h) (fun _ => .err 2)
theorem eD {s : ByteArray} {r : Rs} (h : cG s r) : dw s = r := by
 unfold dw
 rw [dif_pos ⟨r, h⟩]
 exact (Classical.choose_spec (⟨r, h⟩ : ∃ r, cG s r)).unique h
structure Jb where
 id : Int
 prog : ByteArray
 agg : Int
 bound : Int
 fuel : Int
 parts : Int
abbrev cJ (j : Jb) (v : Value) : Value := .agg #[.int .i64 j.id, .string j.prog, .int .i64 j.agg, .int .i64 j.bound, .int .i64 j.fuel, v, .int .i64 j.parts]
def iB (f : Fo) (fu : Int) : List Rc → List Rc → List Rc × Int
 | [], acc => (acc, 0)
 | x :: l, acc => if (df f x fu).1 ≠ 0 then ([], (df f x fu).1) else if 256 < (acc ++ (df f x fu).2.2).length then ([], 2) else iB f fu l (acc ++ (df f x fu).2.2)
def gd (agg bound fu : Int) (l : List Rc) : Bool := aJ agg bound && (decide (0 ≤ fu ∧ fu ≤ 2000) && (decide (l.length ≤ 64) && aU l))
def jT (r : Rs) (agg bound fu : Int) (l : List Rc) : List Rc × Int := match r with
 | .err c => ([], c)
 | .ok f _ _ => if cE f ≠ 0 then ([], cE f) else if gd agg bound fu l = true then iB f fu l [] else ([], 1)
noncomputable def ap (j : Jb) (l : List Rc) : List Rc × Int := jT (dw j.prog) j.agg j.bound j.fuel l
def mK (agg bound : Int) (m : List Rc × Int) : ByteArray × Int :=
 if m.2 ≠ 0 then (⟨#[]⟩, m.2) else if (aB agg bound.toNat m.1).2 ≠ 0 then (⟨#[]⟩, (aB agg bound.toNat m.1).2)
 else if 32704 < (aF (an agg (aB agg bound.toNat m.1).1)).size then (⟨#[]⟩, 2) else (aF (an agg (aB agg bound.toNat m.1).1), 0)
noncomputable def aI (j : Jb) (l : List Rc) : ByteArray × Int := mK j.agg j.bound (ap j l)
def lq (agg bound : Int) (l : List Rc) : Bool := aJ agg bound && decide (l.length ≤ 1536) && aU l
theorem mapL_end {f : Fo} {fu : Int} {l : List Rc} {k : Nat} {acc : List Rc} (h : l.length ≤ k) : iB f fu (l.drop k) acc = (acc, 0) := by rw [List.drop_of_length_le h]; rfl
theorem mapL_len {f : Fo} {fu : Int} : ∀ (l acc : List Rc), acc.length ≤ 256 → (iB f fu l acc).1.length ≤ 256
 | [], acc, h => h
 | x :: l, acc, h => by
  rw [iB]
  split
  ·simp
  ·split
   ·simp
   ·next h2 => exact mapL_len l _ (by omega)
theorem mapP_len (r : Rs) (agg bound fu : Int) (l : List Rc) : (jT r agg bound fu l).1.length ≤ 256 := by
 unfold jT
 cases r with
 | err c => simp
 | ok f a b =>
  simp only
  split
  ·simp
  ·split
   ·exact mapL_len l [] (by simp)
   ·simp
end Go.Proofs.YtclcgakfmcofaaaGreatDoor
