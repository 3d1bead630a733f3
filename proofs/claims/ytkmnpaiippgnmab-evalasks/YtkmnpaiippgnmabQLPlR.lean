/- How words are read, by how the page reads numbers: for the kernel to decide. -/
import Derived.Test.YtkmnpaiippgnmabQ1
namespace Go.Proofs.Ytkmnpaiippgnmab
open Go.RowKit
set_option linter.unusedVariables false
set_option maxRecDepth 100000

def opR (w : List UInt8) : Option (Int × Int) :=
  match kindOf w with
  | some k => some ((k : Int), 0)
  | none => (refNum w).map fun n => (1, n)
theorem opR_eq (w : List UInt8) : opR w = opW w := by unfold opR opW; rw [refNum_eq]; cases kindOf w <;> rfl
def plR : Nat → Nat → List (List UInt8) → Nat → Option Rs
  | 0, _, _, _ => none
  | _ + 1, d, [], m => some (if 0 < d then .err 6 else .ok .nil [] m)
  | fu + 1, d, w :: ws, m =>
    if w = shutW ∧ 0 < d then some (.ok .nil ws m)
    else match opR w with
      | none => some (.err 7)
      | some (k, n) =>
        if m = 128 then some (.err 2)
        else if hasB k then
          match ws with
          | [] => some (.err 6)
          | x :: ws' =>
            if x ≠ openW then some (.err 7)
            else if 6 < d + 1 then some (.err 2)
            else match plR fu (d + 1) ws' (m + 1) with
              | none => none
              | some (.err e) => some (.err e)
              | some (.ok b ws2 m2) => (plR fu d ws2 m2).map (Rs.pre (one k n b))
        else (plR fu d ws (m + 1)).map (Rs.pre (one k n .nil))
theorem plR_eq : ∀ (fu d : Nat) (ws : List (List UInt8)) (m : Nat), plR fu d ws m = pl fu d ws m := by
  intro fu
  induction fu with
  | zero => intro d ws m; cases ws <;> simp [plR, pl]
  | succ fu ih =>
    intro d ws m
    cases ws with
    | nil => rfl
    | cons w ws =>
      unfold plR pl
      rw [opR_eq]
      simp only [ih]
      rfl
end Go.Proofs.Ytkmnpaiippgnmab
