/-
  No cell of these rows narrows 'for every input' (looked for: loops, veiled, ifaces, maps, wideKeys, modest, calm, conditions, laid).
  DERIVED. THE GIVEN ROWS OF THIS SEAT. 6 by the template 'for every input the law returns true; each argument reads behind the call as it read before'; 0 by the template 'total and deterministic' (their statements: YtnfinhokagdkjaaTotals.lean).
  GIVEN WITH THE SEED: the statements are not yours to turn. If you find one false, say at which input.
  Laid BY PROGRAM, IN A SANDBOX (cutbox-rows.mjs): the forced cells as the released guide's own fill.sh prints them over the translation 75bbc8ee897b6e16… (all of the seat's roots in one cut). By AI agents, Wed Nov 11 2026. No macro, syntax, notation, axiom, sorry.
-/
import Derived.Test.YtnfinhokagdkjaaChecked
import GoSem.Claim
import GoSem.ClaimJoined
import GoSem.ClaimMapViews
import Derived.JoinedTies
import Derived.KernelRfl
namespace Go.Proofs.Ytnfinhokagdkjaa
/- THE CELL 'sum', in the pinned program and in every row, IS THE sha256 OF THE DUMP (.gsa) THAT YtnfinhokagdkjaaProg.lean LOADS. Nothing in Lean hashes anything: it is a label: what it is worth is what the hold of that sum in a sandbox is worth. -/
noncomputable def Try.pinned : Pinned := { name := "ytnfinhokagdkjaa", sum := "75bbc8ee897b6e16e78dff371ae2dbb224012f645660dfc0f58620950c680926", checked := Try.checked }
namespace Rows
def none {H : Type} : Left H := { results := [], args := [] }

/-- 'thresherlaw1.NumBytes': WHATEVER THE INPUT: true; the input reads as it did. -/
def numBytesSpec : ChangeSpec := { name := "numBytes", fn := fun _ => fun
  | [d] => { results := [.lit (.bool true)], args := [d] }
  | _ => none }
def numBytesRow : OpenClaim := { program := "ytnfinhokagdkjaa", sum := "75bbc8ee897b6e16e78dff371ae2dbb224012f645660dfc0f58620950c680926", func := "thresher/thresherlaw1.NumBytes", spec := "numBytes", apart := false }
def NumBytesSaid : Prop := numBytesRow.holds Try.pinned (OpenSpec.ofChange numBytesSpec)

/-- ITS FALSE NEIGHBOUR: 'it returns false'. Refute it at one input. -/
def numBytesWrong : ChangeSpec := { name := "numBytes", fn := fun _ => fun
  | [d] => { results := [.lit (.bool false)], args := [d] }
  | _ => none }
def NumBytesWrongFalsely : Prop := numBytesRow.holds Try.pinned (OpenSpec.ofChange numBytesWrong)

/-- 'thresherlaw1.NumCuts': WHATEVER THE INPUT: true; the input reads as it did. -/
def numCutsSpec : ChangeSpec := { name := "numCuts", fn := fun _ => fun
  | [d] => { results := [.lit (.bool true)], args := [d] }
  | _ => none }
def numCutsRow : OpenClaim := { program := "ytnfinhokagdkjaa", sum := "75bbc8ee897b6e16e78dff371ae2dbb224012f645660dfc0f58620950c680926", func := "thresher/thresherlaw1.NumCuts", spec := "numCuts", apart := false }
def NumCutsSaid : Prop := numCutsRow.holds Try.pinned (OpenSpec.ofChange numCutsSpec)

/-- ITS FALSE NEIGHBOUR: 'it returns false'. Refute it at one input. -/
def numCutsWrong : ChangeSpec := { name := "numCuts", fn := fun _ => fun
  | [d] => { results := [.lit (.bool false)], args := [d] }
  | _ => none }
def NumCutsWrongFalsely : Prop := numCutsRow.holds Try.pinned (OpenSpec.ofChange numCutsWrong)

/-- 'thresherlaw1.NumShifts': WHATEVER THE INPUT: true; the input reads as it did. -/
def numShiftsSpec : ChangeSpec := { name := "numShifts", fn := fun _ => fun
  | [d] => { results := [.lit (.bool true)], args := [d] }
  | _ => none }
def numShiftsRow : OpenClaim := { program := "ytnfinhokagdkjaa", sum := "75bbc8ee897b6e16e78dff371ae2dbb224012f645660dfc0f58620950c680926", func := "thresher/thresherlaw1.NumShifts", spec := "numShifts", apart := false }
def NumShiftsSaid : Prop := numShiftsRow.holds Try.pinned (OpenSpec.ofChange numShiftsSpec)

/-- ITS FALSE NEIGHBOUR: 'it returns false'. Refute it at one input. -/
def numShiftsWrong : ChangeSpec := { name := "numShifts", fn := fun _ => fun
  | [d] => { results := [.lit (.bool false)], args := [d] }
  | _ => none }
def NumShiftsWrongFalsely : Prop := numShiftsRow.holds Try.pinned (OpenSpec.ofChange numShiftsWrong)

/-- 'thresherlaw1.NumFours': WHATEVER THE INPUT: true; the input reads as it did. -/
def numFoursSpec : ChangeSpec := { name := "numFours", fn := fun _ => fun
  | [d] => { results := [.lit (.bool true)], args := [d] }
  | _ => none }
def numFoursRow : OpenClaim := { program := "ytnfinhokagdkjaa", sum := "75bbc8ee897b6e16e78dff371ae2dbb224012f645660dfc0f58620950c680926", func := "thresher/thresherlaw1.NumFours", spec := "numFours", apart := false }
def NumFoursSaid : Prop := numFoursRow.holds Try.pinned (OpenSpec.ofChange numFoursSpec)

/-- ITS FALSE NEIGHBOUR: 'it returns false'. Refute it at one input. -/
def numFoursWrong : ChangeSpec := { name := "numFours", fn := fun _ => fun
  | [d] => { results := [.lit (.bool false)], args := [d] }
  | _ => none }
def NumFoursWrongFalsely : Prop := numFoursRow.holds Try.pinned (OpenSpec.ofChange numFoursWrong)

/-- 'thresherlaw1.NumBack': WHATEVER THE INPUT: true; the input reads as it did. -/
def numBackSpec : ChangeSpec := { name := "numBack", fn := fun _ => fun
  | [d] => { results := [.lit (.bool true)], args := [d] }
  | _ => none }
def numBackRow : OpenClaim := { program := "ytnfinhokagdkjaa", sum := "75bbc8ee897b6e16e78dff371ae2dbb224012f645660dfc0f58620950c680926", func := "thresher/thresherlaw1.NumBack", spec := "numBack", apart := false }
def NumBackSaid : Prop := numBackRow.holds Try.pinned (OpenSpec.ofChange numBackSpec)

/-- ITS FALSE NEIGHBOUR: 'it returns false'. Refute it at one input. -/
def numBackWrong : ChangeSpec := { name := "numBack", fn := fun _ => fun
  | [d] => { results := [.lit (.bool false)], args := [d] }
  | _ => none }
def NumBackWrongFalsely : Prop := numBackRow.holds Try.pinned (OpenSpec.ofChange numBackWrong)

/-- 'thresherlaw1.CutBytes8': WHATEVER THE INPUT: true; the input reads as it did. -/
def cutBytes8Spec : ChangeSpec := { name := "cutBytes8", fn := fun _ => fun
  | [d] => { results := [.lit (.bool true)], args := [d] }
  | _ => none }
def cutBytes8Row : OpenClaim := { program := "ytnfinhokagdkjaa", sum := "75bbc8ee897b6e16e78dff371ae2dbb224012f645660dfc0f58620950c680926", func := "thresher/thresherlaw1.CutBytes8", spec := "cutBytes8", apart := false }
def CutBytes8Said : Prop := cutBytes8Row.holds Try.pinned (OpenSpec.ofChange cutBytes8Spec)

/-- ITS FALSE NEIGHBOUR: 'it returns false'. Refute it at one input. -/
def cutBytes8Wrong : ChangeSpec := { name := "cutBytes8", fn := fun _ => fun
  | [d] => { results := [.lit (.bool false)], args := [d] }
  | _ => none }
def CutBytes8WrongFalsely : Prop := cutBytes8Row.holds Try.pinned (OpenSpec.ofChange cutBytes8Wrong)

/- THE SECOND FORM. 'bulk': how many values and letters a reading holds, each counted each time it is reached (what is shared counts as often as it is met; a slice's spare places count too). A statement '..UptoSaid' is the law's where the arguments, and the package variables that the reading takes, are together of bulk at most 1048576: NARROWER than '..Said'. Prove '..Said' where nothing that the law and all that it calls make is longer than what came in: it says more and counts as full. Else prove '..UptoSaid'. A law counts once. -/
mutual
def uptoBulk {H : Type} : DataW H → Nat
  | .lit (.string bytes) => bytes.length + 1
  | .lit _ => 1
  | .nil => 1
  | .ptr d => uptoBulk d + 1
  | .slice elems spare => uptoBulkAll elems + uptoBulkAll spare + 1
  | .agg parts => uptoBulkAll parts + 1
  | .iface _ d => uptoBulk d + 1
  | .map entries => uptoBulkEntries entries + 1
  | .held _ => 1
def uptoBulkAll {H : Type} : List (DataW H) → Nat
  | [] => 0
  | d :: r => uptoBulk d + uptoBulkAll r
def uptoBulkEntries {H : Type} : List (Lit × DataW H) → Nat
  | [] => 0
  | x :: r => uptoBulkEntry x + uptoBulkEntries r
def uptoBulkEntry {H : Type} : Lit × DataW H → Nat
  | (.string bytes, d) => bytes.length + uptoBulk d + 1
  | (_, d) => uptoBulk d + 1
 end
def uptoSmall : (H : Type) → List (DataW H) → Bool := fun _ ds => decide (uptoBulkAll ds ≤ 1048576)
def OpenSpec.upto (s : _root_.Go.ChangeSpec) : _root_.Go.OpenSpec := { _root_.Go.OpenSpec.ofChange s with cond := some uptoSmall }

/-- 'thresherlaw1.NumBytes', WHERE WHAT IT READS IS OF BULK AT MOST 1048576: true; the input reads as it did. -/
def numBytesUptoRow : OpenClaim := { program := "ytnfinhokagdkjaa", sum := "75bbc8ee897b6e16e78dff371ae2dbb224012f645660dfc0f58620950c680926", func := "thresher/thresherlaw1.NumBytes", spec := "numBytes", apart := false, narrowed := true }
def NumBytesUptoSaid : Prop := numBytesUptoRow.holds Try.pinned (OpenSpec.upto numBytesSpec)

/-- 'thresherlaw1.NumCuts', WHERE WHAT IT READS IS OF BULK AT MOST 1048576: true; the input reads as it did. -/
def numCutsUptoRow : OpenClaim := { program := "ytnfinhokagdkjaa", sum := "75bbc8ee897b6e16e78dff371ae2dbb224012f645660dfc0f58620950c680926", func := "thresher/thresherlaw1.NumCuts", spec := "numCuts", apart := false, narrowed := true }
def NumCutsUptoSaid : Prop := numCutsUptoRow.holds Try.pinned (OpenSpec.upto numCutsSpec)

/-- 'thresherlaw1.NumShifts', WHERE WHAT IT READS IS OF BULK AT MOST 1048576: true; the input reads as it did. -/
def numShiftsUptoRow : OpenClaim := { program := "ytnfinhokagdkjaa", sum := "75bbc8ee897b6e16e78dff371ae2dbb224012f645660dfc0f58620950c680926", func := "thresher/thresherlaw1.NumShifts", spec := "numShifts", apart := false, narrowed := true }
def NumShiftsUptoSaid : Prop := numShiftsUptoRow.holds Try.pinned (OpenSpec.upto numShiftsSpec)

/-- 'thresherlaw1.NumFours', WHERE WHAT IT READS IS OF BULK AT MOST 1048576: true; the input reads as it did. -/
def numFoursUptoRow : OpenClaim := { program := "ytnfinhokagdkjaa", sum := "75bbc8ee897b6e16e78dff371ae2dbb224012f645660dfc0f58620950c680926", func := "thresher/thresherlaw1.NumFours", spec := "numFours", apart := false, narrowed := true }
def NumFoursUptoSaid : Prop := numFoursUptoRow.holds Try.pinned (OpenSpec.upto numFoursSpec)

/-- 'thresherlaw1.NumBack', WHERE WHAT IT READS IS OF BULK AT MOST 1048576: true; the input reads as it did. -/
def numBackUptoRow : OpenClaim := { program := "ytnfinhokagdkjaa", sum := "75bbc8ee897b6e16e78dff371ae2dbb224012f645660dfc0f58620950c680926", func := "thresher/thresherlaw1.NumBack", spec := "numBack", apart := false, narrowed := true }
def NumBackUptoSaid : Prop := numBackUptoRow.holds Try.pinned (OpenSpec.upto numBackSpec)

/-- 'thresherlaw1.CutBytes8', WHERE WHAT IT READS IS OF BULK AT MOST 1048576: true; the input reads as it did. -/
def cutBytes8UptoRow : OpenClaim := { program := "ytnfinhokagdkjaa", sum := "75bbc8ee897b6e16e78dff371ae2dbb224012f645660dfc0f58620950c680926", func := "thresher/thresherlaw1.CutBytes8", spec := "cutBytes8", apart := false, narrowed := true }
def CutBytes8UptoSaid : Prop := cutBytes8UptoRow.holds Try.pinned (OpenSpec.upto cutBytes8Spec)

end Rows
end Go.Proofs.Ytnfinhokagdkjaa
