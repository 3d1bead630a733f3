/-
  No cell of these rows narrows 'for every input' (looked for: loops, veiled, ifaces, maps, wideKeys, modest, calm, conditions, laid).
  DERIVED. THE GIVEN ROWS OF THIS SEAT. 2 by the template 'for every input the law returns true; each argument reads behind the call as it read before'; 0 by the template 'total and deterministic' (their statements: YtnfinhokagdkjacTotals.lean).
  GIVEN WITH THE SEED: the statements are not yours to turn. If you find one false, say at which input.
  Laid BY PROGRAM, IN A SANDBOX (cutbox-rows.mjs): the forced cells as the released guide's own fill.sh prints them over the translation 1ec47f0c58ac69c4… (all of the seat's roots in one cut). By AI agents, Wed Nov 11 2026. No macro, syntax, notation, axiom, sorry.
-/
import Derived.Test.YtnfinhokagdkjacChecked
import GoSem.Claim
import GoSem.ClaimJoined
import GoSem.ClaimMapViews
import Derived.JoinedTies
import Derived.KernelRfl
namespace Go.Proofs.Ytnfinhokagdkjac
/- THE CELL 'sum', in the pinned program and in every row, IS THE sha256 OF THE DUMP (.gsa) THAT YtnfinhokagdkjacProg.lean LOADS. Nothing in Lean hashes anything: it is a label: what it is worth is what the hold of that sum in a sandbox is worth. -/
noncomputable def Try.pinned : Pinned := { name := "ytnfinhokagdkjac", sum := "1ec47f0c58ac69c4118f4fefb172102da074589861942964bf284a6f9365b806", checked := Try.checked }
namespace Rows
def none {H : Type} : Left H := { results := [], args := [] }

/-- 'thresherlaw1.ShiftRights': WHATEVER THE INPUT: true; the input reads as it did. -/
def shiftRightsSpec : ChangeSpec := { name := "shiftRights", fn := fun _ => fun
  | [d] => { results := [.lit (.bool true)], args := [d] }
  | _ => none }
def shiftRightsRow : OpenClaim := { program := "ytnfinhokagdkjac", sum := "1ec47f0c58ac69c4118f4fefb172102da074589861942964bf284a6f9365b806", func := "thresher/thresherlaw1.ShiftRights", spec := "shiftRights", apart := false }
def ShiftRightsSaid : Prop := shiftRightsRow.holds Try.pinned (OpenSpec.ofChange shiftRightsSpec)

/-- ITS FALSE NEIGHBOUR: 'it returns false'. Refute it at one input. -/
def shiftRightsWrong : ChangeSpec := { name := "shiftRights", fn := fun _ => fun
  | [d] => { results := [.lit (.bool false)], args := [d] }
  | _ => none }
def ShiftRightsWrongFalsely : Prop := shiftRightsRow.holds Try.pinned (OpenSpec.ofChange shiftRightsWrong)

/-- 'thresherlaw1.ShiftPlains': WHATEVER THE INPUT: true; the input reads as it did. -/
def shiftPlainsSpec : ChangeSpec := { name := "shiftPlains", fn := fun _ => fun
  | [d] => { results := [.lit (.bool true)], args := [d] }
  | _ => none }
def shiftPlainsRow : OpenClaim := { program := "ytnfinhokagdkjac", sum := "1ec47f0c58ac69c4118f4fefb172102da074589861942964bf284a6f9365b806", func := "thresher/thresherlaw1.ShiftPlains", spec := "shiftPlains", apart := false }
def ShiftPlainsSaid : Prop := shiftPlainsRow.holds Try.pinned (OpenSpec.ofChange shiftPlainsSpec)

/-- ITS FALSE NEIGHBOUR: 'it returns false'. Refute it at one input. -/
def shiftPlainsWrong : ChangeSpec := { name := "shiftPlains", fn := fun _ => fun
  | [d] => { results := [.lit (.bool false)], args := [d] }
  | _ => none }
def ShiftPlainsWrongFalsely : Prop := shiftPlainsRow.holds Try.pinned (OpenSpec.ofChange shiftPlainsWrong)

/- THE SECOND FORM. 'bulk': how many values and letters a reading holds, each counted each time it is reached (what is shared counts as often as it is met; a slice's spare places count too). A statement '..UptoSaid' is the law's where the arguments, and the package variables that the reading takes, are together of bulk at most 1048576: NARROWER than '..Said'. Prove '..Said' where nothing that the law and all that it calls make is longer than what came in: it says more and counts as full. Else prove '..UptoSaid'. A law counts once. -/
mutual
def uptoBulk {H : Type} : DataW H → Nat
  | .lit (.string bytes) => bytes.length + 1
  | .lit _ => 1
  | .nil => 1
  | .ptr d => uptoBulk d + 1
  | .slice elems spare => uptoBulkAll elems + uptoBulkAll spare + 1
  | .agg parts => uptoBulkAll parts + 1
  | .iface _ d => uptoBulk d + 1
  | .map entries => uptoBulkEntries entries + 1
  | .held _ => 1
def uptoBulkAll {H : Type} : List (DataW H) → Nat
  | [] => 0
  | d :: r => uptoBulk d + uptoBulkAll r
def uptoBulkEntries {H : Type} : List (Lit × DataW H) → Nat
  | [] => 0
  | x :: r => uptoBulkEntry x + uptoBulkEntries r
def uptoBulkEntry {H : Type} : Lit × DataW H → Nat
  | (.string bytes, d) => bytes.length + uptoBulk d + 1
  | (_, d) => uptoBulk d + 1
 end
def uptoSmall : (H : Type) → List (DataW H) → Bool := fun _ ds => decide (uptoBulkAll ds ≤ 1048576)
def OpenSpec.upto (s : _root_.Go.ChangeSpec) : _root_.Go.OpenSpec := { _root_.Go.OpenSpec.ofChange s with cond := some uptoSmall }

/-- 'thresherlaw1.ShiftRights', WHERE WHAT IT READS IS OF BULK AT MOST 1048576: true; the input reads as it did. -/
def shiftRightsUptoRow : OpenClaim := { program := "ytnfinhokagdkjac", sum := "1ec47f0c58ac69c4118f4fefb172102da074589861942964bf284a6f9365b806", func := "thresher/thresherlaw1.ShiftRights", spec := "shiftRights", apart := false, narrowed := true }
def ShiftRightsUptoSaid : Prop := shiftRightsUptoRow.holds Try.pinned (OpenSpec.upto shiftRightsSpec)

/-- 'thresherlaw1.ShiftPlains', WHERE WHAT IT READS IS OF BULK AT MOST 1048576: true; the input reads as it did. -/
def shiftPlainsUptoRow : OpenClaim := { program := "ytnfinhokagdkjac", sum := "1ec47f0c58ac69c4118f4fefb172102da074589861942964bf284a6f9365b806", func := "thresher/thresherlaw1.ShiftPlains", spec := "shiftPlains", apart := false, narrowed := true }
def ShiftPlainsUptoSaid : Prop := shiftPlainsUptoRow.holds Try.pinned (OpenSpec.upto shiftPlainsSpec)

end Rows
end Go.Proofs.Ytnfinhokagdkjac
