/-
  No cell of these rows narrows 'for every input' (looked for: loops, veiled, ifaces, maps, wideKeys, modest, calm, conditions, laid).
  DERIVED. THE GIVEN ROWS OF THIS SEAT. 3 by the template 'for every input the law returns true; each argument reads behind the call as it read before'; 0 by the template 'total and deterministic' (their statements: YthgfngbgohacaabTotals.lean).
  GIVEN WITH THE SEED: the statements are not yours to turn. If you find one false, say at which input.
  Laid BY PROGRAM, IN A SANDBOX (cutbox-rows.mjs): the forced cells as the released guide's own fill.sh prints them over the translation a68c41aadaf23713… (all of the seat's roots in one cut). By AI agents, Wed Nov 11 2026. No macro, syntax, notation, axiom, sorry.
-/
import Derived.Test.YthgfngbgohacaabChecked
import GoSem.Claim
import GoSem.ClaimJoined
import GoSem.ClaimMapViews
import Derived.JoinedTies
import Derived.KernelRfl
namespace Go.Proofs.Ythgfngbgohacaab
/- THE CELL 'sum', in the pinned program and in every row, IS THE sha256 OF THE DUMP (.gsa) THAT YthgfngbgohacaabProg.lean LOADS. Nothing in Lean hashes anything: it is a label: what it is worth is what the hold of that sum in a sandbox is worth. -/
noncomputable def Try.pinned : Pinned := { name := "ythgfngbgohacaab", sum := "a68c41aadaf23713787ed67e47e1adc792567fe38075ef2b6bcdc967878bef52", checked := Try.checked }
namespace Rows
def none {H : Type} : Left H := { results := [], args := [] }

/-- 'thresherlaw9.CellMaxs': WHATEVER THE INPUT: true; the input reads as it did. -/
def cellMaxsSpec : ChangeSpec := { name := "cellMaxs", fn := fun _ => fun
  | [d] => { results := [.lit (.bool true)], args := [d] }
  | _ => none }
def cellMaxsRow : OpenClaim := { program := "ythgfngbgohacaab", sum := "a68c41aadaf23713787ed67e47e1adc792567fe38075ef2b6bcdc967878bef52", func := "thresher/thresherlaw9.CellMaxs", spec := "cellMaxs", recurses := true, apart := false }
def CellMaxsSaid : Prop := cellMaxsRow.holds Try.pinned (OpenSpec.ofChange cellMaxsSpec)

/-- ITS FALSE NEIGHBOUR: 'it returns false'. Refute it at one input. -/
def cellMaxsWrong : ChangeSpec := { name := "cellMaxs", fn := fun _ => fun
  | [d] => { results := [.lit (.bool false)], args := [d] }
  | _ => none }
def CellMaxsWrongFalsely : Prop := cellMaxsRow.holds Try.pinned (OpenSpec.ofChange cellMaxsWrong)

/-- 'thresherlaw9.CellOrs': WHATEVER THE INPUT: true; the input reads as it did. -/
def cellOrsSpec : ChangeSpec := { name := "cellOrs", fn := fun _ => fun
  | [d] => { results := [.lit (.bool true)], args := [d] }
  | _ => none }
def cellOrsRow : OpenClaim := { program := "ythgfngbgohacaab", sum := "a68c41aadaf23713787ed67e47e1adc792567fe38075ef2b6bcdc967878bef52", func := "thresher/thresherlaw9.CellOrs", spec := "cellOrs", recurses := true, apart := false }
def CellOrsSaid : Prop := cellOrsRow.holds Try.pinned (OpenSpec.ofChange cellOrsSpec)

/-- ITS FALSE NEIGHBOUR: 'it returns false'. Refute it at one input. -/
def cellOrsWrong : ChangeSpec := { name := "cellOrs", fn := fun _ => fun
  | [d] => { results := [.lit (.bool false)], args := [d] }
  | _ => none }
def CellOrsWrongFalsely : Prop := cellOrsRow.holds Try.pinned (OpenSpec.ofChange cellOrsWrong)

/-- 'thresherlaw9.CellSets': WHATEVER THE INPUT: true; the input reads as it did. -/
def cellSetsSpec : ChangeSpec := { name := "cellSets", fn := fun _ => fun
  | [d] => { results := [.lit (.bool true)], args := [d] }
  | _ => none }
def cellSetsRow : OpenClaim := { program := "ythgfngbgohacaab", sum := "a68c41aadaf23713787ed67e47e1adc792567fe38075ef2b6bcdc967878bef52", func := "thresher/thresherlaw9.CellSets", spec := "cellSets", recurses := true, apart := false }
def CellSetsSaid : Prop := cellSetsRow.holds Try.pinned (OpenSpec.ofChange cellSetsSpec)

/-- ITS FALSE NEIGHBOUR: 'it returns false'. Refute it at one input. -/
def cellSetsWrong : ChangeSpec := { name := "cellSets", fn := fun _ => fun
  | [d] => { results := [.lit (.bool false)], args := [d] }
  | _ => none }
def CellSetsWrongFalsely : Prop := cellSetsRow.holds Try.pinned (OpenSpec.ofChange cellSetsWrong)

/- THE SECOND FORM. 'bulk': how many values and letters a reading holds, each counted each time it is reached (what is shared counts as often as it is met; a slice's spare places count too). A statement '..UptoSaid' is the law's where the arguments, and the package variables that the reading takes, are together of bulk at most 1048576: NARROWER than '..Said'. Prove '..Said' where nothing that the law and all that it calls make is longer than what came in: it says more and counts as full. Else prove '..UptoSaid'. A law counts once. -/
mutual
def uptoBulk {H : Type} : DataW H → Nat
  | .lit (.string bytes) => bytes.length + 1
  | .lit _ => 1
  | .nil => 1
  | .ptr d => uptoBulk d + 1
  | .slice elems spare => uptoBulkAll elems + uptoBulkAll spare + 1
  | .agg parts => uptoBulkAll parts + 1
  | .iface _ d => uptoBulk d + 1
  | .map entries => uptoBulkEntries entries + 1
  | .held _ => 1
def uptoBulkAll {H : Type} : List (DataW H) → Nat
  | [] => 0
  | d :: r => uptoBulk d + uptoBulkAll r
def uptoBulkEntries {H : Type} : List (Lit × DataW H) → Nat
  | [] => 0
  | x :: r => uptoBulkEntry x + uptoBulkEntries r
def uptoBulkEntry {H : Type} : Lit × DataW H → Nat
  | (.string bytes, d) => bytes.length + uptoBulk d + 1
  | (_, d) => uptoBulk d + 1
 end
def uptoSmall : (H : Type) → List (DataW H) → Bool := fun _ ds => decide (uptoBulkAll ds ≤ 1048576)
def OpenSpec.upto (s : _root_.Go.ChangeSpec) : _root_.Go.OpenSpec := { _root_.Go.OpenSpec.ofChange s with cond := some uptoSmall }

/-- 'thresherlaw9.CellMaxs', WHERE WHAT IT READS IS OF BULK AT MOST 1048576: true; the input reads as it did. -/
def cellMaxsUptoRow : OpenClaim := { program := "ythgfngbgohacaab", sum := "a68c41aadaf23713787ed67e47e1adc792567fe38075ef2b6bcdc967878bef52", func := "thresher/thresherlaw9.CellMaxs", spec := "cellMaxs", recurses := true, apart := false, narrowed := true }
def CellMaxsUptoSaid : Prop := cellMaxsUptoRow.holds Try.pinned (OpenSpec.upto cellMaxsSpec)

/-- 'thresherlaw9.CellOrs', WHERE WHAT IT READS IS OF BULK AT MOST 1048576: true; the input reads as it did. -/
def cellOrsUptoRow : OpenClaim := { program := "ythgfngbgohacaab", sum := "a68c41aadaf23713787ed67e47e1adc792567fe38075ef2b6bcdc967878bef52", func := "thresher/thresherlaw9.CellOrs", spec := "cellOrs", recurses := true, apart := false, narrowed := true }
def CellOrsUptoSaid : Prop := cellOrsUptoRow.holds Try.pinned (OpenSpec.upto cellOrsSpec)

/-- 'thresherlaw9.CellSets', WHERE WHAT IT READS IS OF BULK AT MOST 1048576: true; the input reads as it did. -/
def cellSetsUptoRow : OpenClaim := { program := "ythgfngbgohacaab", sum := "a68c41aadaf23713787ed67e47e1adc792567fe38075ef2b6bcdc967878bef52", func := "thresher/thresherlaw9.CellSets", spec := "cellSets", recurses := true, apart := false, narrowed := true }
def CellSetsUptoSaid : Prop := cellSetsUptoRow.holds Try.pinned (OpenSpec.upto cellSetsSpec)

end Rows
end Go.Proofs.Ythgfngbgohacaab
