/-
  No cell of these rows narrows 'for every input' (looked for: loops, veiled, ifaces, maps, wideKeys, modest, calm, conditions, laid).
  DERIVED. THE GIVEN ROWS OF THIS SEAT. 6 by the template 'for every input the law returns true; each argument reads behind the call as it read before'; 0 by the template 'total and deterministic' (their statements: YticpaemmdfmbfaaTotals.lean).
  GIVEN WITH THE SEED: the statements are not yours to turn. If you find one false, say at which input.
  Laid BY PROGRAM, IN A SANDBOX (cutbox-rows.mjs): the forced cells as the released guide's own fill.sh prints them over the translation 5e4f58cea6ef92b6… (all of the seat's roots in one cut). By AI agents, Wed Nov 11 2026. No macro, syntax, notation, axiom, sorry.
-/
import Derived.Test.YticpaemmdfmbfaaChecked
import GoSem.Claim
import GoSem.ClaimJoined
import GoSem.ClaimMapViews
import Derived.JoinedTies
import Derived.KernelRfl
namespace Go.Proofs.Yticpaemmdfmbfaa
/- THE CELL 'sum', in the pinned program and in every row, IS THE sha256 OF THE DUMP (.gsa) THAT YticpaemmdfmbfaaProg.lean LOADS. Nothing in Lean hashes anything: it is a label: what it is worth is what the hold of that sum in a sandbox is worth. -/
noncomputable def Try.pinned : Pinned := { name := "yticpaemmdfmbfaa", sum := "5e4f58cea6ef92b6ef2386ddbabac889179aeea12e341a1605d601915ff12b3b", checked := Try.checked }
namespace Rows
def none {H : Type} : Left H := { results := [], args := [] }

/-- 'thresherlaw10.RowFolds': WHATEVER THE INPUT: true; the input reads as it did. -/
def rowFoldsSpec : ChangeSpec := { name := "rowFolds", fn := fun _ => fun
  | [d] => { results := [.lit (.bool true)], args := [d] }
  | _ => none }
def rowFoldsRow : OpenClaim := { program := "yticpaemmdfmbfaa", sum := "5e4f58cea6ef92b6ef2386ddbabac889179aeea12e341a1605d601915ff12b3b", func := "thresher/thresherlaw10.RowFolds", spec := "rowFolds", inPlace := ["internal/bytealg.abigen_runtime_cmpstring"], unfollowed := true, recurses := true, plainKeys := false, apart := false }
def RowFoldsSaid : Prop := rowFoldsRow.holds Try.pinned (OpenSpec.ofChange rowFoldsSpec)

/-- ITS FALSE NEIGHBOUR: 'it returns false'. Refute it at one input. -/
def rowFoldsWrong : ChangeSpec := { name := "rowFolds", fn := fun _ => fun
  | [d] => { results := [.lit (.bool false)], args := [d] }
  | _ => none }
def RowFoldsWrongFalsely : Prop := rowFoldsRow.holds Try.pinned (OpenSpec.ofChange rowFoldsWrong)

/-- 'thresherlaw10.RowJoins': WHATEVER THE INPUT: true; the input reads as it did. -/
def rowJoinsSpec : ChangeSpec := { name := "rowJoins", fn := fun _ => fun
  | [d] => { results := [.lit (.bool true)], args := [d] }
  | _ => none }
def rowJoinsRow : OpenClaim := { program := "yticpaemmdfmbfaa", sum := "5e4f58cea6ef92b6ef2386ddbabac889179aeea12e341a1605d601915ff12b3b", func := "thresher/thresherlaw10.RowJoins", spec := "rowJoins", inPlace := ["internal/bytealg.abigen_runtime_cmpstring"], unfollowed := true, recurses := true, plainKeys := false, apart := false }
def RowJoinsSaid : Prop := rowJoinsRow.holds Try.pinned (OpenSpec.ofChange rowJoinsSpec)

/-- ITS FALSE NEIGHBOUR: 'it returns false'. Refute it at one input. -/
def rowJoinsWrong : ChangeSpec := { name := "rowJoins", fn := fun _ => fun
  | [d] => { results := [.lit (.bool false)], args := [d] }
  | _ => none }
def RowJoinsWrongFalsely : Prop := rowJoinsRow.holds Try.pinned (OpenSpec.ofChange rowJoinsWrong)

/-- 'thresherlaw10.RowParts': WHATEVER THE INPUT: true; the input reads as it did. -/
def rowPartsSpec : ChangeSpec := { name := "rowParts", fn := fun _ => fun
  | [d] => { results := [.lit (.bool true)], args := [d] }
  | _ => none }
def rowPartsRow : OpenClaim := { program := "yticpaemmdfmbfaa", sum := "5e4f58cea6ef92b6ef2386ddbabac889179aeea12e341a1605d601915ff12b3b", func := "thresher/thresherlaw10.RowParts", spec := "rowParts", inPlace := ["internal/bytealg.abigen_runtime_cmpstring"], unfollowed := true, recurses := true, plainKeys := false, apart := false }
def RowPartsSaid : Prop := rowPartsRow.holds Try.pinned (OpenSpec.ofChange rowPartsSpec)

/-- ITS FALSE NEIGHBOUR: 'it returns false'. Refute it at one input. -/
def rowPartsWrong : ChangeSpec := { name := "rowParts", fn := fun _ => fun
  | [d] => { results := [.lit (.bool false)], args := [d] }
  | _ => none }
def RowPartsWrongFalsely : Prop := rowPartsRow.holds Try.pinned (OpenSpec.ofChange rowPartsWrong)

/-- 'thresherlaw10.RowSums': WHATEVER THE INPUT: true; the input reads as it did. -/
def rowSumsSpec : ChangeSpec := { name := "rowSums", fn := fun _ => fun
  | [d] => { results := [.lit (.bool true)], args := [d] }
  | _ => none }
def rowSumsRow : OpenClaim := { program := "yticpaemmdfmbfaa", sum := "5e4f58cea6ef92b6ef2386ddbabac889179aeea12e341a1605d601915ff12b3b", func := "thresher/thresherlaw10.RowSums", spec := "rowSums", inPlace := ["internal/bytealg.abigen_runtime_cmpstring", "internal/abi.NoEscape"], unfollowed := true, recurses := true, plainKeys := false, apart := false }
def RowSumsSaid : Prop := rowSumsRow.holds Try.pinned (OpenSpec.ofChange rowSumsSpec)

/-- ITS FALSE NEIGHBOUR: 'it returns false'. Refute it at one input. -/
def rowSumsWrong : ChangeSpec := { name := "rowSums", fn := fun _ => fun
  | [d] => { results := [.lit (.bool false)], args := [d] }
  | _ => none }
def RowSumsWrongFalsely : Prop := rowSumsRow.holds Try.pinned (OpenSpec.ofChange rowSumsWrong)

/-- 'thresherlaw10.RowCounts': WHATEVER THE INPUT: true; the input reads as it did. -/
def rowCountsSpec : ChangeSpec := { name := "rowCounts", fn := fun _ => fun
  | [d] => { results := [.lit (.bool true)], args := [d] }
  | _ => none }
def rowCountsRow : OpenClaim := { program := "yticpaemmdfmbfaa", sum := "5e4f58cea6ef92b6ef2386ddbabac889179aeea12e341a1605d601915ff12b3b", func := "thresher/thresherlaw10.RowCounts", spec := "rowCounts", inPlace := ["internal/bytealg.abigen_runtime_cmpstring", "internal/abi.NoEscape"], unfollowed := true, recurses := true, plainKeys := false, apart := false }
def RowCountsSaid : Prop := rowCountsRow.holds Try.pinned (OpenSpec.ofChange rowCountsSpec)

/-- ITS FALSE NEIGHBOUR: 'it returns false'. Refute it at one input. -/
def rowCountsWrong : ChangeSpec := { name := "rowCounts", fn := fun _ => fun
  | [d] => { results := [.lit (.bool false)], args := [d] }
  | _ => none }
def RowCountsWrongFalsely : Prop := rowCountsRow.holds Try.pinned (OpenSpec.ofChange rowCountsWrong)

/-- 'thresherlaw10.RowMins': WHATEVER THE INPUT: true; the input reads as it did. -/
def rowMinsSpec : ChangeSpec := { name := "rowMins", fn := fun _ => fun
  | [d] => { results := [.lit (.bool true)], args := [d] }
  | _ => none }
def rowMinsRow : OpenClaim := { program := "yticpaemmdfmbfaa", sum := "5e4f58cea6ef92b6ef2386ddbabac889179aeea12e341a1605d601915ff12b3b", func := "thresher/thresherlaw10.RowMins", spec := "rowMins", inPlace := ["internal/bytealg.abigen_runtime_cmpstring", "internal/abi.NoEscape"], unfollowed := true, recurses := true, plainKeys := false, apart := false }
def RowMinsSaid : Prop := rowMinsRow.holds Try.pinned (OpenSpec.ofChange rowMinsSpec)

/-- ITS FALSE NEIGHBOUR: 'it returns false'. Refute it at one input. -/
def rowMinsWrong : ChangeSpec := { name := "rowMins", fn := fun _ => fun
  | [d] => { results := [.lit (.bool false)], args := [d] }
  | _ => none }
def RowMinsWrongFalsely : Prop := rowMinsRow.holds Try.pinned (OpenSpec.ofChange rowMinsWrong)

/- THE SECOND FORM. 'bulk': how many values and letters a reading holds, each counted each time it is reached (what is shared counts as often as it is met; a slice's spare places count too). A statement '..UptoSaid' is the law's where the arguments, and the package variables that the reading takes, are together of bulk at most 1048576: NARROWER than '..Said'. Prove '..Said' where nothing that the law and all that it calls make is longer than what came in: it says more and counts as full. Else prove '..UptoSaid'. A law counts once. -/
mutual
def uptoBulk {H : Type} : DataW H → Nat
  | .lit (.string bytes) => bytes.length + 1
  | .lit _ => 1
  | .nil => 1
  | .ptr d => uptoBulk d + 1
  | .slice elems spare => uptoBulkAll elems + uptoBulkAll spare + 1
  | .agg parts => uptoBulkAll parts + 1
  | .iface _ d => uptoBulk d + 1
  | .map entries => uptoBulkEntries entries + 1
  | .held _ => 1
def uptoBulkAll {H : Type} : List (DataW H) → Nat
  | [] => 0
  | d :: r => uptoBulk d + uptoBulkAll r
def uptoBulkEntries {H : Type} : List (Lit × DataW H) → Nat
  | [] => 0
  | x :: r => uptoBulkEntry x + uptoBulkEntries r
def uptoBulkEntry {H : Type} : Lit × DataW H → Nat
  | (.string bytes, d) => bytes.length + uptoBulk d + 1
  | (_, d) => uptoBulk d + 1
 end
def uptoSmall : (H : Type) → List (DataW H) → Bool := fun _ ds => decide (uptoBulkAll ds ≤ 1048576)
def OpenSpec.upto (s : _root_.Go.ChangeSpec) : _root_.Go.OpenSpec := { _root_.Go.OpenSpec.ofChange s with cond := some uptoSmall }

/-- 'thresherlaw10.RowFolds', WHERE WHAT IT READS IS OF BULK AT MOST 1048576: true; the input reads as it did. -/
def rowFoldsUptoRow : OpenClaim := { program := "yticpaemmdfmbfaa", sum := "5e4f58cea6ef92b6ef2386ddbabac889179aeea12e341a1605d601915ff12b3b", func := "thresher/thresherlaw10.RowFolds", spec := "rowFolds", inPlace := ["internal/bytealg.abigen_runtime_cmpstring"], unfollowed := true, recurses := true, plainKeys := false, apart := false, narrowed := true }
def RowFoldsUptoSaid : Prop := rowFoldsUptoRow.holds Try.pinned (OpenSpec.upto rowFoldsSpec)

/-- 'thresherlaw10.RowJoins', WHERE WHAT IT READS IS OF BULK AT MOST 1048576: true; the input reads as it did. -/
def rowJoinsUptoRow : OpenClaim := { program := "yticpaemmdfmbfaa", sum := "5e4f58cea6ef92b6ef2386ddbabac889179aeea12e341a1605d601915ff12b3b", func := "thresher/thresherlaw10.RowJoins", spec := "rowJoins", inPlace := ["internal/bytealg.abigen_runtime_cmpstring"], unfollowed := true, recurses := true, plainKeys := false, apart := false, narrowed := true }
def RowJoinsUptoSaid : Prop := rowJoinsUptoRow.holds Try.pinned (OpenSpec.upto rowJoinsSpec)

/-- 'thresherlaw10.RowParts', WHERE WHAT IT READS IS OF BULK AT MOST 1048576: true; the input reads as it did. -/
def rowPartsUptoRow : OpenClaim := { program := "yticpaemmdfmbfaa", sum := "5e4f58cea6ef92b6ef2386ddbabac889179aeea12e341a1605d601915ff12b3b", func := "thresher/thresherlaw10.RowParts", spec := "rowParts", inPlace := ["internal/bytealg.abigen_runtime_cmpstring"], unfollowed := true, recurses := true, plainKeys := false, apart := false, narrowed := true }
def RowPartsUptoSaid : Prop := rowPartsUptoRow.holds Try.pinned (OpenSpec.upto rowPartsSpec)

/-- 'thresherlaw10.RowSums', WHERE WHAT IT READS IS OF BULK AT MOST 1048576: true; the input reads as it did. -/
def rowSumsUptoRow : OpenClaim := { program := "yticpaemmdfmbfaa", sum := "5e4f58cea6ef92b6ef2386ddbabac889179aeea12e341a1605d601915ff12b3b", func := "thresher/thresherlaw10.RowSums", spec := "rowSums", inPlace := ["internal/bytealg.abigen_runtime_cmpstring", "internal/abi.NoEscape"], unfollowed := true, recurses := true, plainKeys := false, apart := false, narrowed := true }
def RowSumsUptoSaid : Prop := rowSumsUptoRow.holds Try.pinned (OpenSpec.upto rowSumsSpec)

/-- 'thresherlaw10.RowCounts', WHERE WHAT IT READS IS OF BULK AT MOST 1048576: true; the input reads as it did. -/
def rowCountsUptoRow : OpenClaim := { program := "yticpaemmdfmbfaa", sum := "5e4f58cea6ef92b6ef2386ddbabac889179aeea12e341a1605d601915ff12b3b", func := "thresher/thresherlaw10.RowCounts", spec := "rowCounts", inPlace := ["internal/bytealg.abigen_runtime_cmpstring", "internal/abi.NoEscape"], unfollowed := true, recurses := true, plainKeys := false, apart := false, narrowed := true }
def RowCountsUptoSaid : Prop := rowCountsUptoRow.holds Try.pinned (OpenSpec.upto rowCountsSpec)

/-- 'thresherlaw10.RowMins', WHERE WHAT IT READS IS OF BULK AT MOST 1048576: true; the input reads as it did. -/
def rowMinsUptoRow : OpenClaim := { program := "yticpaemmdfmbfaa", sum := "5e4f58cea6ef92b6ef2386ddbabac889179aeea12e341a1605d601915ff12b3b", func := "thresher/thresherlaw10.RowMins", spec := "rowMins", inPlace := ["internal/bytealg.abigen_runtime_cmpstring", "internal/abi.NoEscape"], unfollowed := true, recurses := true, plainKeys := false, apart := false, narrowed := true }
def RowMinsUptoSaid : Prop := rowMinsUptoRow.holds Try.pinned (OpenSpec.upto rowMinsSpec)

end Rows
end Go.Proofs.Yticpaemmdfmbfaa
