/-
  No cell of these rows narrows 'for every input' (looked for: loops, veiled, ifaces, maps, wideKeys, modest, calm, conditions, laid).
  DERIVED. THE GIVEN ROWS OF THIS SEAT. 3 by the template 'for every input the law returns true; each argument reads behind the call as it read before'; 0 by the template 'total and deterministic' (their statements: YticpaemmdfmbfabTotals.lean).
  GIVEN WITH THE SEED: the statements are not yours to turn. If you find one false, say at which input.
  Laid BY PROGRAM, IN A SANDBOX (cutbox-rows.mjs): the forced cells as the released guide's own fill.sh prints them over the translation 332e394bbcbae5f3… (all of the seat's roots in one cut). By AI agents, Wed Nov 11 2026. No macro, syntax, notation, axiom, sorry.
-/
import Derived.Test.YticpaemmdfmbfabChecked
import GoSem.Claim
import GoSem.ClaimJoined
import GoSem.ClaimMapViews
import Derived.JoinedTies
import Derived.KernelRfl
namespace Go.Proofs.Yticpaemmdfmbfab
/- THE CELL 'sum', in the pinned program and in every row, IS THE sha256 OF THE DUMP (.gsa) THAT YticpaemmdfmbfabProg.lean LOADS. Nothing in Lean hashes anything: it is a label: what it is worth is what the hold of that sum in a sandbox is worth. -/
noncomputable def Try.pinned : Pinned := { name := "yticpaemmdfmbfab", sum := "332e394bbcbae5f3907cb7fd4e509f62ed3fd8982d33d7184c00eddb08d62058", checked := Try.checked }
namespace Rows
def none {H : Type} : Left H := { results := [], args := [] }

/-- 'thresherlaw10.RowMaxs': WHATEVER THE INPUT: true; the input reads as it did. -/
def rowMaxsSpec : ChangeSpec := { name := "rowMaxs", fn := fun _ => fun
  | [d] => { results := [.lit (.bool true)], args := [d] }
  | _ => none }
def rowMaxsRow : OpenClaim := { program := "yticpaemmdfmbfab", sum := "332e394bbcbae5f3907cb7fd4e509f62ed3fd8982d33d7184c00eddb08d62058", func := "thresher/thresherlaw10.RowMaxs", spec := "rowMaxs", inPlace := ["internal/bytealg.abigen_runtime_cmpstring", "internal/abi.NoEscape"], unfollowed := true, recurses := true, plainKeys := false, apart := false }
def RowMaxsSaid : Prop := rowMaxsRow.holds Try.pinned (OpenSpec.ofChange rowMaxsSpec)

/-- ITS FALSE NEIGHBOUR: 'it returns false'. Refute it at one input. -/
def rowMaxsWrong : ChangeSpec := { name := "rowMaxs", fn := fun _ => fun
  | [d] => { results := [.lit (.bool false)], args := [d] }
  | _ => none }
def RowMaxsWrongFalsely : Prop := rowMaxsRow.holds Try.pinned (OpenSpec.ofChange rowMaxsWrong)

/-- 'thresherlaw10.RowOrs': WHATEVER THE INPUT: true; the input reads as it did. -/
def rowOrsSpec : ChangeSpec := { name := "rowOrs", fn := fun _ => fun
  | [d] => { results := [.lit (.bool true)], args := [d] }
  | _ => none }
def rowOrsRow : OpenClaim := { program := "yticpaemmdfmbfab", sum := "332e394bbcbae5f3907cb7fd4e509f62ed3fd8982d33d7184c00eddb08d62058", func := "thresher/thresherlaw10.RowOrs", spec := "rowOrs", inPlace := ["internal/bytealg.abigen_runtime_cmpstring", "internal/abi.NoEscape"], unfollowed := true, recurses := true, plainKeys := false, apart := false }
def RowOrsSaid : Prop := rowOrsRow.holds Try.pinned (OpenSpec.ofChange rowOrsSpec)

/-- ITS FALSE NEIGHBOUR: 'it returns false'. Refute it at one input. -/
def rowOrsWrong : ChangeSpec := { name := "rowOrs", fn := fun _ => fun
  | [d] => { results := [.lit (.bool false)], args := [d] }
  | _ => none }
def RowOrsWrongFalsely : Prop := rowOrsRow.holds Try.pinned (OpenSpec.ofChange rowOrsWrong)

/-- 'thresherlaw10.RowSets': WHATEVER THE INPUT: true; the input reads as it did. -/
def rowSetsSpec : ChangeSpec := { name := "rowSets", fn := fun _ => fun
  | [d] => { results := [.lit (.bool true)], args := [d] }
  | _ => none }
def rowSetsRow : OpenClaim := { program := "yticpaemmdfmbfab", sum := "332e394bbcbae5f3907cb7fd4e509f62ed3fd8982d33d7184c00eddb08d62058", func := "thresher/thresherlaw10.RowSets", spec := "rowSets", inPlace := ["internal/bytealg.abigen_runtime_cmpstring", "internal/abi.NoEscape"], unfollowed := true, recurses := true, plainKeys := false, apart := false }
def RowSetsSaid : Prop := rowSetsRow.holds Try.pinned (OpenSpec.ofChange rowSetsSpec)

/-- ITS FALSE NEIGHBOUR: 'it returns false'. Refute it at one input. -/
def rowSetsWrong : ChangeSpec := { name := "rowSets", fn := fun _ => fun
  | [d] => { results := [.lit (.bool false)], args := [d] }
  | _ => none }
def RowSetsWrongFalsely : Prop := rowSetsRow.holds Try.pinned (OpenSpec.ofChange rowSetsWrong)

/- THE SECOND FORM. 'bulk': how many values and letters a reading holds, each counted each time it is reached (what is shared counts as often as it is met; a slice's spare places count too). A statement '..UptoSaid' is the law's where the arguments, and the package variables that the reading takes, are together of bulk at most 1048576: NARROWER than '..Said'. Prove '..Said' where nothing that the law and all that it calls make is longer than what came in: it says more and counts as full. Else prove '..UptoSaid'. A law counts once. -/
mutual
def uptoBulk {H : Type} : DataW H → Nat
  | .lit (.string bytes) => bytes.length + 1
  | .lit _ => 1
  | .nil => 1
  | .ptr d => uptoBulk d + 1
  | .slice elems spare => uptoBulkAll elems + uptoBulkAll spare + 1
  | .agg parts => uptoBulkAll parts + 1
  | .iface _ d => uptoBulk d + 1
  | .map entries => uptoBulkEntries entries + 1
  | .held _ => 1
def uptoBulkAll {H : Type} : List (DataW H) → Nat
  | [] => 0
  | d :: r => uptoBulk d + uptoBulkAll r
def uptoBulkEntries {H : Type} : List (Lit × DataW H) → Nat
  | [] => 0
  | x :: r => uptoBulkEntry x + uptoBulkEntries r
def uptoBulkEntry {H : Type} : Lit × DataW H → Nat
  | (.string bytes, d) => bytes.length + uptoBulk d + 1
  | (_, d) => uptoBulk d + 1
 end
def uptoSmall : (H : Type) → List (DataW H) → Bool := fun _ ds => decide (uptoBulkAll ds ≤ 1048576)
def OpenSpec.upto (s : _root_.Go.ChangeSpec) : _root_.Go.OpenSpec := { _root_.Go.OpenSpec.ofChange s with cond := some uptoSmall }

/-- 'thresherlaw10.RowMaxs', WHERE WHAT IT READS IS OF BULK AT MOST 1048576: true; the input reads as it did. -/
def rowMaxsUptoRow : OpenClaim := { program := "yticpaemmdfmbfab", sum := "332e394bbcbae5f3907cb7fd4e509f62ed3fd8982d33d7184c00eddb08d62058", func := "thresher/thresherlaw10.RowMaxs", spec := "rowMaxs", inPlace := ["internal/bytealg.abigen_runtime_cmpstring", "internal/abi.NoEscape"], unfollowed := true, recurses := true, plainKeys := false, apart := false, narrowed := true }
def RowMaxsUptoSaid : Prop := rowMaxsUptoRow.holds Try.pinned (OpenSpec.upto rowMaxsSpec)

/-- 'thresherlaw10.RowOrs', WHERE WHAT IT READS IS OF BULK AT MOST 1048576: true; the input reads as it did. -/
def rowOrsUptoRow : OpenClaim := { program := "yticpaemmdfmbfab", sum := "332e394bbcbae5f3907cb7fd4e509f62ed3fd8982d33d7184c00eddb08d62058", func := "thresher/thresherlaw10.RowOrs", spec := "rowOrs", inPlace := ["internal/bytealg.abigen_runtime_cmpstring", "internal/abi.NoEscape"], unfollowed := true, recurses := true, plainKeys := false, apart := false, narrowed := true }
def RowOrsUptoSaid : Prop := rowOrsUptoRow.holds Try.pinned (OpenSpec.upto rowOrsSpec)

/-- 'thresherlaw10.RowSets', WHERE WHAT IT READS IS OF BULK AT MOST 1048576: true; the input reads as it did. -/
def rowSetsUptoRow : OpenClaim := { program := "yticpaemmdfmbfab", sum := "332e394bbcbae5f3907cb7fd4e509f62ed3fd8982d33d7184c00eddb08d62058", func := "thresher/thresherlaw10.RowSets", spec := "rowSets", inPlace := ["internal/bytealg.abigen_runtime_cmpstring", "internal/abi.NoEscape"], unfollowed := true, recurses := true, plainKeys := false, apart := false, narrowed := true }
def RowSetsUptoSaid : Prop := rowSetsUptoRow.holds Try.pinned (OpenSpec.upto rowSetsSpec)

end Rows
end Go.Proofs.Yticpaemmdfmbfab
