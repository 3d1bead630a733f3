/-
  No cell of these rows narrows 'for every input' (looked for: loops, veiled, ifaces, maps, wideKeys, modest, calm, conditions, laid).
  DERIVED. THE GIVEN ROWS OF THIS SEAT. 6 by the template 'for every input the law returns true; each argument reads behind the call as it read before'; 0 by the template 'total and deterministic' (their statements: YtnfinhokagdkjabTotals.lean).
  GIVEN WITH THE SEED: the statements are not yours to turn. If you find one false, say at which input.
  Laid BY PROGRAM, IN A SANDBOX (cutbox-rows.mjs): the forced cells as the released guide's own fill.sh prints them over the translation 866df6b8c0c8fed4… (all of the seat's roots in one cut). By AI agents, Wed Nov 11 2026. No macro, syntax, notation, axiom, sorry.
-/
import Derived.Test.YtnfinhokagdkjabChecked
import GoSem.Claim
import GoSem.ClaimJoined
import GoSem.ClaimMapViews
import Derived.JoinedTies
import Derived.KernelRfl
namespace Go.Proofs.Ytnfinhokagdkjab
/- THE CELL 'sum', in the pinned program and in every row, IS THE sha256 OF THE DUMP (.gsa) THAT YtnfinhokagdkjabProg.lean LOADS. Nothing in Lean hashes anything: it is a label: what it is worth is what the hold of that sum in a sandbox is worth. -/
noncomputable def Try.pinned : Pinned := { name := "ytnfinhokagdkjab", sum := "866df6b8c0c8fed4342f55c85e49dfb5f5a5445399d4596783355634453dedc9", checked := Try.checked }
namespace Rows
def none {H : Type} : Left H := { results := [], args := [] }

/-- 'thresherlaw1.CutBytes16': WHATEVER THE INPUT: true; the input reads as it did. -/
def cutBytes16Spec : ChangeSpec := { name := "cutBytes16", fn := fun _ => fun
  | [d] => { results := [.lit (.bool true)], args := [d] }
  | _ => none }
def cutBytes16Row : OpenClaim := { program := "ytnfinhokagdkjab", sum := "866df6b8c0c8fed4342f55c85e49dfb5f5a5445399d4596783355634453dedc9", func := "thresher/thresherlaw1.CutBytes16", spec := "cutBytes16", apart := false }
def CutBytes16Said : Prop := cutBytes16Row.holds Try.pinned (OpenSpec.ofChange cutBytes16Spec)

/-- ITS FALSE NEIGHBOUR: 'it returns false'. Refute it at one input. -/
def cutBytes16Wrong : ChangeSpec := { name := "cutBytes16", fn := fun _ => fun
  | [d] => { results := [.lit (.bool false)], args := [d] }
  | _ => none }
def CutBytes16WrongFalsely : Prop := cutBytes16Row.holds Try.pinned (OpenSpec.ofChange cutBytes16Wrong)

/-- 'thresherlaw1.CutBytes32': WHATEVER THE INPUT: true; the input reads as it did. -/
def cutBytes32Spec : ChangeSpec := { name := "cutBytes32", fn := fun _ => fun
  | [d] => { results := [.lit (.bool true)], args := [d] }
  | _ => none }
def cutBytes32Row : OpenClaim := { program := "ytnfinhokagdkjab", sum := "866df6b8c0c8fed4342f55c85e49dfb5f5a5445399d4596783355634453dedc9", func := "thresher/thresherlaw1.CutBytes32", spec := "cutBytes32", apart := false }
def CutBytes32Said : Prop := cutBytes32Row.holds Try.pinned (OpenSpec.ofChange cutBytes32Spec)

/-- ITS FALSE NEIGHBOUR: 'it returns false'. Refute it at one input. -/
def cutBytes32Wrong : ChangeSpec := { name := "cutBytes32", fn := fun _ => fun
  | [d] => { results := [.lit (.bool false)], args := [d] }
  | _ => none }
def CutBytes32WrongFalsely : Prop := cutBytes32Row.holds Try.pinned (OpenSpec.ofChange cutBytes32Wrong)

/-- 'thresherlaw1.CutSigns8': WHATEVER THE INPUT: true; the input reads as it did. -/
def cutSigns8Spec : ChangeSpec := { name := "cutSigns8", fn := fun _ => fun
  | [d] => { results := [.lit (.bool true)], args := [d] }
  | _ => none }
def cutSigns8Row : OpenClaim := { program := "ytnfinhokagdkjab", sum := "866df6b8c0c8fed4342f55c85e49dfb5f5a5445399d4596783355634453dedc9", func := "thresher/thresherlaw1.CutSigns8", spec := "cutSigns8", apart := false }
def CutSigns8Said : Prop := cutSigns8Row.holds Try.pinned (OpenSpec.ofChange cutSigns8Spec)

/-- ITS FALSE NEIGHBOUR: 'it returns false'. Refute it at one input. -/
def cutSigns8Wrong : ChangeSpec := { name := "cutSigns8", fn := fun _ => fun
  | [d] => { results := [.lit (.bool false)], args := [d] }
  | _ => none }
def CutSigns8WrongFalsely : Prop := cutSigns8Row.holds Try.pinned (OpenSpec.ofChange cutSigns8Wrong)

/-- 'thresherlaw1.CutSigns16': WHATEVER THE INPUT: true; the input reads as it did. -/
def cutSigns16Spec : ChangeSpec := { name := "cutSigns16", fn := fun _ => fun
  | [d] => { results := [.lit (.bool true)], args := [d] }
  | _ => none }
def cutSigns16Row : OpenClaim := { program := "ytnfinhokagdkjab", sum := "866df6b8c0c8fed4342f55c85e49dfb5f5a5445399d4596783355634453dedc9", func := "thresher/thresherlaw1.CutSigns16", spec := "cutSigns16", apart := false }
def CutSigns16Said : Prop := cutSigns16Row.holds Try.pinned (OpenSpec.ofChange cutSigns16Spec)

/-- ITS FALSE NEIGHBOUR: 'it returns false'. Refute it at one input. -/
def cutSigns16Wrong : ChangeSpec := { name := "cutSigns16", fn := fun _ => fun
  | [d] => { results := [.lit (.bool false)], args := [d] }
  | _ => none }
def CutSigns16WrongFalsely : Prop := cutSigns16Row.holds Try.pinned (OpenSpec.ofChange cutSigns16Wrong)

/-- 'thresherlaw1.CutSigns32': WHATEVER THE INPUT: true; the input reads as it did. -/
def cutSigns32Spec : ChangeSpec := { name := "cutSigns32", fn := fun _ => fun
  | [d] => { results := [.lit (.bool true)], args := [d] }
  | _ => none }
def cutSigns32Row : OpenClaim := { program := "ytnfinhokagdkjab", sum := "866df6b8c0c8fed4342f55c85e49dfb5f5a5445399d4596783355634453dedc9", func := "thresher/thresherlaw1.CutSigns32", spec := "cutSigns32", apart := false }
def CutSigns32Said : Prop := cutSigns32Row.holds Try.pinned (OpenSpec.ofChange cutSigns32Spec)

/-- ITS FALSE NEIGHBOUR: 'it returns false'. Refute it at one input. -/
def cutSigns32Wrong : ChangeSpec := { name := "cutSigns32", fn := fun _ => fun
  | [d] => { results := [.lit (.bool false)], args := [d] }
  | _ => none }
def CutSigns32WrongFalsely : Prop := cutSigns32Row.holds Try.pinned (OpenSpec.ofChange cutSigns32Wrong)

/-- 'thresherlaw1.ShiftLefts': WHATEVER THE INPUT: true; the input reads as it did. -/
def shiftLeftsSpec : ChangeSpec := { name := "shiftLefts", fn := fun _ => fun
  | [d] => { results := [.lit (.bool true)], args := [d] }
  | _ => none }
def shiftLeftsRow : OpenClaim := { program := "ytnfinhokagdkjab", sum := "866df6b8c0c8fed4342f55c85e49dfb5f5a5445399d4596783355634453dedc9", func := "thresher/thresherlaw1.ShiftLefts", spec := "shiftLefts", apart := false }
def ShiftLeftsSaid : Prop := shiftLeftsRow.holds Try.pinned (OpenSpec.ofChange shiftLeftsSpec)

/-- ITS FALSE NEIGHBOUR: 'it returns false'. Refute it at one input. -/
def shiftLeftsWrong : ChangeSpec := { name := "shiftLefts", fn := fun _ => fun
  | [d] => { results := [.lit (.bool false)], args := [d] }
  | _ => none }
def ShiftLeftsWrongFalsely : Prop := shiftLeftsRow.holds Try.pinned (OpenSpec.ofChange shiftLeftsWrong)

/- THE SECOND FORM. 'bulk': how many values and letters a reading holds, each counted each time it is reached (what is shared counts as often as it is met; a slice's spare places count too). A statement '..UptoSaid' is the law's where the arguments, and the package variables that the reading takes, are together of bulk at most 1048576: NARROWER than '..Said'. Prove '..Said' where nothing that the law and all that it calls make is longer than what came in: it says more and counts as full. Else prove '..UptoSaid'. A law counts once. -/
mutual
def uptoBulk {H : Type} : DataW H → Nat
  | .lit (.string bytes) => bytes.length + 1
  | .lit _ => 1
  | .nil => 1
  | .ptr d => uptoBulk d + 1
  | .slice elems spare => uptoBulkAll elems + uptoBulkAll spare + 1
  | .agg parts => uptoBulkAll parts + 1
  | .iface _ d => uptoBulk d + 1
  | .map entries => uptoBulkEntries entries + 1
  | .held _ => 1
def uptoBulkAll {H : Type} : List (DataW H) → Nat
  | [] => 0
  | d :: r => uptoBulk d + uptoBulkAll r
def uptoBulkEntries {H : Type} : List (Lit × DataW H) → Nat
  | [] => 0
  | x :: r => uptoBulkEntry x + uptoBulkEntries r
def uptoBulkEntry {H : Type} : Lit × DataW H → Nat
  | (.string bytes, d) => bytes.length + uptoBulk d + 1
  | (_, d) => uptoBulk d + 1
 end
def uptoSmall : (H : Type) → List (DataW H) → Bool := fun _ ds => decide (uptoBulkAll ds ≤ 1048576)
def OpenSpec.upto (s : _root_.Go.ChangeSpec) : _root_.Go.OpenSpec := { _root_.Go.OpenSpec.ofChange s with cond := some uptoSmall }

/-- 'thresherlaw1.CutBytes16', WHERE WHAT IT READS IS OF BULK AT MOST 1048576: true; the input reads as it did. -/
def cutBytes16UptoRow : OpenClaim := { program := "ytnfinhokagdkjab", sum := "866df6b8c0c8fed4342f55c85e49dfb5f5a5445399d4596783355634453dedc9", func := "thresher/thresherlaw1.CutBytes16", spec := "cutBytes16", apart := false, narrowed := true }
def CutBytes16UptoSaid : Prop := cutBytes16UptoRow.holds Try.pinned (OpenSpec.upto cutBytes16Spec)

/-- 'thresherlaw1.CutBytes32', WHERE WHAT IT READS IS OF BULK AT MOST 1048576: true; the input reads as it did. -/
def cutBytes32UptoRow : OpenClaim := { program := "ytnfinhokagdkjab", sum := "866df6b8c0c8fed4342f55c85e49dfb5f5a5445399d4596783355634453dedc9", func := "thresher/thresherlaw1.CutBytes32", spec := "cutBytes32", apart := false, narrowed := true }
def CutBytes32UptoSaid : Prop := cutBytes32UptoRow.holds Try.pinned (OpenSpec.upto cutBytes32Spec)

/-- 'thresherlaw1.CutSigns8', WHERE WHAT IT READS IS OF BULK AT MOST 1048576: true; the input reads as it did. -/
def cutSigns8UptoRow : OpenClaim := { program := "ytnfinhokagdkjab", sum := "866df6b8c0c8fed4342f55c85e49dfb5f5a5445399d4596783355634453dedc9", func := "thresher/thresherlaw1.CutSigns8", spec := "cutSigns8", apart := false, narrowed := true }
def CutSigns8UptoSaid : Prop := cutSigns8UptoRow.holds Try.pinned (OpenSpec.upto cutSigns8Spec)

/-- 'thresherlaw1.CutSigns16', WHERE WHAT IT READS IS OF BULK AT MOST 1048576: true; the input reads as it did. -/
def cutSigns16UptoRow : OpenClaim := { program := "ytnfinhokagdkjab", sum := "866df6b8c0c8fed4342f55c85e49dfb5f5a5445399d4596783355634453dedc9", func := "thresher/thresherlaw1.CutSigns16", spec := "cutSigns16", apart := false, narrowed := true }
def CutSigns16UptoSaid : Prop := cutSigns16UptoRow.holds Try.pinned (OpenSpec.upto cutSigns16Spec)

/-- 'thresherlaw1.CutSigns32', WHERE WHAT IT READS IS OF BULK AT MOST 1048576: true; the input reads as it did. -/
def cutSigns32UptoRow : OpenClaim := { program := "ytnfinhokagdkjab", sum := "866df6b8c0c8fed4342f55c85e49dfb5f5a5445399d4596783355634453dedc9", func := "thresher/thresherlaw1.CutSigns32", spec := "cutSigns32", apart := false, narrowed := true }
def CutSigns32UptoSaid : Prop := cutSigns32UptoRow.holds Try.pinned (OpenSpec.upto cutSigns32Spec)

/-- 'thresherlaw1.ShiftLefts', WHERE WHAT IT READS IS OF BULK AT MOST 1048576: true; the input reads as it did. -/
def shiftLeftsUptoRow : OpenClaim := { program := "ytnfinhokagdkjab", sum := "866df6b8c0c8fed4342f55c85e49dfb5f5a5445399d4596783355634453dedc9", func := "thresher/thresherlaw1.ShiftLefts", spec := "shiftLefts", apart := false, narrowed := true }
def ShiftLeftsUptoSaid : Prop := shiftLeftsUptoRow.holds Try.pinned (OpenSpec.upto shiftLeftsSpec)

end Rows
end Go.Proofs.Ytnfinhokagdkjab
