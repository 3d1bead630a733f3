/-
  NARROWER THAN 'FOR EVERY INPUT', by the rows' own cells (each row's printed sentence says how): EvalShifts: loops · EvalAsks: loops · EvalTurns: loops.
  DERIVED. THE GIVEN ROWS OF THIS SEAT. 3 by the template 'for every input the law returns true; each argument reads behind the call as it read before'; 0 by the template 'total and deterministic' (their statements: YtkmnpaiippgnmabTotals.lean).
  GIVEN WITH THE SEED: the statements are not yours to turn. If you find one false, say at which input.
  Laid BY PROGRAM, IN A SANDBOX (cutbox-rows.mjs): the forced cells as the released guide's own fill.sh prints them over the translation d77525682eada018… (all of the seat's roots in one cut). By AI agents, Wed Nov 11 2026. No macro, syntax, notation, axiom, sorry.
-/
import Derived.Test.YtkmnpaiippgnmabChecked
import GoSem.Claim
import GoSem.ClaimJoined
import GoSem.ClaimMapViews
import Derived.JoinedTies
import Derived.KernelRfl
namespace Go.Proofs.Ytkmnpaiippgnmab
/- THE CELL 'sum', in the pinned program and in every row, IS THE sha256 OF THE DUMP (.gsa) THAT YtkmnpaiippgnmabProg.lean LOADS. Nothing in Lean hashes anything: it is a label: what it is worth is what the hold of that sum in a sandbox is worth. -/
noncomputable def Try.pinned : Pinned := { name := "ytkmnpaiippgnmab", sum := "d77525682eada018df16b21769c7446da6501070c9c4a96aa77b5bdb3725b599", checked := Try.checked }
namespace Rows
def none {H : Type} : Left H := { results := [], args := [] }

/-- 'thresherlaw8.EvalShifts': WHATEVER THE INPUT: true; the input reads as it did. -/
def evalShiftsSpec : ChangeSpec := { name := "evalShifts", fn := fun _ => fun
  | [d] => { results := [.lit (.bool true)], args := [d] }
  | _ => none }
def evalShiftsRow : OpenClaim := { program := "ytkmnpaiippgnmab", sum := "d77525682eada018df16b21769c7446da6501070c9c4a96aa77b5bdb3725b599", func := "thresher/thresherlaw8.EvalShifts", spec := "evalShifts", recurses := true, loops := true, apart := false }
def EvalShiftsSaid : Prop := evalShiftsRow.holds Try.pinned (OpenSpec.ofChange evalShiftsSpec)

/-- ITS FALSE NEIGHBOUR: 'it returns false'. Refute it at one input. -/
def evalShiftsWrong : ChangeSpec := { name := "evalShifts", fn := fun _ => fun
  | [d] => { results := [.lit (.bool false)], args := [d] }
  | _ => none }
def EvalShiftsWrongFalsely : Prop := evalShiftsRow.holds Try.pinned (OpenSpec.ofChange evalShiftsWrong)

/-- 'thresherlaw8.EvalAsks': WHATEVER THE INPUT: true; the input reads as it did. -/
def evalAsksSpec : ChangeSpec := { name := "evalAsks", fn := fun _ => fun
  | [d] => { results := [.lit (.bool true)], args := [d] }
  | _ => none }
def evalAsksRow : OpenClaim := { program := "ytkmnpaiippgnmab", sum := "d77525682eada018df16b21769c7446da6501070c9c4a96aa77b5bdb3725b599", func := "thresher/thresherlaw8.EvalAsks", spec := "evalAsks", recurses := true, loops := true, apart := false }
def EvalAsksSaid : Prop := evalAsksRow.holds Try.pinned (OpenSpec.ofChange evalAsksSpec)

/-- ITS FALSE NEIGHBOUR: 'it returns false'. Refute it at one input. -/
def evalAsksWrong : ChangeSpec := { name := "evalAsks", fn := fun _ => fun
  | [d] => { results := [.lit (.bool false)], args := [d] }
  | _ => none }
def EvalAsksWrongFalsely : Prop := evalAsksRow.holds Try.pinned (OpenSpec.ofChange evalAsksWrong)

/-- 'thresherlaw8.EvalTurns': WHATEVER THE INPUT: true; the input reads as it did. -/
def evalTurnsSpec : ChangeSpec := { name := "evalTurns", fn := fun _ => fun
  | [d] => { results := [.lit (.bool true)], args := [d] }
  | _ => none }
def evalTurnsRow : OpenClaim := { program := "ytkmnpaiippgnmab", sum := "d77525682eada018df16b21769c7446da6501070c9c4a96aa77b5bdb3725b599", func := "thresher/thresherlaw8.EvalTurns", spec := "evalTurns", recurses := true, loops := true, apart := false }
def EvalTurnsSaid : Prop := evalTurnsRow.holds Try.pinned (OpenSpec.ofChange evalTurnsSpec)

/-- ITS FALSE NEIGHBOUR: 'it returns false'. Refute it at one input. -/
def evalTurnsWrong : ChangeSpec := { name := "evalTurns", fn := fun _ => fun
  | [d] => { results := [.lit (.bool false)], args := [d] }
  | _ => none }
def EvalTurnsWrongFalsely : Prop := evalTurnsRow.holds Try.pinned (OpenSpec.ofChange evalTurnsWrong)

/- THE SECOND FORM. 'bulk': how many values and letters a reading holds, each counted each time it is reached (what is shared counts as often as it is met; a slice's spare places count too). A statement '..UptoSaid' is the law's where the arguments, and the package variables that the reading takes, are together of bulk at most 1048576: NARROWER than '..Said'. Prove '..Said' where nothing that the law and all that it calls make is longer than what came in: it says more and counts as full. Else prove '..UptoSaid'. A law counts once. -/
mutual
def uptoBulk {H : Type} : DataW H → Nat
  | .lit (.string bytes) => bytes.length + 1
  | .lit _ => 1
  | .nil => 1
  | .ptr d => uptoBulk d + 1
  | .slice elems spare => uptoBulkAll elems + uptoBulkAll spare + 1
  | .agg parts => uptoBulkAll parts + 1
  | .iface _ d => uptoBulk d + 1
  | .map entries => uptoBulkEntries entries + 1
  | .held _ => 1
def uptoBulkAll {H : Type} : List (DataW H) → Nat
  | [] => 0
  | d :: r => uptoBulk d + uptoBulkAll r
def uptoBulkEntries {H : Type} : List (Lit × DataW H) → Nat
  | [] => 0
  | x :: r => uptoBulkEntry x + uptoBulkEntries r
def uptoBulkEntry {H : Type} : Lit × DataW H → Nat
  | (.string bytes, d) => bytes.length + uptoBulk d + 1
  | (_, d) => uptoBulk d + 1
 end
def uptoSmall : (H : Type) → List (DataW H) → Bool := fun _ ds => decide (uptoBulkAll ds ≤ 1048576)
def OpenSpec.upto (s : _root_.Go.ChangeSpec) : _root_.Go.OpenSpec := { _root_.Go.OpenSpec.ofChange s with cond := some uptoSmall }

/-- 'thresherlaw8.EvalShifts', WHERE WHAT IT READS IS OF BULK AT MOST 1048576: true; the input reads as it did. -/
def evalShiftsUptoRow : OpenClaim := { program := "ytkmnpaiippgnmab", sum := "d77525682eada018df16b21769c7446da6501070c9c4a96aa77b5bdb3725b599", func := "thresher/thresherlaw8.EvalShifts", spec := "evalShifts", recurses := true, loops := true, apart := false, narrowed := true }
def EvalShiftsUptoSaid : Prop := evalShiftsUptoRow.holds Try.pinned (OpenSpec.upto evalShiftsSpec)

/-- 'thresherlaw8.EvalAsks', WHERE WHAT IT READS IS OF BULK AT MOST 1048576: true; the input reads as it did. -/
def evalAsksUptoRow : OpenClaim := { program := "ytkmnpaiippgnmab", sum := "d77525682eada018df16b21769c7446da6501070c9c4a96aa77b5bdb3725b599", func := "thresher/thresherlaw8.EvalAsks", spec := "evalAsks", recurses := true, loops := true, apart := false, narrowed := true }
def EvalAsksUptoSaid : Prop := evalAsksUptoRow.holds Try.pinned (OpenSpec.upto evalAsksSpec)

/-- 'thresherlaw8.EvalTurns', WHERE WHAT IT READS IS OF BULK AT MOST 1048576: true; the input reads as it did. -/
def evalTurnsUptoRow : OpenClaim := { program := "ytkmnpaiippgnmab", sum := "d77525682eada018df16b21769c7446da6501070c9c4a96aa77b5bdb3725b599", func := "thresher/thresherlaw8.EvalTurns", spec := "evalTurns", recurses := true, loops := true, apart := false, narrowed := true }
def EvalTurnsUptoSaid : Prop := evalTurnsUptoRow.holds Try.pinned (OpenSpec.upto evalTurnsSpec)

end Rows
end Go.Proofs.Ytkmnpaiippgnmab
