/-
  DERIVED. GIVEN WITH THE SEED: THE CARDS: each row of YtaagllbcmgnbnaaGreatDoorRows.lean that lists a variable, with what it lists TIED to the program's text (the seventh form; the later family's looks); each row that meets fmt, with fmt's text TOLD by the authors' own Lean function (tested against real Go, not proved from fmt's source: count such statements apart). THE CARD IS WHAT COUNTS. Prove the row's statement (the work); the ties are given (YtaagllbcmgnbnaaGreatDoorTie.lean); close each card by the builder's one call (the guide's Derived/Test/ToyasCard.lean, 'card_holds'). Laid BY PROGRAM, IN A SANDBOX (cutbox-door.mjs). By AI agents, Wed Nov 11 2026. No macro, syntax, notation, axiom, sorry.
-/
import Derived.Test.YtaagllbcmgnbnaaGreatDoorRows
import GoSem.ClaimSeven
namespace Go.Proofs.YtaagllbcmgnbnaaGreatDoor
namespace Rows

/-- THE TIED CARD OF 'thresherlaw13.LocalRuns'. -/
def localRunsCard : Claim7 := { stood := { row := localRunsRow, standIns := [], harness := (true, "cfe6c4361b3077d50300f7713b78be395e38c4b9dd6381cb58bcfa062178be95"), looks := true }, kinds := [], alts := [], laidByText := true, laidKinds := [.data, .data, .data, .data, .sentinel, .sentinel, .data], laidTests := true, laidLooks := .later }
def LocalRunsCardSaid : Prop := Claim7.holds Tryz.pinned (.plain (OpenSpec.ofChange localRunsSpec)) localRunsCard

/-- THE TIED CARD OF 'thresherlaw13.LocalWays'. -/
def localWaysCard : Claim7 := { stood := { row := localWaysRow, standIns := [], harness := (true, "cfe6c4361b3077d50300f7713b78be395e38c4b9dd6381cb58bcfa062178be95"), looks := true }, kinds := [], alts := [], laidByText := true, laidKinds := [.data, .data, .data, .data, .sentinel, .sentinel, .data], laidTests := true, laidLooks := .later }
def LocalWaysCardSaid : Prop := Claim7.holds Tryz.pinned (.plain (OpenSpec.ofChange localWaysSpec)) localWaysCard

/-- THE TIED CARD OF 'thresherlaw13.LocalSums'. -/
def localSumsCard : Claim7 := { stood := { row := localSumsRow, standIns := [], harness := (true, "cfe6c4361b3077d50300f7713b78be395e38c4b9dd6381cb58bcfa062178be95"), looks := true }, kinds := [], alts := [], laidByText := true, laidKinds := [.data, .data, .data, .data, .sentinel, .sentinel, .data], laidTests := true, laidLooks := .later }
def LocalSumsCardSaid : Prop := Claim7.holds Tryz.pinned (.plain (OpenSpec.ofChange localSumsSpec)) localSumsCard

/-- THE TIED CARD OF 'thresherlaw13.LocalCounts'. -/
def localCountsCard : Claim7 := { stood := { row := localCountsRow, standIns := [], harness := (true, "cfe6c4361b3077d50300f7713b78be395e38c4b9dd6381cb58bcfa062178be95"), looks := true }, kinds := [], alts := [], laidByText := true, laidKinds := [.data, .data, .data, .data, .sentinel, .sentinel, .data], laidTests := true, laidLooks := .later }
def LocalCountsCardSaid : Prop := Claim7.holds Tryz.pinned (.plain (OpenSpec.ofChange localCountsSpec)) localCountsCard

/-- THE TIED CARD OF 'thresherlaw13.LocalMins'. -/
def localMinsCard : Claim7 := { stood := { row := localMinsRow, standIns := [], harness := (true, "cfe6c4361b3077d50300f7713b78be395e38c4b9dd6381cb58bcfa062178be95"), looks := true }, kinds := [], alts := [], laidByText := true, laidKinds := [.data, .data, .data, .data, .sentinel, .sentinel, .data], laidTests := true, laidLooks := .later }
def LocalMinsCardSaid : Prop := Claim7.holds Tryz.pinned (.plain (OpenSpec.ofChange localMinsSpec)) localMinsCard

/-- THE TIED CARD OF 'thresherlaw13.LocalMaxs'. -/
def localMaxsCard : Claim7 := { stood := { row := localMaxsRow, standIns := [], harness := (true, "cfe6c4361b3077d50300f7713b78be395e38c4b9dd6381cb58bcfa062178be95"), looks := true }, kinds := [], alts := [], laidByText := true, laidKinds := [.data, .data, .data, .data, .sentinel, .sentinel, .data], laidTests := true, laidLooks := .later }
def LocalMaxsCardSaid : Prop := Claim7.holds Tryz.pinned (.plain (OpenSpec.ofChange localMaxsSpec)) localMaxsCard

/-- THE SECOND FORM's CARD OF 'thresherlaw13.LocalRuns'. -/
def localRunsUptoCard : Claim7 := { stood := { row := localRunsUptoRow, standIns := [], harness := (true, "cfe6c4361b3077d50300f7713b78be395e38c4b9dd6381cb58bcfa062178be95"), looks := true }, kinds := [], alts := [], laidByText := true, laidKinds := [.data, .data, .data, .data, .sentinel, .sentinel, .data], laidTests := true, laidLooks := .later }
def LocalRunsUptoCardSaid : Prop := Claim7.holds Tryz.pinned (.plain (OpenSpec.upto localRunsSpec)) localRunsUptoCard

/-- THE SECOND FORM's CARD OF 'thresherlaw13.LocalWays'. -/
def localWaysUptoCard : Claim7 := { stood := { row := localWaysUptoRow, standIns := [], harness := (true, "cfe6c4361b3077d50300f7713b78be395e38c4b9dd6381cb58bcfa062178be95"), looks := true }, kinds := [], alts := [], laidByText := true, laidKinds := [.data, .data, .data, .data, .sentinel, .sentinel, .data], laidTests := true, laidLooks := .later }
def LocalWaysUptoCardSaid : Prop := Claim7.holds Tryz.pinned (.plain (OpenSpec.upto localWaysSpec)) localWaysUptoCard

/-- THE SECOND FORM's CARD OF 'thresherlaw13.LocalSums'. -/
def localSumsUptoCard : Claim7 := { stood := { row := localSumsUptoRow, standIns := [], harness := (true, "cfe6c4361b3077d50300f7713b78be395e38c4b9dd6381cb58bcfa062178be95"), looks := true }, kinds := [], alts := [], laidByText := true, laidKinds := [.data, .data, .data, .data, .sentinel, .sentinel, .data], laidTests := true, laidLooks := .later }
def LocalSumsUptoCardSaid : Prop := Claim7.holds Tryz.pinned (.plain (OpenSpec.upto localSumsSpec)) localSumsUptoCard

/-- THE SECOND FORM's CARD OF 'thresherlaw13.LocalCounts'. -/
def localCountsUptoCard : Claim7 := { stood := { row := localCountsUptoRow, standIns := [], harness := (true, "cfe6c4361b3077d50300f7713b78be395e38c4b9dd6381cb58bcfa062178be95"), looks := true }, kinds := [], alts := [], laidByText := true, laidKinds := [.data, .data, .data, .data, .sentinel, .sentinel, .data], laidTests := true, laidLooks := .later }
def LocalCountsUptoCardSaid : Prop := Claim7.holds Tryz.pinned (.plain (OpenSpec.upto localCountsSpec)) localCountsUptoCard

/-- THE SECOND FORM's CARD OF 'thresherlaw13.LocalMins'. -/
def localMinsUptoCard : Claim7 := { stood := { row := localMinsUptoRow, standIns := [], harness := (true, "cfe6c4361b3077d50300f7713b78be395e38c4b9dd6381cb58bcfa062178be95"), looks := true }, kinds := [], alts := [], laidByText := true, laidKinds := [.data, .data, .data, .data, .sentinel, .sentinel, .data], laidTests := true, laidLooks := .later }
def LocalMinsUptoCardSaid : Prop := Claim7.holds Tryz.pinned (.plain (OpenSpec.upto localMinsSpec)) localMinsUptoCard

/-- THE SECOND FORM's CARD OF 'thresherlaw13.LocalMaxs'. -/
def localMaxsUptoCard : Claim7 := { stood := { row := localMaxsUptoRow, standIns := [], harness := (true, "cfe6c4361b3077d50300f7713b78be395e38c4b9dd6381cb58bcfa062178be95"), looks := true }, kinds := [], alts := [], laidByText := true, laidKinds := [.data, .data, .data, .data, .sentinel, .sentinel, .data], laidTests := true, laidLooks := .later }
def LocalMaxsUptoCardSaid : Prop := Claim7.holds Tryz.pinned (.plain (OpenSpec.upto localMaxsSpec)) localMaxsUptoCard
end Rows
end Go.Proofs.YtaagllbcmgnbnaaGreatDoor
