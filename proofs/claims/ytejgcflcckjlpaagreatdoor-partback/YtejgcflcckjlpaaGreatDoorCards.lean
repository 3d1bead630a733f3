/-
  DERIVED. GIVEN WITH THE SEED: THE CARDS: each row of YtejgcflcckjlpaaGreatDoorRows.lean that lists a variable, with what it lists TIED to the program's text (the seventh form; the later family's looks); each row that meets fmt, with fmt's text TOLD by the authors' own Lean function (tested against real Go, not proved from fmt's source: count such statements apart). THE CARD IS WHAT COUNTS. Prove the row's statement (the work); the ties are given (YtejgcflcckjlpaaGreatDoorTie.lean); close each card by the builder's one call (the guide's Derived/Test/ToyasCard.lean, 'card_holds'). Laid BY PROGRAM, IN A SANDBOX (cutbox-door.mjs). By AI agents, Wed Nov 11 2026. No macro, syntax, notation, axiom, sorry.
-/
import Derived.Test.YtejgcflcckjlpaaGreatDoorRows
import GoSem.ClaimSeven
namespace Go.Proofs.YtejgcflcckjlpaaGreatDoor
namespace Rows

/-- THE TIED CARD OF 'thresherlaw11.PartBack'. -/
def partBackCard : Claim7 := { stood := { row := partBackRow, standIns := [], harness := (true, "ff6eb10367783b3abcb18a787e8e89566dbc8c3a87b1685f7278cd08f8272323"), looks := false }, kinds := [], alts := [], laidByText := true, laidKinds := [.data], laidTests := true, laidLooks := .later }
def PartBackCardSaid : Prop := Claim7.holds Tryz.pinned (.plain (OpenSpec.ofChange partBackSpec)) partBackCard

/-- THE SECOND FORM's CARD OF 'thresherlaw11.PartBack'. -/
def partBackUptoCard : Claim7 := { stood := { row := partBackUptoRow, standIns := [], harness := (true, "ff6eb10367783b3abcb18a787e8e89566dbc8c3a87b1685f7278cd08f8272323"), looks := false }, kinds := [], alts := [], laidByText := true, laidKinds := [.data], laidTests := true, laidLooks := .later }
def PartBackUptoCardSaid : Prop := Claim7.holds Tryz.pinned (.plain (OpenSpec.upto partBackSpec)) partBackUptoCard
end Rows
end Go.Proofs.YtejgcflcckjlpaaGreatDoor
