/-
  DERIVED. GIVEN WITH THE SEED: THE CARDS: each row of YtejgcflcckjlpaaDoorRows.lean that lists a variable, with what it lists TIED to the program's text (the seventh form; the later family's looks); each row that meets fmt, with fmt's text TOLD by the authors' own Lean function (tested against real Go, not proved from fmt's source: count such statements apart). THE CARD IS WHAT COUNTS. Prove the row's statement (the work); the ties are given (YtejgcflcckjlpaaDoorTie.lean); close each card by the builder's one call (the guide's Derived/Test/ToyasCard.lean, 'card_holds'). Laid BY PROGRAM, IN A SANDBOX (cutbox-door.mjs). By AI agents, Wed Nov 11 2026. No macro, syntax, notation, axiom, sorry.
-/
import Derived.Test.YtejgcflcckjlpaaDoorRows
import GoSem.ClaimSeven
namespace Go.Proofs.YtejgcflcckjlpaaDoor
namespace Rows

/-- THE TIED CARD OF 'thresherlaw11.PartOfs'. -/
def partOfsCard : Claim7 := { stood := { row := partOfsRow, standIns := [], harness := (true, "d7c0bf60de27a31c02d262f1ddc638f838eb7971bf68e85a97620d05f3bd26e5"), looks := false }, kinds := [], alts := [], laidByText := true, laidKinds := [.data], laidTests := true, laidLooks := .later }
def PartOfsCardSaid : Prop := Claim7.holds Tryd.pinned (.plain (OpenSpec.ofChange partOfsSpec)) partOfsCard

/-- THE SECOND FORM's CARD OF 'thresherlaw11.PartOfs'. -/
def partOfsUptoCard : Claim7 := { stood := { row := partOfsUptoRow, standIns := [], harness := (true, "d7c0bf60de27a31c02d262f1ddc638f838eb7971bf68e85a97620d05f3bd26e5"), looks := false }, kinds := [], alts := [], laidByText := true, laidKinds := [.data], laidTests := true, laidLooks := .later }
def PartOfsUptoCardSaid : Prop := Claim7.holds Tryd.pinned (.plain (OpenSpec.upto partOfsSpec)) partOfsUptoCard
end Rows
end Go.Proofs.YtejgcflcckjlpaaDoor
