/-
  DERIVED. GIVEN WITH THE SEED: THE CARDS: each row of YtaagllbcmgnbnabGreatDoorRows.lean that lists a variable, with what it lists TIED to the program's text (the seventh form; the later family's looks); each row that meets fmt, with fmt's text TOLD by the authors' own Lean function (tested against real Go, not proved from fmt's source: count such statements apart). THE CARD IS WHAT COUNTS. Prove the row's statement (the work); the ties are given (YtaagllbcmgnbnabGreatDoorTie.lean); close each card by the builder's one call (the guide's Derived/Test/ToyasCard.lean, 'card_holds'). Laid BY PROGRAM, IN A SANDBOX (cutbox-door.mjs). By AI agents, Wed Nov 11 2026. No macro, syntax, notation, axiom, sorry.
-/
import Derived.Test.YtaagllbcmgnbnabGreatDoorRows
import GoSem.ClaimSeven
namespace Go.Proofs.YtaagllbcmgnbnabGreatDoor
namespace Rows

/-- THE TIED CARD OF 'thresherlaw13.LocalOrs'. -/
def localOrsCard : Claim7 := { stood := { row := localOrsRow, standIns := [], harness := (true, "b5debff0b4590b4a34a1a4ba31cfc026fec55ed1d2a0731aea07df749170fb6c"), looks := true }, kinds := [], alts := [], laidByText := true, laidKinds := [.data, .data, .data, .data, .sentinel, .sentinel, .data], laidTests := true, laidLooks := .later }
def LocalOrsCardSaid : Prop := Claim7.holds Tryz.pinned (.plain (OpenSpec.ofChange localOrsSpec)) localOrsCard

/-- THE TIED CARD OF 'thresherlaw13.LocalSets'. -/
def localSetsCard : Claim7 := { stood := { row := localSetsRow, standIns := [], harness := (true, "b5debff0b4590b4a34a1a4ba31cfc026fec55ed1d2a0731aea07df749170fb6c"), looks := true }, kinds := [], alts := [], laidByText := true, laidKinds := [.data, .data, .data, .data, .sentinel, .sentinel, .data], laidTests := true, laidLooks := .later }
def LocalSetsCardSaid : Prop := Claim7.holds Tryz.pinned (.plain (OpenSpec.ofChange localSetsSpec)) localSetsCard

/-- THE SECOND FORM's CARD OF 'thresherlaw13.LocalOrs'. -/
def localOrsUptoCard : Claim7 := { stood := { row := localOrsUptoRow, standIns := [], harness := (true, "b5debff0b4590b4a34a1a4ba31cfc026fec55ed1d2a0731aea07df749170fb6c"), looks := true }, kinds := [], alts := [], laidByText := true, laidKinds := [.data, .data, .data, .data, .sentinel, .sentinel, .data], laidTests := true, laidLooks := .later }
def LocalOrsUptoCardSaid : Prop := Claim7.holds Tryz.pinned (.plain (OpenSpec.upto localOrsSpec)) localOrsUptoCard

/-- THE SECOND FORM's CARD OF 'thresherlaw13.LocalSets'. -/
def localSetsUptoCard : Claim7 := { stood := { row := localSetsUptoRow, standIns := [], harness := (true, "b5debff0b4590b4a34a1a4ba31cfc026fec55ed1d2a0731aea07df749170fb6c"), looks := true }, kinds := [], alts := [], laidByText := true, laidKinds := [.data, .data, .data, .data, .sentinel, .sentinel, .data], laidTests := true, laidLooks := .later }
def LocalSetsUptoCardSaid : Prop := Claim7.holds Tryz.pinned (.plain (OpenSpec.upto localSetsSpec)) localSetsUptoCard
end Rows
end Go.Proofs.YtaagllbcmgnbnabGreatDoor
