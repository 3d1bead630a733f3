/-
  DERIVED. GIVEN WITH THE SEED: THE CARDS: each row of YtclcgakfmcofaaaGreatDoorRows.lean that lists a variable, with what it lists TIED to the program's text (the seventh form; the later family's looks); each row that meets fmt, with fmt's text TOLD by the authors' own Lean function (tested against real Go, not proved from fmt's source: count such statements apart). THE CARD IS WHAT COUNTS. Prove the row's statement (the work); the ties are given (YtclcgakfmcofaaaGreatDoorTie.lean); close each card by the builder's one call (the guide's Derived/Test/ToyasCard.lean, 'card_holds'). Laid BY PROGRAM, IN A SANDBOX (cutbox-door.mjs). By AI agents, Wed Nov 11 2026. No macro, syntax, notation, axiom, sorry.
-/
import Derived.Test.YtclcgakfmcofaaaGreatDoorRows
import GoSem.ClaimSeven
namespace Go.Proofs.YtclcgakfmcofaaaGreatDoor
namespace Rows

/-- THE TIED CARD OF 'thresherlaw14.JobBytes'. -/
def jobBytesCard : Claim7 := { stood := { row := jobBytesRow, standIns := [], harness := (true, "11f12603342f95c67a72e1cea227766abca99f6a04dd789605917e5866959fe1"), looks := true }, kinds := [], alts := [], laidByText := true, laidKinds := [.data, .data, .data, .data, .sentinel, .sentinel, .data], laidTests := true, laidLooks := .later }
def JobBytesCardSaid : Prop := Claim7.holds Tryz.pinned (.plain (OpenSpec.ofChange jobBytesSpec)) jobBytesCard

/-- THE TIED CARD OF 'thresherlaw14.JobWholes'. -/
def jobWholesCard : Claim7 := { stood := { row := jobWholesRow, standIns := [], harness := (true, "11f12603342f95c67a72e1cea227766abca99f6a04dd789605917e5866959fe1"), looks := true }, kinds := [], alts := [], laidByText := true, laidKinds := [.data, .data, .data, .data, .sentinel, .sentinel, .data], laidTests := true, laidLooks := .later }
def JobWholesCardSaid : Prop := Claim7.holds Tryz.pinned (.plain (OpenSpec.ofChange jobWholesSpec)) jobWholesCard

/-- THE TIED CARD OF 'thresherlaw14.JobCodes'. -/
def jobCodesCard : Claim7 := { stood := { row := jobCodesRow, standIns := [], harness := (true, "11f12603342f95c67a72e1cea227766abca99f6a04dd789605917e5866959fe1"), looks := true }, kinds := [], alts := [], laidByText := true, laidKinds := [.data, .data, .data, .data, .sentinel, .sentinel, .data], laidTests := true, laidLooks := .later }
def JobCodesCardSaid : Prop := Claim7.holds Tryz.pinned (.plain (OpenSpec.ofChange jobCodesSpec)) jobCodesCard

/-- THE SECOND FORM's CARD OF 'thresherlaw14.JobBytes'. -/
def jobBytesUptoCard : Claim7 := { stood := { row := jobBytesUptoRow, standIns := [], harness := (true, "11f12603342f95c67a72e1cea227766abca99f6a04dd789605917e5866959fe1"), looks := true }, kinds := [], alts := [], laidByText := true, laidKinds := [.data, .data, .data, .data, .sentinel, .sentinel, .data], laidTests := true, laidLooks := .later }
def JobBytesUptoCardSaid : Prop := Claim7.holds Tryz.pinned (.plain (OpenSpec.upto jobBytesSpec)) jobBytesUptoCard

/-- THE SECOND FORM's CARD OF 'thresherlaw14.JobWholes'. -/
def jobWholesUptoCard : Claim7 := { stood := { row := jobWholesUptoRow, standIns := [], harness := (true, "11f12603342f95c67a72e1cea227766abca99f6a04dd789605917e5866959fe1"), looks := true }, kinds := [], alts := [], laidByText := true, laidKinds := [.data, .data, .data, .data, .sentinel, .sentinel, .data], laidTests := true, laidLooks := .later }
def JobWholesUptoCardSaid : Prop := Claim7.holds Tryz.pinned (.plain (OpenSpec.upto jobWholesSpec)) jobWholesUptoCard

/-- THE SECOND FORM's CARD OF 'thresherlaw14.JobCodes'. -/
def jobCodesUptoCard : Claim7 := { stood := { row := jobCodesUptoRow, standIns := [], harness := (true, "11f12603342f95c67a72e1cea227766abca99f6a04dd789605917e5866959fe1"), looks := true }, kinds := [], alts := [], laidByText := true, laidKinds := [.data, .data, .data, .data, .sentinel, .sentinel, .data], laidTests := true, laidLooks := .later }
def JobCodesUptoCardSaid : Prop := Claim7.holds Tryz.pinned (.plain (OpenSpec.upto jobCodesSpec)) jobCodesUptoCard
end Rows
end Go.Proofs.YtclcgakfmcofaaaGreatDoor
