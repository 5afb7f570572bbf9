/-
  DERIVED. GIVEN WITH THE SEED: THE CARDS: each row of YtdopckcockgefaaDoorRows.lean that lists a variable, with what it lists TIED to the program's text (the seventh form; the later family's looks); each row that meets fmt, with fmt's text TOLD by the authors' own Lean function (tested against real Go, not proved from fmt's source: count such statements apart). THE CARD IS WHAT COUNTS. Prove the row's statement (the work); the ties are given (YtdopckcockgefaaDoorTie.lean); close each card by the builder's one call (the guide's Derived/Test/ToyasCard.lean, 'card_holds'). Laid BY PROGRAM, IN A SANDBOX (cutbox-door.mjs). By AI agents, Wed Nov 11 2026. No macro, syntax, notation, axiom, sorry.
-/
import Derived.Test.YtdopckcockgefaaDoorRows
import GoSem.ClaimSeven
namespace Go.Proofs.YtdopckcockgefaaDoor
namespace Rows

/-- THE TIED CARD OF 'bailiwicklaw07.CellPlays'. -/
def cellPlaysCard : Claim7 := { stood := { row := cellPlaysRow, standIns := [], harness := (true, "bfb6c7d6013a82f3766cc5954aafef53fef1f69321c4d9084da21027a1503ec1"), looks := true }, kinds := [], alts := [], laidByText := true, laidKinds := [.data], laidTests := true, laidLooks := .later }
def CellPlaysCardSaid : Prop := Claim7.holds Tryd.pinned (.plain (OpenSpec.ofChange cellPlaysSpec)) cellPlaysCard

/-- THE TIED CARD OF 'bailiwicklaw07.CellNeverStale'. -/
def cellNeverStaleCard : Claim7 := { stood := { row := cellNeverStaleRow, standIns := [], harness := (true, "bfb6c7d6013a82f3766cc5954aafef53fef1f69321c4d9084da21027a1503ec1"), looks := true }, kinds := [], alts := [], laidByText := true, laidKinds := [.data], laidTests := true, laidLooks := .later }
def CellNeverStaleCardSaid : Prop := Claim7.holds Tryd.pinned (.plain (OpenSpec.ofChange cellNeverStaleSpec)) cellNeverStaleCard

/-- THE SECOND FORM's CARD OF 'bailiwicklaw07.CellPlays'. -/
def cellPlaysUptoCard : Claim7 := { stood := { row := cellPlaysUptoRow, standIns := [], harness := (true, "bfb6c7d6013a82f3766cc5954aafef53fef1f69321c4d9084da21027a1503ec1"), looks := true }, kinds := [], alts := [], laidByText := true, laidKinds := [.data], laidTests := true, laidLooks := .later }
def CellPlaysUptoCardSaid : Prop := Claim7.holds Tryd.pinned (.plain (OpenSpec.upto cellPlaysSpec)) cellPlaysUptoCard

/-- THE SECOND FORM's CARD OF 'bailiwicklaw07.CellNeverStale'. -/
def cellNeverStaleUptoCard : Claim7 := { stood := { row := cellNeverStaleUptoRow, standIns := [], harness := (true, "bfb6c7d6013a82f3766cc5954aafef53fef1f69321c4d9084da21027a1503ec1"), looks := true }, kinds := [], alts := [], laidByText := true, laidKinds := [.data], laidTests := true, laidLooks := .later }
def CellNeverStaleUptoCardSaid : Prop := Claim7.holds Tryd.pinned (.plain (OpenSpec.upto cellNeverStaleSpec)) cellNeverStaleUptoCard
end Rows
end Go.Proofs.YtdopckcockgefaaDoor
