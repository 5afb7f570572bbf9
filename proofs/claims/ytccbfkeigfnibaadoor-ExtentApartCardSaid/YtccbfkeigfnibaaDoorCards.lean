/-
  DERIVED. GIVEN WITH THE SEED: THE CARDS: each row of YtccbfkeigfnibaaDoorRows.lean that lists a variable, with what it lists TIED to the program's text (the seventh form; the later family's looks); each row that meets fmt, with fmt's text TOLD by the authors' own Lean function (tested against real Go, not proved from fmt's source: count such statements apart). THE CARD IS WHAT COUNTS. Prove the row's statement (the work); the ties are given (YtccbfkeigfnibaaDoorTie.lean); close each card by the builder's one call (the guide's Derived/Test/ToyasCard.lean, 'card_holds'). Laid BY PROGRAM, IN A SANDBOX (cutbox-door.mjs). By AI agents, Wed Nov 11 2026. No macro, syntax, notation, axiom, sorry.
-/
import Derived.Test.YtccbfkeigfnibaaDoorRows
import GoSem.ClaimSeven
namespace Go.Proofs.YtccbfkeigfnibaaDoor
namespace Rows

/-- THE TIED CARD OF 'bailiwicklaw04.ExtentTells'. -/
def extentTellsCard : Claim7 := { stood := { row := extentTellsRow, standIns := [], harness := (true, "1f5aed1d934e0e6fa5740218345828ca69c6a62e6837ce1523d899b8c48640a0"), looks := false }, kinds := [], alts := [], laidByText := true, laidKinds := [.data], laidTests := true, laidLooks := .later }
def ExtentTellsCardSaid : Prop := Claim7.holds Tryd.pinned (.plain (OpenSpec.ofChange extentTellsSpec)) extentTellsCard

/-- THE TIED CARD OF 'bailiwicklaw04.ExtentApart'. -/
def extentApartCard : Claim7 := { stood := { row := extentApartRow, standIns := [], harness := (true, "1f5aed1d934e0e6fa5740218345828ca69c6a62e6837ce1523d899b8c48640a0"), looks := false }, kinds := [], alts := [], laidByText := true, laidKinds := [.data], laidTests := true, laidLooks := .later }
def ExtentApartCardSaid : Prop := Claim7.holds Tryd.pinned (.plain (OpenSpec.ofChange extentApartSpec)) extentApartCard

/-- THE SECOND FORM's CARD OF 'bailiwicklaw04.ExtentTells'. -/
def extentTellsUptoCard : Claim7 := { stood := { row := extentTellsUptoRow, standIns := [], harness := (true, "1f5aed1d934e0e6fa5740218345828ca69c6a62e6837ce1523d899b8c48640a0"), looks := false }, kinds := [], alts := [], laidByText := true, laidKinds := [.data], laidTests := true, laidLooks := .later }
def ExtentTellsUptoCardSaid : Prop := Claim7.holds Tryd.pinned (.plain (OpenSpec.upto extentTellsSpec)) extentTellsUptoCard

/-- THE SECOND FORM's CARD OF 'bailiwicklaw04.ExtentApart'. -/
def extentApartUptoCard : Claim7 := { stood := { row := extentApartUptoRow, standIns := [], harness := (true, "1f5aed1d934e0e6fa5740218345828ca69c6a62e6837ce1523d899b8c48640a0"), looks := false }, kinds := [], alts := [], laidByText := true, laidKinds := [.data], laidTests := true, laidLooks := .later }
def ExtentApartUptoCardSaid : Prop := Claim7.holds Tryd.pinned (.plain (OpenSpec.upto extentApartSpec)) extentApartUptoCard
end Rows
end Go.Proofs.YtccbfkeigfnibaaDoor
