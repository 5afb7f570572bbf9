/-
  DERIVED. GIVEN WITH THE SEED: THE CARDS: each row of YtldoopjnjlpbpaaGreatDoorRows.lean that lists a variable, with what it lists TIED to the program's text (the seventh form; the later family's looks); each row that meets fmt, with fmt's text TOLD by the authors' own Lean function (tested against real Go, not proved from fmt's source: count such statements apart). THE CARD IS WHAT COUNTS. Prove the row's statement (the work); the ties are given (YtldoopjnjlpbpaaGreatDoorTie.lean); close each card by the builder's one call (the guide's Derived/Test/ToyasCard.lean, 'card_holds'). Laid BY PROGRAM, IN A SANDBOX (cutbox-door.mjs). By AI agents, Wed Nov 11 2026. No macro, syntax, notation, axiom, sorry.
-/
import Derived.Test.YtldoopjnjlpbpaaGreatDoorRows
import GoSem.ClaimSeven
namespace Go.Proofs.YtldoopjnjlpbpaaGreatDoor
namespace Rows

/-- THE TIED CARD OF 'bailiwicklaw08.OwnPlays'. -/
def ownPlaysCard : Claim7 := { stood := { row := ownPlaysRow, standIns := [], harness := (true, "c3db3cb43853a9c88eae893dd28a1217b3a87ad01b8cf5a1472041a87872bd63"), looks := false }, kinds := [], alts := [], laidByText := true, laidKinds := [.data], laidTests := true, laidLooks := .later }
def OwnPlaysCardSaid : Prop := Claim7.holds Tryz.pinned (.plain (OpenSpec.ofChange ownPlaysSpec)) ownPlaysCard

/-- THE SECOND FORM's CARD OF 'bailiwicklaw08.OwnPlays'. -/
def ownPlaysUptoCard : Claim7 := { stood := { row := ownPlaysUptoRow, standIns := [], harness := (true, "c3db3cb43853a9c88eae893dd28a1217b3a87ad01b8cf5a1472041a87872bd63"), looks := false }, kinds := [], alts := [], laidByText := true, laidKinds := [.data], laidTests := true, laidLooks := .later }
def OwnPlaysUptoCardSaid : Prop := Claim7.holds Tryz.pinned (.plain (OpenSpec.upto ownPlaysSpec)) ownPlaysUptoCard
end Rows
end Go.Proofs.YtldoopjnjlpbpaaGreatDoor
