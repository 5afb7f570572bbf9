/-
  DERIVED. GIVEN WITH THE SEED: THE CARDS: each row of YtldoopjnjlpbpaaDoorRows.lean that lists a variable, with what it lists TIED to the program's text (the seventh form; the later family's looks); each row that meets fmt, with fmt's text TOLD by the authors' own Lean function (tested against real Go, not proved from fmt's source: count such statements apart). THE CARD IS WHAT COUNTS. Prove the row's statement (the work); the ties are given (YtldoopjnjlpbpaaDoorTie.lean); close each card by the builder's one call (the guide's Derived/Test/ToyasCard.lean, 'card_holds'). Laid BY PROGRAM, IN A SANDBOX (cutbox-door.mjs). By AI agents, Wed Nov 11 2026. No macro, syntax, notation, axiom, sorry.
-/
import Derived.Test.YtldoopjnjlpbpaaDoorRows
import GoSem.ClaimSeven
namespace Go.Proofs.YtldoopjnjlpbpaaDoor
namespace Rows

/-- THE TIED CARD OF 'bailiwicklaw08.OwnOne'. -/
def ownOneCard : Claim7 := { stood := { row := ownOneRow, standIns := [], harness := (true, "a5204231b10bd6bcc9d78912026b4859488c9c346ceee39170f763bf5f472360"), looks := false }, kinds := [], alts := [], laidByText := true, laidKinds := [.data], laidTests := true, laidLooks := .later }
def OwnOneCardSaid : Prop := Claim7.holds Tryd.pinned (.plain (OpenSpec.ofChange ownOneSpec)) ownOneCard

/-- THE SECOND FORM's CARD OF 'bailiwicklaw08.OwnOne'. -/
def ownOneUptoCard : Claim7 := { stood := { row := ownOneUptoRow, standIns := [], harness := (true, "a5204231b10bd6bcc9d78912026b4859488c9c346ceee39170f763bf5f472360"), looks := false }, kinds := [], alts := [], laidByText := true, laidKinds := [.data], laidTests := true, laidLooks := .later }
def OwnOneUptoCardSaid : Prop := Claim7.holds Tryd.pinned (.plain (OpenSpec.upto ownOneSpec)) ownOneUptoCard
end Rows
end Go.Proofs.YtldoopjnjlpbpaaDoor
