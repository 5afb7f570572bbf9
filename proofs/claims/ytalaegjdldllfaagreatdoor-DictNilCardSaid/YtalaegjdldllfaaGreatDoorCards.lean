/-
  DERIVED. GIVEN WITH THE SEED: THE CARDS: each row of YtalaegjdldllfaaGreatDoorRows.lean that lists a variable, with what it lists TIED to the program's text (the seventh form; the later family's looks); each row that meets fmt, with fmt's text TOLD by the authors' own Lean function (tested against real Go, not proved from fmt's source: count such statements apart). THE CARD IS WHAT COUNTS. Prove the row's statement (the work); the ties are given (YtalaegjdldllfaaGreatDoorTie.lean); close each card by the builder's one call (the guide's Derived/Test/ToyasCard.lean, 'card_holds'). Laid BY PROGRAM, IN A SANDBOX (cutbox-door.mjs). By AI agents, Wed Nov 11 2026. No macro, syntax, notation, axiom, sorry.
-/
import Derived.Test.YtalaegjdldllfaaGreatDoorRows
import GoSem.ClaimSeven
namespace Go.Proofs.YtalaegjdldllfaaGreatDoor
namespace Rows

/-- THE TIED CARD OF 'bailiwicklaw36.ListNil'. -/
def listNilCard : Claim7 := { stood := { row := listNilRow, standIns := [], harness := (true, "67737f7eb50ccc6e80e5d6fe7dd36d91dee836a3ece4d48d2539d9a568020bc3"), looks := true }, kinds := [], alts := [], laidByText := true, laidKinds := [.data], laidTests := true, laidLooks := .later }
def ListNilCardSaid : Prop := Claim7.holds Tryz.pinned (.plain (OpenSpec.ofChange listNilSpec)) listNilCard

/-- THE TIED CARD OF 'bailiwicklaw37.DictNil'. -/
def dictNilCard : Claim7 := { stood := { row := dictNilRow, standIns := [], harness := (true, "67737f7eb50ccc6e80e5d6fe7dd36d91dee836a3ece4d48d2539d9a568020bc3"), looks := true }, kinds := [], alts := [], laidByText := true, laidKinds := [.data], laidTests := true, laidLooks := .later }
def DictNilCardSaid : Prop := Claim7.holds Tryz.pinned (.plain (OpenSpec.ofChange dictNilSpec)) dictNilCard

/-- THE TIED CARD OF 'bailiwicklaw38.VecNil'. -/
def vecNilCard : Claim7 := { stood := { row := vecNilRow, standIns := [], harness := (true, "67737f7eb50ccc6e80e5d6fe7dd36d91dee836a3ece4d48d2539d9a568020bc3"), looks := true }, kinds := [], alts := [], laidByText := true, laidKinds := [.data], laidTests := true, laidLooks := .later }
def VecNilCardSaid : Prop := Claim7.holds Tryz.pinned (.plain (OpenSpec.ofChange vecNilSpec)) vecNilCard

/-- THE SECOND FORM's CARD OF 'bailiwicklaw36.ListNil'. -/
def listNilUptoCard : Claim7 := { stood := { row := listNilUptoRow, standIns := [], harness := (true, "67737f7eb50ccc6e80e5d6fe7dd36d91dee836a3ece4d48d2539d9a568020bc3"), looks := true }, kinds := [], alts := [], laidByText := true, laidKinds := [.data], laidTests := true, laidLooks := .later }
def ListNilUptoCardSaid : Prop := Claim7.holds Tryz.pinned (.plain (OpenSpec.upto listNilSpec)) listNilUptoCard

/-- THE SECOND FORM's CARD OF 'bailiwicklaw37.DictNil'. -/
def dictNilUptoCard : Claim7 := { stood := { row := dictNilUptoRow, standIns := [], harness := (true, "67737f7eb50ccc6e80e5d6fe7dd36d91dee836a3ece4d48d2539d9a568020bc3"), looks := true }, kinds := [], alts := [], laidByText := true, laidKinds := [.data], laidTests := true, laidLooks := .later }
def DictNilUptoCardSaid : Prop := Claim7.holds Tryz.pinned (.plain (OpenSpec.upto dictNilSpec)) dictNilUptoCard

/-- THE SECOND FORM's CARD OF 'bailiwicklaw38.VecNil'. -/
def vecNilUptoCard : Claim7 := { stood := { row := vecNilUptoRow, standIns := [], harness := (true, "67737f7eb50ccc6e80e5d6fe7dd36d91dee836a3ece4d48d2539d9a568020bc3"), looks := true }, kinds := [], alts := [], laidByText := true, laidKinds := [.data], laidTests := true, laidLooks := .later }
def VecNilUptoCardSaid : Prop := Claim7.holds Tryz.pinned (.plain (OpenSpec.upto vecNilSpec)) vecNilUptoCard
end Rows
end Go.Proofs.YtalaegjdldllfaaGreatDoor
