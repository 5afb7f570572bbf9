/-
  DERIVED. GIVEN WITH THE SEED: THE CARDS: each row of YtjjeahnbppmigaaDoorRows.lean that lists a variable, with what it lists TIED to the program's text (the seventh form; the later family's looks); each row that meets fmt, with fmt's text TOLD by the authors' own Lean function (tested against real Go, not proved from fmt's source: count such statements apart). THE CARD IS WHAT COUNTS. Prove the row's statement (the work); the ties are given (YtjjeahnbppmigaaDoorTie.lean); close each card by the builder's one call (the guide's Derived/Test/ToyasCard.lean, 'card_holds'). Laid BY PROGRAM, IN A SANDBOX (cutbox-door.mjs). By AI agents, Wed Nov 11 2026. No macro, syntax, notation, axiom, sorry.
-/
import Derived.Test.YtjjeahnbppmigaaDoorRows
import GoSem.ClaimSeven
namespace Go.Proofs.YtjjeahnbppmigaaDoor
namespace Rows

/-- THE TIED CARD OF 'bailiwicklaw05.TablePlays'. -/
def tablePlaysCard : Claim7 := { stood := { row := tablePlaysRow, standIns := [], harness := (true, "eb28e0506a50acee32716700cbc6666d52afda10c87d48d38b7e9cd08e3e1c20"), looks := false }, kinds := [], alts := [], laidByText := true, laidKinds := [.data], laidTests := true, laidLooks := .later }
def TablePlaysCardSaid : Prop := Claim7.holds Tryd.pinned (.plain (OpenSpec.ofChange tablePlaysSpec)) tablePlaysCard

/-- THE TIED CARD OF 'bailiwicklaw05.TableAbove'. -/
def tableAboveCard : Claim7 := { stood := { row := tableAboveRow, standIns := [], harness := (true, "eb28e0506a50acee32716700cbc6666d52afda10c87d48d38b7e9cd08e3e1c20"), looks := false }, kinds := [], alts := [], laidByText := true, laidKinds := [.data], laidTests := true, laidLooks := .later }
def TableAboveCardSaid : Prop := Claim7.holds Tryd.pinned (.plain (OpenSpec.ofChange tableAboveSpec)) tableAboveCard

/-- THE SECOND FORM's CARD OF 'bailiwicklaw05.TablePlays'. -/
def tablePlaysUptoCard : Claim7 := { stood := { row := tablePlaysUptoRow, standIns := [], harness := (true, "eb28e0506a50acee32716700cbc6666d52afda10c87d48d38b7e9cd08e3e1c20"), looks := false }, kinds := [], alts := [], laidByText := true, laidKinds := [.data], laidTests := true, laidLooks := .later }
def TablePlaysUptoCardSaid : Prop := Claim7.holds Tryd.pinned (.plain (OpenSpec.upto tablePlaysSpec)) tablePlaysUptoCard

/-- THE SECOND FORM's CARD OF 'bailiwicklaw05.TableAbove'. -/
def tableAboveUptoCard : Claim7 := { stood := { row := tableAboveUptoRow, standIns := [], harness := (true, "eb28e0506a50acee32716700cbc6666d52afda10c87d48d38b7e9cd08e3e1c20"), looks := false }, kinds := [], alts := [], laidByText := true, laidKinds := [.data], laidTests := true, laidLooks := .later }
def TableAboveUptoCardSaid : Prop := Claim7.holds Tryd.pinned (.plain (OpenSpec.upto tableAboveSpec)) tableAboveUptoCard
end Rows
end Go.Proofs.YtjjeahnbppmigaaDoor
