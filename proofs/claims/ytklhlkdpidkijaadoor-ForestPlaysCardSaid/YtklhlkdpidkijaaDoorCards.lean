/-
  DERIVED. GIVEN WITH THE SEED: THE CARDS: each row of YtklhlkdpidkijaaDoorRows.lean that lists a variable, with what it lists TIED to the program's text (the seventh form; the later family's looks); each row that meets fmt, with fmt's text TOLD by the authors' own Lean function (tested against real Go, not proved from fmt's source: count such statements apart). THE CARD IS WHAT COUNTS. Prove the row's statement (the work); the ties are given (YtklhlkdpidkijaaDoorTie.lean); close each card by the builder's one call (the guide's Derived/Test/ToyasCard.lean, 'card_holds'). Laid BY PROGRAM, IN A SANDBOX (cutbox-door.mjs). By AI agents, Wed Nov 11 2026. No macro, syntax, notation, axiom, sorry.
-/
import Derived.Test.YtklhlkdpidkijaaDoorRows
import GoSem.ClaimSeven
namespace Go.Proofs.YtklhlkdpidkijaaDoor
namespace Rows

/-- THE TIED CARD OF 'bailiwicklaw06.ForestPlays'. -/
def forestPlaysCard : Claim7 := { stood := { row := forestPlaysRow, standIns := [], harness := (true, "328fd811a51bb803a4c7d36213bc27d008816ef15e41153991b4f7de13566b93"), looks := false }, kinds := [], alts := [], laidByText := true, laidKinds := [.data], laidTests := true, laidLooks := .later }
def ForestPlaysCardSaid : Prop := Claim7.holds Tryd.pinned (.plain (OpenSpec.ofChange forestPlaysSpec)) forestPlaysCard

/-- THE TIED CARD OF 'bailiwicklaw06.ForestWhole'. -/
def forestWholeCard : Claim7 := { stood := { row := forestWholeRow, standIns := [], harness := (true, "328fd811a51bb803a4c7d36213bc27d008816ef15e41153991b4f7de13566b93"), looks := false }, kinds := [], alts := [], laidByText := true, laidKinds := [.data], laidTests := true, laidLooks := .later }
def ForestWholeCardSaid : Prop := Claim7.holds Tryd.pinned (.plain (OpenSpec.ofChange forestWholeSpec)) forestWholeCard

/-- THE SECOND FORM's CARD OF 'bailiwicklaw06.ForestPlays'. -/
def forestPlaysUptoCard : Claim7 := { stood := { row := forestPlaysUptoRow, standIns := [], harness := (true, "328fd811a51bb803a4c7d36213bc27d008816ef15e41153991b4f7de13566b93"), looks := false }, kinds := [], alts := [], laidByText := true, laidKinds := [.data], laidTests := true, laidLooks := .later }
def ForestPlaysUptoCardSaid : Prop := Claim7.holds Tryd.pinned (.plain (OpenSpec.upto forestPlaysSpec)) forestPlaysUptoCard

/-- THE SECOND FORM's CARD OF 'bailiwicklaw06.ForestWhole'. -/
def forestWholeUptoCard : Claim7 := { stood := { row := forestWholeUptoRow, standIns := [], harness := (true, "328fd811a51bb803a4c7d36213bc27d008816ef15e41153991b4f7de13566b93"), looks := false }, kinds := [], alts := [], laidByText := true, laidKinds := [.data], laidTests := true, laidLooks := .later }
def ForestWholeUptoCardSaid : Prop := Claim7.holds Tryd.pinned (.plain (OpenSpec.upto forestWholeSpec)) forestWholeUptoCard
end Rows
end Go.Proofs.YtklhlkdpidkijaaDoor
