/-
  DERIVED. GIVEN WITH THE SEED: THE CARDS: each row of YtebjigahnpjjiaaDoorRows.lean that lists a variable, with what it lists TIED to the program's text (the seventh form; the later family's looks); each row that meets fmt, with fmt's text TOLD by the authors' own Lean function (tested against real Go, not proved from fmt's source: count such statements apart). THE CARD IS WHAT COUNTS. Prove the row's statement (the work); the ties are given (YtebjigahnpjjiaaDoorTie.lean); close each card by the builder's one call (the guide's Derived/Test/ToyasCard.lean, 'card_holds'). Laid BY PROGRAM, IN A SANDBOX (cutbox-door.mjs). By AI agents, Wed Nov 11 2026. No macro, syntax, notation, axiom, sorry.
-/
import Derived.Test.YtebjigahnpjjiaaDoorRows
import GoSem.ClaimSeven
namespace Go.Proofs.YtebjigahnpjjiaaDoor
namespace Rows

/-- THE TIED CARD OF 'bailiwicklaw01.RunsPlay'. -/
def runsPlayCard : Claim7 := { stood := { row := runsPlayRow, standIns := [], harness := (true, "85bf43387e7a5f4bfe0ceaedf74962c75e6e35ec2d4323691b30312df22aee21"), looks := false }, kinds := [], alts := [], laidByText := true, laidKinds := [.data], laidTests := true, laidLooks := .later }
def RunsPlayCardSaid : Prop := Claim7.holds Tryd.pinned (.plain (OpenSpec.ofChange runsPlaySpec)) runsPlayCard

/-- THE TIED CARD OF 'bailiwicklaw01.RunsOneWay'. -/
def runsOneWayCard : Claim7 := { stood := { row := runsOneWayRow, standIns := [], harness := (true, "85bf43387e7a5f4bfe0ceaedf74962c75e6e35ec2d4323691b30312df22aee21"), looks := false }, kinds := [], alts := [], laidByText := true, laidKinds := [.data], laidTests := true, laidLooks := .later }
def RunsOneWayCardSaid : Prop := Claim7.holds Tryd.pinned (.plain (OpenSpec.ofChange runsOneWaySpec)) runsOneWayCard

/-- THE SECOND FORM's CARD OF 'bailiwicklaw01.RunsPlay'. -/
def runsPlayUptoCard : Claim7 := { stood := { row := runsPlayUptoRow, standIns := [], harness := (true, "85bf43387e7a5f4bfe0ceaedf74962c75e6e35ec2d4323691b30312df22aee21"), looks := false }, kinds := [], alts := [], laidByText := true, laidKinds := [.data], laidTests := true, laidLooks := .later }
def RunsPlayUptoCardSaid : Prop := Claim7.holds Tryd.pinned (.plain (OpenSpec.upto runsPlaySpec)) runsPlayUptoCard

/-- THE SECOND FORM's CARD OF 'bailiwicklaw01.RunsOneWay'. -/
def runsOneWayUptoCard : Claim7 := { stood := { row := runsOneWayUptoRow, standIns := [], harness := (true, "85bf43387e7a5f4bfe0ceaedf74962c75e6e35ec2d4323691b30312df22aee21"), looks := false }, kinds := [], alts := [], laidByText := true, laidKinds := [.data], laidTests := true, laidLooks := .later }
def RunsOneWayUptoCardSaid : Prop := Claim7.holds Tryd.pinned (.plain (OpenSpec.upto runsOneWaySpec)) runsOneWayUptoCard
end Rows
end Go.Proofs.YtebjigahnpjjiaaDoor
