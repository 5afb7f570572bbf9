/-
  DERIVED. GIVEN WITH THE SEED: THE CARDS: each row of YtdnnkmhgnomfgaaGreatDoorRows.lean that lists a variable, with what it lists TIED to the program's text (the seventh form; the later family's looks); each row that meets fmt, with fmt's text TOLD by the authors' own Lean function (tested against real Go, not proved from fmt's source: count such statements apart). THE CARD IS WHAT COUNTS. Prove the row's statement (the work); the ties are given (YtdnnkmhgnomfgaaGreatDoorTie.lean); close each card by the builder's one call (the guide's Derived/Test/ToyasCard.lean, 'card_holds'). Laid BY PROGRAM, IN A SANDBOX (cutbox-door.mjs). By AI agents, Wed Nov 11 2026. No macro, syntax, notation, axiom, sorry.
-/
import Derived.Test.YtdnnkmhgnomfgaaGreatDoorRows
import GoSem.ClaimSeven
namespace Go.Proofs.YtdnnkmhgnomfgaaGreatDoor
namespace Rows

/-- THE TIED CARD OF 'bailiwicklaw17.CallNew'. -/
def callNewCard : Claim7 := { stood := { row := callNewRow, standIns := [], harness := (true, "fa427ba28f52b84ecc7ce416bf274f77eb165ad76d00de8a63cf95b156773e2d"), looks := true }, kinds := [], alts := [], laidByText := true, laidKinds := [.data], laidTests := true, laidLooks := .later }
def CallNewCardSaid : Prop := Claim7.holds Tryz.pinned (.plain (OpenSpec.ofChange callNewSpec)) callNewCard

/-- THE TIED CARD OF 'bailiwicklaw19.MachineNil'. -/
def machineNilCard : Claim7 := { stood := { row := machineNilRow, standIns := [], harness := (true, "fa427ba28f52b84ecc7ce416bf274f77eb165ad76d00de8a63cf95b156773e2d"), looks := true }, kinds := [], alts := [], laidByText := true, laidKinds := [.data], laidTests := true, laidLooks := .later }
def MachineNilCardSaid : Prop := Claim7.holds Tryz.pinned (.plain (OpenSpec.ofChange machineNilSpec)) machineNilCard

/-- THE TIED CARD OF 'bailiwicklaw21.PartsNil'. -/
def partsNilCard : Claim7 := { stood := { row := partsNilRow, standIns := [], harness := (true, "fa427ba28f52b84ecc7ce416bf274f77eb165ad76d00de8a63cf95b156773e2d"), looks := true }, kinds := [], alts := [], laidByText := true, laidKinds := [.data], laidTests := true, laidLooks := .later }
def PartsNilCardSaid : Prop := Claim7.holds Tryz.pinned (.plain (OpenSpec.ofChange partsNilSpec)) partsNilCard

/-- THE TIED CARD OF 'bailiwicklaw25.SchedGaps'. -/
def schedGapsCard : Claim7 := { stood := { row := schedGapsRow, standIns := [], harness := (true, "fa427ba28f52b84ecc7ce416bf274f77eb165ad76d00de8a63cf95b156773e2d"), looks := true }, kinds := [], alts := [], laidByText := true, laidKinds := [.data], laidTests := true, laidLooks := .later }
def SchedGapsCardSaid : Prop := Claim7.holds Tryz.pinned (.plain (OpenSpec.ofChange schedGapsSpec)) schedGapsCard

/-- THE TIED CARD OF 'bailiwicklaw32.LinearWidens'. -/
def linearWidensCard : Claim7 := { stood := { row := linearWidensRow, standIns := [], harness := (true, "fa427ba28f52b84ecc7ce416bf274f77eb165ad76d00de8a63cf95b156773e2d"), looks := true }, kinds := [], alts := [], laidByText := true, laidKinds := [.data], laidTests := true, laidLooks := .later }
def LinearWidensCardSaid : Prop := Claim7.holds Tryz.pinned (.plain (OpenSpec.ofChange linearWidensSpec)) linearWidensCard

/-- THE SECOND FORM's CARD OF 'bailiwicklaw17.CallNew'. -/
def callNewUptoCard : Claim7 := { stood := { row := callNewUptoRow, standIns := [], harness := (true, "fa427ba28f52b84ecc7ce416bf274f77eb165ad76d00de8a63cf95b156773e2d"), looks := true }, kinds := [], alts := [], laidByText := true, laidKinds := [.data], laidTests := true, laidLooks := .later }
def CallNewUptoCardSaid : Prop := Claim7.holds Tryz.pinned (.plain (OpenSpec.upto callNewSpec)) callNewUptoCard

/-- THE SECOND FORM's CARD OF 'bailiwicklaw19.MachineNil'. -/
def machineNilUptoCard : Claim7 := { stood := { row := machineNilUptoRow, standIns := [], harness := (true, "fa427ba28f52b84ecc7ce416bf274f77eb165ad76d00de8a63cf95b156773e2d"), looks := true }, kinds := [], alts := [], laidByText := true, laidKinds := [.data], laidTests := true, laidLooks := .later }
def MachineNilUptoCardSaid : Prop := Claim7.holds Tryz.pinned (.plain (OpenSpec.upto machineNilSpec)) machineNilUptoCard

/-- THE SECOND FORM's CARD OF 'bailiwicklaw21.PartsNil'. -/
def partsNilUptoCard : Claim7 := { stood := { row := partsNilUptoRow, standIns := [], harness := (true, "fa427ba28f52b84ecc7ce416bf274f77eb165ad76d00de8a63cf95b156773e2d"), looks := true }, kinds := [], alts := [], laidByText := true, laidKinds := [.data], laidTests := true, laidLooks := .later }
def PartsNilUptoCardSaid : Prop := Claim7.holds Tryz.pinned (.plain (OpenSpec.upto partsNilSpec)) partsNilUptoCard

/-- THE SECOND FORM's CARD OF 'bailiwicklaw25.SchedGaps'. -/
def schedGapsUptoCard : Claim7 := { stood := { row := schedGapsUptoRow, standIns := [], harness := (true, "fa427ba28f52b84ecc7ce416bf274f77eb165ad76d00de8a63cf95b156773e2d"), looks := true }, kinds := [], alts := [], laidByText := true, laidKinds := [.data], laidTests := true, laidLooks := .later }
def SchedGapsUptoCardSaid : Prop := Claim7.holds Tryz.pinned (.plain (OpenSpec.upto schedGapsSpec)) schedGapsUptoCard

/-- THE SECOND FORM's CARD OF 'bailiwicklaw32.LinearWidens'. -/
def linearWidensUptoCard : Claim7 := { stood := { row := linearWidensUptoRow, standIns := [], harness := (true, "fa427ba28f52b84ecc7ce416bf274f77eb165ad76d00de8a63cf95b156773e2d"), looks := true }, kinds := [], alts := [], laidByText := true, laidKinds := [.data], laidTests := true, laidLooks := .later }
def LinearWidensUptoCardSaid : Prop := Claim7.holds Tryz.pinned (.plain (OpenSpec.upto linearWidensSpec)) linearWidensUptoCard
end Rows
end Go.Proofs.YtdnnkmhgnomfgaaGreatDoor
