/-
  DERIVED. GIVEN WITH THE SEED: THE CARDS: each row of YtlljggefbngkeaaGreatDoorRows.lean that lists a variable, with what it lists TIED to the program's text (the seventh form; the later family's looks); each row that meets fmt, with fmt's text TOLD by the authors' own Lean function (tested against real Go, not proved from fmt's source: count such statements apart). THE CARD IS WHAT COUNTS. Prove the row's statement (the work); the ties are given (YtlljggefbngkeaaGreatDoorTie.lean); close each card by the builder's one call (the guide's Derived/Test/ToyasCard.lean, 'card_holds'). Laid BY PROGRAM, IN A SANDBOX (cutbox-door.mjs). By AI agents, Wed Nov 11 2026. No macro, syntax, notation, axiom, sorry.
-/
import Derived.Test.YtlljggefbngkeaaGreatDoorRows
import GoSem.ClaimSeven
namespace Go.Proofs.YtlljggefbngkeaaGreatDoor
namespace Rows

/-- THE TIED CARD OF 'glasslaw.Accepted'. -/
def acceptedCard : Claim7 := { stood := { row := acceptedRow, standIns := [], harness := (true, "9ced146371440c99d0ac5e5684e2e9190a9b9c06f0c269381adc7265b3c3e398"), looks := true }, kinds := [], alts := [], laidByText := true, laidKinds := [.data], laidTests := true, laidLooks := .later }
def AcceptedCardSaid : Prop := Claim7.holds Tryz.pinned (.plain (OpenSpec.ofChange acceptedSpec)) acceptedCard

/-- THE TIED CARD OF 'glasslaw.Refused'. -/
def refusedCard : Claim7 := { stood := { row := refusedRow, standIns := [], harness := (true, "9ced146371440c99d0ac5e5684e2e9190a9b9c06f0c269381adc7265b3c3e398"), looks := true }, kinds := [], alts := [], laidByText := true, laidKinds := [.data], laidTests := true, laidLooks := .later }
def RefusedCardSaid : Prop := Claim7.holds Tryz.pinned (.plain (OpenSpec.ofChange refusedSpec)) refusedCard

/-- THE TIED CARD OF 'glasslaw.Gets'. -/
def getsCard : Claim7 := { stood := { row := getsRow, standIns := [], harness := (true, "9ced146371440c99d0ac5e5684e2e9190a9b9c06f0c269381adc7265b3c3e398"), looks := true }, kinds := [], alts := [], laidByText := true, laidKinds := [.data], laidTests := true, laidLooks := .later }
def GetsCardSaid : Prop := Claim7.holds Tryz.pinned (.plain (OpenSpec.ofChange getsSpec)) getsCard

/-- THE TIED CARD OF 'glasslaw.Puts'. -/
def putsCard : Claim7 := { stood := { row := putsRow, standIns := [], harness := (true, "9ced146371440c99d0ac5e5684e2e9190a9b9c06f0c269381adc7265b3c3e398"), looks := true }, kinds := [], alts := [], laidByText := true, laidKinds := [.data], laidTests := true, laidLooks := .later }
def PutsCardSaid : Prop := Claim7.holds Tryz.pinned (.plain (OpenSpec.ofChange putsSpec)) putsCard

/-- THE TIED CARD OF 'glasslaw.Creates'. -/
def createsCard : Claim7 := { stood := { row := createsRow, standIns := [], harness := (true, "9ced146371440c99d0ac5e5684e2e9190a9b9c06f0c269381adc7265b3c3e398"), looks := true }, kinds := [], alts := [], laidByText := true, laidKinds := [.data], laidTests := true, laidLooks := .later }
def CreatesCardSaid : Prop := Claim7.holds Tryz.pinned (.plain (OpenSpec.ofChange createsSpec)) createsCard

/-- THE TIED CARD OF 'glasslaw.GetPut'. -/
def getPutCard : Claim7 := { stood := { row := getPutRow, standIns := [], harness := (true, "9ced146371440c99d0ac5e5684e2e9190a9b9c06f0c269381adc7265b3c3e398"), looks := true }, kinds := [], alts := [], laidByText := true, laidKinds := [.data], laidTests := true, laidLooks := .later }
def GetPutCardSaid : Prop := Claim7.holds Tryz.pinned (.plain (OpenSpec.ofChange getPutSpec)) getPutCard

/-- THE TIED CARD OF 'glasslaw.PutGet'. -/
def putGetCard : Claim7 := { stood := { row := putGetRow, standIns := [], harness := (true, "9ced146371440c99d0ac5e5684e2e9190a9b9c06f0c269381adc7265b3c3e398"), looks := true }, kinds := [], alts := [], laidByText := true, laidKinds := [.data], laidTests := true, laidLooks := .later }
def PutGetCardSaid : Prop := Claim7.holds Tryz.pinned (.plain (OpenSpec.ofChange putGetSpec)) putGetCard

/-- THE TIED CARD OF 'glasslaw.CreateGet'. -/
def createGetCard : Claim7 := { stood := { row := createGetRow, standIns := [], harness := (true, "9ced146371440c99d0ac5e5684e2e9190a9b9c06f0c269381adc7265b3c3e398"), looks := true }, kinds := [], alts := [], laidByText := true, laidKinds := [.data], laidTests := true, laidLooks := .later }
def CreateGetCardSaid : Prop := Claim7.holds Tryz.pinned (.plain (OpenSpec.ofChange createGetSpec)) createGetCard

/-- THE TIED CARD OF 'glasslaw.Again'. -/
def againCard : Claim7 := { stood := { row := againRow, standIns := [], harness := (true, "9ced146371440c99d0ac5e5684e2e9190a9b9c06f0c269381adc7265b3c3e398"), looks := true }, kinds := [], alts := [], laidByText := true, laidKinds := [.data], laidTests := true, laidLooks := .later }
def AgainCardSaid : Prop := Claim7.holds Tryz.pinned (.plain (OpenSpec.ofChange againSpec)) againCard

/-- THE SECOND FORM's CARD OF 'glasslaw.Accepted'. -/
def acceptedUptoCard : Claim7 := { stood := { row := acceptedUptoRow, standIns := [], harness := (true, "9ced146371440c99d0ac5e5684e2e9190a9b9c06f0c269381adc7265b3c3e398"), looks := true }, kinds := [], alts := [], laidByText := true, laidKinds := [.data], laidTests := true, laidLooks := .later }
def AcceptedUptoCardSaid : Prop := Claim7.holds Tryz.pinned (.plain (OpenSpec.upto acceptedSpec)) acceptedUptoCard

/-- THE SECOND FORM's CARD OF 'glasslaw.Refused'. -/
def refusedUptoCard : Claim7 := { stood := { row := refusedUptoRow, standIns := [], harness := (true, "9ced146371440c99d0ac5e5684e2e9190a9b9c06f0c269381adc7265b3c3e398"), looks := true }, kinds := [], alts := [], laidByText := true, laidKinds := [.data], laidTests := true, laidLooks := .later }
def RefusedUptoCardSaid : Prop := Claim7.holds Tryz.pinned (.plain (OpenSpec.upto refusedSpec)) refusedUptoCard

/-- THE SECOND FORM's CARD OF 'glasslaw.Gets'. -/
def getsUptoCard : Claim7 := { stood := { row := getsUptoRow, standIns := [], harness := (true, "9ced146371440c99d0ac5e5684e2e9190a9b9c06f0c269381adc7265b3c3e398"), looks := true }, kinds := [], alts := [], laidByText := true, laidKinds := [.data], laidTests := true, laidLooks := .later }
def GetsUptoCardSaid : Prop := Claim7.holds Tryz.pinned (.plain (OpenSpec.upto getsSpec)) getsUptoCard

/-- THE SECOND FORM's CARD OF 'glasslaw.Puts'. -/
def putsUptoCard : Claim7 := { stood := { row := putsUptoRow, standIns := [], harness := (true, "9ced146371440c99d0ac5e5684e2e9190a9b9c06f0c269381adc7265b3c3e398"), looks := true }, kinds := [], alts := [], laidByText := true, laidKinds := [.data], laidTests := true, laidLooks := .later }
def PutsUptoCardSaid : Prop := Claim7.holds Tryz.pinned (.plain (OpenSpec.upto putsSpec)) putsUptoCard

/-- THE SECOND FORM's CARD OF 'glasslaw.Creates'. -/
def createsUptoCard : Claim7 := { stood := { row := createsUptoRow, standIns := [], harness := (true, "9ced146371440c99d0ac5e5684e2e9190a9b9c06f0c269381adc7265b3c3e398"), looks := true }, kinds := [], alts := [], laidByText := true, laidKinds := [.data], laidTests := true, laidLooks := .later }
def CreatesUptoCardSaid : Prop := Claim7.holds Tryz.pinned (.plain (OpenSpec.upto createsSpec)) createsUptoCard

/-- THE SECOND FORM's CARD OF 'glasslaw.GetPut'. -/
def getPutUptoCard : Claim7 := { stood := { row := getPutUptoRow, standIns := [], harness := (true, "9ced146371440c99d0ac5e5684e2e9190a9b9c06f0c269381adc7265b3c3e398"), looks := true }, kinds := [], alts := [], laidByText := true, laidKinds := [.data], laidTests := true, laidLooks := .later }
def GetPutUptoCardSaid : Prop := Claim7.holds Tryz.pinned (.plain (OpenSpec.upto getPutSpec)) getPutUptoCard

/-- THE SECOND FORM's CARD OF 'glasslaw.PutGet'. -/
def putGetUptoCard : Claim7 := { stood := { row := putGetUptoRow, standIns := [], harness := (true, "9ced146371440c99d0ac5e5684e2e9190a9b9c06f0c269381adc7265b3c3e398"), looks := true }, kinds := [], alts := [], laidByText := true, laidKinds := [.data], laidTests := true, laidLooks := .later }
def PutGetUptoCardSaid : Prop := Claim7.holds Tryz.pinned (.plain (OpenSpec.upto putGetSpec)) putGetUptoCard

/-- THE SECOND FORM's CARD OF 'glasslaw.CreateGet'. -/
def createGetUptoCard : Claim7 := { stood := { row := createGetUptoRow, standIns := [], harness := (true, "9ced146371440c99d0ac5e5684e2e9190a9b9c06f0c269381adc7265b3c3e398"), looks := true }, kinds := [], alts := [], laidByText := true, laidKinds := [.data], laidTests := true, laidLooks := .later }
def CreateGetUptoCardSaid : Prop := Claim7.holds Tryz.pinned (.plain (OpenSpec.upto createGetSpec)) createGetUptoCard

/-- THE SECOND FORM's CARD OF 'glasslaw.Again'. -/
def againUptoCard : Claim7 := { stood := { row := againUptoRow, standIns := [], harness := (true, "9ced146371440c99d0ac5e5684e2e9190a9b9c06f0c269381adc7265b3c3e398"), looks := true }, kinds := [], alts := [], laidByText := true, laidKinds := [.data], laidTests := true, laidLooks := .later }
def AgainUptoCardSaid : Prop := Claim7.holds Tryz.pinned (.plain (OpenSpec.upto againSpec)) againUptoCard
end Rows
end Go.Proofs.YtlljggefbngkeaaGreatDoor
