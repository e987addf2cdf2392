/-
  DERIVED. GIVEN WITH THE SEED: THE CARDS: each row of YtcnoipaoljjelaaGreatDoorRows.lean that lists a variable, with what it lists TIED to the program's text (the seventh form; the later family's looks); each row that meets fmt, with fmt's text TOLD by the authors' own Lean function (tested against real Go, not proved from fmt's source: count such statements apart). THE CARD IS WHAT COUNTS. Prove the row's statement (the work); the ties are given (YtcnoipaoljjelaaGreatDoorTie.lean); close each card by the builder's one call (the guide's Derived/Test/ToyasCard.lean, 'card_holds'). Laid BY PROGRAM, IN A SANDBOX (cutbox-door.mjs). By AI agents, Wed Nov 11 2026. No macro, syntax, notation, axiom, sorry.
-/
import Derived.Test.YtcnoipaoljjelaaGreatDoorRows
import GoSem.ClaimSeven
namespace Go.Proofs.YtcnoipaoljjelaaGreatDoor
namespace Rows

/-- THE TIED CARD OF 'hornlaw.MachineChecks'. -/
def machineChecksCard : Claim7 := { stood := { row := machineChecksRow, standIns := [], harness := (true, "cf68df45b040f5da13ef5abbf3ce0ca253b2c86c64660f626e911caad7270575"), looks := true }, kinds := [], alts := [], laidByText := true, laidKinds := [.data, .data, .data, .data, .data, .pinned], laidTests := true, laidLooks := .later }
def MachineChecksCardSaid : Prop := Claim7.holds Tryz.pinned (.plain (OpenSpec.ofChange machineChecksSpec)) machineChecksCard

/-- THE SECOND FORM's CARD OF 'hornlaw.MachineChecks'. -/
def machineChecksUptoCard : Claim7 := { stood := { row := machineChecksUptoRow, standIns := [], harness := (true, "cf68df45b040f5da13ef5abbf3ce0ca253b2c86c64660f626e911caad7270575"), looks := true }, kinds := [], alts := [], laidByText := true, laidKinds := [.data, .data, .data, .data, .data, .pinned], laidTests := true, laidLooks := .later }
def MachineChecksUptoCardSaid : Prop := Claim7.holds Tryz.pinned (.plain (OpenSpec.upto machineChecksSpec)) machineChecksUptoCard
end Rows
end Go.Proofs.YtcnoipaoljjelaaGreatDoor
