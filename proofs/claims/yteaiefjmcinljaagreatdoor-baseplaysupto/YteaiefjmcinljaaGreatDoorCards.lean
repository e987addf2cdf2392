/-
  DERIVED. GIVEN WITH THE SEED: THE CARDS: each row of YteaiefjmcinljaaGreatDoorRows.lean that lists a variable, with what it lists TIED to the program's text (the seventh form; the later family's looks); each row that meets fmt, with fmt's text TOLD by the authors' own Lean function (tested against real Go, not proved from fmt's source: count such statements apart). THE CARD IS WHAT COUNTS. Prove the row's statement (the work); the ties are given (YteaiefjmcinljaaGreatDoorTie.lean); close each card by the builder's one call (the guide's Derived/Test/ToyasCard.lean, 'card_holds'). Laid BY PROGRAM, IN A SANDBOX (cutbox-door.mjs). By AI agents, Wed Nov 11 2026. No macro, syntax, notation, axiom, sorry.
-/
import Derived.Test.YteaiefjmcinljaaGreatDoorRows
import GoSem.ClaimSeven
namespace Go.Proofs.YteaiefjmcinljaaGreatDoor
namespace Rows

/-- THE TIED CARD OF 'hornlaw.BasePlays'. -/
def basePlaysCard : Claim7 := { stood := { row := basePlaysRow, standIns := [], harness := (true, "bfb0de85e88265a499ed54813dfb7b633e7bab870da91bacbb0cd8edb9c7e634"), looks := false }, kinds := [], alts := [], laidByText := true, laidKinds := [.data, .pinned], laidTests := true, laidLooks := .later }
def BasePlaysCardSaid : Prop := Claim7.holds Tryz.pinned (.plain (OpenSpec.ofChange basePlaysSpec)) basePlaysCard

/-- THE SECOND FORM's CARD OF 'hornlaw.BasePlays'. -/
def basePlaysUptoCard : Claim7 := { stood := { row := basePlaysUptoRow, standIns := [], harness := (true, "bfb0de85e88265a499ed54813dfb7b633e7bab870da91bacbb0cd8edb9c7e634"), looks := false }, kinds := [], alts := [], laidByText := true, laidKinds := [.data, .pinned], laidTests := true, laidLooks := .later }
def BasePlaysUptoCardSaid : Prop := Claim7.holds Tryz.pinned (.plain (OpenSpec.upto basePlaysSpec)) basePlaysUptoCard
end Rows
end Go.Proofs.YteaiefjmcinljaaGreatDoor
