/-
  DERIVED. GIVEN WITH THE SEED: THE CARDS: each row of YtojefplapklbmaaGreatDoorRows.lean that lists a variable, with what it lists TIED to the program's text (the seventh form; the later family's looks); each row that meets fmt, with fmt's text TOLD by the authors' own Lean function (tested against real Go, not proved from fmt's source: count such statements apart). THE CARD IS WHAT COUNTS. Prove the row's statement (the work); the ties are given (YtojefplapklbmaaGreatDoorTie.lean); close each card by the builder's one call (the guide's Derived/Test/ToyasCard.lean, 'card_holds'). Laid BY PROGRAM, IN A SANDBOX (cutbox-door.mjs). By AI agents, Wed Nov 11 2026. No macro, syntax, notation, axiom, sorry.
-/
import Derived.Test.YtojefplapklbmaaGreatDoorRows
import GoSem.ClaimSeven
namespace Go.Proofs.YtojefplapklbmaaGreatDoor
namespace Rows

/-- THE TIED CARD OF 'hornlaw.TermSays'. -/
def termSaysCard : Claim7 := { stood := { row := termSaysRow, standIns := [], harness := (true, "53bb795c2603cee6f7878ba273544a9e44c9ab588b40469bf519d80406d5656b"), looks := false }, kinds := [], alts := [], laidByText := true, laidKinds := [.data, .data, .data], laidTests := true, laidLooks := .later }
def TermSaysCardSaid : Prop := Claim7.holds Tryz.pinned (.plain (OpenSpec.ofChange termSaysSpec)) termSaysCard

/-- THE TIED CARD OF 'hornkeep.TermMemory'. -/
def termMemoryCard : Claim7 := { stood := { row := termMemoryRow, standIns := [], harness := (true, "53bb795c2603cee6f7878ba273544a9e44c9ab588b40469bf519d80406d5656b"), looks := false }, kinds := [], alts := [], laidByText := true, laidKinds := [.data, .data, .data], laidTests := true, laidLooks := .later }
def TermMemoryCardSaid : Prop := Claim7.holds Tryz.pinned (.plain (OpenSpec.ofChange termMemorySpec)) termMemoryCard

/-- THE SECOND FORM's CARD OF 'hornlaw.TermSays'. -/
def termSaysUptoCard : Claim7 := { stood := { row := termSaysUptoRow, standIns := [], harness := (true, "53bb795c2603cee6f7878ba273544a9e44c9ab588b40469bf519d80406d5656b"), looks := false }, kinds := [], alts := [], laidByText := true, laidKinds := [.data, .data, .data], laidTests := true, laidLooks := .later }
def TermSaysUptoCardSaid : Prop := Claim7.holds Tryz.pinned (.plain (OpenSpec.upto termSaysSpec)) termSaysUptoCard

/-- THE SECOND FORM's CARD OF 'hornkeep.TermMemory'. -/
def termMemoryUptoCard : Claim7 := { stood := { row := termMemoryUptoRow, standIns := [], harness := (true, "53bb795c2603cee6f7878ba273544a9e44c9ab588b40469bf519d80406d5656b"), looks := false }, kinds := [], alts := [], laidByText := true, laidKinds := [.data, .data, .data], laidTests := true, laidLooks := .later }
def TermMemoryUptoCardSaid : Prop := Claim7.holds Tryz.pinned (.plain (OpenSpec.upto termMemorySpec)) termMemoryUptoCard
end Rows
end Go.Proofs.YtojefplapklbmaaGreatDoor
