/-
  DERIVED. GIVEN WITH THE SEED: THE CARDS: each row of YtcjeeagnfmipgaaDoorRows.lean that lists a variable, with what it lists TIED to the program's text (the seventh form; the later family's looks); each row that meets fmt, with fmt's text TOLD by the authors' own Lean function (tested against real Go, not proved from fmt's source: count such statements apart). THE CARD IS WHAT COUNTS. Prove the row's statement (the work); the ties are given (YtcjeeagnfmipgaaDoorTie.lean); close each card by the builder's one call (the guide's Derived/Test/ToyasCard.lean, 'card_holds'). Laid BY PROGRAM, IN A SANDBOX (cutbox-door.mjs). By AI agents, Wed Nov 11 2026. No macro, syntax, notation, axiom, sorry.
-/
import Derived.Test.YtcjeeagnfmipgaaDoorRows
import GoSem.ClaimSeven
namespace Go.Proofs.YtcjeeagnfmipgaaDoor
namespace Rows

/-- THE TIED CARD OF 'hornkeep.TermLeast'. -/
def termLeastCard : Claim7 := { stood := { row := termLeastRow, standIns := [], harness := (true, "516ce805716d7630ae19f15dba7a8c66007b944a2636db6831a8e7b0834b433d"), looks := false }, kinds := [], alts := [], laidByText := true, laidKinds := [.data, .data, .data], laidTests := true, laidLooks := .later }
def TermLeastCardSaid : Prop := Claim7.holds Tryd.pinned (.plain (OpenSpec.ofChange termLeastSpec)) termLeastCard

/-- THE SECOND FORM's CARD OF 'hornkeep.TermLeast'. -/
def termLeastUptoCard : Claim7 := { stood := { row := termLeastUptoRow, standIns := [], harness := (true, "516ce805716d7630ae19f15dba7a8c66007b944a2636db6831a8e7b0834b433d"), looks := false }, kinds := [], alts := [], laidByText := true, laidKinds := [.data, .data, .data], laidTests := true, laidLooks := .later }
def TermLeastUptoCardSaid : Prop := Claim7.holds Tryd.pinned (.plain (OpenSpec.upto termLeastSpec)) termLeastUptoCard
end Rows
end Go.Proofs.YtcjeeagnfmipgaaDoor
