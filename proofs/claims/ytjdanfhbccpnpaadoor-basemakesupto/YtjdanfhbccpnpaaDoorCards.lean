/-
  DERIVED. GIVEN WITH THE SEED: THE CARDS: each row of YtjdanfhbccpnpaaDoorRows.lean that lists a variable, with what it lists TIED to the program's text (the seventh form; the later family's looks); each row that meets fmt, with fmt's text TOLD by the authors' own Lean function (tested against real Go, not proved from fmt's source: count such statements apart). THE CARD IS WHAT COUNTS. Prove the row's statement (the work); the ties are given (YtjdanfhbccpnpaaDoorTie.lean); close each card by the builder's one call (the guide's Derived/Test/ToyasCard.lean, 'card_holds'). Laid BY PROGRAM, IN A SANDBOX (cutbox-door.mjs). By AI agents, Wed Nov 11 2026. No macro, syntax, notation, axiom, sorry.
-/
import Derived.Test.YtjdanfhbccpnpaaDoorRows
import GoSem.ClaimSeven
namespace Go.Proofs.YtjdanfhbccpnpaaDoor
namespace Rows

/-- THE TIED CARD OF 'hornlaw.BaseMakes'. -/
def baseMakesCard : Claim7 := { stood := { row := baseMakesRow, standIns := [], harness := (true, "799c78d70de8f6db2698caa2bbc24a46424b1232254c4998ffbfcce7be64038f"), looks := false }, kinds := [], alts := [], laidByText := true, laidKinds := [.data, .pinned], laidTests := true, laidLooks := .later }
def BaseMakesCardSaid : Prop := Claim7.holds Tryd.pinned (.plain (OpenSpec.ofChange baseMakesSpec)) baseMakesCard

/-- THE SECOND FORM's CARD OF 'hornlaw.BaseMakes'. -/
def baseMakesUptoCard : Claim7 := { stood := { row := baseMakesUptoRow, standIns := [], harness := (true, "799c78d70de8f6db2698caa2bbc24a46424b1232254c4998ffbfcce7be64038f"), looks := false }, kinds := [], alts := [], laidByText := true, laidKinds := [.data, .pinned], laidTests := true, laidLooks := .later }
def BaseMakesUptoCardSaid : Prop := Claim7.holds Tryd.pinned (.plain (OpenSpec.upto baseMakesSpec)) baseMakesUptoCard
end Rows
end Go.Proofs.YtjdanfhbccpnpaaDoor
