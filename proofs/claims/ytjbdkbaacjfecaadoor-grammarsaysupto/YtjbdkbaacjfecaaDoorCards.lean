/-
  DERIVED. GIVEN WITH THE SEED: THE CARDS: each row of YtjbdkbaacjfecaaDoorRows.lean that lists a variable, with what it lists TIED to the program's text (the seventh form; the later family's looks); each row that meets fmt, with fmt's text TOLD by the authors' own Lean function (tested against real Go, not proved from fmt's source: count such statements apart). THE CARD IS WHAT COUNTS. Prove the row's statement (the work); the ties are given (YtjbdkbaacjfecaaDoorTie.lean); close each card by the builder's one call (the guide's Derived/Test/ToyasCard.lean, 'card_holds'). Laid BY PROGRAM, IN A SANDBOX (cutbox-door.mjs). By AI agents, Wed Nov 11 2026. No macro, syntax, notation, axiom, sorry.
-/
import Derived.Test.YtjbdkbaacjfecaaDoorRows
import GoSem.ClaimSeven
namespace Go.Proofs.YtjbdkbaacjfecaaDoor
namespace Rows

/-- THE TIED CARD OF 'hornlaw.GrammarSays'. -/
def grammarSaysCard : Claim7 := { stood := { row := grammarSaysRow, standIns := [], harness := (true, "184fb555d89c9b55822bc18dacdc9cf6cc059aa9e032092475895f78226b278c"), looks := false }, kinds := [], alts := [], laidByText := true, laidKinds := [.data, .pinned], laidTests := true, laidLooks := .later }
def GrammarSaysCardSaid : Prop := Claim7.holds Tryd.pinned (.plain (OpenSpec.ofChange grammarSaysSpec)) grammarSaysCard

/-- THE SECOND FORM's CARD OF 'hornlaw.GrammarSays'. -/
def grammarSaysUptoCard : Claim7 := { stood := { row := grammarSaysUptoRow, standIns := [], harness := (true, "184fb555d89c9b55822bc18dacdc9cf6cc059aa9e032092475895f78226b278c"), looks := false }, kinds := [], alts := [], laidByText := true, laidKinds := [.data, .pinned], laidTests := true, laidLooks := .later }
def GrammarSaysUptoCardSaid : Prop := Claim7.holds Tryd.pinned (.plain (OpenSpec.upto grammarSaysSpec)) grammarSaysUptoCard
end Rows
end Go.Proofs.YtjbdkbaacjfecaaDoor
