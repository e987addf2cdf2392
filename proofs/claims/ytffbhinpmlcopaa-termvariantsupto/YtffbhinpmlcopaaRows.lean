/-
  NARROWER THAN 'FOR EVERY INPUT', by the rows' own cells (each row's printed sentence says how): TermOrder: loops · TermBinds: loops · TermActs: loops · TermVariants: loops.
  DERIVED. THE GIVEN ROWS OF THIS SEAT. 6 by the template 'for every input the law returns true; each argument reads behind the call as it read before'; 0 by the template 'total and deterministic' (their statements: YtffbhinpmlcopaaTotals.lean).
  GIVEN WITH THE SEED: the statements are not yours to turn. If you find one false, say at which input.
  Laid BY PROGRAM, IN A SANDBOX (cutbox-rows.mjs): the forced cells as the released guide's own fill.sh prints them over the translation fe3a412af8b59524… (all of the seat's roots in one cut). By AI agents, Wed Nov 11 2026. No macro, syntax, notation, axiom, sorry.
-/
import Derived.Test.YtffbhinpmlcopaaChecked
import GoSem.Claim
import GoSem.ClaimJoined
import GoSem.ClaimMapViews
import Derived.JoinedTies
import Derived.KernelRfl
namespace Go.Proofs.Ytffbhinpmlcopaa
/- THE CELL 'sum', in the pinned program and in every row, IS THE sha256 OF THE DUMP (.gsa) THAT YtffbhinpmlcopaaProg.lean LOADS. Nothing in Lean hashes anything: it is a label: what it is worth is what the hold of that sum in a sandbox is worth. -/
noncomputable def Try.pinned : Pinned := { name := "ytffbhinpmlcopaa", sum := "fe3a412af8b595240f9aee227e639989221c7d773f8cf97ebe9027a00225d7b5", checked := Try.checked }
namespace Rows
def none {H : Type} : Left H := { results := [], args := [] }

/-- 'hornkeep.TermOrder': WHATEVER THE INPUT: true; the input reads as it did. -/
def termOrderSpec : ChangeSpec := { name := "termOrder", fn := fun _ => fun
  | [d1, d2, d3] => { results := [.lit (.bool true)], args := [d1, d2, d3] }
  | _ => none }
def termOrderRow : OpenClaim := { program := "ytffbhinpmlcopaa", sum := "fe3a412af8b595240f9aee227e639989221c7d773f8cf97ebe9027a00225d7b5", func := "hornbook/hornkeep.TermOrder", spec := "termOrder", unfollowed := true, recurses := true, loops := true, apart := false }
def TermOrderSaid : Prop := termOrderRow.holds Try.pinned (OpenSpec.ofChange termOrderSpec)

/-- ITS FALSE NEIGHBOUR: 'it returns false'. Refute it at one input. -/
def termOrderWrong : ChangeSpec := { name := "termOrder", fn := fun _ => fun
  | [d1, d2, d3] => { results := [.lit (.bool false)], args := [d1, d2, d3] }
  | _ => none }
def TermOrderWrongFalsely : Prop := termOrderRow.holds Try.pinned (OpenSpec.ofChange termOrderWrong)

/-- 'hornlaw.TermBinds': WHATEVER THE INPUT: true; the input reads as it did. -/
def termBindsSpec : ChangeSpec := { name := "termBinds", fn := fun _ => fun
  | [d1, d2, d3] => { results := [.lit (.bool true)], args := [d1, d2, d3] }
  | _ => none }
def termBindsRow : OpenClaim := { program := "ytffbhinpmlcopaa", sum := "fe3a412af8b595240f9aee227e639989221c7d773f8cf97ebe9027a00225d7b5", func := "hornbook/hornlaw.TermBinds", spec := "termBinds", unfollowed := true, recurses := true, loops := true, apart := false }
def TermBindsSaid : Prop := termBindsRow.holds Try.pinned (OpenSpec.ofChange termBindsSpec)

/-- ITS FALSE NEIGHBOUR: 'it returns false'. Refute it at one input. -/
def termBindsWrong : ChangeSpec := { name := "termBinds", fn := fun _ => fun
  | [d1, d2, d3] => { results := [.lit (.bool false)], args := [d1, d2, d3] }
  | _ => none }
def TermBindsWrongFalsely : Prop := termBindsRow.holds Try.pinned (OpenSpec.ofChange termBindsWrong)

/-- 'hornkeep.TermActs': WHATEVER THE INPUT: true; the input reads as it did. -/
def termActsSpec : ChangeSpec := { name := "termActs", fn := fun _ => fun
  | [d1, d2, d3, d4] => { results := [.lit (.bool true)], args := [d1, d2, d3, d4] }
  | _ => none }
def termActsRow : OpenClaim := { program := "ytffbhinpmlcopaa", sum := "fe3a412af8b595240f9aee227e639989221c7d773f8cf97ebe9027a00225d7b5", func := "hornbook/hornkeep.TermActs", spec := "termActs", unfollowed := true, recurses := true, loops := true, apart := false }
def TermActsSaid : Prop := termActsRow.holds Try.pinned (OpenSpec.ofChange termActsSpec)

/-- ITS FALSE NEIGHBOUR: 'it returns false'. Refute it at one input. -/
def termActsWrong : ChangeSpec := { name := "termActs", fn := fun _ => fun
  | [d1, d2, d3, d4] => { results := [.lit (.bool false)], args := [d1, d2, d3, d4] }
  | _ => none }
def TermActsWrongFalsely : Prop := termActsRow.holds Try.pinned (OpenSpec.ofChange termActsWrong)

/-- 'hornkeep.TermVariants': WHATEVER THE INPUT: true; the input reads as it did. -/
def termVariantsSpec : ChangeSpec := { name := "termVariants", fn := fun _ => fun
  | [d1, d2, d3] => { results := [.lit (.bool true)], args := [d1, d2, d3] }
  | _ => none }
def termVariantsRow : OpenClaim := { program := "ytffbhinpmlcopaa", sum := "fe3a412af8b595240f9aee227e639989221c7d773f8cf97ebe9027a00225d7b5", func := "hornbook/hornkeep.TermVariants", spec := "termVariants", unfollowed := true, recurses := true, loops := true, apart := false }
def TermVariantsSaid : Prop := termVariantsRow.holds Try.pinned (OpenSpec.ofChange termVariantsSpec)

/-- ITS FALSE NEIGHBOUR: 'it returns false'. Refute it at one input. -/
def termVariantsWrong : ChangeSpec := { name := "termVariants", fn := fun _ => fun
  | [d1, d2, d3] => { results := [.lit (.bool false)], args := [d1, d2, d3] }
  | _ => none }
def TermVariantsWrongFalsely : Prop := termVariantsRow.holds Try.pinned (OpenSpec.ofChange termVariantsWrong)

/-- 'hornkeep.ArithDivides': WHATEVER THE INPUT: true; the input reads as it did. -/
def arithDividesSpec : ChangeSpec := { name := "arithDivides", fn := fun _ => fun
  | [d1, d2, d3] => { results := [.lit (.bool true)], args := [d1, d2, d3] }
  | _ => none }
def arithDividesRow : OpenClaim := { program := "ytffbhinpmlcopaa", sum := "fe3a412af8b595240f9aee227e639989221c7d773f8cf97ebe9027a00225d7b5", func := "hornbook/hornkeep.ArithDivides", spec := "arithDivides", unfollowed := true, recurses := true, apart := false }
def ArithDividesSaid : Prop := arithDividesRow.holds Try.pinned (OpenSpec.ofChange arithDividesSpec)

/-- ITS FALSE NEIGHBOUR: 'it returns false'. Refute it at one input. -/
def arithDividesWrong : ChangeSpec := { name := "arithDivides", fn := fun _ => fun
  | [d1, d2, d3] => { results := [.lit (.bool false)], args := [d1, d2, d3] }
  | _ => none }
def ArithDividesWrongFalsely : Prop := arithDividesRow.holds Try.pinned (OpenSpec.ofChange arithDividesWrong)

/-- 'hornkeep.ArithRing': WHATEVER THE INPUT: true; the input reads as it did. -/
def arithRingSpec : ChangeSpec := { name := "arithRing", fn := fun _ => fun
  | [d1, d2, d3] => { results := [.lit (.bool true)], args := [d1, d2, d3] }
  | _ => none }
def arithRingRow : OpenClaim := { program := "ytffbhinpmlcopaa", sum := "fe3a412af8b595240f9aee227e639989221c7d773f8cf97ebe9027a00225d7b5", func := "hornbook/hornkeep.ArithRing", spec := "arithRing", unfollowed := true, recurses := true, apart := false }
def ArithRingSaid : Prop := arithRingRow.holds Try.pinned (OpenSpec.ofChange arithRingSpec)

/-- ITS FALSE NEIGHBOUR: 'it returns false'. Refute it at one input. -/
def arithRingWrong : ChangeSpec := { name := "arithRing", fn := fun _ => fun
  | [d1, d2, d3] => { results := [.lit (.bool false)], args := [d1, d2, d3] }
  | _ => none }
def ArithRingWrongFalsely : Prop := arithRingRow.holds Try.pinned (OpenSpec.ofChange arithRingWrong)

/- THE SECOND FORM. 'bulk': how many values and letters a reading holds, each counted each time it is reached (what is shared counts as often as it is met; a slice's spare places count too). A statement '..UptoSaid' is the law's where the arguments, and the package variables that the reading takes, are together of bulk at most 1048576: NARROWER than '..Said'. Prove '..Said' where nothing that the law and all that it calls make is longer than what came in: it says more and counts as full. Else prove '..UptoSaid'. A law counts once. -/
mutual
def uptoBulk {H : Type} : DataW H → Nat
  | .lit (.string bytes) => bytes.length + 1
  | .lit _ => 1
  | .nil => 1
  | .ptr d => uptoBulk d + 1
  | .slice elems spare => uptoBulkAll elems + uptoBulkAll spare + 1
  | .agg parts => uptoBulkAll parts + 1
  | .iface _ d => uptoBulk d + 1
  | .map entries => uptoBulkEntries entries + 1
  | .held _ => 1
def uptoBulkAll {H : Type} : List (DataW H) → Nat
  | [] => 0
  | d :: r => uptoBulk d + uptoBulkAll r
def uptoBulkEntries {H : Type} : List (Lit × DataW H) → Nat
  | [] => 0
  | x :: r => uptoBulkEntry x + uptoBulkEntries r
def uptoBulkEntry {H : Type} : Lit × DataW H → Nat
  | (.string bytes, d) => bytes.length + uptoBulk d + 1
  | (_, d) => uptoBulk d + 1
 end
def uptoSmall : (H : Type) → List (DataW H) → Bool := fun _ ds => decide (uptoBulkAll ds ≤ 1048576)
def OpenSpec.upto (s : _root_.Go.ChangeSpec) : _root_.Go.OpenSpec := { _root_.Go.OpenSpec.ofChange s with cond := some uptoSmall }

/-- 'hornkeep.TermOrder', WHERE WHAT IT READS IS OF BULK AT MOST 1048576: true; the input reads as it did. -/
def termOrderUptoRow : OpenClaim := { program := "ytffbhinpmlcopaa", sum := "fe3a412af8b595240f9aee227e639989221c7d773f8cf97ebe9027a00225d7b5", func := "hornbook/hornkeep.TermOrder", spec := "termOrder", unfollowed := true, recurses := true, loops := true, apart := false, narrowed := true }
def TermOrderUptoSaid : Prop := termOrderUptoRow.holds Try.pinned (OpenSpec.upto termOrderSpec)

/-- 'hornlaw.TermBinds', WHERE WHAT IT READS IS OF BULK AT MOST 1048576: true; the input reads as it did. -/
def termBindsUptoRow : OpenClaim := { program := "ytffbhinpmlcopaa", sum := "fe3a412af8b595240f9aee227e639989221c7d773f8cf97ebe9027a00225d7b5", func := "hornbook/hornlaw.TermBinds", spec := "termBinds", unfollowed := true, recurses := true, loops := true, apart := false, narrowed := true }
def TermBindsUptoSaid : Prop := termBindsUptoRow.holds Try.pinned (OpenSpec.upto termBindsSpec)

/-- 'hornkeep.TermActs', WHERE WHAT IT READS IS OF BULK AT MOST 1048576: true; the input reads as it did. -/
def termActsUptoRow : OpenClaim := { program := "ytffbhinpmlcopaa", sum := "fe3a412af8b595240f9aee227e639989221c7d773f8cf97ebe9027a00225d7b5", func := "hornbook/hornkeep.TermActs", spec := "termActs", unfollowed := true, recurses := true, loops := true, apart := false, narrowed := true }
def TermActsUptoSaid : Prop := termActsUptoRow.holds Try.pinned (OpenSpec.upto termActsSpec)

/-- 'hornkeep.TermVariants', WHERE WHAT IT READS IS OF BULK AT MOST 1048576: true; the input reads as it did. -/
def termVariantsUptoRow : OpenClaim := { program := "ytffbhinpmlcopaa", sum := "fe3a412af8b595240f9aee227e639989221c7d773f8cf97ebe9027a00225d7b5", func := "hornbook/hornkeep.TermVariants", spec := "termVariants", unfollowed := true, recurses := true, loops := true, apart := false, narrowed := true }
def TermVariantsUptoSaid : Prop := termVariantsUptoRow.holds Try.pinned (OpenSpec.upto termVariantsSpec)

/-- 'hornkeep.ArithDivides', WHERE WHAT IT READS IS OF BULK AT MOST 1048576: true; the input reads as it did. -/
def arithDividesUptoRow : OpenClaim := { program := "ytffbhinpmlcopaa", sum := "fe3a412af8b595240f9aee227e639989221c7d773f8cf97ebe9027a00225d7b5", func := "hornbook/hornkeep.ArithDivides", spec := "arithDivides", unfollowed := true, recurses := true, apart := false, narrowed := true }
def ArithDividesUptoSaid : Prop := arithDividesUptoRow.holds Try.pinned (OpenSpec.upto arithDividesSpec)

/-- 'hornkeep.ArithRing', WHERE WHAT IT READS IS OF BULK AT MOST 1048576: true; the input reads as it did. -/
def arithRingUptoRow : OpenClaim := { program := "ytffbhinpmlcopaa", sum := "fe3a412af8b595240f9aee227e639989221c7d773f8cf97ebe9027a00225d7b5", func := "hornbook/hornkeep.ArithRing", spec := "arithRing", unfollowed := true, recurses := true, apart := false, narrowed := true }
def ArithRingUptoSaid : Prop := arithRingUptoRow.holds Try.pinned (OpenSpec.upto arithRingSpec)

end Rows
end Go.Proofs.Ytffbhinpmlcopaa
