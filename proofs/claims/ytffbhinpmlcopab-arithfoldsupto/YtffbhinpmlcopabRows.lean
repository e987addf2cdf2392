/-
  NARROWER THAN 'FOR EVERY INPUT', by the rows' own cells (each row's printed sentence says how): ArithSays: loops · ArithHolds: loops · ArithFolds: loops · BaseView: loops · BaseBack: loops.
  DERIVED. THE GIVEN ROWS OF THIS SEAT. 5 by the template 'for every input the law returns true; each argument reads behind the call as it read before'; 0 by the template 'total and deterministic' (their statements: YtffbhinpmlcopabTotals.lean).
  GIVEN WITH THE SEED: the statements are not yours to turn. If you find one false, say at which input.
  Laid BY PROGRAM, IN A SANDBOX (cutbox-rows.mjs): the forced cells as the released guide's own fill.sh prints them over the translation 59bdc38f1d348bec… (all of the seat's roots in one cut). By AI agents, Wed Nov 11 2026. No macro, syntax, notation, axiom, sorry.
-/
import Derived.Test.YtffbhinpmlcopabChecked
import GoSem.Claim
import GoSem.ClaimJoined
import GoSem.ClaimMapViews
import Derived.JoinedTies
import Derived.KernelRfl
namespace Go.Proofs.Ytffbhinpmlcopab
/- THE CELL 'sum', in the pinned program and in every row, IS THE sha256 OF THE DUMP (.gsa) THAT YtffbhinpmlcopabProg.lean LOADS. Nothing in Lean hashes anything: it is a label: what it is worth is what the hold of that sum in a sandbox is worth. -/
noncomputable def Try.pinned : Pinned := { name := "ytffbhinpmlcopab", sum := "59bdc38f1d348bec0639793cc6ba3d25cde91d97238b4b1e4a4af1dec2f4deae", checked := Try.checked }
namespace Rows
def none {H : Type} : Left H := { results := [], args := [] }

/-- 'hornlaw.ArithSays': WHATEVER THE INPUT: true; the input reads as it did. -/
def arithSaysSpec : ChangeSpec := { name := "arithSays", fn := fun _ => fun
  | [d] => { results := [.lit (.bool true)], args := [d] }
  | _ => none }
def arithSaysRow : OpenClaim := { program := "ytffbhinpmlcopab", sum := "59bdc38f1d348bec0639793cc6ba3d25cde91d97238b4b1e4a4af1dec2f4deae", func := "hornbook/hornlaw.ArithSays", spec := "arithSays", unfollowed := true, recurses := true, loops := true, plainKeys := false, apart := false }
def ArithSaysSaid : Prop := arithSaysRow.holds Try.pinned (OpenSpec.ofChange arithSaysSpec)

/-- ITS FALSE NEIGHBOUR: 'it returns false'. Refute it at one input. -/
def arithSaysWrong : ChangeSpec := { name := "arithSays", fn := fun _ => fun
  | [d] => { results := [.lit (.bool false)], args := [d] }
  | _ => none }
def ArithSaysWrongFalsely : Prop := arithSaysRow.holds Try.pinned (OpenSpec.ofChange arithSaysWrong)

/-- 'hornlaw.ArithHolds': WHATEVER THE INPUT: true; the input reads as it did. -/
def arithHoldsSpec : ChangeSpec := { name := "arithHolds", fn := fun _ => fun
  | [d1, d2, d3] => { results := [.lit (.bool true)], args := [d1, d2, d3] }
  | _ => none }
def arithHoldsRow : OpenClaim := { program := "ytffbhinpmlcopab", sum := "59bdc38f1d348bec0639793cc6ba3d25cde91d97238b4b1e4a4af1dec2f4deae", func := "hornbook/hornlaw.ArithHolds", spec := "arithHolds", unfollowed := true, recurses := true, loops := true, plainKeys := false, apart := false }
def ArithHoldsSaid : Prop := arithHoldsRow.holds Try.pinned (OpenSpec.ofChange arithHoldsSpec)

/-- ITS FALSE NEIGHBOUR: 'it returns false'. Refute it at one input. -/
def arithHoldsWrong : ChangeSpec := { name := "arithHolds", fn := fun _ => fun
  | [d1, d2, d3] => { results := [.lit (.bool false)], args := [d1, d2, d3] }
  | _ => none }
def ArithHoldsWrongFalsely : Prop := arithHoldsRow.holds Try.pinned (OpenSpec.ofChange arithHoldsWrong)

/-- 'hornkeep.ArithFolds': WHATEVER THE INPUT: true; the input reads as it did. -/
def arithFoldsSpec : ChangeSpec := { name := "arithFolds", fn := fun _ => fun
  | [d1, d2] => { results := [.lit (.bool true)], args := [d1, d2] }
  | _ => none }
def arithFoldsRow : OpenClaim := { program := "ytffbhinpmlcopab", sum := "59bdc38f1d348bec0639793cc6ba3d25cde91d97238b4b1e4a4af1dec2f4deae", func := "hornbook/hornkeep.ArithFolds", spec := "arithFolds", unfollowed := true, recurses := true, loops := true, plainKeys := false, apart := false }
def ArithFoldsSaid : Prop := arithFoldsRow.holds Try.pinned (OpenSpec.ofChange arithFoldsSpec)

/-- ITS FALSE NEIGHBOUR: 'it returns false'. Refute it at one input. -/
def arithFoldsWrong : ChangeSpec := { name := "arithFolds", fn := fun _ => fun
  | [d1, d2] => { results := [.lit (.bool false)], args := [d1, d2] }
  | _ => none }
def ArithFoldsWrongFalsely : Prop := arithFoldsRow.holds Try.pinned (OpenSpec.ofChange arithFoldsWrong)

/-- 'hornkeep.BaseView': WHATEVER THE INPUT: true; the input reads as it did. -/
def baseViewSpec : ChangeSpec := { name := "baseView", fn := fun _ => fun
  | [d1, d2, d3, d4] => { results := [.lit (.bool true)], args := [d1, d2, d3, d4] }
  | _ => none }
def baseViewRow : OpenClaim := { program := "ytffbhinpmlcopab", sum := "59bdc38f1d348bec0639793cc6ba3d25cde91d97238b4b1e4a4af1dec2f4deae", func := "hornbook/hornkeep.BaseView", spec := "baseView", unfollowed := true, recurses := true, loops := true, plainKeys := false, apart := false }
def BaseViewSaid : Prop := baseViewRow.holds Try.pinned (OpenSpec.ofChange baseViewSpec)

/-- ITS FALSE NEIGHBOUR: 'it returns false'. Refute it at one input. -/
def baseViewWrong : ChangeSpec := { name := "baseView", fn := fun _ => fun
  | [d1, d2, d3, d4] => { results := [.lit (.bool false)], args := [d1, d2, d3, d4] }
  | _ => none }
def BaseViewWrongFalsely : Prop := baseViewRow.holds Try.pinned (OpenSpec.ofChange baseViewWrong)

/-- 'hornkeep.BaseBack': WHATEVER THE INPUT: true; the input reads as it did. -/
def baseBackSpec : ChangeSpec := { name := "baseBack", fn := fun _ => fun
  | [d] => { results := [.lit (.bool true)], args := [d] }
  | _ => none }
def baseBackRow : OpenClaim := { program := "ytffbhinpmlcopab", sum := "59bdc38f1d348bec0639793cc6ba3d25cde91d97238b4b1e4a4af1dec2f4deae", func := "hornbook/hornkeep.BaseBack", spec := "baseBack", unfollowed := true, recurses := true, loops := true, plainKeys := false, apart := false }
def BaseBackSaid : Prop := baseBackRow.holds Try.pinned (OpenSpec.ofChange baseBackSpec)

/-- ITS FALSE NEIGHBOUR: 'it returns false'. Refute it at one input. -/
def baseBackWrong : ChangeSpec := { name := "baseBack", fn := fun _ => fun
  | [d] => { results := [.lit (.bool false)], args := [d] }
  | _ => none }
def BaseBackWrongFalsely : Prop := baseBackRow.holds Try.pinned (OpenSpec.ofChange baseBackWrong)

/- THE SECOND FORM. 'bulk': how many values and letters a reading holds, each counted each time it is reached (what is shared counts as often as it is met; a slice's spare places count too). A statement '..UptoSaid' is the law's where the arguments, and the package variables that the reading takes, are together of bulk at most 1048576: NARROWER than '..Said'. Prove '..Said' where nothing that the law and all that it calls make is longer than what came in: it says more and counts as full. Else prove '..UptoSaid'. A law counts once. -/
mutual
def uptoBulk {H : Type} : DataW H → Nat
  | .lit (.string bytes) => bytes.length + 1
  | .lit _ => 1
  | .nil => 1
  | .ptr d => uptoBulk d + 1
  | .slice elems spare => uptoBulkAll elems + uptoBulkAll spare + 1
  | .agg parts => uptoBulkAll parts + 1
  | .iface _ d => uptoBulk d + 1
  | .map entries => uptoBulkEntries entries + 1
  | .held _ => 1
def uptoBulkAll {H : Type} : List (DataW H) → Nat
  | [] => 0
  | d :: r => uptoBulk d + uptoBulkAll r
def uptoBulkEntries {H : Type} : List (Lit × DataW H) → Nat
  | [] => 0
  | x :: r => uptoBulkEntry x + uptoBulkEntries r
def uptoBulkEntry {H : Type} : Lit × DataW H → Nat
  | (.string bytes, d) => bytes.length + uptoBulk d + 1
  | (_, d) => uptoBulk d + 1
 end
def uptoSmall : (H : Type) → List (DataW H) → Bool := fun _ ds => decide (uptoBulkAll ds ≤ 1048576)
def OpenSpec.upto (s : _root_.Go.ChangeSpec) : _root_.Go.OpenSpec := { _root_.Go.OpenSpec.ofChange s with cond := some uptoSmall }

/-- 'hornlaw.ArithSays', WHERE WHAT IT READS IS OF BULK AT MOST 1048576: true; the input reads as it did. -/
def arithSaysUptoRow : OpenClaim := { program := "ytffbhinpmlcopab", sum := "59bdc38f1d348bec0639793cc6ba3d25cde91d97238b4b1e4a4af1dec2f4deae", func := "hornbook/hornlaw.ArithSays", spec := "arithSays", unfollowed := true, recurses := true, loops := true, plainKeys := false, apart := false, narrowed := true }
def ArithSaysUptoSaid : Prop := arithSaysUptoRow.holds Try.pinned (OpenSpec.upto arithSaysSpec)

/-- 'hornlaw.ArithHolds', WHERE WHAT IT READS IS OF BULK AT MOST 1048576: true; the input reads as it did. -/
def arithHoldsUptoRow : OpenClaim := { program := "ytffbhinpmlcopab", sum := "59bdc38f1d348bec0639793cc6ba3d25cde91d97238b4b1e4a4af1dec2f4deae", func := "hornbook/hornlaw.ArithHolds", spec := "arithHolds", unfollowed := true, recurses := true, loops := true, plainKeys := false, apart := false, narrowed := true }
def ArithHoldsUptoSaid : Prop := arithHoldsUptoRow.holds Try.pinned (OpenSpec.upto arithHoldsSpec)

/-- 'hornkeep.ArithFolds', WHERE WHAT IT READS IS OF BULK AT MOST 1048576: true; the input reads as it did. -/
def arithFoldsUptoRow : OpenClaim := { program := "ytffbhinpmlcopab", sum := "59bdc38f1d348bec0639793cc6ba3d25cde91d97238b4b1e4a4af1dec2f4deae", func := "hornbook/hornkeep.ArithFolds", spec := "arithFolds", unfollowed := true, recurses := true, loops := true, plainKeys := false, apart := false, narrowed := true }
def ArithFoldsUptoSaid : Prop := arithFoldsUptoRow.holds Try.pinned (OpenSpec.upto arithFoldsSpec)

/-- 'hornkeep.BaseView', WHERE WHAT IT READS IS OF BULK AT MOST 1048576: true; the input reads as it did. -/
def baseViewUptoRow : OpenClaim := { program := "ytffbhinpmlcopab", sum := "59bdc38f1d348bec0639793cc6ba3d25cde91d97238b4b1e4a4af1dec2f4deae", func := "hornbook/hornkeep.BaseView", spec := "baseView", unfollowed := true, recurses := true, loops := true, plainKeys := false, apart := false, narrowed := true }
def BaseViewUptoSaid : Prop := baseViewUptoRow.holds Try.pinned (OpenSpec.upto baseViewSpec)

/-- 'hornkeep.BaseBack', WHERE WHAT IT READS IS OF BULK AT MOST 1048576: true; the input reads as it did. -/
def baseBackUptoRow : OpenClaim := { program := "ytffbhinpmlcopab", sum := "59bdc38f1d348bec0639793cc6ba3d25cde91d97238b4b1e4a4af1dec2f4deae", func := "hornbook/hornkeep.BaseBack", spec := "baseBack", unfollowed := true, recurses := true, loops := true, plainKeys := false, apart := false, narrowed := true }
def BaseBackUptoSaid : Prop := baseBackUptoRow.holds Try.pinned (OpenSpec.upto baseBackSpec)

end Rows
end Go.Proofs.Ytffbhinpmlcopab
