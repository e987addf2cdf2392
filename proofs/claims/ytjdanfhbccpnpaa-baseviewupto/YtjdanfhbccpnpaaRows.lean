/-
  NARROWER THAN 'FOR EVERY INPUT', by the rows' own cells (each row's printed sentence says how): BaseView: loops · BaseBack: loops.
  DERIVED. THE GIVEN ROWS OF THIS SEAT. 2 by the template 'for every input the law returns true; each argument reads behind the call as it read before'; 0 by the template 'total and deterministic' (their statements: YtjdanfhbccpnpaaTotals.lean).
  GIVEN WITH THE SEED: the statements are not yours to turn. If you find one false, say at which input.
  Laid BY PROGRAM, IN A SANDBOX (cutbox-rows.mjs): the forced cells as the released guide's own fill.sh prints them over the translation fb4c4aab1f9503f3… (all of the seat's roots in one cut). By AI agents, Wed Nov 11 2026. No macro, syntax, notation, axiom, sorry.
-/
import Derived.Test.YtjdanfhbccpnpaaChecked
import GoSem.Claim
import GoSem.ClaimJoined
import GoSem.ClaimMapViews
import Derived.JoinedTies
import Derived.KernelRfl
namespace Go.Proofs.Ytjdanfhbccpnpaa
/- THE CELL 'sum', in the pinned program and in every row, IS THE sha256 OF THE DUMP (.gsa) THAT YtjdanfhbccpnpaaProg.lean LOADS. Nothing in Lean hashes anything: it is a label: what it is worth is what the hold of that sum in a sandbox is worth. -/
noncomputable def Try.pinned : Pinned := { name := "ytjdanfhbccpnpaa", sum := "fb4c4aab1f9503f363a9d1c21b4f56ba7c759c5b70be92a3c1e74f2b53a906e5", checked := Try.checked }
namespace Rows
def none {H : Type} : Left H := { results := [], args := [] }

/-- 'hornkeep.BaseView': WHATEVER THE INPUT: true; the input reads as it did. -/
def baseViewSpec : ChangeSpec := { name := "baseView", fn := fun _ => fun
  | [d1, d2, d3, d4] => { results := [.lit (.bool true)], args := [d1, d2, d3, d4] }
  | _ => none }
def baseViewRow : OpenClaim := { program := "ytjdanfhbccpnpaa", sum := "fb4c4aab1f9503f363a9d1c21b4f56ba7c759c5b70be92a3c1e74f2b53a906e5", func := "hornbook/hornkeep.BaseView", spec := "baseView", unfollowed := true, recurses := true, loops := true, plainKeys := false, apart := false }
def BaseViewSaid : Prop := baseViewRow.holds Try.pinned (OpenSpec.ofChange baseViewSpec)

/-- ITS FALSE NEIGHBOUR: 'it returns false'. Refute it at one input. -/
def baseViewWrong : ChangeSpec := { name := "baseView", fn := fun _ => fun
  | [d1, d2, d3, d4] => { results := [.lit (.bool false)], args := [d1, d2, d3, d4] }
  | _ => none }
def BaseViewWrongFalsely : Prop := baseViewRow.holds Try.pinned (OpenSpec.ofChange baseViewWrong)

/-- 'hornkeep.BaseBack': WHATEVER THE INPUT: true; the input reads as it did. -/
def baseBackSpec : ChangeSpec := { name := "baseBack", fn := fun _ => fun
  | [d] => { results := [.lit (.bool true)], args := [d] }
  | _ => none }
def baseBackRow : OpenClaim := { program := "ytjdanfhbccpnpaa", sum := "fb4c4aab1f9503f363a9d1c21b4f56ba7c759c5b70be92a3c1e74f2b53a906e5", func := "hornbook/hornkeep.BaseBack", spec := "baseBack", unfollowed := true, recurses := true, loops := true, plainKeys := false, apart := false }
def BaseBackSaid : Prop := baseBackRow.holds Try.pinned (OpenSpec.ofChange baseBackSpec)

/-- ITS FALSE NEIGHBOUR: 'it returns false'. Refute it at one input. -/
def baseBackWrong : ChangeSpec := { name := "baseBack", fn := fun _ => fun
  | [d] => { results := [.lit (.bool false)], args := [d] }
  | _ => none }
def BaseBackWrongFalsely : Prop := baseBackRow.holds Try.pinned (OpenSpec.ofChange baseBackWrong)

/- THE SECOND FORM. 'bulk': how many values and letters a reading holds, each counted each time it is reached (what is shared counts as often as it is met; a slice's spare places count too). A statement '..UptoSaid' is the law's where the arguments, and the package variables that the reading takes, are together of bulk at most 1048576: NARROWER than '..Said'. Prove '..Said' where nothing that the law and all that it calls make is longer than what came in: it says more and counts as full. Else prove '..UptoSaid'. A law counts once. -/
mutual
def uptoBulk {H : Type} : DataW H → Nat
  | .lit (.string bytes) => bytes.length + 1
  | .lit _ => 1
  | .nil => 1
  | .ptr d => uptoBulk d + 1
  | .slice elems spare => uptoBulkAll elems + uptoBulkAll spare + 1
  | .agg parts => uptoBulkAll parts + 1
  | .iface _ d => uptoBulk d + 1
  | .map entries => uptoBulkEntries entries + 1
  | .held _ => 1
def uptoBulkAll {H : Type} : List (DataW H) → Nat
  | [] => 0
  | d :: r => uptoBulk d + uptoBulkAll r
def uptoBulkEntries {H : Type} : List (Lit × DataW H) → Nat
  | [] => 0
  | x :: r => uptoBulkEntry x + uptoBulkEntries r
def uptoBulkEntry {H : Type} : Lit × DataW H → Nat
  | (.string bytes, d) => bytes.length + uptoBulk d + 1
  | (_, d) => uptoBulk d + 1
 end
def uptoSmall : (H : Type) → List (DataW H) → Bool := fun _ ds => decide (uptoBulkAll ds ≤ 1048576)
def OpenSpec.upto (s : _root_.Go.ChangeSpec) : _root_.Go.OpenSpec := { _root_.Go.OpenSpec.ofChange s with cond := some uptoSmall }

/-- 'hornkeep.BaseView', WHERE WHAT IT READS IS OF BULK AT MOST 1048576: true; the input reads as it did. -/
def baseViewUptoRow : OpenClaim := { program := "ytjdanfhbccpnpaa", sum := "fb4c4aab1f9503f363a9d1c21b4f56ba7c759c5b70be92a3c1e74f2b53a906e5", func := "hornbook/hornkeep.BaseView", spec := "baseView", unfollowed := true, recurses := true, loops := true, plainKeys := false, apart := false, narrowed := true }
def BaseViewUptoSaid : Prop := baseViewUptoRow.holds Try.pinned (OpenSpec.upto baseViewSpec)

/-- 'hornkeep.BaseBack', WHERE WHAT IT READS IS OF BULK AT MOST 1048576: true; the input reads as it did. -/
def baseBackUptoRow : OpenClaim := { program := "ytjdanfhbccpnpaa", sum := "fb4c4aab1f9503f363a9d1c21b4f56ba7c759c5b70be92a3c1e74f2b53a906e5", func := "hornbook/hornkeep.BaseBack", spec := "baseBack", unfollowed := true, recurses := true, loops := true, plainKeys := false, apart := false, narrowed := true }
def BaseBackUptoSaid : Prop := baseBackUptoRow.holds Try.pinned (OpenSpec.upto baseBackSpec)

end Rows
end Go.Proofs.Ytjdanfhbccpnpaa
