import Derived.Test.YtffbhinpmlcopabO
import Derived.Test.YtffbhinpmlcopabArF
/- Opening an argument that is a term, with its numbers' width, for arguments whose bulk is bounded. -/
namespace Go.Proofs.Ytffbhinpmlcopab
open Go.RowKit Go.Joins Go.WideShapes

set_option maxRecDepth 100000 in
theorem open_argn {H : Type} {enc : TypeId × Value → H} {w : World} {r : Reach} {b0 : Nat} {spare : Nat → Bool} {held : Bool} {v : Value} {d : DataW H} {p : List MemPlace} (hv : Value.okWide Try.prog w r b0 24 v) (h : DataW.Trod enc Try.prog w 0 spare held 24 v d p) :
    ∀ m, Rows.uptoBulk d ≤ m → m ≤ 2199023255552 → ∃ t : Tm m, v = t.tv.val ∧ IsT w.heap.size w t ∧ (code t).length ≤ Rows.uptoBulk d ∧ numsT t := fun m hm hl => by
  obtain ⟨t, e, hT, hc, hn⟩ := open_arg_nums hv h m hm hl
  exact ⟨t, e, hT, hc, fun x hx => hn x hx⟩
end Go.Proofs.Ytffbhinpmlcopab

