import Derived.Test.YtjdanfhbccpnpaaBbG
/- term.Copy, as base calls it. -/
namespace Go.Proofs.Ytjdanfhbccpnpaa
open Go.RowKit Go.Shelf

/-- A copy, whatever the term: in new memory. -/
theorem copyOf_any {n : Nat} (t : Tm n) (W : World) (hT : IsT W.heap.size W t) (hok : okT t = true) : Calls Try.prog 45 #[t.tv.val] W fun e W' => ∃ x : TV, e = .returned x.val ∧ Below W.heap.size W W' ∧ HoldsS (n + 1) (W.heap.size ≤ ·) W' x.val (code t) :=
  (copy_any t W hT hok).mono fun e W' h => by
    obtain ⟨x, h1, h2, h3⟩ := h
    exact ⟨x, h1, h2, h3.holdsS⟩
end Go.Proofs.Ytjdanfhbccpnpaa

