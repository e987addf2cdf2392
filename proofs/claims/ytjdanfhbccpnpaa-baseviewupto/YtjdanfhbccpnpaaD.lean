import Derived.Test.YtjdanfhbccpnpaaC
import Derived.Outline
namespace Go.Proofs.Ytjdanfhbccpnpaa
open Go.RowKit Go.Shelf

theorem okT_succ {n : Nat} (x : TV) (kids : List (Tm n)) : okT (n := n + 1) (x, kids) = (x.ok && kids.all okT) := by
  show (x :: kids.flatMap parts).all TV.ok = _
  rw [List.all_cons, List.all_flatMap]; rfl

theorem take_all {n : Nat} (kids : List (Tm n)) (j : Nat) (u : Tm n) (h : kids[j]? = some u) : (kids.take (j + 1)).all okT = ((kids.take j).all okT && okT u) := by
  obtain ⟨hj, rfl⟩ := List.getElem?_eq_some_iff.1 h
  rw [List.take_succ_eq_append_getElem hj, List.all_append, List.all_cons, List.all_nil, Bool.and_true]
theorem take_all_false {n : Nat} (kids : List (Tm n)) (j : Nat) (h : (kids.take j).all okT = false) : kids.all okT = false := by
  rw [← List.take_append_drop j kids, List.all_append, h, Bool.false_and]

end Go.Proofs.Ytjdanfhbccpnpaa

