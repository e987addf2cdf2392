import Derived.Test.YtffbhinpmlcopabArSd
import Derived.Test.YtffbhinpmlcopabArSe
import Derived.Test.YtffbhinpmlcopabArSf
/- hornref's evaluable: whole. -/
namespace Go.Proofs.Ytffbhinpmlcopab
open Go.RowKit Go.Shelf

theorem revaluable_any (s : ByteArray) (n : Nat) (w : World) :
    Calls Try.prog 34 #[.string s, .int .i64 (n : Int)] w fun e w' => e = .returned (.bool (opOf s.toList n).isSome) ∧ w' = w := by
  by_cases h1 : n = 1
  · subst h1
    have h := rev1_any s w
    have e : (opOf s.toList 1).isSome = (oneOp s.toList).isSome := by show ((oneOp s.toList).map lone).isSome = _; cases oneOp s.toList <;> rfl
    rw [e]
    exact h
  by_cases h2 : n = 2
  · subst h2
    have h := rev2_any s w
    rw [show opOf s.toList 2 = twoOp s.toList by unfold opOf; rw [if_neg (by decide), if_pos rfl]]
    exact h
  · have hv : opOf s.toList n = none := by unfold opOf; rw [if_neg h1, if_neg h2]
    rw [hv]
    exact rev_other s (n : Int) (by simp; omega) (by simp; omega) w
end Go.Proofs.Ytffbhinpmlcopab

