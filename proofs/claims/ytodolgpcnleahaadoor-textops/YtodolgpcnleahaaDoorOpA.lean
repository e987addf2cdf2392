import Derived.WalkKit
import Derived.WalkLawsBesides
import Derived.WalkSpells
import Derived.Below
import Derived.Shelf.Abstract
import Derived.Shelf.RegionOpen
import Derived.Test.YtodolgpcnleahaaDoorProg
/- Operators: an operator's cells (OV); the contracts of text.mayBeOperator and text.prioritiesOf. -/
namespace Go.Proofs.YtodolgpcnleahaaDoor
open Go.RowKit Go.Shelf

theorem hd {p : Prop} (h : p) : Hid p := h
theorem uh {p : Prop} (h : Hid p) : p := h
/-- An operator's three cells. -/
structure OV where
  name : ByteArray
  prio : Int
  type : Int
def OV.val (x : OV) : Value := .agg #[.string x.name, .int .i64 x.prio, .int .i64 x.type]

def mayB (s : ByteArray) : Bool := decide (¬ s.toList = [44] ∧ ¬ s.toList = [124] ∧ ¬ s.toList = [91, 93] ∧ ¬ s.toList = [123, 125] ∧ (s.size : Int) ≤ 100)
set_option maxHeartbeats 1000000 in
theorem may_any (s : ByteArray) (w : World) :
    Calls Tryd.prog 18 #[.string s] w fun e w' => e = .returned (.bool (mayB s)) ∧ w' = w := by
  go_enter Tryd.func18, Tryd.ntmps18
  go_wp2
  all_goals go_ret
  all_goals refine ⟨?_, rfl⟩
  all_goals simp_all [mayB]

/-- An operator's priorities: its own, and the highest ones to its left and right. -/
structure PV where
  own : Int
  left : Int
  right : Int
def PV.val (x : PV) : Value := .agg #[.int .i64 x.own, .int .i64 x.left, .int .i64 x.right]
def prioOf (k p : Int) : PV := ⟨p, if k = 3 then p else p - 1, if k = 2 ∨ k = 4 then p else p - 1⟩
set_option maxHeartbeats 1000000 in
theorem prio_any (k p : Int) (w : World) (h0 : 1 ≤ p) (h1 : p ≤ 1200) :
    Calls Tryd.prog 19 #[.int .i64 k, .int .i64 p] w fun e w' => e = .returned (prioOf k p).val ∧ Below w.heap.size w w' := by
  go_enter Tryd.func19, Tryd.ntmps19
  go_wp2
  all_goals refine bodyPost_ret (v := (prioOf k p).val) ?_ rfl ⟨rfl, ((Below.refl _ w).alloc (Nat.le_refl _) _).alloc (by simp) _⟩
  all_goals simp_all [results, Tryd.results19, go_sem, prioOf, PV.val]
end Go.Proofs.YtodolgpcnleahaaDoor

