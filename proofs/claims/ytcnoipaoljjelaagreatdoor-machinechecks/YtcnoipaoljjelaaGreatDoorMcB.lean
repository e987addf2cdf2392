import Derived.Test.YtcnoipaoljjelaaGreatDoorMcA
/- Which builtins are allowed: inbuilt.Find gives a function just for those; machine.Allowed. -/
namespace Go.Proofs.YtcnoipaoljjelaaGreatDoor
open Go.RowKit Go.Shelf Go.Maps

def byt (s : String) : List UInt8 := s.toUTF8.toList
/-- A function value that is there, or none. -/
def FnV (v : Value) (b : Bool) : Prop := (b = true ∧ ∃ g bs lb, v = .func (.func g) bs lb) ∨ (b = false ∧ v = .nilFunc)
theorem FnV.yes {g : FuncId} {bs lb} {b : Bool} (h : b = true) : FnV (.func (.func g) bs lb) b := .inl ⟨h, g, bs, lb, rfl⟩
theorem FnV.no {b : Bool} (h : b = false) : FnV .nilFunc b := .inr ⟨h, rfl⟩
def all0 (l : List UInt8) : Bool := l == [110, 108]
def kindB (l : List UInt8) : Bool := (l == [118, 97, 114]) || ((l == [110, 111, 110, 118, 97, 114]) || ((l == [97, 116, 111, 109]) || ((l == [105, 110, 116, 101, 103, 101, 114]) || ((l == [97, 116, 111, 109, 105, 99]) || ((l == [99, 111, 109, 112, 111, 117, 110, 100]) || (l == [99, 97, 108, 108, 97, 98, 108, 101]))))))
def all1 (l : List UInt8) : Bool := (l == [112, 114, 105, 110, 116]) || ((l == [116, 104, 114, 111, 119]) || ((l == [103, 114, 111, 117, 110, 100]) || kindB l))
def all2 (l : List UInt8) : Bool := (l == [61]) || ((l == [92, 61]) || ((l == [61, 61]) || ((l == [92, 61, 61]) || ((l == [64, 60]) || ((l == [64, 62]) || ((l == [64, 61, 60]) || ((l == [64, 62, 61]) || ((l == [105, 115]) || ((l == [61, 58, 61]) || ((l == [61, 92, 61]) || ((l == [60]) || ((l == [62]) || ((l == [61, 60]) || ((l == [62, 61]) || ((l == [61, 46, 46]) || ((l == [99, 111, 112, 121, 95, 116, 101, 114, 109]) || ((l == [97, 116, 111, 109, 95, 108, 101, 110, 103, 116, 104]) || ((l == [97, 116, 111, 109, 95, 99, 104, 97, 114, 115]) || ((l == [108, 101, 110, 103, 116, 104]) || (l == [115, 111, 114, 116]))))))))))))))))))))
def all3 (l : List UInt8) : Bool := (l == [99, 111, 109, 112, 97, 114, 101]) || ((l == [102, 117, 110, 99, 116, 111, 114]) || (l == [97, 114, 103]))
def allB (l : List UInt8) (n : Int) : Bool := if n = 0 then all0 l else if n = 1 then all1 l else if n = 2 then all2 l else if n = 3 then all3 l else false

set_option maxRecDepth 100000 in
set_option maxHeartbeats 1000000 in
theorem none_any (s : ByteArray) (w : World) :
    Calls Tryz.prog 19 #[.string s] w fun e w' => ∃ v, e = .returned v ∧ FnV v (all0 s.toList) ∧ Below w.heap.size w w' := by
  go_enter Tryz.func19, Tryz.ntmps19
  go_wp2
  all_goals go_ret
  all_goals refine ⟨_, rfl, ?_, Below.refl _ _⟩
  all_goals first | exact .yes (by simp_all [all0]) | exact .no (by simp_all [all0])
set_option maxRecDepth 100000 in
set_option maxHeartbeats 1000000 in
theorem three_any (s : ByteArray) (w : World) :
    Calls Tryz.prog 22 #[.string s] w fun e w' => ∃ v, e = .returned v ∧ FnV v (all3 s.toList) ∧ Below w.heap.size w w' := by
  go_enter Tryz.func22, Tryz.ntmps22
  go_wp2
  all_goals go_ret
  all_goals refine ⟨_, rfl, ?_, Below.refl _ _⟩
  all_goals first | exact .yes (by simp_all [all3]) | exact .no (by simp_all [all3])
set_option maxRecDepth 100000 in
set_option maxHeartbeats 1000000 in
theorem kind_any (s : ByteArray) (w : World) :
    Calls Tryz.prog 32 #[.string s] w fun e w' => ∃ v, e = .returned v ∧ FnV v (kindB s.toList) ∧ Below w.heap.size w w' := by
  go_enter Tryz.func32, Tryz.ntmps32
  go_wp2
  all_goals go_ret
  all_goals refine ⟨_, rfl, ?_, Below.refl _ _⟩
  all_goals first | exact .yes (by simp_all [kindB]) | exact .no (by simp_all [kindB])
set_option maxRecDepth 100000 in
set_option maxHeartbeats 1000000 in
theorem asks_any (g : FuncId) (bs lb) (w : World) :
    Calls Tryz.prog 30 #[.func (.func g) bs lb] w fun e w' => ∃ v, e = .returned v ∧ FnV v true ∧ Below w.heap.size w w' := by
  go_enter Tryz.func30, Tryz.ntmps30
  go_wp2
  all_goals go_ret
  all_goals exact ⟨_, rfl, .yes rfl, (Below.refl _ w).alloc (Nat.le_refl _) _⟩
set_option maxRecDepth 100000 in
set_option maxHeartbeats 1000000 in
theorem asksTwo_any (g : FuncId) (bs lb) (w : World) :
    Calls Tryz.prog 35 #[.func (.func g) bs lb] w fun e w' => ∃ v, e = .returned v ∧ FnV v true ∧ Below w.heap.size w w' := by
  go_enter Tryz.func35, Tryz.ntmps35
  go_wp2
  all_goals go_ret
  all_goals exact ⟨_, rfl, .yes rfl, (Below.refl _ w).alloc (Nat.le_refl _) _⟩
set_option maxRecDepth 100000 in
set_option maxHeartbeats 1000000 in
theorem ordered_any (g : FuncId) (bs lb) (w : World) :
    Calls Tryz.prog 38 #[.func (.func g) bs lb] w fun e w' => ∃ v, e = .returned v ∧ FnV v true ∧ Below w.heap.size w w' := by
  go_enter Tryz.func38, Tryz.ntmps38
  go_wp2
  all_goals go_ret
  all_goals exact ⟨_, rfl, .yes rfl, (Below.refl _ w).alloc (Nat.le_refl _) _⟩
set_option maxRecDepth 100000 in
set_option maxHeartbeats 1000000 in
theorem related_any (s : ByteArray) (w : World) :
    Calls Tryz.prog 44 #[.string s] w fun e w' => ∃ v, e = .returned v ∧ FnV v true ∧ Below w.heap.size w w' := by
  go_enter Tryz.func44, Tryz.ntmps44
  go_wp2
  all_goals go_ret
  all_goals exact ⟨_, rfl, .yes rfl, (Below.refl _ w).alloc (Nat.le_refl _) _⟩
end Go.Proofs.YtcnoipaoljjelaaGreatDoor

