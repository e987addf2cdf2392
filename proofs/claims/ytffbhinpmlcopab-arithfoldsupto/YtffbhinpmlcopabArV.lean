import Derived.Test.YtffbhinpmlcopabArH
import Derived.Test.YtffbhinpmlcopabG
/- arith.relation, and what Holds answers. -/
namespace Go.Proofs.Ytffbhinpmlcopab
open Go.RowKit Go.Shelf

/-- The relation of a name. -/
def relOf (s : List UInt8) : Option (Int → Int → Bool) :=
  if s == [61, 58, 61] then some (fun a b => a == b)
  else if s == [61, 92, 61] then some (fun a b => a != b)
  else if s == [60] then some (fun a b => decide (a < b))
  else if s == [62] then some (fun a b => decide (b < a))
  else if s == [61, 60] then some (fun a b => decide (a ≤ b))
  else if s == [62, 61] then some (fun a b => decide (b ≤ a))
  else none
def Tells (v : Value) : Option (Int → Int → Bool) → Prop
  | none => v = .nilFunc
  | some g => ∃ n, v = .func (.func n) #[] #[] ∧ (∀ args w, (callFunc n args).run Try.prog w = .ok (.enter n args) w) ∧
      ∀ a b W, Calls Try.prog n #[.int .i64 a, .int .i64 b] W fun e W' => e = .returned (.bool (g a b)) ∧ W' = W
set_option maxHeartbeats 400000 in
theorem rel1_any (a b : Int) (W : World) : Calls Try.prog 71 #[.int .i64 a, .int .i64 b] W fun e W' => e = .returned (.bool (a == b)) ∧ W' = W := by
  go_enter Try.func71, Try.ntmps71
  go_wp2
  all_goals go_ret
  all_goals exact ⟨rfl, rfl⟩
set_option maxHeartbeats 400000 in
theorem rel2_any (a b : Int) (W : World) : Calls Try.prog 72 #[.int .i64 a, .int .i64 b] W fun e W' => e = .returned (.bool (a != b)) ∧ W' = W := by
  go_enter Try.func72, Try.ntmps72
  go_wp2
  all_goals go_ret
  all_goals exact ⟨rfl, rfl⟩
set_option maxHeartbeats 400000 in
theorem rel3_any (a b : Int) (W : World) : Calls Try.prog 73 #[.int .i64 a, .int .i64 b] W fun e W' => e = .returned (.bool (decide (a < b))) ∧ W' = W := by
  go_enter Try.func73, Try.ntmps73
  go_wp2
  all_goals go_ret
  all_goals exact ⟨rfl, rfl⟩
set_option maxHeartbeats 400000 in
theorem rel4_any (a b : Int) (W : World) : Calls Try.prog 74 #[.int .i64 a, .int .i64 b] W fun e W' => e = .returned (.bool (decide (b < a))) ∧ W' = W := by
  go_enter Try.func74, Try.ntmps74
  go_wp2
  all_goals go_ret
  all_goals exact ⟨rfl, rfl⟩
set_option maxHeartbeats 400000 in
theorem rel5_any (a b : Int) (W : World) : Calls Try.prog 75 #[.int .i64 a, .int .i64 b] W fun e W' => e = .returned (.bool (decide (a ≤ b))) ∧ W' = W := by
  go_enter Try.func75, Try.ntmps75
  go_wp2
  all_goals go_ret
  all_goals exact ⟨rfl, rfl⟩
set_option maxHeartbeats 400000 in
theorem rel6_any (a b : Int) (W : World) : Calls Try.prog 76 #[.int .i64 a, .int .i64 b] W fun e W' => e = .returned (.bool (decide (b ≤ a))) ∧ W' = W := by
  go_enter Try.func76, Try.ntmps76
  go_wp2
  all_goals go_ret
  all_goals exact ⟨rfl, rfl⟩
set_option maxRecDepth 100000 in
set_option maxHeartbeats 4000000 in
theorem relation_any (s : ByteArray) (w : World) : Calls Try.prog 38 #[.string s] w fun e w' => ∃ v, e = .returned v ∧ w' = w ∧ Tells v (relOf s.toList) := by
  go_enter Try.func38, Try.ntmps38
  go_wp2
  all_goals go_ret
  all_goals refine ⟨_, rfl, rfl, ?_⟩
  all_goals simp only [relOf, *, if_true, Bool.false_eq_true, if_false, Tells]
  all_goals (first
    | rfl
    | exact ⟨_, rfl, enters_of Try.func71 (by kernel_rfl) rfl, rel1_any⟩
    | exact ⟨_, rfl, enters_of Try.func72 (by kernel_rfl) rfl, rel2_any⟩
    | exact ⟨_, rfl, enters_of Try.func73 (by kernel_rfl) rfl, rel3_any⟩
    | exact ⟨_, rfl, enters_of Try.func74 (by kernel_rfl) rfl, rel4_any⟩
    | exact ⟨_, rfl, enters_of Try.func75 (by kernel_rfl) rfl, rel5_any⟩
    | exact ⟨_, rfl, enters_of Try.func76 (by kernel_rfl) rfl, rel6_any⟩)
theorem stand_nil (g : Nat) (w : World) : (binOp .eql 69 (.func (.func g) #[] #[]) .nilFunc).run Try.prog w = .ok (.bool false) w := by
  kernel_rfl
theorem nil_stand (w : World) : (binOp .eql 69 .nilFunc .nilFunc).run Try.prog w = .ok (.bool true) w := by
  kernel_rfl

/-- What a relation says of two numbers, or the ball. -/
def relR (g : Int → Int → Bool) : Except (List Nd) Int → Except (List Nd) Int → Except (List Nd) Bool
  | .error c, _ => .error c
  | .ok _, .error c => .error c
  | .ok m, .ok n => .ok (g m n)
/-- What Holds answers. -/
def HSays (lo : Nat) (r : Except (List Nd) Bool) (e : Ending) (W' : World) : Prop :=
  match r with
  | .ok b => e = .returned (.tuple #[.bool b, noTerm.val, .int .i64 0])
  | .error c => ∃ x : TV, e = .returned (.tuple #[.bool false, x.val, .int .i64 14]) ∧ HoldsT 3 lo W' x.val c

end Go.Proofs.Ytffbhinpmlcopab

