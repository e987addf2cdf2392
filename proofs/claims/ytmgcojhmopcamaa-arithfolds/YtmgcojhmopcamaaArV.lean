import Derived.Test.YtmgcojhmopcamaaArH
import Derived.Test.YtmgcojhmopcamaaG
/- arith.relation, and what Holds answers. -/
namespace Go.Proofs.Ytmgcojhmopcamaa
open Go.RowKit Go.Shelf

/-- The relation of a name. -/
def relOf (s : List UInt8) : Option (Int → Int → Bool) :=
  if s == [61, 58, 61] then some (fun a b => a == b)
  else if s == [61, 92, 61] then some (fun a b => a != b)
  else if s == [60] then some (fun a b => decide (a < b))
  else if s == [62] then some (fun a b => decide (b < a))
  else if s == [61, 60] then some (fun a b => decide (a ≤ b))
  else if s == [62, 61] then some (fun a b => decide (b ≤ a))
  else none
def Tells (v : Value) : Option (Int → Int → Bool) → Prop
  | none => v = .nilFunc
  | some g => ∃ n, v = .func (.func n) #[] #[] ∧ (∀ args w, (callFunc n args).run Try.prog w = .ok (.enter n args) w) ∧
      ∀ a b W, Calls Try.prog n #[.int .i64 a, .int .i64 b] W fun e W' => e = .returned (.bool (g a b)) ∧ W' = W
set_option maxHeartbeats 400000 in
theorem rel1_any (a b : Int) (W : World) : Calls Try.prog 43 #[.int .i64 a, .int .i64 b] W fun e W' => e = .returned (.bool (a == b)) ∧ W' = W := by
  go_enter Try.func43, Try.ntmps43
  go_wp2
  all_goals go_ret
  all_goals exact ⟨rfl, rfl⟩
set_option maxHeartbeats 400000 in
theorem rel2_any (a b : Int) (W : World) : Calls Try.prog 44 #[.int .i64 a, .int .i64 b] W fun e W' => e = .returned (.bool (a != b)) ∧ W' = W := by
  go_enter Try.func44, Try.ntmps44
  go_wp2
  all_goals go_ret
  all_goals exact ⟨rfl, rfl⟩
set_option maxHeartbeats 400000 in
theorem rel3_any (a b : Int) (W : World) : Calls Try.prog 45 #[.int .i64 a, .int .i64 b] W fun e W' => e = .returned (.bool (decide (a < b))) ∧ W' = W := by
  go_enter Try.func45, Try.ntmps45
  go_wp2
  all_goals go_ret
  all_goals exact ⟨rfl, rfl⟩
set_option maxHeartbeats 400000 in
theorem rel4_any (a b : Int) (W : World) : Calls Try.prog 46 #[.int .i64 a, .int .i64 b] W fun e W' => e = .returned (.bool (decide (b < a))) ∧ W' = W := by
  go_enter Try.func46, Try.ntmps46
  go_wp2
  all_goals go_ret
  all_goals exact ⟨rfl, rfl⟩
set_option maxHeartbeats 400000 in
theorem rel5_any (a b : Int) (W : World) : Calls Try.prog 47 #[.int .i64 a, .int .i64 b] W fun e W' => e = .returned (.bool (decide (a ≤ b))) ∧ W' = W := by
  go_enter Try.func47, Try.ntmps47
  go_wp2
  all_goals go_ret
  all_goals exact ⟨rfl, rfl⟩
set_option maxHeartbeats 400000 in
theorem rel6_any (a b : Int) (W : World) : Calls Try.prog 48 #[.int .i64 a, .int .i64 b] W fun e W' => e = .returned (.bool (decide (b ≤ a))) ∧ W' = W := by
  go_enter Try.func48, Try.ntmps48
  go_wp2
  all_goals go_ret
  all_goals exact ⟨rfl, rfl⟩
set_option maxHeartbeats 1000000 in
theorem relation_any (s : ByteArray) (w : World) : Calls Try.prog 27 #[.string s] w fun e w' => ∃ v, e = .returned v ∧ w' = w ∧ Tells v (relOf s.toList) := by
  go_enter Try.func27, Try.ntmps27
  go_wp2
  all_goals go_ret
  all_goals refine ⟨_, rfl, rfl, ?_⟩
  all_goals simp only [relOf, *, if_true, Bool.false_eq_true, if_false, Tells]
  all_goals (first
    | rfl
    | exact ⟨_, rfl, enters_of Try.func43 (by kernel_rfl) rfl, rel1_any⟩
    | exact ⟨_, rfl, enters_of Try.func44 (by kernel_rfl) rfl, rel2_any⟩
    | exact ⟨_, rfl, enters_of Try.func45 (by kernel_rfl) rfl, rel3_any⟩
    | exact ⟨_, rfl, enters_of Try.func46 (by kernel_rfl) rfl, rel4_any⟩
    | exact ⟨_, rfl, enters_of Try.func47 (by kernel_rfl) rfl, rel5_any⟩
    | exact ⟨_, rfl, enters_of Try.func48 (by kernel_rfl) rfl, rel6_any⟩)
theorem stand_nil (g : Nat) (w : World) : (binOp .eql 51 (.func (.func g) #[] #[]) .nilFunc).run Try.prog w = .ok (.bool false) w := by
  kernel_rfl
theorem nil_stand (w : World) : (binOp .eql 51 .nilFunc .nilFunc).run Try.prog w = .ok (.bool true) w := by
  kernel_rfl

/-- What a relation says of two numbers, or the ball. -/
def relR (g : Int → Int → Bool) : Except (List Nd) Int → Except (List Nd) Int → Except (List Nd) Bool
  | .error c, _ => .error c
  | .ok _, .error c => .error c
  | .ok m, .ok n => .ok (g m n)
/-- What Holds answers. -/
def HSays (lo : Nat) (r : Except (List Nd) Bool) (e : Ending) (W' : World) : Prop :=
  match r with
  | .ok b => e = .returned (.tuple #[.bool b, noTerm.val, .int .i64 0])
  | .error c => ∃ x : TV, e = .returned (.tuple #[.bool false, x.val, .int .i64 14]) ∧ HoldsT 3 lo W' x.val c

theorem set_cell4 {W : World} {B : Nat} {c0 c1 c2 c3 : Value} {t : TypeId} (h : W.heap[B]? = some (.cells #[c0, c1, c2, c3] t (0, 0))) (v : Value) :
    (W.setCell ⟨B, 0, none⟩ v).heap[B]? = some (.cells #[v, c1, c2, c3] t (0, 0)) ∧ (W.setCell ⟨B, 1, none⟩ v).heap[B]? = some (.cells #[c0, v, c2, c3] t (0, 0)) ∧
    (W.setCell ⟨B, 2, none⟩ v).heap[B]? = some (.cells #[c0, c1, v, c3] t (0, 0)) ∧ (W.setCell ⟨B, 3, none⟩ v).heap[B]? = some (.cells #[c0, c1, c2, v] t (0, 0)) := by
  obtain ⟨hlt, hk⟩ := Array.getElem?_eq_some_iff.1 h
  refine ⟨?_, ?_, ?_, ?_⟩
  all_goals
    show (W.heap.modify B _)[B]? = _
    rw [Array.getElem?_eq_getElem (by rw [Array.size_modify]; exact hlt), Array.getElem_modify_self, hk]
    rfl
theorem set4_box {W : World} {B : Nat} {c0 c1 c2 c3 : Value} (h : W.heap[B]? = some (.cells #[c0, c1, c2, c3] 24 (0, 0))) (x : TV) : BoxT (set4 W B 0 x) B x := by
  have h1 := (set_cell4 h (.int .i64 x.k)).1
  have h2 := (set_cell4 h1 (.int .i64 x.N)).2.1
  have h3 := (set_cell4 h2 (.string x.s)).2.2.1
  exact (set_cell4 h3 (.slice x.a x.len x.cap)).2.2.2
theorem box2_zero (W : World) (x y : TV) : ∃ W3, ((W.alloc (.cells #[.int .i64 x.k, .int .i64 x.N, .string x.s, .slice x.a x.len x.cap] 24)).alloc (.cells #[.int .i64 y.k, .int .i64 y.N, .string y.s, .slice y.a y.len y.cap] 24)).alloc (.cells #[.int .i64 0, .int .i64 0, .string ⟨#[]⟩, .slice none 0 0] 24) = W3 ∧
    Below W.heap.size W W3 ∧ W3.heap.size = W.heap.size + 3 ∧ BoxT W3 W.heap.size x ∧ BoxT W3 (W.heap.size + 1) y ∧ BoxT W3 (W.heap.size + 2) noTerm := by
  refine ⟨_, rfl, (((Below.refl _ W).alloc (Nat.le_refl _) _).alloc (by simp) _).alloc (by simp; omega) _, by simp, ((BoxT.new W x).alloc _).alloc _, ?_, ?_⟩
  · have h := (BoxT.new (W.alloc (.cells #[.int .i64 x.k, .int .i64 x.N, .string x.s, .slice x.a x.len x.cap] 24)) y).alloc (.cells #[.int .i64 0, .int .i64 0, .string ⟨#[]⟩, .slice none 0 0] 24)
    rw [World.size_alloc] at h
    exact h
  · have h := BoxT.new ((W.alloc (.cells #[.int .i64 x.k, .int .i64 x.N, .string x.s, .slice x.a x.len x.cap] 24)).alloc (.cells #[.int .i64 y.k, .int .i64 y.N, .string y.s, .slice y.a y.len y.cap] 24)) noTerm
    rw [World.size_alloc, World.size_alloc] at h
    exact h
theorem BoxT.frz {W : World} {B : Nat} {x : TV} (h : BoxT W B x) : W.frozen? ⟨B, 0, none⟩ = false ∧ W.frozen? ⟨B, 1, none⟩ = false ∧ W.frozen? ⟨B, 2, none⟩ = false ∧ W.frozen? ⟨B, 3, none⟩ = false := (zbox_kept h).2
theorem BoxT.below {A B : World} {n k : Nat} {x : TV} (h : BoxT A k x) (hb : Below n A B) (hk : k < n) : BoxT B k x := (hb.block k hk).trans h
theorem BoxT.set4 {W : World} {k b : Nat} {x : TV} (h : BoxT W k x) (hk : k ≠ b) (y : TV) : BoxT (set4 W b 0 y) k x := (set4_other W b 0 y hk).trans h
/-- Same, by codes. -/
theorem same_holds {D D' lo lo' : Nat} {W : World} {v v' : Value} {c c' : List Nd} (h : HoldsT D lo W v c) (h' : HoldsT D' lo' W v' c') :
    Calls Try.prog 10 #[v, v'] W fun e W' => e = .returned (.bool (decide (c = c'))) ∧ Below W.heap.size W W' := by
  obtain ⟨t, rfl, hT, -, hc⟩ := h (D + D') (by omega)
  obtain ⟨t', rfl, hT', -, hc'⟩ := h' (D + D') (by omega)
  have hs := same_any _ t t' W hT hT'
  rw [sameT_code hT.wl hT'.wl, hc, hc'] at hs
  exact hs
end Go.Proofs.Ytmgcojhmopcamaa

