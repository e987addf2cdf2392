import Derived.Test.YtcnoipaoljjelaaGreatDoorMcR
/- Code of the machine: constants, numbers, predicates: what machine's small functions answer. -/
namespace Go.Proofs.YtcnoipaoljjelaaGreatDoor
open Go.RowKit Go.Shelf Go.Maps

/-- A constant's three cells; an instruction's six; an entry's three. -/
structure KV where
  k : Int
  s : ByteArray
  n : Int
def KV.val (x : KV) : Value := .agg #[.int .i64 x.k, .string x.s, .int .i64 x.n]
structure IV where
  op : Int
  a : Int
  b : Int
  c : KV
def IV.val (x : IV) : Value := .agg #[.int .i64 x.op, .int .i64 x.a, .int .i64 x.b, .int .i64 x.c.k, .string x.c.s, .int .i64 x.c.n]
structure EV where
  s : ByteArray
  n : Int
  at' : Int
def EV.val (x : EV) : Value := .agg #[.string x.s, .int .i64 x.n, .int .i64 x.at']

def placeB (n p : Int) : Bool := decide (0 ≤ n) && decide (n < p)
def numB (w n p : Int) : Bool :=
  if w = 1 then decide (0 ≤ n) && decide (n < 50) else if w = 2 then decide (0 ≤ n) && decide (n < 200) else if w = 3 then placeB n p else if w = 4 then decide (1 ≤ n) && decide (n ≤ 50) else n == 0
def predB (x : KV) : Bool := (x.k == 4) && (decide ((x.s.size : Int) ≤ 100) && (decide (0 ≤ x.n) && decide (x.n ≤ 50)))
def leaveB (op : Int) : Bool := (op == 15) || ((op == 16) || ((op == 17) || (op == 19)))

set_option maxRecDepth 100000 in
set_option maxHeartbeats 1000000 in
theorem place_any (n p : Int) (w : World) :
    Calls Tryz.prog 9 #[.int .i64 n, .int .i64 p] w fun e w' => e = .returned (.bool (placeB n p)) ∧ w' = w := by
  go_enter Tryz.func9, Tryz.ntmps9
  go_wp2
  all_goals go_ret
  all_goals refine ⟨?_, rfl⟩
  all_goals first | (simp_all [placeB]; done) | (simp_all [placeB]; omega)
set_option maxRecDepth 100000 in
set_option maxHeartbeats 1000000 in
theorem leaves_any (op : Int) (w : World) :
    Calls Tryz.prog 15 #[.int .i64 op] w fun e w' => e = .returned (.bool (leaveB op)) ∧ w' = w := by
  have go : ∀ b15 b16 b17 b19 : Bool, (op == 15) = b15 → (op == 16) = b16 → (op == 17) = b17 → (op == 19) = b19 → Calls Tryz.prog 15 #[.int .i64 op] w fun e w' => e = .returned (.bool (b15 || (b16 || (b17 || b19)))) ∧ w' = w := by
    intro b15 b16 b17 b19 h15 h16 h17 h19
    cases b15 <;> cases b16 <;> cases b17 <;> cases b19
    all_goals
      go_enter Tryz.func15, Tryz.ntmps15
      go_wp2
      all_goals go_ret
      all_goals exact ⟨rfl, rfl⟩
  exact go _ _ _ _ rfl rfl rfl rfl
set_option maxRecDepth 100000 in
set_option maxHeartbeats 1000000 in
theorem num_place (n p : Int) (w : World) :
    Calls Tryz.prog 23 #[.int .i64 3, .int .i64 n, .int .i64 p] w fun e w' => e = .returned (.bool (numB 3 n p)) ∧ w' = w := by
  rw [show numB 3 n p = placeB n p by simp [numB]]
  have H := place_any n p w
  go_enter Tryz.func23, Tryz.ntmps23
  go_wp2_with fail
  refine H.mono ?_
  rintro e w' ⟨rfl, rfl⟩
  go_wp2
  all_goals go_ret
  all_goals exact ⟨rfl, rfl⟩
set_option maxRecDepth 100000 in
set_option maxHeartbeats 1000000 in
theorem num_any (k n p : Int) (w : World) :
    Calls Tryz.prog 23 #[.int .i64 k, .int .i64 n, .int .i64 p] w fun e w' => e = .returned (.bool (numB k n p)) ∧ w' = w := by
  by_cases h3 : k = 3
  · subst h3; exact num_place n p w
  have h3' : (k == 3) = false := by simpa using h3
  go_enter Tryz.func23, Tryz.ntmps23
  go_wp2
  all_goals go_ret
  all_goals refine ⟨?_, rfl⟩
  all_goals first | (simp_all [numB]; done) | (simp_all [numB]; omega)
set_option maxRecDepth 100000 in
set_option maxHeartbeats 1000000 in
theorem pred_any (x : KV) (w : World) :
    Calls Tryz.prog 54 #[x.val] w fun e w' => e = .returned (.bool (predB x)) ∧ Below w.heap.size w w' := by
  obtain ⟨k, s, n⟩ := x
  simp only [KV.val]
  go_enter Tryz.func54, Tryz.ntmps54
  go_wp2
  all_goals go_ret
  all_goals refine ⟨?_, (Below.refl _ w).alloc (Nat.le_refl _) _⟩
  all_goals first | (simp_all [predB]; done) | (simp_all [predB]; omega)
end Go.Proofs.YtcnoipaoljjelaaGreatDoor

