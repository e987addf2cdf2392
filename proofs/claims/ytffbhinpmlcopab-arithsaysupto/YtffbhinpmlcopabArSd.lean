import Derived.Test.YtffbhinpmlcopabArSa
import Derived.Test.YtffbhinpmlcopabArSb
import Derived.Test.YtffbhinpmlcopabArSc
/- hornref's evaluable: whole. -/
namespace Go.Proofs.Ytffbhinpmlcopab
open Go.RowKit Go.Shelf

set_option maxRecDepth 100000 in
set_option maxHeartbeats 4000000 in
theorem rev1_neg (s : ByteArray) (hL : s.toList = [45]) (w : World) : Calls Try.prog 34 #[.string s, .int .i64 1] w fun e w' => e = .returned (.bool true) ∧ w' = w := by
  go_enter Try.func34, Try.ntmps34
  go_wp2
  all_goals go_ret
  all_goals exact ⟨rfl, rfl⟩
set_option maxRecDepth 100000 in
set_option maxHeartbeats 4000000 in
theorem rev1_pos (s : ByteArray) (hL : s.toList = [43]) (w : World) : Calls Try.prog 34 #[.string s, .int .i64 1] w fun e w' => e = .returned (.bool true) ∧ w' = w := by
  go_enter Try.func34, Try.ntmps34
  go_wp2
  all_goals go_ret
  all_goals exact ⟨rfl, rfl⟩
set_option maxRecDepth 100000 in
set_option maxHeartbeats 4000000 in
theorem rev1_abs (s : ByteArray) (hL : s.toList = [97, 98, 115]) (w : World) : Calls Try.prog 34 #[.string s, .int .i64 1] w fun e w' => e = .returned (.bool true) ∧ w' = w := by
  go_enter Try.func34, Try.ntmps34
  go_wp2
  all_goals go_ret
  all_goals exact ⟨rfl, rfl⟩
set_option maxRecDepth 100000 in
set_option maxHeartbeats 4000000 in
theorem rev1_sgn (s : ByteArray) (hL : s.toList = [115, 105, 103, 110]) (w : World) : Calls Try.prog 34 #[.string s, .int .i64 1] w fun e w' => e = .returned (.bool true) ∧ w' = w := by
  go_enter Try.func34, Try.ntmps34
  go_wp2
  all_goals go_ret
  all_goals exact ⟨rfl, rfl⟩
set_option maxRecDepth 100000 in
set_option maxHeartbeats 4000000 in
theorem rev1_not (s : ByteArray) (hL : s.toList = [92]) (w : World) : Calls Try.prog 34 #[.string s, .int .i64 1] w fun e w' => e = .returned (.bool true) ∧ w' = w := by
  go_enter Try.func34, Try.ntmps34
  go_wp2
  all_goals go_ret
  all_goals exact ⟨rfl, rfl⟩
set_option maxRecDepth 100000 in
set_option maxHeartbeats 4000000 in
theorem rev1_none (s : ByteArray) (h_neg : (s.toList == [45]) = false) (h_pos : (s.toList == [43]) = false) (h_abs : (s.toList == [97, 98, 115]) = false) (h_sgn : (s.toList == [115, 105, 103, 110]) = false) (h_not : (s.toList == [92]) = false) (w : World) : Calls Try.prog 34 #[.string s, .int .i64 1] w fun e w' => e = .returned (.bool false) ∧ w' = w := by
  go_enter Try.func34, Try.ntmps34
  go_wp2
  all_goals go_ret
  all_goals exact ⟨rfl, rfl⟩
theorem rev1_any (s : ByteArray) (w : World) : Calls Try.prog 34 #[.string s, .int .i64 1] w fun e w' => e = .returned (.bool (oneOp s.toList).isSome) ∧ w' = w := by
  unfold oneOp
  by_cases h_neg : s.toList = [45]
  · have h := rev1_neg s h_neg w
    rw [h_neg]
    exact h
  rw [if_neg (by simpa using h_neg)]
  by_cases h_pos : s.toList = [43]
  · have h := rev1_pos s h_pos w
    rw [h_pos]
    exact h
  rw [if_neg (by simpa using h_pos)]
  by_cases h_abs : s.toList = [97, 98, 115]
  · have h := rev1_abs s h_abs w
    rw [h_abs]
    exact h
  rw [if_neg (by simpa using h_abs)]
  by_cases h_sgn : s.toList = [115, 105, 103, 110]
  · have h := rev1_sgn s h_sgn w
    rw [h_sgn]
    exact h
  rw [if_neg (by simpa using h_sgn)]
  by_cases h_not : s.toList = [92]
  · have h := rev1_not s h_not w
    rw [h_not]
    exact h
  rw [if_neg (by simpa using h_not)]
  exact rev1_none s (by simpa using h_neg) (by simpa using h_pos) (by simpa using h_abs) (by simpa using h_sgn) (by simpa using h_not) w
end Go.Proofs.Ytffbhinpmlcopab

