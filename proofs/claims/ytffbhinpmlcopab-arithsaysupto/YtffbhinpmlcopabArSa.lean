import Derived.Test.YtffbhinpmlcopabArD
/- hornref's evaluable: names, a part. -/
namespace Go.Proofs.Ytffbhinpmlcopab
open Go.RowKit Go.Shelf

set_option maxRecDepth 100000 in
set_option maxHeartbeats 4000000 in
theorem rev2_sum (s : ByteArray) (hL : s.toList = [43]) (w : World) : Calls Try.prog 34 #[.string s, .int .i64 2] w fun e w' => e = .returned (.bool true) ∧ w' = w := by
  go_enter Try.func34, Try.ntmps34
  go_wp2
  all_goals go_ret
  all_goals exact ⟨rfl, rfl⟩
set_option maxRecDepth 100000 in
set_option maxHeartbeats 4000000 in
theorem rev2_dif (s : ByteArray) (hL : s.toList = [45]) (w : World) : Calls Try.prog 34 #[.string s, .int .i64 2] w fun e w' => e = .returned (.bool true) ∧ w' = w := by
  go_enter Try.func34, Try.ntmps34
  go_wp2
  all_goals go_ret
  all_goals exact ⟨rfl, rfl⟩
set_option maxRecDepth 100000 in
set_option maxHeartbeats 4000000 in
theorem rev2_mul (s : ByteArray) (hL : s.toList = [42]) (w : World) : Calls Try.prog 34 #[.string s, .int .i64 2] w fun e w' => e = .returned (.bool true) ∧ w' = w := by
  go_enter Try.func34, Try.ntmps34
  go_wp2
  all_goals go_ret
  all_goals exact ⟨rfl, rfl⟩
set_option maxRecDepth 100000 in
set_option maxHeartbeats 4000000 in
theorem rev2_quo (s : ByteArray) (hL : s.toList = [47, 47]) (w : World) : Calls Try.prog 34 #[.string s, .int .i64 2] w fun e w' => e = .returned (.bool true) ∧ w' = w := by
  go_enter Try.func34, Try.ntmps34
  go_wp2
  all_goals go_ret
  all_goals exact ⟨rfl, rfl⟩
set_option maxRecDepth 100000 in
set_option maxHeartbeats 4000000 in
theorem rev2_rem (s : ByteArray) (hL : s.toList = [114, 101, 109]) (w : World) : Calls Try.prog 34 #[.string s, .int .i64 2] w fun e w' => e = .returned (.bool true) ∧ w' = w := by
  go_enter Try.func34, Try.ntmps34
  go_wp2
  all_goals go_ret
  all_goals exact ⟨rfl, rfl⟩
set_option maxRecDepth 100000 in
set_option maxHeartbeats 4000000 in
theorem rev2_div (s : ByteArray) (hL : s.toList = [100, 105, 118]) (w : World) : Calls Try.prog 34 #[.string s, .int .i64 2] w fun e w' => e = .returned (.bool true) ∧ w' = w := by
  go_enter Try.func34, Try.ntmps34
  go_wp2
  all_goals go_ret
  all_goals exact ⟨rfl, rfl⟩
end Go.Proofs.Ytffbhinpmlcopab

