import Derived.Test.YtffbhinpmlcopabArD
/- hornref's evaluable: names, a part. -/
namespace Go.Proofs.Ytffbhinpmlcopab
open Go.RowKit Go.Shelf

set_option maxRecDepth 100000 in
set_option maxHeartbeats 4000000 in
theorem rev2_shl (s : ByteArray) (hL : s.toList = [60, 60]) (w : World) : Calls Try.prog 34 #[.string s, .int .i64 2] w fun e w' => e = .returned (.bool true) ∧ w' = w := by
  go_enter Try.func34, Try.ntmps34
  go_wp2
  all_goals go_ret
  all_goals exact ⟨rfl, rfl⟩
set_option maxRecDepth 100000 in
set_option maxHeartbeats 4000000 in
theorem rev2_shr (s : ByteArray) (hL : s.toList = [62, 62]) (w : World) : Calls Try.prog 34 #[.string s, .int .i64 2] w fun e w' => e = .returned (.bool true) ∧ w' = w := by
  go_enter Try.func34, Try.ntmps34
  go_wp2
  all_goals go_ret
  all_goals exact ⟨rfl, rfl⟩
set_option maxRecDepth 100000 in
set_option maxHeartbeats 4000000 in
theorem rev2_and (s : ByteArray) (hL : s.toList = [47, 92]) (w : World) : Calls Try.prog 34 #[.string s, .int .i64 2] w fun e w' => e = .returned (.bool true) ∧ w' = w := by
  go_enter Try.func34, Try.ntmps34
  go_wp2
  all_goals go_ret
  all_goals exact ⟨rfl, rfl⟩
set_option maxRecDepth 100000 in
set_option maxHeartbeats 4000000 in
theorem rev2_orr (s : ByteArray) (hL : s.toList = [92, 47]) (w : World) : Calls Try.prog 34 #[.string s, .int .i64 2] w fun e w' => e = .returned (.bool true) ∧ w' = w := by
  go_enter Try.func34, Try.ntmps34
  go_wp2
  all_goals go_ret
  all_goals exact ⟨rfl, rfl⟩
set_option maxRecDepth 100000 in
set_option maxHeartbeats 4000000 in
theorem rev2_xor (s : ByteArray) (hL : s.toList = [120, 111, 114]) (w : World) : Calls Try.prog 34 #[.string s, .int .i64 2] w fun e w' => e = .returned (.bool true) ∧ w' = w := by
  go_enter Try.func34, Try.ntmps34
  go_wp2
  all_goals go_ret
  all_goals exact ⟨rfl, rfl⟩
set_option maxRecDepth 100000 in
set_option maxHeartbeats 4000000 in
theorem rev2_none (s : ByteArray) (h_sum : (s.toList == [43]) = false) (h_dif : (s.toList == [45]) = false) (h_mul : (s.toList == [42]) = false) (h_quo : (s.toList == [47, 47]) = false) (h_rem : (s.toList == [114, 101, 109]) = false) (h_div : (s.toList == [100, 105, 118]) = false) (h_mod : (s.toList == [109, 111, 100]) = false) (h_min : (s.toList == [109, 105, 110]) = false) (h_max : (s.toList == [109, 97, 120]) = false) (h_gcd : (s.toList == [103, 99, 100]) = false) (h_pwa : (s.toList == [42, 42]) = false) (h_pwb : (s.toList == [94]) = false) (h_shl : (s.toList == [60, 60]) = false) (h_shr : (s.toList == [62, 62]) = false) (h_and : (s.toList == [47, 92]) = false) (h_orr : (s.toList == [92, 47]) = false) (h_xor : (s.toList == [120, 111, 114]) = false) (w : World) : Calls Try.prog 34 #[.string s, .int .i64 2] w fun e w' => e = .returned (.bool false) ∧ w' = w := by
  go_enter Try.func34, Try.ntmps34
  go_wp2
  all_goals go_ret
  all_goals exact ⟨rfl, rfl⟩
end Go.Proofs.Ytffbhinpmlcopab

