import Derived.Test.YtmgcojhmopcamaaM
import Derived.Test.YtmgcojhmopcamaaC
import Derived.WalkLawsBesides
/- The contracts of cmp.Compare at int, int64 and string, and of term.orderTop. -/
namespace Go.Proofs.Ytmgcojhmopcamaa
open Go.RowKit Go.Shelf

theorem ret_int {k : IntKind} {a b : Int} (h : a = b) : Ending.returned (.int k a) = .returned (.int k b) := by rw [h]
theorem cmp3_lt {a b : Int} (h : a < b) : -1 = cmp3 a b := by unfold cmp3; rw [if_pos h]
theorem cmp3_gt {a b : Int} (h : b < a) : 1 = cmp3 a b := by unfold cmp3; rw [if_neg (by omega), if_pos h]
theorem cmp3_eq {a b : Int} (h1 : b ≤ a) (h2 : a ≤ b) : 0 = cmp3 a b := by unfold cmp3; rw [if_neg (by omega), if_neg (by omega)]

set_option maxHeartbeats 400000 in
theorem cmpl_any (a b : Int) (w : World) : Calls Try.prog 64 #[.int .i64 a, .int .i64 b] w fun e W' => e = .returned (.int .i64 (cmp3 a b)) ∧ W' = w := by
  go_enter Try.func64, Try.ntmps64
  go_wp2
  all_goals go_ret
  all_goals refine ⟨?_, rfl⟩
  · exact ret_int (cmp3_lt ‹_›)
  · exact ret_int (cmp3_gt ‹b < a›)
  · exact ret_int (cmp3_eq ‹b ≤ a› ‹a ≤ b›)
theorem otop1 {x y : TV} (h : cmp3 x.k y.k ≠ 0) : cmp3 x.k y.k = otop x y := by unfold otop thenC; rw [if_pos h]
theorem otop2 {x y : TV} (h : cmp3 x.k y.k = 0) (h2 : cmp3 x.N y.N ≠ 0) : cmp3 x.N y.N = otop x y := by unfold otop thenC; rw [if_neg (by omega), if_pos h2]
theorem otop3 {x y : TV} (h : cmp3 x.k y.k = 0) (h2 : cmp3 x.N y.N = 0) (h3 : cmp3 x.len y.len ≠ 0) : cmp3 x.len y.len = otop x y := by unfold otop thenC; rw [if_neg (by omega), if_neg (by omega), if_pos h3]
theorem otop4 {x y : TV} (h : cmp3 x.k y.k = 0) (h2 : cmp3 x.N y.N = 0) (h3 : cmp3 x.len y.len = 0) : cmpS x.s.toList y.s.toList = otop x y := by unfold otop thenC; rw [if_neg (by omega), if_neg (by omega), if_neg (by omega)]

end Go.Proofs.Ytmgcojhmopcamaa

