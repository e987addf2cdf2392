import Derived.Test.YtjdanfhbccpnpaaM
import Derived.Test.YtjdanfhbccpnpaaC
import Derived.WalkLawsBesides
/- The contracts of cmp.Compare at int, int64 and string, and of term.orderTop. -/
namespace Go.Proofs.Ytjdanfhbccpnpaa
open Go.RowKit Go.Shelf

theorem ret_int {k : IntKind} {a b : Int} (h : a = b) : Ending.returned (.int k a) = .returned (.int k b) := by rw [h]
theorem cmp3_lt {a b : Int} (h : a < b) : -1 = cmp3 a b := by unfold cmp3; rw [if_pos h]
theorem cmp3_gt {a b : Int} (h : b < a) : 1 = cmp3 a b := by unfold cmp3; rw [if_neg (by omega), if_pos h]
theorem cmp3_eq {a b : Int} (h1 : b ≤ a) (h2 : a ≤ b) : 0 = cmp3 a b := by unfold cmp3; rw [if_neg (by omega), if_neg (by omega)]

set_option maxHeartbeats 400000 in
theorem cmpi_any (a b : Int) (w : World) : Calls Try.prog 61 #[.int .i64 a, .int .i64 b] w fun e W' => e = .returned (.int .i64 (cmp3 a b)) ∧ W' = w := by
  go_enter Try.func61, Try.ntmps61
  go_wp2
  all_goals go_ret
  all_goals refine ⟨?_, rfl⟩
  · exact ret_int (cmp3_lt ‹_›)
  · exact ret_int (cmp3_gt ‹b < a›)
  · exact ret_int (cmp3_eq ‹b ≤ a› ‹a ≤ b›)
set_option maxHeartbeats 400000 in
theorem cmpl_any (a b : Int) (w : World) : Calls Try.prog 62 #[.int .i64 a, .int .i64 b] w fun e W' => e = .returned (.int .i64 (cmp3 a b)) ∧ W' = w := by
  go_enter Try.func62, Try.ntmps62
  go_wp2
  all_goals go_ret
  all_goals refine ⟨?_, rfl⟩
  · exact ret_int (cmp3_lt ‹_›)
  · exact ret_int (cmp3_gt ‹b < a›)
  · exact ret_int (cmp3_eq ‹b ≤ a› ‹a ≤ b›)
set_option maxHeartbeats 400000 in
theorem cmps_any (a b : ByteArray) (w : World) : Calls Try.prog 63 #[.string a, .string b] w fun e W' => e = .returned (.int .i64 (cmpS a.toList b.toList)) ∧ W' = w := by
  go_enter Try.func63, Try.ntmps63
  go_wp2
  all_goals go_ret
  all_goals refine ⟨?_, rfl⟩
  · exact ret_int (by unfold cmpS; rw [if_pos ‹_›])
  · have h1 : Op.bytesLess a.toList b.toList = false := by assumption
    have h2 : (!a.toList == b.toList) = true := by assumption
    exact ret_int (by unfold cmpS; rw [if_neg (by rw [h1]; simp), if_neg (by simpa using h2)])
  · have h1 : Op.bytesLess a.toList b.toList = false := by assumption
    have h2 : (!a.toList == b.toList) = false := by assumption
    exact ret_int (by unfold cmpS; rw [if_neg (by rw [h1]; simp), if_pos (by simpa using h2)])

theorem otop1 {x y : TV} (h : cmp3 x.k y.k ≠ 0) : cmp3 x.k y.k = otop x y := by unfold otop thenC; rw [if_pos h]
theorem otop2 {x y : TV} (h : cmp3 x.k y.k = 0) (h2 : cmp3 x.N y.N ≠ 0) : cmp3 x.N y.N = otop x y := by unfold otop thenC; rw [if_neg (by omega), if_pos h2]
theorem otop3 {x y : TV} (h : cmp3 x.k y.k = 0) (h2 : cmp3 x.N y.N = 0) (h3 : cmp3 x.len y.len ≠ 0) : cmp3 x.len y.len = otop x y := by unfold otop thenC; rw [if_neg (by omega), if_neg (by omega), if_pos h3]
theorem otop4 {x y : TV} (h : cmp3 x.k y.k = 0) (h2 : cmp3 x.N y.N = 0) (h3 : cmp3 x.len y.len = 0) : cmpS x.s.toList y.s.toList = otop x y := by unfold otop thenC; rw [if_neg (by omega), if_neg (by omega), if_neg (by omega)]

set_option maxHeartbeats 1000000 in
theorem otop_any (x y : TV) (w : World) : Calls Try.prog 60 #[x.val, y.val] w fun e W' => e = .returned (.int .i64 (otop x y)) ∧ Below w.heap.size w W' := by
  simp only [TV.val]
  have hB : Below w.heap.size w ((w.alloc (.cells #[.int .i64 x.k, .int .i64 x.N, .string x.s, .slice x.a x.len x.cap] 24)).alloc (.cells #[.int .i64 y.k, .int .i64 y.N, .string y.s, .slice y.a y.len y.cap] 24)) := ((Below.refl _ w).alloc (Nat.le_refl _) _).alloc (by simp) _
  have HB := hide hB
  clear hB
  have h49 := cmpi_any x.k y.k ((w.alloc (.cells #[.int .i64 x.k, .int .i64 x.N, .string x.s, .slice x.a x.len x.cap] 24)).alloc (.cells #[.int .i64 y.k, .int .i64 y.N, .string y.s, .slice y.a y.len y.cap] 24))
  have h42 := cmpl_any x.N y.N ((w.alloc (.cells #[.int .i64 x.k, .int .i64 x.N, .string x.s, .slice x.a x.len x.cap] 24)).alloc (.cells #[.int .i64 y.k, .int .i64 y.N, .string y.s, .slice y.a y.len y.cap] 24))
  have h49b := cmpi_any x.len y.len ((w.alloc (.cells #[.int .i64 x.k, .int .i64 x.N, .string x.s, .slice x.a x.len x.cap] 24)).alloc (.cells #[.int .i64 y.k, .int .i64 y.N, .string y.s, .slice y.a y.len y.cap] 24))
  have h50 := cmps_any x.s y.s ((w.alloc (.cells #[.int .i64 x.k, .int .i64 x.N, .string x.s, .slice x.a x.len x.cap] 24)).alloc (.cells #[.int .i64 y.k, .int .i64 y.N, .string y.s, .slice y.a y.len y.cap] 24))
  have e1 := @otop1 x y
  have e2 := @otop2 x y
  have e3 := @otop3 x y
  have e4 := @otop4 x y
  generalize cmp3 x.k y.k = c1 at *
  generalize cmp3 x.N y.N = c2 at *
  generalize cmp3 x.len y.len = c3 at *
  generalize cmpS x.s.toList y.s.toList = c4 at *
  generalize otop x y = r at *
  have E1 := hide e1
  have E2 := hide e2
  have E3 := hide e3
  have E4 := hide e4
  clear e1 e2 e3 e4
  by_cases hc1 : c1 = 0
  · have hb1 : (c1 != 0) = false := by simp [hc1]
    have H1 := hide hc1
    clear hc1
    by_cases hc2 : c2 = 0
    · have hb2 : (c2 != 0) = false := by simp [hc2]
      have H2 := hide hc2
      clear hc2
      by_cases hc3 : c3 = 0
      · have hb3 : (c3 != 0) = false := by simp [hc3]
        have H3 := hide hc3
        clear hc3
        go_enter Try.func60, Try.ntmps60
        go_wp2_with (first
          | (go_at_call 61; refine h49.mono ?_; clear h49; rintro e w' ⟨rfl, rfl⟩)
          | (go_at_call 62; refine h42.mono ?_; clear h42; rintro e w' ⟨rfl, rfl⟩)
          | (go_at_call 61; refine h49b.mono ?_; clear h49b; rintro e w' ⟨rfl, rfl⟩)
          | (go_at_call 63; refine h50.mono ?_; clear h50; rintro e w' ⟨rfl, rfl⟩))
        go_ret
        exact ⟨ret_int ((unhide E4) (unhide H1) (unhide H2) (unhide H3)), unhide HB⟩
      · have hb3 : (c3 != 0) = true := by simp [hc3]
        go_enter Try.func60, Try.ntmps60
        go_wp2_with (first
          | (go_at_call 61; refine h49.mono ?_; clear h49; rintro e w' ⟨rfl, rfl⟩)
          | (go_at_call 62; refine h42.mono ?_; clear h42; rintro e w' ⟨rfl, rfl⟩)
          | (go_at_call 61; refine h49b.mono ?_; clear h49b; rintro e w' ⟨rfl, rfl⟩))
        go_ret
        exact ⟨ret_int ((unhide E3) (unhide H1) (unhide H2) hc3), unhide HB⟩
    · have hb2 : (c2 != 0) = true := by simp [hc2]
      go_enter Try.func60, Try.ntmps60
      go_wp2_with (first
        | (go_at_call 61; refine h49.mono ?_; clear h49; rintro e w' ⟨rfl, rfl⟩)
        | (go_at_call 62; refine h42.mono ?_; clear h42; rintro e w' ⟨rfl, rfl⟩))
      go_ret
      exact ⟨ret_int ((unhide E2) (unhide H1) hc2), unhide HB⟩
  · have hb1 : (c1 != 0) = true := by simp [hc1]
    go_enter Try.func60, Try.ntmps60
    go_wp2_with (go_at_call 61; refine h49.mono ?_; clear h49; rintro e w' ⟨rfl, rfl⟩)
    go_ret
    exact ⟨ret_int ((unhide E1) hc1), unhide HB⟩
end Go.Proofs.Ytjdanfhbccpnpaa

