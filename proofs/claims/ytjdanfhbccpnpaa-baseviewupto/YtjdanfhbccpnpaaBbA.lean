import Derived.Test.YtjdanfhbccpnpaaBbR
import Derived.Test.YtjdanfhbccpnpaaBaMs
/- base.isOfTwo, isCallable, isReserved. -/
namespace Go.Proofs.Ytjdanfhbccpnpaa
open Go.RowKit Go.Shelf

/-- A compound of a name with two Args? -/
def isC (x : TV) (s : List UInt8) : Bool := decide (x.k = 4) && (decide (x.s.toList = s) && ((x.len : Int) == 2))
theorem isC_isB {x : TV} (h : wmB x.k x.N x.s x.len = true) (s : List UInt8) : isC x s = isB x s 2 := by
  unfold isC isB
  by_cases k4 : x.k = 4
  · simp [k4]
  · have : (x.len : Int) == 2 → x.k ≠ 3 := fun hl hk => by
      rcases wm_cases h with ⟨h1, _⟩ | ⟨_, h1⟩ | ⟨h1, _⟩
      · omega
      · rw [h1] at hl; simp at hl
      · exact k4 h1
    by_cases k3 : x.k = 3
    · have hl : ((x.len : Int) == 2) = false := by
        cases he : ((x.len : Int) == 2) with
        | false => rfl
        | true => exact (this he k3).elim
      simp [hl, k4]
    · simp [k3, k4]
set_option maxHeartbeats 1000000 in
theorem isOfTwo_any (x : TV) (s : ByteArray) (w : World) : Calls Try.prog 18 #[x.val, .string s] w fun e W' => e = .returned (.bool (isC x s.toList)) ∧ Below w.heap.size w W' := by
  obtain ⟨k, N, xs, a, len, cap⟩ := x
  simp only [TV.val]
  by_cases h4 : k = 4
  · subst h4
    go_enter Try.func18, Try.ntmps18
    go_wp2
    all_goals go_ret
    all_goals refine ⟨?_, (Below.refl _ w).alloc (Nat.le_refl _) _⟩
    all_goals simp_all [isC]
  · have h4' : (k == 4) = false := by simp [h4]
    have HV : Hid (isC ⟨k, N, xs, a, len, cap⟩ s.toList = false) := by show isC _ _ = _; simp [isC, h4]
    clear h4
    go_enter Try.func18, Try.ntmps18
    go_wp2
    all_goals go_ret
    all_goals exact ⟨by rw [HV.out]; rfl, (Below.refl _ w).alloc (Nat.le_refl _) _⟩
set_option maxHeartbeats 1000000 in
theorem isCallable_any (x : TV) (w : World) : Calls Try.prog 19 #[x.val] w fun e W' => e = .returned (.bool (decide (x.k = 3) || decide (x.k = 4))) ∧ Below w.heap.size w W' := by
  obtain ⟨k, N, xs, a, len, cap⟩ := x
  simp only [TV.val]
  by_cases h3 : k = 3
  · subst h3
    go_enter Try.func19, Try.ntmps19
    go_wp2
    all_goals go_ret
    all_goals exact ⟨rfl, (Below.refl _ w).alloc (Nat.le_refl _) _⟩
  · have h3' : (k == 3) = false := by simp [h3]
    have HV : Hid ((decide (k = 3) || decide (k = 4)) = (k == 4)) := by show (_ : Bool) = _; simp [h3]; rfl
    clear h3
    go_enter Try.func19, Try.ntmps19
    go_wp2
    all_goals go_ret
    all_goals exact ⟨by rw [HV.out]; rfl, (Below.refl _ w).alloc (Nat.le_refl _) _⟩
set_option maxRecDepth 100000 in
set_option maxHeartbeats 1000000 in
theorem isReserved_any (x : TV) (w : World) : Calls Try.prog 20 #[x.val] w fun e W' => e = .returned (.bool (resB x.s.toList x.len)) ∧ Below w.heap.size w W' := by
  obtain ⟨k, N, xs, a, len, cap⟩ := x
  simp only [TV.val]
  have hr := bres_any xs (len : Int) (w.alloc (.cells #[.int .i64 k, .int .i64 N, .string xs, .slice a len cap] 24))
  generalize resB xs.toList (len : Int) = r at hr ⊢
  go_enter Try.func20, Try.ntmps20
  go_wp2_with fail
  refine hr.mono ?_
  rintro e W' ⟨rfl, hb⟩
  clear hr
  go_wp2_with fail
  all_goals go_ret
  all_goals exact ⟨rfl, ((Below.refl _ w).alloc (Nat.le_refl _) _).trans (hb.mono (by simp))⟩
end Go.Proofs.Ytjdanfhbccpnpaa

