import Derived.Test.YtjdanfhbccpnpaaBaAs
/- base.Reserved. (Written by wip/resbgen.py.) -/
namespace Go.Proofs.Ytjdanfhbccpnpaa
open Go.RowKit Go.Shelf

theorem beq_turn (a b : List UInt8) : (a == b) = (b == a) := by rw [Bool.eq_iff_iff, beq_iff_eq, beq_iff_eq]; exact eq_comm
theorem res0_eq (l : List UInt8) (hc : (l == [99, 97, 108, 108]) = false) : resB l 0 = ((l == [116, 114, 117, 101]) || ((l == [102, 97, 105, 108]) || ((l == [33]) || ((l == [110, 108]))))) := by
  have e : resB l 0 = resN0.any (fun x => x.toList == l) := by unfold resB; rw [hc]; rfl
  rw [e]
  simp only [resN0, List.any_cons, List.any_nil, Bool.or_false]
  rw [show (⟨#[116, 114, 117, 101]⟩ : ByteArray).toList = [116, 114, 117, 101] by decide +kernel, beq_turn [116, 114, 117, 101] l]
  rw [show (⟨#[102, 97, 105, 108]⟩ : ByteArray).toList = [102, 97, 105, 108] by decide +kernel, beq_turn [102, 97, 105, 108] l]
  rw [show (⟨#[33]⟩ : ByteArray).toList = [33] by decide +kernel, beq_turn [33] l]
  rw [show (⟨#[110, 108]⟩ : ByteArray).toList = [110, 108] by decide +kernel, beq_turn [110, 108] l]
theorem res1_eq (l : List UInt8) (hc : (l == [99, 97, 108, 108]) = false) : resB l 1 = ((l == [92, 43]) || ((l == [116, 104, 114, 111, 119]) || ((l == [118, 97, 114]) || ((l == [110, 111, 110, 118, 97, 114]) || ((l == [97, 116, 111, 109]) || ((l == [105, 110, 116, 101, 103, 101, 114]) || ((l == [97, 116, 111, 109, 105, 99]) || ((l == [99, 111, 109, 112, 111, 117, 110, 100]) || ((l == [99, 97, 108, 108, 97, 98, 108, 101]) || ((l == [103, 114, 111, 117, 110, 100]) || ((l == [97, 115, 115, 101, 114, 116, 122]) || ((l == [97, 115, 115, 101, 114, 116, 97]) || ((l == [114, 101, 116, 114, 97, 99, 116]) || ((l == [112, 114, 105, 110, 116]) || ((l == [58, 45])))))))))))))))) := by
  have e : resB l 1 = resN1.any (fun x => x.toList == l) := by unfold resB; rw [hc]; rfl
  rw [e]
  simp only [resN1, List.any_cons, List.any_nil, Bool.or_false]
  rw [show (⟨#[92, 43]⟩ : ByteArray).toList = [92, 43] by decide +kernel, beq_turn [92, 43] l]
  rw [show (⟨#[116, 104, 114, 111, 119]⟩ : ByteArray).toList = [116, 104, 114, 111, 119] by decide +kernel, beq_turn [116, 104, 114, 111, 119] l]
  rw [show (⟨#[118, 97, 114]⟩ : ByteArray).toList = [118, 97, 114] by decide +kernel, beq_turn [118, 97, 114] l]
  rw [show (⟨#[110, 111, 110, 118, 97, 114]⟩ : ByteArray).toList = [110, 111, 110, 118, 97, 114] by decide +kernel, beq_turn [110, 111, 110, 118, 97, 114] l]
  rw [show (⟨#[97, 116, 111, 109]⟩ : ByteArray).toList = [97, 116, 111, 109] by decide +kernel, beq_turn [97, 116, 111, 109] l]
  rw [show (⟨#[105, 110, 116, 101, 103, 101, 114]⟩ : ByteArray).toList = [105, 110, 116, 101, 103, 101, 114] by decide +kernel, beq_turn [105, 110, 116, 101, 103, 101, 114] l]
  rw [show (⟨#[97, 116, 111, 109, 105, 99]⟩ : ByteArray).toList = [97, 116, 111, 109, 105, 99] by decide +kernel, beq_turn [97, 116, 111, 109, 105, 99] l]
  rw [show (⟨#[99, 111, 109, 112, 111, 117, 110, 100]⟩ : ByteArray).toList = [99, 111, 109, 112, 111, 117, 110, 100] by decide +kernel, beq_turn [99, 111, 109, 112, 111, 117, 110, 100] l]
  rw [show (⟨#[99, 97, 108, 108, 97, 98, 108, 101]⟩ : ByteArray).toList = [99, 97, 108, 108, 97, 98, 108, 101] by decide +kernel, beq_turn [99, 97, 108, 108, 97, 98, 108, 101] l]
  rw [show (⟨#[103, 114, 111, 117, 110, 100]⟩ : ByteArray).toList = [103, 114, 111, 117, 110, 100] by decide +kernel, beq_turn [103, 114, 111, 117, 110, 100] l]
  rw [show (⟨#[97, 115, 115, 101, 114, 116, 122]⟩ : ByteArray).toList = [97, 115, 115, 101, 114, 116, 122] by decide +kernel, beq_turn [97, 115, 115, 101, 114, 116, 122] l]
  rw [show (⟨#[97, 115, 115, 101, 114, 116, 97]⟩ : ByteArray).toList = [97, 115, 115, 101, 114, 116, 97] by decide +kernel, beq_turn [97, 115, 115, 101, 114, 116, 97] l]
  rw [show (⟨#[114, 101, 116, 114, 97, 99, 116]⟩ : ByteArray).toList = [114, 101, 116, 114, 97, 99, 116] by decide +kernel, beq_turn [114, 101, 116, 114, 97, 99, 116] l]
  rw [show (⟨#[112, 114, 105, 110, 116]⟩ : ByteArray).toList = [112, 114, 105, 110, 116] by decide +kernel, beq_turn [112, 114, 105, 110, 116] l]
  rw [show (⟨#[58, 45]⟩ : ByteArray).toList = [58, 45] by decide +kernel, beq_turn [58, 45] l]
theorem res2_eq (l : List UInt8) (hc : (l == [99, 97, 108, 108]) = false) : resB l 2 = ((l == [44]) || ((l == [59]) || ((l == [45, 62]) || ((l == [61]) || ((l == [92, 61]) || ((l == [61, 61]) || ((l == [92, 61, 61]) || ((l == [64, 60]) || ((l == [64, 62]) || ((l == [64, 61, 60]) || ((l == [64, 62, 61]) || ((l == [61, 46, 46]) || ((l == [99, 111, 112, 121, 95, 116, 101, 114, 109]) || ((l == [105, 115]) || ((l == [61, 58, 61]) || ((l == [61, 92, 61]) || ((l == [60]) || ((l == [62]) || ((l == [61, 60]) || ((l == [62, 61]) || ((l == [97, 116, 111, 109, 95, 108, 101, 110, 103, 116, 104]) || ((l == [97, 116, 111, 109, 95, 99, 104, 97, 114, 115]) || ((l == [108, 101, 110, 103, 116, 104]) || ((l == [115, 111, 114, 116]) || ((l == [58, 45]) || ((l == [45, 45, 62]))))))))))))))))))))))))))) := by
  have e : resB l 2 = resN2.any (fun x => x.toList == l) := by unfold resB; rw [hc]; rfl
  rw [e]
  simp only [resN2, List.any_cons, List.any_nil, Bool.or_false]
  rw [show (⟨#[44]⟩ : ByteArray).toList = [44] by decide +kernel, beq_turn [44] l]
  rw [show (⟨#[59]⟩ : ByteArray).toList = [59] by decide +kernel, beq_turn [59] l]
  rw [show (⟨#[45, 62]⟩ : ByteArray).toList = [45, 62] by decide +kernel, beq_turn [45, 62] l]
  rw [show (⟨#[61]⟩ : ByteArray).toList = [61] by decide +kernel, beq_turn [61] l]
  rw [show (⟨#[92, 61]⟩ : ByteArray).toList = [92, 61] by decide +kernel, beq_turn [92, 61] l]
  rw [show (⟨#[61, 61]⟩ : ByteArray).toList = [61, 61] by decide +kernel, beq_turn [61, 61] l]
  rw [show (⟨#[92, 61, 61]⟩ : ByteArray).toList = [92, 61, 61] by decide +kernel, beq_turn [92, 61, 61] l]
  rw [show (⟨#[64, 60]⟩ : ByteArray).toList = [64, 60] by decide +kernel, beq_turn [64, 60] l]
  rw [show (⟨#[64, 62]⟩ : ByteArray).toList = [64, 62] by decide +kernel, beq_turn [64, 62] l]
  rw [show (⟨#[64, 61, 60]⟩ : ByteArray).toList = [64, 61, 60] by decide +kernel, beq_turn [64, 61, 60] l]
  rw [show (⟨#[64, 62, 61]⟩ : ByteArray).toList = [64, 62, 61] by decide +kernel, beq_turn [64, 62, 61] l]
  rw [show (⟨#[61, 46, 46]⟩ : ByteArray).toList = [61, 46, 46] by decide +kernel, beq_turn [61, 46, 46] l]
  rw [show (⟨#[99, 111, 112, 121, 95, 116, 101, 114, 109]⟩ : ByteArray).toList = [99, 111, 112, 121, 95, 116, 101, 114, 109] by decide +kernel, beq_turn [99, 111, 112, 121, 95, 116, 101, 114, 109] l]
  rw [show (⟨#[105, 115]⟩ : ByteArray).toList = [105, 115] by decide +kernel, beq_turn [105, 115] l]
  rw [show (⟨#[61, 58, 61]⟩ : ByteArray).toList = [61, 58, 61] by decide +kernel, beq_turn [61, 58, 61] l]
  rw [show (⟨#[61, 92, 61]⟩ : ByteArray).toList = [61, 92, 61] by decide +kernel, beq_turn [61, 92, 61] l]
  rw [show (⟨#[60]⟩ : ByteArray).toList = [60] by decide +kernel, beq_turn [60] l]
  rw [show (⟨#[62]⟩ : ByteArray).toList = [62] by decide +kernel, beq_turn [62] l]
  rw [show (⟨#[61, 60]⟩ : ByteArray).toList = [61, 60] by decide +kernel, beq_turn [61, 60] l]
  rw [show (⟨#[62, 61]⟩ : ByteArray).toList = [62, 61] by decide +kernel, beq_turn [62, 61] l]
  rw [show (⟨#[97, 116, 111, 109, 95, 108, 101, 110, 103, 116, 104]⟩ : ByteArray).toList = [97, 116, 111, 109, 95, 108, 101, 110, 103, 116, 104] by decide +kernel, beq_turn [97, 116, 111, 109, 95, 108, 101, 110, 103, 116, 104] l]
  rw [show (⟨#[97, 116, 111, 109, 95, 99, 104, 97, 114, 115]⟩ : ByteArray).toList = [97, 116, 111, 109, 95, 99, 104, 97, 114, 115] by decide +kernel, beq_turn [97, 116, 111, 109, 95, 99, 104, 97, 114, 115] l]
  rw [show (⟨#[108, 101, 110, 103, 116, 104]⟩ : ByteArray).toList = [108, 101, 110, 103, 116, 104] by decide +kernel, beq_turn [108, 101, 110, 103, 116, 104] l]
  rw [show (⟨#[115, 111, 114, 116]⟩ : ByteArray).toList = [115, 111, 114, 116] by decide +kernel, beq_turn [115, 111, 114, 116] l]
  rw [show (⟨#[58, 45]⟩ : ByteArray).toList = [58, 45] by decide +kernel, beq_turn [58, 45] l]
  rw [show (⟨#[45, 45, 62]⟩ : ByteArray).toList = [45, 45, 62] by decide +kernel, beq_turn [45, 45, 62] l]
theorem res3_eq (l : List UInt8) (hc : (l == [99, 97, 108, 108]) = false) : resB l 3 = ((l == [99, 97, 116, 99, 104]) || ((l == [102, 105, 110, 100, 97, 108, 108]) || ((l == [99, 111, 109, 112, 97, 114, 101]) || ((l == [102, 117, 110, 99, 116, 111, 114]) || ((l == [97, 114, 103]) || ((l == [98, 101, 116, 119, 101, 101, 110]))))))) := by
  have e : resB l 3 = resN3.any (fun x => x.toList == l) := by unfold resB; rw [hc]; rfl
  rw [e]
  simp only [resN3, List.any_cons, List.any_nil, Bool.or_false]
  rw [show (⟨#[99, 97, 116, 99, 104]⟩ : ByteArray).toList = [99, 97, 116, 99, 104] by decide +kernel, beq_turn [99, 97, 116, 99, 104] l]
  rw [show (⟨#[102, 105, 110, 100, 97, 108, 108]⟩ : ByteArray).toList = [102, 105, 110, 100, 97, 108, 108] by decide +kernel, beq_turn [102, 105, 110, 100, 97, 108, 108] l]
  rw [show (⟨#[99, 111, 109, 112, 97, 114, 101]⟩ : ByteArray).toList = [99, 111, 109, 112, 97, 114, 101] by decide +kernel, beq_turn [99, 111, 109, 112, 97, 114, 101] l]
  rw [show (⟨#[102, 117, 110, 99, 116, 111, 114]⟩ : ByteArray).toList = [102, 117, 110, 99, 116, 111, 114] by decide +kernel, beq_turn [102, 117, 110, 99, 116, 111, 114] l]
  rw [show (⟨#[97, 114, 103]⟩ : ByteArray).toList = [97, 114, 103] by decide +kernel, beq_turn [97, 114, 103] l]
  rw [show (⟨#[98, 101, 116, 119, 101, 101, 110]⟩ : ByteArray).toList = [98, 101, 116, 119, 101, 101, 110] by decide +kernel, beq_turn [98, 101, 116, 119, 101, 101, 110] l]
set_option maxRecDepth 100000 in
set_option maxHeartbeats 8000000 in
theorem bres_0 (s : ByteArray) (w : World) (hc : (s.toList == [99, 97, 108, 108]) = false) :
    Calls Try.prog 36 #[.string s, .int .i64 0] w fun e W' => e = .returned (.bool (resB s.toList 0)) ∧ Below w.heap.size w W' := by
  rw [res0_eq _ hc]
  go_enter Try.func36, Try.ntmps36
  go_wp2
  all_goals go_ret
  all_goals refine ⟨?_, Below.refl _ _⟩
  all_goals simp_all
set_option maxRecDepth 100000 in
set_option maxHeartbeats 8000000 in
theorem bres_1 (s : ByteArray) (w : World) (hc : (s.toList == [99, 97, 108, 108]) = false) :
    Calls Try.prog 36 #[.string s, .int .i64 1] w fun e W' => e = .returned (.bool (resB s.toList 1)) ∧ Below w.heap.size w W' := by
  rw [res1_eq _ hc]
  go_enter Try.func36, Try.ntmps36
  go_wp2
  all_goals go_ret
  all_goals refine ⟨?_, Below.refl _ _⟩
  all_goals simp_all
set_option maxRecDepth 100000 in
set_option maxHeartbeats 8000000 in
theorem bres_2 (s : ByteArray) (w : World) (hc : (s.toList == [99, 97, 108, 108]) = false) :
    Calls Try.prog 36 #[.string s, .int .i64 2] w fun e W' => e = .returned (.bool (resB s.toList 2)) ∧ Below w.heap.size w W' := by
  rw [res2_eq _ hc]
  go_enter Try.func36, Try.ntmps36
  go_wp2
  all_goals go_ret
  all_goals refine ⟨?_, Below.refl _ _⟩
  all_goals simp_all
set_option maxRecDepth 100000 in
set_option maxHeartbeats 8000000 in
theorem bres_3 (s : ByteArray) (w : World) (hc : (s.toList == [99, 97, 108, 108]) = false) :
    Calls Try.prog 36 #[.string s, .int .i64 3] w fun e W' => e = .returned (.bool (resB s.toList 3)) ∧ Below w.heap.size w W' := by
  rw [res3_eq _ hc]
  go_enter Try.func36, Try.ntmps36
  go_wp2
  all_goals go_ret
  all_goals refine ⟨?_, Below.refl _ _⟩
  all_goals simp_all
set_option maxRecDepth 100000 in
set_option maxHeartbeats 8000000 in
theorem bres_call (s : ByteArray) (n : Int) (w : World) (hc : (s.toList == [99, 97, 108, 108]) = true) :
    Calls Try.prog 36 #[.string s, .int .i64 n] w fun e W' => e = .returned (.bool (resB s.toList n)) ∧ Below w.heap.size w W' := by
  have e : resB s.toList n = (decide (1 ≤ n) && decide (n ≤ 8)) := by unfold resB; rw [hc]; rfl
  rw [e]
  clear e
  go_enter Try.func36, Try.ntmps36
  go_wp2
  all_goals go_ret
  all_goals refine ⟨?_, Below.refl _ _⟩
  all_goals first | (simp_all; done) | (simp_all; omega)
set_option maxRecDepth 100000 in
set_option maxHeartbeats 8000000 in
theorem bres_far (s : ByteArray) (n : Int) (w : World) (hc : (s.toList == [99, 97, 108, 108]) = false) (h0 : (n == 0) = false) (h1 : (n == 1) = false) (h2 : (n == 2) = false) (h3 : (n == 3) = false) :
    Calls Try.prog 36 #[.string s, .int .i64 n] w fun e W' => e = .returned (.bool (resB s.toList n)) ∧ Below w.heap.size w W' := by
  have e : resB s.toList n = false := by
    unfold resB
    rw [hc, if_neg (by simp), if_neg (by simpa using h0), if_neg (by simpa using h1), if_neg (by simpa using h2), if_neg (by simpa using h3)]
  rw [e]
  clear e
  go_enter Try.func36, Try.ntmps36
  go_wp2
  all_goals go_ret
  all_goals refine ⟨?_, Below.refl _ _⟩
  all_goals simp_all
theorem bres_any (s : ByteArray) (n : Int) (w : World) :
    Calls Try.prog 36 #[.string s, .int .i64 n] w fun e W' => e = .returned (.bool (resB s.toList n)) ∧ Below w.heap.size w W' := by
  cases hc : (s.toList == [99, 97, 108, 108]) with
  | true => exact bres_call s n w hc
  | false =>
    by_cases h0 : n = 0
    · subst h0; exact bres_0 s w hc
    · by_cases h1 : n = 1
      · subst h1; exact bres_1 s w hc
      · by_cases h2 : n = 2
        · subst h2; exact bres_2 s w hc
        · by_cases h3 : n = 3
          · subst h3; exact bres_3 s w hc
          · exact bres_far s n w hc (by simpa using h0) (by simpa using h1) (by simpa using h2) (by simpa using h3)
end Go.Proofs.Ytjdanfhbccpnpaa

