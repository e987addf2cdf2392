import Derived.Test.YtcdgmjpgmiehcaaOpGs
import Derived.Test.YtcdgmjpgmiehcaaBbMs
/- base.Reserved. (Written by wip/resbgen.py.) -/
namespace Go.Proofs.Ytcdgmjpgmiehcaa
open Go.RowKit Go.Shelf

theorem beq_turn (a b : List UInt8) : (a == b) = (b == a) := by rw [Bool.eq_iff_iff, beq_iff_eq, beq_iff_eq]; exact eq_comm
theorem res0_eq (l : List UInt8) (hc : (l == [99, 97, 108, 108]) = false) : resB l 0 = ((l == [116, 114, 117, 101]) || ((l == [102, 97, 105, 108]) || ((l == [33]) || ((l == [110, 108]))))) := by
  have e : resB l 0 = resN0.any (fun x => x.toList == l) := by unfold resB; rw [hc]; rfl
  rw [e]
  simp only [resN0, List.any_cons, List.any_nil, Bool.or_false]
  rw [show (⟨#[116, 114, 117, 101]⟩ : ByteArray).toList = [116, 114, 117, 101] by decide +kernel, beq_turn [116, 114, 117, 101] l]
  rw [show (⟨#[102, 97, 105, 108]⟩ : ByteArray).toList = [102, 97, 105, 108] by decide +kernel, beq_turn [102, 97, 105, 108] l]
  rw [show (⟨#[33]⟩ : ByteArray).toList = [33] by decide +kernel, beq_turn [33] l]
  rw [show (⟨#[110, 108]⟩ : ByteArray).toList = [110, 108] by decide +kernel, beq_turn [110, 108] l]
theorem res1_eq (l : List UInt8) (hc : (l == [99, 97, 108, 108]) = false) : resB l 1 = ((l == [92, 43]) || ((l == [116, 104, 114, 111, 119]) || ((l == [118, 97, 114]) || ((l == [110, 111, 110, 118, 97, 114]) || ((l == [97, 116, 111, 109]) || ((l == [105, 110, 116, 101, 103, 101, 114]) || ((l == [97, 116, 111, 109, 105, 99]) || ((l == [99, 111, 109, 112, 111, 117, 110, 100]) || ((l == [99, 97, 108, 108, 97, 98, 108, 101]) || ((l == [103, 114, 111, 117, 110, 100]) || ((l == [97, 115, 115, 101, 114, 116, 122]) || ((l == [97, 115, 115, 101, 114, 116, 97]) || ((l == [114, 101, 116, 114, 97, 99, 116]) || ((l == [112, 114, 105, 110, 116]) || ((l == [58, 45])))))))))))))))) := by
  have e : resB l 1 = resN1.any (fun x => x.toList == l) := by unfold resB; rw [hc]; rfl
  rw [e]
  simp only [resN1, List.any_cons, List.any_nil, Bool.or_false]
  rw [show (⟨#[92, 43]⟩ : ByteArray).toList = [92, 43] by decide +kernel, beq_turn [92, 43] l]
  rw [show (⟨#[116, 104, 114, 111, 119]⟩ : ByteArray).toList = [116, 104, 114, 111, 119] by decide +kernel, beq_turn [116, 104, 114, 111, 119] l]
  rw [show (⟨#[118, 97, 114]⟩ : ByteArray).toList = [118, 97, 114] by decide +kernel, beq_turn [118, 97, 114] l]
  rw [show (⟨#[110, 111, 110, 118, 97, 114]⟩ : ByteArray).toList = [110, 111, 110, 118, 97, 114] by decide +kernel, beq_turn [110, 111, 110, 118, 97, 114] l]
  rw [show (⟨#[97, 116, 111, 109]⟩ : ByteArray).toList = [97, 116, 111, 109] by decide +kernel, beq_turn [97, 116, 111, 109] l]
  rw [show (⟨#[105, 110, 116, 101, 103, 101, 114]⟩ : ByteArray).toList = [105, 110, 116, 101, 103, 101, 114] by decide +kernel, beq_turn [105, 110, 116, 101, 103, 101, 114] l]
  rw [show (⟨#[97, 116, 111, 109, 105, 99]⟩ : ByteArray).toList = [97, 116, 111, 109, 105, 99] by decide +kernel, beq_turn [97, 116, 111, 109, 105, 99] l]
  rw [show (⟨#[99, 111, 109, 112, 111, 117, 110, 100]⟩ : ByteArray).toList = [99, 111, 109, 112, 111, 117, 110, 100] by decide +kernel, beq_turn [99, 111, 109, 112, 111, 117, 110, 100] l]
  rw [show (⟨#[99, 97, 108, 108, 97, 98, 108, 101]⟩ : ByteArray).toList = [99, 97, 108, 108, 97, 98, 108, 101] by decide +kernel, beq_turn [99, 97, 108, 108, 97, 98, 108, 101] l]
  rw [show (⟨#[103, 114, 111, 117, 110, 100]⟩ : ByteArray).toList = [103, 114, 111, 117, 110, 100] by decide +kernel, beq_turn [103, 114, 111, 117, 110, 100] l]
  rw [show (⟨#[97, 115, 115, 101, 114, 116, 122]⟩ : ByteArray).toList = [97, 115, 115, 101, 114, 116, 122] by decide +kernel, beq_turn [97, 115, 115, 101, 114, 116, 122] l]
  rw [show (⟨#[97, 115, 115, 101, 114, 116, 97]⟩ : ByteArray).toList = [97, 115, 115, 101, 114, 116, 97] by decide +kernel, beq_turn [97, 115, 115, 101, 114, 116, 97] l]
  rw [show (⟨#[114, 101, 116, 114, 97, 99, 116]⟩ : ByteArray).toList = [114, 101, 116, 114, 97, 99, 116] by decide +kernel, beq_turn [114, 101, 116, 114, 97, 99, 116] l]
  rw [show (⟨#[112, 114, 105, 110, 116]⟩ : ByteArray).toList = [112, 114, 105, 110, 116] by decide +kernel, beq_turn [112, 114, 105, 110, 116] l]
  rw [show (⟨#[58, 45]⟩ : ByteArray).toList = [58, 45] by decide +kernel, beq_turn [58, 45] l]
theorem res2_eq (l : List UInt8) (hc : (l == [99, 97, 108, 108]) = false) : resB l 2 = ((l == [44]) || ((l == [59]) || ((l == [45, 62]) || ((l == [61]) || ((l == [92, 61]) || ((l == [61, 61]) || ((l == [92, 61, 61]) || ((l == [64, 60]) || ((l == [64, 62]) || ((l == [64, 61, 60]) || ((l == [64, 62, 61]) || ((l == [61, 46, 46]) || ((l == [99, 111, 112, 121, 95, 116, 101, 114, 109]) || ((l == [105, 115]) || ((l == [61, 58, 61]) || ((l == [61, 92, 61]) || ((l == [60]) || ((l == [62]) || ((l == [61, 60]) || ((l == [62, 61]) || ((l == [97, 116, 111, 109, 95, 108, 101, 110, 103, 116, 104]) || ((l == [97, 116, 111, 109, 95, 99, 104, 97, 114, 115]) || ((l == [108, 101, 110, 103, 116, 104]) || ((l == [115, 111, 114, 116]) || ((l == [58, 45]) || ((l == [45, 45, 62]))))))))))))))))))))))))))) := by
  have e : resB l 2 = resN2.any (fun x => x.toList == l) := by unfold resB; rw [hc]; rfl
  rw [e]
  simp only [resN2, List.any_cons, List.any_nil, Bool.or_false]
  rw [show (⟨#[44]⟩ : ByteArray).toList = [44] by decide +kernel, beq_turn [44] l]
  rw [show (⟨#[59]⟩ : ByteArray).toList = [59] by decide +kernel, beq_turn [59] l]
  rw [show (⟨#[45, 62]⟩ : ByteArray).toList = [45, 62] by decide +kernel, beq_turn [45, 62] l]
  rw [show (⟨#[61]⟩ : ByteArray).toList = [61] by decide +kernel, beq_turn [61] l]
  rw [show (⟨#[92, 61]⟩ : ByteArray).toList = [92, 61] by decide +kernel, beq_turn [92, 61] l]
  rw [show (⟨#[61, 61]⟩ : ByteArray).toList = [61, 61] by decide +kernel, beq_turn [61, 61] l]
  rw [show (⟨#[92, 61, 61]⟩ : ByteArray).toList = [92, 61, 61] by decide +kernel, beq_turn [92, 61, 61] l]
  rw [show (⟨#[64, 60]⟩ : ByteArray).toList = [64, 60] by decide +kernel, beq_turn [64, 60] l]
  rw [show (⟨#[64, 62]⟩ : ByteArray).toList = [64, 62] by decide +kernel, beq_turn [64, 62] l]
  rw [show (⟨#[64, 61, 60]⟩ : ByteArray).toList = [64, 61, 60] by decide +kernel, beq_turn [64, 61, 60] l]
  rw [show (⟨#[64, 62, 61]⟩ : ByteArray).toList = [64, 62, 61] by decide +kernel, beq_turn [64, 62, 61] l]
  rw [show (⟨#[61, 46, 46]⟩ : ByteArray).toList = [61, 46, 46] by decide +kernel, beq_turn [61, 46, 46] l]
  rw [show (⟨#[99, 111, 112, 121, 95, 116, 101, 114, 109]⟩ : ByteArray).toList = [99, 111, 112, 121, 95, 116, 101, 114, 109] by decide +kernel, beq_turn [99, 111, 112, 121, 95, 116, 101, 114, 109] l]
  rw [show (⟨#[105, 115]⟩ : ByteArray).toList = [105, 115] by decide +kernel, beq_turn [105, 115] l]
  rw [show (⟨#[61, 58, 61]⟩ : ByteArray).toList = [61, 58, 61] by decide +kernel, beq_turn [61, 58, 61] l]
  rw [show (⟨#[61, 92, 61]⟩ : ByteArray).toList = [61, 92, 61] by decide +kernel, beq_turn [61, 92, 61] l]
  rw [show (⟨#[60]⟩ : ByteArray).toList = [60] by decide +kernel, beq_turn [60] l]
  rw [show (⟨#[62]⟩ : ByteArray).toList = [62] by decide +kernel, beq_turn [62] l]
  rw [show (⟨#[61, 60]⟩ : ByteArray).toList = [61, 60] by decide +kernel, beq_turn [61, 60] l]
  rw [show (⟨#[62, 61]⟩ : ByteArray).toList = [62, 61] by decide +kernel, beq_turn [62, 61] l]
  rw [show (⟨#[97, 116, 111, 109, 95, 108, 101, 110, 103, 116, 104]⟩ : ByteArray).toList = [97, 116, 111, 109, 95, 108, 101, 110, 103, 116, 104] by decide +kernel, beq_turn [97, 116, 111, 109, 95, 108, 101, 110, 103, 116, 104] l]
  rw [show (⟨#[97, 116, 111, 109, 95, 99, 104, 97, 114, 115]⟩ : ByteArray).toList = [97, 116, 111, 109, 95, 99, 104, 97, 114, 115] by decide +kernel, beq_turn [97, 116, 111, 109, 95, 99, 104, 97, 114, 115] l]
  rw [show (⟨#[108, 101, 110, 103, 116, 104]⟩ : ByteArray).toList = [108, 101, 110, 103, 116, 104] by decide +kernel, beq_turn [108, 101, 110, 103, 116, 104] l]
  rw [show (⟨#[115, 111, 114, 116]⟩ : ByteArray).toList = [115, 111, 114, 116] by decide +kernel, beq_turn [115, 111, 114, 116] l]
  rw [show (⟨#[58, 45]⟩ : ByteArray).toList = [58, 45] by decide +kernel, beq_turn [58, 45] l]
  rw [show (⟨#[45, 45, 62]⟩ : ByteArray).toList = [45, 45, 62] by decide +kernel, beq_turn [45, 45, 62] l]
theorem res3_eq (l : List UInt8) (hc : (l == [99, 97, 108, 108]) = false) : resB l 3 = ((l == [99, 97, 116, 99, 104]) || ((l == [102, 105, 110, 100, 97, 108, 108]) || ((l == [99, 111, 109, 112, 97, 114, 101]) || ((l == [102, 117, 110, 99, 116, 111, 114]) || ((l == [97, 114, 103]) || ((l == [98, 101, 116, 119, 101, 101, 110]))))))) := by
  have e : resB l 3 = resN3.any (fun x => x.toList == l) := by unfold resB; rw [hc]; rfl
  rw [e]
  simp only [resN3, List.any_cons, List.any_nil, Bool.or_false]
  rw [show (⟨#[99, 97, 116, 99, 104]⟩ : ByteArray).toList = [99, 97, 116, 99, 104] by decide +kernel, beq_turn [99, 97, 116, 99, 104] l]
  rw [show (⟨#[102, 105, 110, 100, 97, 108, 108]⟩ : ByteArray).toList = [102, 105, 110, 100, 97, 108, 108] by decide +kernel, beq_turn [102, 105, 110, 100, 97, 108, 108] l]
  rw [show (⟨#[99, 111, 109, 112, 97, 114, 101]⟩ : ByteArray).toList = [99, 111, 109, 112, 97, 114, 101] by decide +kernel, beq_turn [99, 111, 109, 112, 97, 114, 101] l]
  rw [show (⟨#[102, 117, 110, 99, 116, 111, 114]⟩ : ByteArray).toList = [102, 117, 110, 99, 116, 111, 114] by decide +kernel, beq_turn [102, 117, 110, 99, 116, 111, 114] l]
  rw [show (⟨#[97, 114, 103]⟩ : ByteArray).toList = [97, 114, 103] by decide +kernel, beq_turn [97, 114, 103] l]
  rw [show (⟨#[98, 101, 116, 119, 101, 101, 110]⟩ : ByteArray).toList = [98, 101, 116, 119, 101, 101, 110] by decide +kernel, beq_turn [98, 101, 116, 119, 101, 101, 110] l]
set_option maxRecDepth 100000 in
set_option maxHeartbeats 8000000 in
theorem bres_0 (s : ByteArray) (w : World) (hc : (s.toList == [99, 97, 108, 108]) = false) :
    Calls Try.prog 44 #[.string s, .int .i64 0] w fun e W' => e = .returned (.bool (resB s.toList 0)) ∧ Below w.heap.size w W' := by
  rw [res0_eq _ hc]
  go_enter Try.func44, Try.ntmps44
  go_wp2
  all_goals go_ret
  all_goals refine ⟨?_, Below.refl _ _⟩
  all_goals simp_all
set_option maxRecDepth 100000 in
set_option maxHeartbeats 8000000 in
theorem bres_1 (s : ByteArray) (w : World) (hc : (s.toList == [99, 97, 108, 108]) = false) :
    Calls Try.prog 44 #[.string s, .int .i64 1] w fun e W' => e = .returned (.bool (resB s.toList 1)) ∧ Below w.heap.size w W' := by
  rw [res1_eq _ hc]
  go_enter Try.func44, Try.ntmps44
  go_wp2
  all_goals go_ret
  all_goals refine ⟨?_, Below.refl _ _⟩
  all_goals simp_all
set_option maxRecDepth 100000 in
set_option maxHeartbeats 8000000 in
theorem bres_2 (s : ByteArray) (w : World) (hc : (s.toList == [99, 97, 108, 108]) = false) :
    Calls Try.prog 44 #[.string s, .int .i64 2] w fun e W' => e = .returned (.bool (resB s.toList 2)) ∧ Below w.heap.size w W' := by
  rw [res2_eq _ hc]
  go_enter Try.func44, Try.ntmps44
  go_wp2
  all_goals go_ret
  all_goals refine ⟨?_, Below.refl _ _⟩
  all_goals simp_all
set_option maxRecDepth 100000 in
set_option maxHeartbeats 8000000 in
theorem bres_3 (s : ByteArray) (w : World) (hc : (s.toList == [99, 97, 108, 108]) = false) :
    Calls Try.prog 44 #[.string s, .int .i64 3] w fun e W' => e = .returned (.bool (resB s.toList 3)) ∧ Below w.heap.size w W' := by
  rw [res3_eq _ hc]
  go_enter Try.func44, Try.ntmps44
  go_wp2
  all_goals go_ret
  all_goals refine ⟨?_, Below.refl _ _⟩
  all_goals simp_all
set_option maxRecDepth 100000 in
set_option maxHeartbeats 8000000 in
theorem bres_call (s : ByteArray) (n : Int) (w : World) (hc : (s.toList == [99, 97, 108, 108]) = true) :
    Calls Try.prog 44 #[.string s, .int .i64 n] w fun e W' => e = .returned (.bool (resB s.toList n)) ∧ Below w.heap.size w W' := by
  have e : resB s.toList n = (decide (1 ≤ n) && decide (n ≤ 8)) := by unfold resB; rw [hc]; rfl
  rw [e]
  clear e
  go_enter Try.func44, Try.ntmps44
  go_wp2
  all_goals go_ret
  all_goals refine ⟨?_, Below.refl _ _⟩
  all_goals first | (simp_all; done) | (simp_all; omega)
set_option maxRecDepth 100000 in
set_option maxHeartbeats 8000000 in
theorem bres_far (s : ByteArray) (n : Int) (w : World) (hc : (s.toList == [99, 97, 108, 108]) = false) (h0 : (n == 0) = false) (h1 : (n == 1) = false) (h2 : (n == 2) = false) (h3 : (n == 3) = false) :
    Calls Try.prog 44 #[.string s, .int .i64 n] w fun e W' => e = .returned (.bool (resB s.toList n)) ∧ Below w.heap.size w W' := by
  have e : resB s.toList n = false := by
    unfold resB
    rw [hc, if_neg (by simp), if_neg (by simpa using h0), if_neg (by simpa using h1), if_neg (by simpa using h2), if_neg (by simpa using h3)]
  rw [e]
  clear e
  go_enter Try.func44, Try.ntmps44
  go_wp2
  all_goals go_ret
  all_goals refine ⟨?_, Below.refl _ _⟩
  all_goals simp_all
theorem bres_any (s : ByteArray) (n : Int) (w : World) :
    Calls Try.prog 44 #[.string s, .int .i64 n] w fun e W' => e = .returned (.bool (resB s.toList n)) ∧ Below w.heap.size w W' := by
  cases hc : (s.toList == [99, 97, 108, 108]) with
  | true => exact bres_call s n w hc
  | false =>
    by_cases h0 : n = 0
    · subst h0; exact bres_0 s w hc
    · by_cases h1 : n = 1
      · subst h1; exact bres_1 s w hc
      · by_cases h2 : n = 2
        · subst h2; exact bres_2 s w hc
        · by_cases h3 : n = 3
          · subst h3; exact bres_3 s w hc
          · exact bres_far s n w hc (by simpa using h0) (by simpa using h1) (by simpa using h2) (by simpa using h3)
end Go.Proofs.Ytcdgmjpgmiehcaa

/- grammar.isOf, formOf, isList, checkExtended, checkHead. (Written by wip/grformgen.py.) -/
namespace Go.Proofs.Ytcdgmjpgmiehcaa
open Go.RowKit Go.Shelf

theorem gis_any (x : TV) (s : ByteArray) (n : Int) (w : World) : Calls Try.prog 20 #[x.val, .string s, .int .i64 n] w fun e W' => e = .returned (.bool (isB x s.toList n)) ∧ Below w.heap.size w W' := by
  obtain ⟨k, N, xs, a, len, cap⟩ := x
  simp only [TV.val]
  by_cases h3 : k = 3
  · subst h3
    go_enter Try.func20, Try.ntmps20
    go_wp2
    all_goals go_ret
    all_goals refine ⟨?_, (Below.refl _ w).alloc (Nat.le_refl _) _⟩
    all_goals simp_all [isB]
  · have h3' : (k == 3) = false := by simp [h3]
    by_cases h4 : k = 4
    · subst h4
      go_enter Try.func20, Try.ntmps20
      go_wp2
      all_goals go_ret
      all_goals refine ⟨?_, (Below.refl _ w).alloc (Nat.le_refl _) _⟩
      all_goals simp_all [isB]
    · have h4' : (k == 4) = false := by simp [h4]
      have HV : Hid (isB ⟨k, N, xs, a, len, cap⟩ s.toList n = false) := by show isB _ _ _ = _; simp [isB, h3, h4]
      clear h3 h4
      go_enter Try.func20, Try.ntmps20
      go_wp2
      all_goals go_ret
      all_goals exact ⟨by rw [HV.out]; rfl, (Below.refl _ w).alloc (Nat.le_refl _) _⟩

theorem bytes_ext {s t : ByteArray} (h : s.toList = t.toList) : s = t := by
  rw [ByteArray.toList_eq, ByteArray.toList_eq] at h
  exact ByteArray.ext (Array.toList_inj.1 h)
theorem l44 : (⟨#[44]⟩ : ByteArray).toList = [44] := by decide +kernel
theorem lar : (⟨#[45, 62]⟩ : ByteArray).toList = [45, 62] := by decide +kernel
theorem lse : (⟨#[59]⟩ : ByteArray).toList = [59] := by decide +kernel
theorem lno : (⟨#[92, 43]⟩ : ByteArray).toList = [92, 43] := by decide +kernel
theorem lni : (⟨#[91, 93]⟩ : ByteArray).toList = [91, 93] := by decide +kernel
theorem ldo : (⟨#[46]⟩ : ByteArray).toList = [46] := by decide +kernel
theorem lcu : (⟨#[123, 125]⟩ : ByteArray).toList = [123, 125] := by decide +kernel
theorem lbx : (⟨#[33]⟩ : ByteArray).toList = [33] := by decide +kernel

set_option maxRecDepth 100000 in
set_option maxHeartbeats 4000000 in
theorem form_any (x : TV) (w : World) : Calls Try.prog 33 #[x.val] w fun e W' => e = .returned (.int .i64 (formB x)) ∧ Below w.heap.size w W' := by
  have HI : Hid (∀ V (s : ByteArray) (n : Int), Calls Try.prog 20 #[x.val, .string s, .int .i64 n] V fun e W' => e = .returned (.bool (isB x s.toList n)) ∧ Below V.heap.size V W') := hide fun V s n => gis_any x s n V
  have HX : Hid (formB x = formB x) := rfl
  obtain ⟨k, N, xs, a, len, cap⟩ := x
  obtain ⟨W1, hW1⟩ : ∃ W1, w.alloc (.cells #[.int .i64 k, .int .i64 N, .string xs, .slice a len cap] 24) = W1 := ⟨_, rfl⟩
  have bT : BoxT W1 w.heap.size ⟨k, N, xs, a, len, cap⟩ := by rw [← hW1]; exact BoxT.new w ⟨k, N, xs, a, len, cap⟩
  have GW : Hid (Below w.heap.size w W1) := by rw [← hW1]; exact (Below.refl _ w).alloc (Nat.le_refl _) _
  have s1 : W1.heap.size = w.heap.size + 1 := by rw [← hW1]; simp
  simp only [TV.val] at HI ⊢
  have c0 := bT.c0
  have c1 := bT.c1
  have c2 := bT.c2
  have c3 := bT.c3
  simp only at c0 c1 c2 c3
  have HB := hide bT
  clear bT
  by_cases k2 : k = 2
  · subst k2
    have HF : Hid (formB ⟨2, N, xs, a, len, cap⟩ = 0) := rfl
    clear HX HI
    go_enter Try.func33, Try.ntmps33
    go_wp2_with fail
    try rw [hW1]
    go_wp2_with fail
    all_goals go_ret
    all_goals exact ⟨by rw [unhide HF]; rfl, unhide GW⟩
  have k2' : (k == 2) = false := by simp [k2]
  by_cases k1 : k = 1
  · subst k1
    have HF : Hid (formB ⟨1, N, xs, a, len, cap⟩ = 1) := rfl
    clear HX HI
    go_enter Try.func33, Try.ntmps33
    go_wp2_with fail
    try rw [hW1]
    go_wp2_with fail
    all_goals go_ret
    all_goals exact ⟨by rw [unhide HF]; rfl, unhide GW⟩
  have k1' : (k == 1) = false := by simp [k1]
  have HF : Hid (formB ⟨k, N, xs, a, len, cap⟩ = (if (isB ⟨k, N, xs, a, len, cap⟩ [44] 2 || isB ⟨k, N, xs, a, len, cap⟩ [45, 62] 2) = true then 2 else if isB ⟨k, N, xs, a, len, cap⟩ [59] 2 = true then 3 else if isB ⟨k, N, xs, a, len, cap⟩ [92, 43] 1 = true then 4 else if (isB ⟨k, N, xs, a, len, cap⟩ [91, 93] 0 || isB ⟨k, N, xs, a, len, cap⟩ [46] 2) = true then 5 else if (isB ⟨k, N, xs, a, len, cap⟩ [123, 125] 0 || isB ⟨k, N, xs, a, len, cap⟩ [123, 125] 1) = true then 6 else if isB ⟨k, N, xs, a, len, cap⟩ [33] 0 = true then 7 else if (decide (xs.toList = callL) && decide (0 < len)) = true then 8 else 9)) := by
    show formB _ = _
    unfold formB
    rw [if_neg (show ¬ (⟨k, N, xs, a, len, cap⟩ : TV).k = 2 from k2), if_neg (show ¬ (⟨k, N, xs, a, len, cap⟩ : TV).k = 1 from k1)]
  clear k1 k2 HX
  obtain ⟨x, hx⟩ : ∃ x : TV, (⟨k, N, xs, a, len, cap⟩ : TV) = x := ⟨_, rfl⟩
  rw [hx] at HI HF HB ⊢
  have HC0 := hide hx
  clear hx
  go_enter Try.func33, Try.ntmps33
  go_wp2_with fail
  try rw [hW1]
  refine ((unhide HI) W1 _ _).mono ?_
  rintro e V1 ⟨rfl, g1⟩
  have HB := hide ((unhide HB).below g1 (unhide HB).lt)
  have GW := hide ((unhide GW).trans (g1.mono (by have := (unhide GW).size; omega)))
  have c0 := (unhide HB).c0
  have c1 := (unhide HB).c1
  have c2 := (unhide HB).c2
  have c3 := (unhide HB).c3
  rw [← unhide HC0] at c0 c1 c2 c3
  simp only at c0 c1 c2 c3
  rw [l44]
  clear g1
  cases q1 : isB x [44] 2 with
  | true =>
    go_wp2_with fail
    all_goals go_ret
    all_goals exact ⟨by rw [unhide HF, q1]; rfl, unhide GW⟩
  | false =>
    go_wp2_with fail
    refine ((unhide HI) V1 _ _).mono ?_
    rintro e V2 ⟨rfl, g2⟩
    have HB := hide ((unhide HB).below g2 (unhide HB).lt)
    have GW := hide ((unhide GW).trans (g2.mono (by have := (unhide GW).size; omega)))
    have c0 := (unhide HB).c0
    have c1 := (unhide HB).c1
    have c2 := (unhide HB).c2
    have c3 := (unhide HB).c3
    rw [← unhide HC0] at c0 c1 c2 c3
    simp only at c0 c1 c2 c3
    rw [lar]
    clear g2
    cases q2 : isB x [45, 62] 2 with
    | true =>
      go_wp2_with fail
      all_goals go_ret
      all_goals exact ⟨by rw [unhide HF, q1, q2]; rfl, unhide GW⟩
    | false =>
      go_wp2_with fail
      refine ((unhide HI) V2 _ _).mono ?_
      rintro e V3 ⟨rfl, g3⟩
      have HB := hide ((unhide HB).below g3 (unhide HB).lt)
      have GW := hide ((unhide GW).trans (g3.mono (by have := (unhide GW).size; omega)))
      have c0 := (unhide HB).c0
      have c1 := (unhide HB).c1
      have c2 := (unhide HB).c2
      have c3 := (unhide HB).c3
      rw [← unhide HC0] at c0 c1 c2 c3
      simp only at c0 c1 c2 c3
      rw [lse]
      clear g3
      cases q3 : isB x [59] 2 with
      | true =>
        go_wp2_with fail
        all_goals go_ret
        all_goals exact ⟨by rw [unhide HF, q1, q2, q3]; rfl, unhide GW⟩
      | false =>
        go_wp2_with fail
        refine ((unhide HI) V3 _ _).mono ?_
        rintro e V4 ⟨rfl, g4⟩
        have HB := hide ((unhide HB).below g4 (unhide HB).lt)
        have GW := hide ((unhide GW).trans (g4.mono (by have := (unhide GW).size; omega)))
        have c0 := (unhide HB).c0
        have c1 := (unhide HB).c1
        have c2 := (unhide HB).c2
        have c3 := (unhide HB).c3
        rw [← unhide HC0] at c0 c1 c2 c3
        simp only at c0 c1 c2 c3
        rw [lno]
        clear g4
        cases q4 : isB x [92, 43] 1 with
        | true =>
          go_wp2_with fail
          all_goals go_ret
          all_goals exact ⟨by rw [unhide HF, q1, q2, q3, q4]; rfl, unhide GW⟩
        | false =>
          go_wp2_with fail
          refine ((unhide HI) V4 _ _).mono ?_
          rintro e V5 ⟨rfl, g5⟩
          have HB := hide ((unhide HB).below g5 (unhide HB).lt)
          have GW := hide ((unhide GW).trans (g5.mono (by have := (unhide GW).size; omega)))
          have c0 := (unhide HB).c0
          have c1 := (unhide HB).c1
          have c2 := (unhide HB).c2
          have c3 := (unhide HB).c3
          rw [← unhide HC0] at c0 c1 c2 c3
          simp only at c0 c1 c2 c3
          rw [lni]
          clear g5
          cases q5 : isB x [91, 93] 0 with
          | true =>
            go_wp2_with fail
            all_goals go_ret
            all_goals exact ⟨by rw [unhide HF, q1, q2, q3, q4, q5]; rfl, unhide GW⟩
          | false =>
            go_wp2_with fail
            refine ((unhide HI) V5 _ _).mono ?_
            rintro e V6 ⟨rfl, g6⟩
            have HB := hide ((unhide HB).below g6 (unhide HB).lt)
            have GW := hide ((unhide GW).trans (g6.mono (by have := (unhide GW).size; omega)))
            have c0 := (unhide HB).c0
            have c1 := (unhide HB).c1
            have c2 := (unhide HB).c2
            have c3 := (unhide HB).c3
            rw [← unhide HC0] at c0 c1 c2 c3
            simp only at c0 c1 c2 c3
            rw [ldo]
            clear g6
            cases q6 : isB x [46] 2 with
            | true =>
              go_wp2_with fail
              all_goals go_ret
              all_goals exact ⟨by rw [unhide HF, q1, q2, q3, q4, q5, q6]; rfl, unhide GW⟩
            | false =>
              go_wp2_with fail
              refine ((unhide HI) V6 _ _).mono ?_
              rintro e V7 ⟨rfl, g7⟩
              have HB := hide ((unhide HB).below g7 (unhide HB).lt)
              have GW := hide ((unhide GW).trans (g7.mono (by have := (unhide GW).size; omega)))
              have c0 := (unhide HB).c0
              have c1 := (unhide HB).c1
              have c2 := (unhide HB).c2
              have c3 := (unhide HB).c3
              rw [← unhide HC0] at c0 c1 c2 c3
              simp only at c0 c1 c2 c3
              rw [lcu]
              clear g7
              cases q7 : isB x [123, 125] 0 with
              | true =>
                go_wp2_with fail
                all_goals go_ret
                all_goals exact ⟨by rw [unhide HF, q1, q2, q3, q4, q5, q6, q7]; rfl, unhide GW⟩
              | false =>
                go_wp2_with fail
                refine ((unhide HI) V7 _ _).mono ?_
                rintro e V8 ⟨rfl, g8⟩
                have HB := hide ((unhide HB).below g8 (unhide HB).lt)
                have GW := hide ((unhide GW).trans (g8.mono (by have := (unhide GW).size; omega)))
                have c0 := (unhide HB).c0
                have c1 := (unhide HB).c1
                have c2 := (unhide HB).c2
                have c3 := (unhide HB).c3
                rw [← unhide HC0] at c0 c1 c2 c3
                simp only at c0 c1 c2 c3
                rw [lcu]
                clear g8
                cases q8 : isB x [123, 125] 1 with
                | true =>
                  go_wp2_with fail
                  all_goals go_ret
                  all_goals exact ⟨by rw [unhide HF, q1, q2, q3, q4, q5, q6, q7, q8]; rfl, unhide GW⟩
                | false =>
                  go_wp2_with fail
                  refine ((unhide HI) V8 _ _).mono ?_
                  rintro e V9 ⟨rfl, g9⟩
                  have HB := hide ((unhide HB).below g9 (unhide HB).lt)
                  have GW := hide ((unhide GW).trans (g9.mono (by have := (unhide GW).size; omega)))
                  have c0 := (unhide HB).c0
                  have c1 := (unhide HB).c1
                  have c2 := (unhide HB).c2
                  have c3 := (unhide HB).c3
                  rw [← unhide HC0] at c0 c1 c2 c3
                  simp only at c0 c1 c2 c3
                  rw [lbx]
                  clear g9
                  cases q9 : isB x [33] 0 with
                  | true =>
                    go_wp2_with fail
                    all_goals go_ret
                    all_goals exact ⟨by rw [unhide HF, q1, q2, q3, q4, q5, q6, q7, q8, q9]; rfl, unhide GW⟩
                  | false =>
                    have HQ := hide (show formB x = if (decide (xs.toList = callL) && decide (0 < len)) = true then 8 else 9 by rw [unhide HF, q1, q2, q3, q4, q5, q6, q7, q8, q9]; rfl)
                    clear HF HI q1 q2 q3 q4 q5 q6 q7 q8 q9
                    by_cases hc : xs = ⟨#[99, 97, 108, 108]⟩
                    · subst hc
                      cases len with
                      | zero =>
                        go_wp2_with fail
                        all_goals go_ret
                        all_goals exact ⟨by rw [unhide HQ, callL_eq]; rfl, unhide GW⟩
                      | succ len =>
                        have hp : (0 : Int) < ((len + 1 : Nat) : Int) := by omega
                        go_wp2_with fail
                        all_goals go_ret
                        all_goals exact ⟨by rw [unhide HQ, callL_eq]; simp, unhide GW⟩
                    · have hl : ¬ xs.toList = callL := fun h => hc (bytes_ext (h.trans callL_eq.symm))
                      go_wp2_with fail
                      all_goals go_ret
                      all_goals exact ⟨by rw [unhide HQ]; simp [hl], unhide GW⟩
end Go.Proofs.Ytcdgmjpgmiehcaa

/- base.isOfTwo, isCallable, isReserved. -/
namespace Go.Proofs.Ytcdgmjpgmiehcaa
open Go.RowKit Go.Shelf

/-- A compound of a name with two Args? -/
def isC (x : TV) (s : List UInt8) : Bool := decide (x.k = 4) && (decide (x.s.toList = s) && ((x.len : Int) == 2))
theorem isC_isB {x : TV} (h : wmB x.k x.N x.s x.len = true) (s : List UInt8) : isC x s = isB x s 2 := by
  unfold isC isB
  by_cases k4 : x.k = 4
  · simp [k4]
  · have : (x.len : Int) == 2 → x.k ≠ 3 := fun hl hk => by
      rcases wm_cases h with ⟨h1, _⟩ | ⟨_, h1⟩ | ⟨h1, _⟩
      · omega
      · rw [h1] at hl; simp at hl
      · exact k4 h1
    by_cases k3 : x.k = 3
    · have hl : ((x.len : Int) == 2) = false := by
        cases he : ((x.len : Int) == 2) with
        | false => rfl
        | true => exact (this he k3).elim
      simp [hl, k4]
    · simp [k3, k4]
set_option maxHeartbeats 1000000 in
theorem isOfTwo_any (x : TV) (s : ByteArray) (w : World) : Calls Try.prog 62 #[x.val, .string s] w fun e W' => e = .returned (.bool (isC x s.toList)) ∧ Below w.heap.size w W' := by
  obtain ⟨k, N, xs, a, len, cap⟩ := x
  simp only [TV.val]
  by_cases h4 : k = 4
  · subst h4
    go_enter Try.func62, Try.ntmps62
    go_wp2
    all_goals go_ret
    all_goals refine ⟨?_, (Below.refl _ w).alloc (Nat.le_refl _) _⟩
    all_goals simp_all [isC]
  · have h4' : (k == 4) = false := by simp [h4]
    have HV : Hid (isC ⟨k, N, xs, a, len, cap⟩ s.toList = false) := by show isC _ _ = _; simp [isC, h4]
    clear h4
    go_enter Try.func62, Try.ntmps62
    go_wp2
    all_goals go_ret
    all_goals exact ⟨by rw [HV.out]; rfl, (Below.refl _ w).alloc (Nat.le_refl _) _⟩
end Go.Proofs.Ytcdgmjpgmiehcaa

