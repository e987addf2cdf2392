import Derived.Test.YtlbobmebbllifaaGreatGs
import Derived.Test.YtlbobmebbllifaaGreatCs
import Derived.Outline
import Derived.Test.YtlbobmebbllifaaGreatKs
import Derived.Test.YtlbobmebbllifaaGreatF
/- base.Reserved. (Written by wip/resbgen.py.) -/
namespace Go.Proofs.YtlbobmebbllifaaGreat
set_option maxHeartbeats 8000000
set_option maxRecDepth 100000
open Go.RowKit Go.Shelf
theorem beq_turn (a b : List UInt8) : (a == b) = (b == a) := by rw [Bool.eq_iff_iff, beq_iff_eq, beq_iff_eq]; exact eq_comm
theorem res0_eq (l : List UInt8) (hc : (l == [99, 97, 108, 108]) = false) : resB l 0 = ((l == [116, 114, 117, 101]) || ((l == [102, 97, 105, 108]) || ((l == [33]) || ((l == [110, 108]))))) := by
 have e : resB l 0 = resN0.any (fun x => x.toList == l) := by unfold resB; rw [hc]; rfl
 rw [e]
 simp only [resN0, List.any_cons, List.any_nil, Bool.or_false]
 rw [show (⟨#[116, 114, 117, 101]⟩ : ByteArray).toList = [116, 114, 117, 101] by decide +kernel, beq_turn [116, 114, 117, 101] l]
 rw [show (⟨#[102, 97, 105, 108]⟩ : ByteArray).toList = [102, 97, 105, 108] by decide +kernel, beq_turn [102, 97, 105, 108] l]
 rw [show (⟨#[33]⟩ : ByteArray).toList = [33] by decide +kernel, beq_turn [33] l]
 rw [show (⟨#[110, 108]⟩ : ByteArray).toList = [110, 108] by decide +kernel, beq_turn [110, 108] l]
theorem res1_eq (l : List UInt8) (hc : (l == [99, 97, 108, 108]) = false) : resB l 1 = ((l == [92, 43]) || ((l == [116, 104, 114, 111, 119]) || ((l == [118, 97, 114]) || ((l == [110, 111, 110, 118, 97, 114]) || ((l == [97, 116, 111, 109]) || ((l == [105, 110, 116, 101, 103, 101, 114]) || ((l == [97, 116, 111, 109, 105, 99]) || ((l == [99, 111, 109, 112, 111, 117, 110, 100]) || ((l == [99, 97, 108, 108, 97, 98, 108, 101]) || ((l == [103, 114, 111, 117, 110, 100]) || ((l == [97, 115, 115, 101, 114, 116, 122]) || ((l == [97, 115, 115, 101, 114, 116, 97]) || ((l == [114, 101, 116, 114, 97, 99, 116]) || ((l == [112, 114, 105, 110, 116]) || ((l == [58, 45])))))))))))))))) := by
 have e : resB l 1 = resN1.any (fun x => x.toList == l) := by unfold resB; rw [hc]; rfl
 rw [e]
 simp only [resN1, List.any_cons, List.any_nil, Bool.or_false]
 rw [show (⟨#[92, 43]⟩ : ByteArray).toList = [92, 43] by decide +kernel, beq_turn [92, 43] l]
 rw [show (⟨#[116, 104, 114, 111, 119]⟩ : ByteArray).toList = [116, 104, 114, 111, 119] by decide +kernel, beq_turn [116, 104, 114, 111, 119] l]
 rw [show (⟨#[118, 97, 114]⟩ : ByteArray).toList = [118, 97, 114] by decide +kernel, beq_turn [118, 97, 114] l]
 rw [show (⟨#[110, 111, 110, 118, 97, 114]⟩ : ByteArray).toList = [110, 111, 110, 118, 97, 114] by decide +kernel, beq_turn [110, 111, 110, 118, 97, 114] l]
 rw [show (⟨#[97, 116, 111, 109]⟩ : ByteArray).toList = [97, 116, 111, 109] by decide +kernel, beq_turn [97, 116, 111, 109] l]
 rw [show (⟨#[105, 110, 116, 101, 103, 101, 114]⟩ : ByteArray).toList = [105, 110, 116, 101, 103, 101, 114] by decide +kernel, beq_turn [105, 110, 116, 101, 103, 101, 114] l]
 rw [show (⟨#[97, 116, 111, 109, 105, 99]⟩ : ByteArray).toList = [97, 116, 111, 109, 105, 99] by decide +kernel, beq_turn [97, 116, 111, 109, 105, 99] l]
 rw [show (⟨#[99, 111, 109, 112, 111, 117, 110, 100]⟩ : ByteArray).toList = [99, 111, 109, 112, 111, 117, 110, 100] by decide +kernel, beq_turn [99, 111, 109, 112, 111, 117, 110, 100] l]
 rw [show (⟨#[99, 97, 108, 108, 97, 98, 108, 101]⟩ : ByteArray).toList = [99, 97, 108, 108, 97, 98, 108, 101] by decide +kernel, beq_turn [99, 97, 108, 108, 97, 98, 108, 101] l]
 rw [show (⟨#[103, 114, 111, 117, 110, 100]⟩ : ByteArray).toList = [103, 114, 111, 117, 110, 100] by decide +kernel, beq_turn [103, 114, 111, 117, 110, 100] l]
 rw [show (⟨#[97, 115, 115, 101, 114, 116, 122]⟩ : ByteArray).toList = [97, 115, 115, 101, 114, 116, 122] by decide +kernel, beq_turn [97, 115, 115, 101, 114, 116, 122] l]
 rw [show (⟨#[97, 115, 115, 101, 114, 116, 97]⟩ : ByteArray).toList = [97, 115, 115, 101, 114, 116, 97] by decide +kernel, beq_turn [97, 115, 115, 101, 114, 116, 97] l]
 rw [show (⟨#[114, 101, 116, 114, 97, 99, 116]⟩ : ByteArray).toList = [114, 101, 116, 114, 97, 99, 116] by decide +kernel, beq_turn [114, 101, 116, 114, 97, 99, 116] l]
 rw [show (⟨#[112, 114, 105, 110, 116]⟩ : ByteArray).toList = [112, 114, 105, 110, 116] by decide +kernel, beq_turn [112, 114, 105, 110, 116] l]
 rw [show (⟨#[58, 45]⟩ : ByteArray).toList = [58, 45] by decide +kernel, beq_turn [58, 45] l]
theorem res2_eq (l : List UInt8) (hc : (l == [99, 97, 108, 108]) = false) : resB l 2 = ((l == [44]) || ((l == [59]) || ((l == [45, 62]) || ((l == [61]) || ((l == [92, 61]) || ((l == [61, 61]) || ((l == [92, 61, 61]) || ((l == [64, 60]) || ((l == [64, 62]) || ((l == [64, 61, 60]) || ((l == [64, 62, 61]) || ((l == [61, 46, 46]) || ((l == [99, 111, 112, 121, 95, 116, 101, 114, 109]) || ((l == [105, 115]) || ((l == [61, 58, 61]) || ((l == [61, 92, 61]) || ((l == [60]) || ((l == [62]) || ((l == [61, 60]) || ((l == [62, 61]) || ((l == [97, 116, 111, 109, 95, 108, 101, 110, 103, 116, 104]) || ((l == [97, 116, 111, 109, 95, 99, 104, 97, 114, 115]) || ((l == [108, 101, 110, 103, 116, 104]) || ((l == [115, 111, 114, 116]) || ((l == [58, 45]) || ((l == [45, 45, 62]))))))))))))))))))))))))))) := by
 have e : resB l 2 = resN2.any (fun x => x.toList == l) := by unfold resB; rw [hc]; rfl
 rw [e]
 simp only [resN2, List.any_cons, List.any_nil, Bool.or_false]
 rw [show (⟨#[44]⟩ : ByteArray).toList = [44] by decide +kernel, beq_turn [44] l]
 rw [show (⟨#[59]⟩ : ByteArray).toList = [59] by decide +kernel, beq_turn [59] l]
 rw [show (⟨#[45, 62]⟩ : ByteArray).toList = [45, 62] by decide +kernel, beq_turn [45, 62] l]
 rw [show (⟨#[61]⟩ : ByteArray).toList = [61] by decide +kernel, beq_turn [61] l]
 rw [show (⟨#[92, 61]⟩ : ByteArray).toList = [92, 61] by decide +kernel, beq_turn [92, 61] l]
 rw [show (⟨#[61, 61]⟩ : ByteArray).toList = [61, 61] by decide +kernel, beq_turn [61, 61] l]
 rw [show (⟨#[92, 61, 61]⟩ : ByteArray).toList = [92, 61, 61] by decide +kernel, beq_turn [92, 61, 61] l]
 rw [show (⟨#[64, 60]⟩ : ByteArray).toList = [64, 60] by decide +kernel, beq_turn [64, 60] l]
 rw [show (⟨#[64, 62]⟩ : ByteArray).toList = [64, 62] by decide +kernel, beq_turn [64, 62] l]
 rw [show (⟨#[64, 61, 60]⟩ : ByteArray).toList = [64, 61, 60] by decide +kernel, beq_turn [64, 61, 60] l]
 rw [show (⟨#[64, 62, 61]⟩ : ByteArray).toList = [64, 62, 61] by decide +kernel, beq_turn [64, 62, 61] l]
 rw [show (⟨#[61, 46, 46]⟩ : ByteArray).toList = [61, 46, 46] by decide +kernel, beq_turn [61, 46, 46] l]
 rw [show (⟨#[99, 111, 112, 121, 95, 116, 101, 114, 109]⟩ : ByteArray).toList = [99, 111, 112, 121, 95, 116, 101, 114, 109] by decide +kernel, beq_turn [99, 111, 112, 121, 95, 116, 101, 114, 109] l]
 rw [show (⟨#[105, 115]⟩ : ByteArray).toList = [105, 115] by decide +kernel, beq_turn [105, 115] l]
 rw [show (⟨#[61, 58, 61]⟩ : ByteArray).toList = [61, 58, 61] by decide +kernel, beq_turn [61, 58, 61] l]
 rw [show (⟨#[61, 92, 61]⟩ : ByteArray).toList = [61, 92, 61] by decide +kernel, beq_turn [61, 92, 61] l]
 rw [show (⟨#[60]⟩ : ByteArray).toList = [60] by decide +kernel, beq_turn [60] l]
 rw [show (⟨#[62]⟩ : ByteArray).toList = [62] by decide +kernel, beq_turn [62] l]
 rw [show (⟨#[61, 60]⟩ : ByteArray).toList = [61, 60] by decide +kernel, beq_turn [61, 60] l]
 rw [show (⟨#[62, 61]⟩ : ByteArray).toList = [62, 61] by decide +kernel, beq_turn [62, 61] l]
 rw [show (⟨#[97, 116, 111, 109, 95, 108, 101, 110, 103, 116, 104]⟩ : ByteArray).toList = [97, 116, 111, 109, 95, 108, 101, 110, 103, 116, 104] by decide +kernel, beq_turn [97, 116, 111, 109, 95, 108, 101, 110, 103, 116, 104] l]
 rw [show (⟨#[97, 116, 111, 109, 95, 99, 104, 97, 114, 115]⟩ : ByteArray).toList = [97, 116, 111, 109, 95, 99, 104, 97, 114, 115] by decide +kernel, beq_turn [97, 116, 111, 109, 95, 99, 104, 97, 114, 115] l]
 rw [show (⟨#[108, 101, 110, 103, 116, 104]⟩ : ByteArray).toList = [108, 101, 110, 103, 116, 104] by decide +kernel, beq_turn [108, 101, 110, 103, 116, 104] l]
 rw [show (⟨#[115, 111, 114, 116]⟩ : ByteArray).toList = [115, 111, 114, 116] by decide +kernel, beq_turn [115, 111, 114, 116] l]
 rw [show (⟨#[58, 45]⟩ : ByteArray).toList = [58, 45] by decide +kernel, beq_turn [58, 45] l]
 rw [show (⟨#[45, 45, 62]⟩ : ByteArray).toList = [45, 45, 62] by decide +kernel, beq_turn [45, 45, 62] l]
theorem res3_eq (l : List UInt8) (hc : (l == [99, 97, 108, 108]) = false) : resB l 3 = ((l == [99, 97, 116, 99, 104]) || ((l == [102, 105, 110, 100, 97, 108, 108]) || ((l == [99, 111, 109, 112, 97, 114, 101]) || ((l == [102, 117, 110, 99, 116, 111, 114]) || ((l == [97, 114, 103]) || ((l == [98, 101, 116, 119, 101, 101, 110]))))))) := by
 have e : resB l 3 = resN3.any (fun x => x.toList == l) := by unfold resB; rw [hc]; rfl
 rw [e]
 simp only [resN3, List.any_cons, List.any_nil, Bool.or_false]
 rw [show (⟨#[99, 97, 116, 99, 104]⟩ : ByteArray).toList = [99, 97, 116, 99, 104] by decide +kernel, beq_turn [99, 97, 116, 99, 104] l]
 rw [show (⟨#[102, 105, 110, 100, 97, 108, 108]⟩ : ByteArray).toList = [102, 105, 110, 100, 97, 108, 108] by decide +kernel, beq_turn [102, 105, 110, 100, 97, 108, 108] l]
 rw [show (⟨#[99, 111, 109, 112, 97, 114, 101]⟩ : ByteArray).toList = [99, 111, 109, 112, 97, 114, 101] by decide +kernel, beq_turn [99, 111, 109, 112, 97, 114, 101] l]
 rw [show (⟨#[102, 117, 110, 99, 116, 111, 114]⟩ : ByteArray).toList = [102, 117, 110, 99, 116, 111, 114] by decide +kernel, beq_turn [102, 117, 110, 99, 116, 111, 114] l]
 rw [show (⟨#[97, 114, 103]⟩ : ByteArray).toList = [97, 114, 103] by decide +kernel, beq_turn [97, 114, 103] l]
 rw [show (⟨#[98, 101, 116, 119, 101, 101, 110]⟩ : ByteArray).toList = [98, 101, 116, 119, 101, 101, 110] by decide +kernel, beq_turn [98, 101, 116, 119, 101, 101, 110] l]
theorem bres_0 (s : ByteArray) (w : World) (hc : (s.toList == [99, 97, 108, 108]) = false) :
  Calls Tryz.prog 46 #[.string s, .int .i64 0] w fun e W' => e = .returned (.bool (resB s.toList 0)) ∧ Below w.heap.size w W' := by
 rw [res0_eq _ hc]
 go_enter Tryz.func46, Tryz.ntmps46
 go_wp2
 all_goals go_ret
 all_goals refine ⟨?_, Below.refl _ _⟩
 all_goals simp_all
theorem bres_1 (s : ByteArray) (w : World) (hc : (s.toList == [99, 97, 108, 108]) = false) :
  Calls Tryz.prog 46 #[.string s, .int .i64 1] w fun e W' => e = .returned (.bool (resB s.toList 1)) ∧ Below w.heap.size w W' := by
 rw [res1_eq _ hc]
 go_enter Tryz.func46, Tryz.ntmps46
 go_wp2
 all_goals go_ret
 all_goals refine ⟨?_, Below.refl _ _⟩
 all_goals simp_all
theorem bres_2 (s : ByteArray) (w : World) (hc : (s.toList == [99, 97, 108, 108]) = false) :
  Calls Tryz.prog 46 #[.string s, .int .i64 2] w fun e W' => e = .returned (.bool (resB s.toList 2)) ∧ Below w.heap.size w W' := by
 rw [res2_eq _ hc]
 go_enter Tryz.func46, Tryz.ntmps46
 go_wp2
 all_goals go_ret
 all_goals refine ⟨?_, Below.refl _ _⟩
 all_goals simp_all
theorem bres_3 (s : ByteArray) (w : World) (hc : (s.toList == [99, 97, 108, 108]) = false) :
  Calls Tryz.prog 46 #[.string s, .int .i64 3] w fun e W' => e = .returned (.bool (resB s.toList 3)) ∧ Below w.heap.size w W' := by
 rw [res3_eq _ hc]
 go_enter Tryz.func46, Tryz.ntmps46
 go_wp2
 all_goals go_ret
 all_goals refine ⟨?_, Below.refl _ _⟩
 all_goals simp_all
theorem bres_call (s : ByteArray) (n : Int) (w : World) (hc : (s.toList == [99, 97, 108, 108]) = true) :
  Calls Tryz.prog 46 #[.string s, .int .i64 n] w fun e W' => e = .returned (.bool (resB s.toList n)) ∧ Below w.heap.size w W' := by
 have e : resB s.toList n = (decide (1 ≤ n) && decide (n ≤ 8)) := by unfold resB; rw [hc]; rfl
 rw [e]
 clear e
 go_enter Tryz.func46, Tryz.ntmps46
 go_wp2
 all_goals go_ret
 all_goals refine ⟨?_, Below.refl _ _⟩
 all_goals first | (simp_all; done) | (simp_all; omega)
theorem bres_far (s : ByteArray) (n : Int) (w : World) (hc : (s.toList == [99, 97, 108, 108]) = false) (h0 : (n == 0) = false) (h1 : (n == 1) = false) (h2 : (n == 2) = false) (h3 : (n == 3) = false) :
  Calls Tryz.prog 46 #[.string s, .int .i64 n] w fun e W' => e = .returned (.bool (resB s.toList n)) ∧ Below w.heap.size w W' := by
 have e : resB s.toList n = false := by
  unfold resB
  rw [hc, if_neg (by simp), if_neg (by simpa using h0), if_neg (by simpa using h1), if_neg (by simpa using h2), if_neg (by simpa using h3)]
 rw [e]
 clear e
 go_enter Tryz.func46, Tryz.ntmps46
 go_wp2
 all_goals go_ret
 all_goals refine ⟨?_, Below.refl _ _⟩
 all_goals simp_all
theorem bres_any (s : ByteArray) (n : Int) (w : World) :
  Calls Tryz.prog 46 #[.string s, .int .i64 n] w fun e W' => e = .returned (.bool (resB s.toList n)) ∧ Below w.heap.size w W' := by
 cases hc : (s.toList == [99, 97, 108, 108]) with
 | true => exact bres_call s n w hc
 | false =>
  by_cases h0 : n = 0
  ·subst h0; exact bres_0 s w hc
  ·by_cases h1 : n = 1
   ·subst h1; exact bres_1 s w hc
   ·by_cases h2 : n = 2
    ·subst h2; exact bres_2 s w hc
    ·by_cases h3 : n = 3
     ·subst h3; exact bres_3 s w hc
     ·exact bres_far s n w hc (by simpa using h0) (by simpa using h1) (by simpa using h2) (by simpa using h3)
theorem okT_succ {n : Nat} (x : TV) (kids : List (Tm n)) : okT (n := n + 1) (x, kids) = (x.ok && kids.all okT) := by
 show (x :: kids.flatMap parts).all TV.ok = _
 rw [List.all_cons, List.all_flatMap]; rfl
theorem take_all {n : Nat} (kids : List (Tm n)) (j : Nat) (u : Tm n) (h : kids[j]? = some u) : (kids.take (j + 1)).all okT = ((kids.take j).all okT && okT u) := by
 obtain ⟨hj, rfl⟩ := List.getElem?_eq_some_iff.1 h
 rw [List.take_succ_eq_append_getElem hj, List.all_append, List.all_cons, List.all_nil, Bool.and_true]
/- The contract of term.replaceTop: a part of a term made anew, its Args left to be filled; what a state that goes on with it keeps to. -/
set_option maxHeartbeats 1000000
set_option maxRecDepth 100000
theorem code_take {n : Nat} (kids : List (Tm n)) (j : Nat) (u : Tm n) (h : kids[j]? = some u) : (kids.take (j + 1)).flatMap code = (kids.take j).flatMap code ++ code u := by
 obtain ⟨hj, rfl⟩ := List.getElem?_eq_some_iff.1 h
 rw [List.take_succ_eq_append_getElem hj, List.flatMap_append, List.flatMap_cons, List.flatMap_nil, List.append_nil]
theorem ok_kids {n : Nat} {x : TV} {kids : List (Tm n)} (h : okT (n := n + 1) ((x, kids) : TV × List (Tm n)) = true) : wmB x.k x.N x.s x.len = true ∧ ∀ u ∈ kids, okT u = true := by
 rw [okT_succ, Bool.and_eq_true] at h
 exact ⟨h.1, List.all_eq_true.1 h.2⟩
theorem wm_cases {k N : Int} {s : ByteArray} {len : Nat} (h : wmB k N s len = true) : (k = 1 ∧ 0 ≤ N ∧ N ≤ 1099511627776 ∧ s.toList = [] ∧ len = 0) ∨ ((k = 2 ∨ k = 3) ∧ len = 0) ∨ (k = 4 ∧ N = 0 ∧ 1 ≤ len ∧ len ≤ 50) := by
 unfold wmB at h
 split at h
 ·rename_i hk
  simp at h
  exact .inl ⟨hk, h.1.1.1, h.1.1.2, h.1.2, h.2⟩
 ·split at h
  ·rename_i hk
   simp at h
   exact .inr (.inl ⟨.inl hk, h.2⟩)
  ·split at h
   ·rename_i hk
    simp at h
    exact .inr (.inl ⟨.inr hk, h.2⟩)
   ·split at h
    ·rename_i hk
     simp at h
     exact .inr (.inr ⟨hk, h.1.1.1, by omega, by omega⟩)
    ·cases h
structure GrB (X : Nat → Prop) (B : Nat) (A W : World) : Prop where
 os : W.os = A.os
 tape : W.tape = A.tape
 output : W.output = A.output
 size : A.heap.size ≤ W.heap.size
 block : ∀ k, k < B → ¬ X k → W.heap[k]? = A.heap[k]?
theorem GrB.of_below {X : Nat → Prop} {B : Nat} {A W : World} (h : Below B A W) : GrB X B A W := ⟨h.os, h.tape, h.output, h.size, fun k hk _ => h.block k hk⟩
theorem GrB.refl (X : Nat → Prop) (B : Nat) (A : World) : GrB X B A A := GrB.of_below (Below.refl _ _)
theorem GrB.trans {X : Nat → Prop} {B : Nat} {A W W' : World} (h : GrB X B A W) (k : GrB X B W W') : GrB X B A W' :=
 ⟨k.os.trans h.os, k.tape.trans h.tape, k.output.trans h.output, Nat.le_trans h.size k.size, fun i hi hx => (k.block i hi hx).trans (h.block i hi hx)⟩
theorem GrB.mono {X : Nat → Prop} {B B' : Nat} {A W : World} (h : GrB X B A W) (hB : B' ≤ B) : GrB X B' A W := ⟨h.os, h.tape, h.output, h.size, fun k hk => h.block k (Nat.lt_of_lt_of_le hk hB)⟩
theorem GrB.below {X : Nat → Prop} {B n₀ : Nat} {A W : World} (h : GrB X B A W) (hX : ∀ k, X k → n₀ ≤ k) (hB : n₀ ≤ B) : Below n₀ A W :=
 ⟨h.os, h.tape, h.output, h.size, fun k hk => h.block k (by omega) (fun hx => by have := hX k hx; omega)⟩
theorem GrB.set4 {X : Nat → Prop} {B : Nat} {A W : World} (h : GrB X B A W) {b : Nat} (hb : B ≤ b) (o : Nat) (x : TV) : GrB X B A (set4 W b o x) :=
 h.trans (GrB.of_below (set4_below (Below.refl _ _) hb o x))
def stepsN {σ : Type} (stp : σ → Int → σ) (s : σ) (l : List Nd) : σ := l.foldl (fun s x => if x.1 = 1 then stp s x.2.1 else s) s
theorem stepsN_append {σ : Type} (stp : σ → Int → σ) (s : σ) (l l' : List Nd) : stepsN stp s (l ++ l') = stepsN stp (stepsN stp s l) l' := List.foldl_append
structure Stately {σ : Type} (I : σ → World → Prop) (X : Nat → Prop) (n₀ lo : Nat) (stp : σ → Int → σ) (β : σ → Int → List Nd) : Prop where
 low : n₀ ≤ lo
 blocks : ∀ k, X k → n₀ ≤ k ∧ k < lo
 keep : ∀ s W W', I s W → lo ≤ W.heap.size → Below lo W W' → I s W'
 stay : ∀ s N l, β (stepsN stp (stp s N) l) N = β (stp s N) N
theorem Stately.sub {σ : Type} {I : σ → World → Prop} {X : Nat → Prop} {n₀ lo : Nat} {stp : σ → Int → σ} {β : σ → Int → List Nd} (h : Stately I X n₀ lo stp β) : ∀ (l l' : List Nd) (s : σ), l.flatMap (subN (β (stepsN stp s (l ++ l')))) = l.flatMap (subN (β (stepsN stp s l)))
 | [], _, _ => rfl
 | x :: l, l', s => by
  have ih := h.sub l l' (if x.1 = 1 then stp s x.2.1 else s)
  have e1 : stepsN stp s (x :: l ++ l') = stepsN stp (if x.1 = 1 then stp s x.2.1 else s) (l ++ l') := rfl
  have e2 : stepsN stp s (x :: l) = stepsN stp (if x.1 = 1 then stp s x.2.1 else s) l := rfl
  rw [List.flatMap_cons, List.flatMap_cons, e1, e2, ih]
  congr 1
  unfold subN
  by_cases hx : x.1 = 1
  ·rw [if_pos hx, if_pos hx, if_pos hx, h.stay, h.stay]
  ·rw [if_neg hx, if_neg hx]
def BecomesX {σ : Type} (g : Nat) (lb : Array Value) (I : σ → World → Prop) (X : Nat → Prop) (lo : Nat) (stp : σ → Int → σ) (β : σ → Int → List Nd) (D : Nat) : Prop :=
 ∀ (N : Int) (W : World) (s : σ), 0 ≤ N → N ≤ 1099511627776 → lo ≤ W.heap.size → I s W → Calls Tryz.prog g (#[.int .i64 N] ++ lb) W fun e W' => ∃ v, e = .returned v ∧ GrB X W.heap.size W W' ∧ I (stp s N) W' ∧ HoldsT D W.heap.size W' v (β (stp s N) N)
theorem top_var {σ : Type} {I : σ → World → Prop} {X : Nat → Prop} {n₀ lo : Nat} {stp : σ → Int → σ} {β : σ → Int → List Nd} (hst : Stately I X n₀ lo stp β) (g : Nat) (lb : Array Value) (D : Nat) (eg : ∀ args w, (callFunc g args).run Tryz.prog w = .ok (.enter g args) w) (hbec : BecomesX g lb I X lo stp β D)
  (N : Int) (s : ByteArray) (a : Option Addr) (len cap : Nat) (W : World) (z : σ) (h0 : 0 ≤ N) (h1 : N ≤ 1099511627776) (hlo : lo ≤ W.heap.size) (hI : I z W) :
  Calls Tryz.prog 81 #[.agg #[.int .i64 1, .int .i64 N, .string s, .slice a len cap], .func (.func g) #[] lb] W fun e W' => ∃ x : TV, e = .returned (.tuple #[x.val, .slice none 0 0]) ∧ GrB X W.heap.size W W' ∧ I (stp z N) W' ∧ HoldsT D W.heap.size W' x.val (β (stp z N) N) := by
 have hB2 : Below W.heap.size W ((W.alloc (.cells #[.int .i64 1, .int .i64 N, .string s, .slice a len cap] 24)).alloc (.cells #[.int .i64 0, .int .i64 0, .string ⟨#[]⟩, .slice none 0 0] 24)) := ((Below.refl _ W).alloc (Nat.le_refl _) _).alloc (by simp) _
 have hsz : ((W.alloc (.cells #[.int .i64 1, .int .i64 N, .string s, .slice a len cap] 24)).alloc (.cells #[.int .i64 0, .int .i64 0, .string ⟨#[]⟩, .slice none 0 0] 24)).heap.size = W.heap.size + 2 := by simp
 have hcall := hbec N ((W.alloc (.cells #[.int .i64 1, .int .i64 N, .string s, .slice a len cap] 24)).alloc (.cells #[.int .i64 0, .int .i64 0, .string ⟨#[]⟩, .slice none 0 0] 24)) z h0 h1 (by omega) (hst.keep z W _ hI hlo (hB2.mono hlo))
 have hnew := World.alloc_heap_new (W.alloc (.cells #[.int .i64 1, .int .i64 N, .string s, .slice a len cap] 24)) (.cells #[.int .i64 0, .int .i64 0, .string ⟨#[]⟩, .slice none 0 0] 24)
 rw [World.size_alloc] at hnew
 have HB2 := hide hB2
 have HSZ := hide hsz
 have HNEW := hide hnew
 have HST := hide hst
 clear hbec hI hB2 hsz hnew hst
 go_enter Tryz.func81, Tryz.ntmps81
 go_wp2_with fail
 refine hcall.mono ?_
 clear hcall
 rintro e W1 ⟨v, rfl, hg1, hI1, hv⟩
 rw [unhide HSZ] at hg1 hv
 obtain ⟨t, ht, -⟩ := hv D (Nat.le_refl _)
 subst ht
 have hnx : ¬ X (W.heap.size + 1) := fun hx => by have := ((unhide HST).blocks _ hx).2; omega
 obtain ⟨⟨z0, z1, z2, z3⟩, y0, y1, y2, y3⟩ := zbox_kept ((hg1.block (W.heap.size + 1) (by omega) hnx).trans (unhide HNEW))
 have hs1 : W.heap.size + 2 ≤ W1.heap.size := by have := hg1.size; have := unhide HSZ; omega
 have hfin : HoldsT D W.heap.size (set4 W1 (W.heap.size + 1) 0 t.tv) t.tv.val (β (stp z N) N) := (holds_set4 hv (by omega) 0 t.tv).mono (Nat.le_refl _) (by omega)
 have hgf : GrB X W.heap.size W (set4 W1 (W.heap.size + 1) 0 t.tv) := ((GrB.of_below (unhide HB2)).trans (hg1.mono (by omega))).set4 (by omega) 0 t.tv
 have hIf : I (stp z N) (set4 W1 (W.heap.size + 1) 0 t.tv) := (unhide HST).keep _ _ _ hI1 (by omega) (set4_below (Below.refl _ _) (by omega) 0 t.tv)
 have HF := hide hfin
 have HG := hide hgf
 have HI := hide hIf
 clear hfin hgf hIf hv hg1 hI1 hnx
 simp only [TV.val]
 go_wp2_with fail
 exact bodyPost_ret (v := .tuple #[t.tv.val, .slice none 0 0]) (by simp [results, Tryz.results81, go_sem, TV.val, z0, z1, z2, z3]) rfl ⟨_, rfl, unhide HG, unhide HI, unhide HF⟩
theorem top_leaf (fv : Value) (k N : Int) (s : ByteArray) (a : Option Addr) (len cap : Nat) (W : World) (hk : k = 2 ∨ k = 3) (hs : s.size ≤ 9223372036854775807) :
  Calls Tryz.prog 81 #[.agg #[.int .i64 k, .int .i64 N, .string s, .slice a len cap], fv] W fun e W' => e = .returned (.tuple #[(⟨k, N, s, none, 0, 0⟩ : TV).val, .slice none 0 0]) ∧ Below W.heap.size W W' ∧ HoldsT 1 W.heap.size W' (⟨k, N, s, none, 0, 0⟩ : TV).val [(k, N, s.toList, 0)] := by
 have hk1 : (k == 1) = false := by simp; omega
 have hk4 : (k == 4) = false := by simp; omega
 clear hk
 go_enter Tryz.func81, Tryz.ntmps81
 go_wp2_with fail
 exact bodyPost_ret (v := .tuple #[(⟨k, N, s, none, 0, 0⟩ : TV).val, .slice none 0 0]) (by simp [results, Tryz.results81, go_sem, TV.val]) rfl ⟨rfl, ((Below.refl _ W).alloc (Nat.le_refl _) _).alloc (by simp) _, holds_leaf ⟨k, N, s, none, 0, 0⟩ rfl rfl rfl hs _ _⟩
theorem row4_new (W : World) (len : Nat) : Row4 (W.alloc (.cells (madeCells #[.int .i64 0, .int .i64 0, .string ⟨#[]⟩, .slice none 0 0] (len * 4)) 24)) W.heap.size len := ⟨madeCells #[.int .i64 0, .int .i64 0, .string ⟨#[]⟩, .slice none 0 0] (len * 4), World.alloc_heap_new _ _, size_madeCells _ _⟩
theorem made_world (W : World) (x : TV) (len : Nat) : ∃ W3, ((W.alloc (.cells #[.int .i64 x.k, .int .i64 x.N, .string x.s, .slice x.a x.len x.cap] 24)).alloc (.cells #[.int .i64 0, .int .i64 0, .string ⟨#[]⟩, .slice none 0 0] 24)).alloc (.cells (madeCells #[.int .i64 0, .int .i64 0, .string ⟨#[]⟩, .slice none 0 0] (len * 4)) 24) = W3 ∧
  Below W.heap.size W W3 ∧ W3.heap.size = W.heap.size + 3 ∧ BoxT W3 W.heap.size x ∧ W3.heap[W.heap.size + 1]? = some (.cells #[.int .i64 0, .int .i64 0, .string ⟨#[]⟩, .slice none 0 0] 24 (0, 0)) ∧ Row4 W3 (W.heap.size + 2) len := by
 refine ⟨_, rfl, (((Below.refl _ W).alloc (Nat.le_refl _) _).alloc (by simp) _).alloc (by simp; omega) _, by simp, ((BoxT.new W x).alloc _).alloc _, ?_, ?_⟩
 ·have h := World.alloc_heap_new (W.alloc (.cells #[.int .i64 x.k, .int .i64 x.N, .string x.s, .slice x.a x.len x.cap] 24)) (.cells #[.int .i64 0, .int .i64 0, .string ⟨#[]⟩, .slice none 0 0] 24)
  rw [World.size_alloc] at h
  exact (Below.heap_alloc _ _ _ (by simp)).trans h
 ·refine ⟨madeCells #[.int .i64 0, .int .i64 0, .string ⟨#[]⟩, .slice none 0 0] (len * 4), ?_, size_madeCells _ _⟩
  have h := World.alloc_heap_new ((W.alloc (.cells #[.int .i64 x.k, .int .i64 x.N, .string x.s, .slice x.a x.len x.cap] 24)).alloc (.cells #[.int .i64 0, .int .i64 0, .string ⟨#[]⟩, .slice none 0 0] 24)) (.cells (madeCells #[.int .i64 0, .int .i64 0, .string ⟨#[]⟩, .slice none 0 0] (len * 4)) 24)
  rw [World.size_alloc, World.size_alloc] at h
  exact h
theorem top_comp (fv : Value) (s : ByteArray) (a : Option Addr) (len cap : Nat) (W : World) (hl50 : len ≤ 50) :
  Calls Tryz.prog 81 #[.agg #[.int .i64 4, .int .i64 0, .string s, .slice a len cap], fv] W fun e W' => ∃ B, e = .returned (.tuple #[(⟨4, 0, s, some ⟨B, 0, none⟩, len, len⟩ : TV).val, .slice (some ⟨B, 0, none⟩) len len]) ∧ W.heap.size ≤ B ∧ Row4 W' B len ∧ Below W.heap.size W W' := by
 have hmk := make_terms len hl50
 go_enter Tryz.func81, Tryz.ntmps81
 go_wp2_with fail
 obtain ⟨A, hA⟩ : ∃ A, (W.alloc (.cells #[.int .i64 4, .int .i64 0, .string s, .slice a len cap] 24)).alloc (.cells #[.int .i64 4, .int .i64 0, .string s, .slice (some ⟨W.heap.size + 1 + 1, 0, none⟩) len len] 24) = A := ⟨_, rfl⟩
 have hs : A.heap.size = W.heap.size + 1 + 1 := by rw [← hA]; simp
 have hAb : Below W.heap.size W A := by rw [← hA]; exact ((Below.refl _ W).alloc (Nat.le_refl _) _).alloc (by simp) _
 have hbx : A.heap[W.heap.size + 1]? = some (.cells #[.int .i64 4, .int .i64 0, .string s, .slice (some ⟨W.heap.size + 1 + 1, 0, none⟩) len len] 24 (0, 0)) := by
  rw [← hA]
  have h := World.alloc_heap_new (W.alloc (.cells #[.int .i64 4, .int .i64 0, .string s, .slice a len cap] 24)) (.cells #[.int .i64 4, .int .i64 0, .string s, .slice (some ⟨W.heap.size + 1 + 1, 0, none⟩) len len] 24)
  rw [World.size_alloc] at h
  exact h
 rw [hA]
 clear hA
 have hr := row4_new A len
 rw [hs] at hr
 obtain ⟨⟨z0, z1, z2, z3⟩, -⟩ := zbox_kept ((Below.heap_alloc A (.cells (madeCells #[.int .i64 0, .int .i64 0, .string ⟨#[]⟩, .slice none 0 0] (len * 4)) 24) (W.heap.size + 1) (by omega)).trans hbx)
 exact bodyPost_ret (v := .tuple #[(⟨4, 0, s, some ⟨W.heap.size + 1 + 1, 0, none⟩, len, len⟩ : TV).val, .slice (some ⟨W.heap.size + 1 + 1, 0, none⟩) len len]) (by simp [results, Tryz.results81, go_sem, TV.val, z0, z1, z2, z3]) rfl ⟨_, rfl, by omega, hr, hAb.alloc (by omega) _⟩
end Go.Proofs.YtlbobmebbllifaaGreat
