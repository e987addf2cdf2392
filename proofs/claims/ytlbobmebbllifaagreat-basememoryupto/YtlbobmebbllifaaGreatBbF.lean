import Derived.Test.YtlbobmebbllifaaGreatBbE
import Derived.Test.YtlbobmebbllifaaGreatQs
/- base.isSame, base.written. -/
namespace Go.Proofs.YtlbobmebbllifaaGreat
set_option maxHeartbeats 1000000
set_option maxRecDepth 100000
open Go.RowKit Go.Shelf
theorem isSame_any {D D' : Nat} {S S' : Nat → Prop} {W : World} {x y : TV} {c c' : List Nd} (h : HoldsS D S W x.val c) (h' : HoldsS D' S' W y.val c') (oc : c.all okM = true) (oc' : c'.all okM = true) (hD : D + D' ≤ 2199023255552 := by omega) :
  Calls Tryz.prog 47 #[x.val, y.val] W fun e W' => e = .returned (.bool (decide (c = c'))) ∧ Below W.heap.size W W' := by
 obtain ⟨t, ht, hT, -, hc⟩ := h (D + D') (by omega) hD
 obtain ⟨t', ht', hT', -, hc'⟩ := h' (D + D') (by omega) hD
 obtain rfl := tv_inj ht
 obtain rfl := tv_inj ht'
 obtain ⟨W2, hW2, hb2, hs2, hbx, hby⟩ := box2_only W t.tv t'.tv
 have hcm := compare_any t t' W2 ((hT.below hb2).mono hb2.size) ((hT'.below hb2).mono hb2.size) (by rw [okT_m, hc]; exact oc) (by rw [okT_m, hc']; exact oc')
 have hz := ord_zero t t'
 rw [sameT_code hT.wl hT'.wl, hc, hc', decide_eq_true_eq] at hz
 have hd : (ordT t t' == 0) = decide (c = c') := by
  rw [Bool.eq_iff_iff, beq_iff_eq, decide_eq_true_eq]
  exact hz
 generalize ordT t t' = r at hcm hd
 generalize hg : decide (c = c') = d at hd ⊢
 have HB2 := hide hb2
 have x0 := hbx.c0
 have x1 := hbx.c1
 have x2 := hbx.c2
 have x3 := hbx.c3
 have y0 := hby.c0
 have y1 := hby.c1
 have y2 := hby.c2
 have y3 := hby.c3
 clear h h' ht ht' hT hT' hc hc' hz hg hb2 hbx hby oc oc' hs2
 simp only [TV.val] at hcm ⊢
 go_enter Tryz.func47, Tryz.ntmps47
 go_wp2_with fail
 try rw [hW2]
 refine hcm.mono ?_
 clear hcm hW2 x0 x1 x2 x3 y0 y1 y2 y3
 rintro e W3 ⟨rfl, hb3⟩
 have HB : Hid (Below W.heap.size W W3) := (unhide HB2).trans (hb3.mono (unhide HB2).size)
 clear hb3 HB2
 go_wp2_with fail
 all_goals go_ret
 all_goals exact ⟨by rw [← hd]; rfl, HB.out⟩
def isTr (x : TV) : Bool := decide (x.k = 3) && decide (x.s.toList = trueL)
theorem isTr_isB {x : TV} (h : wmB x.k x.N x.s x.len = true) : isTr x = isB x trueL 0 := by
 unfold isTr isB
 rcases wm_cases h with ⟨h1, _⟩ | ⟨h1 | h1, h2⟩ | ⟨h1, _, h2, _⟩
 ·simp [h1]
 ·simp [h1]
 ·simp [h1, h2]
 ·have : ((x.len : Int) == 0) = false := by simp; omega
  simp [h1, this]
theorem box_wr (W : World) (x y : TV) : ∃ W2, (W.alloc (.cells #[.int .i64 x.k, .int .i64 x.N, .string x.s, .slice x.a x.len x.cap, .int .i64 y.k, .int .i64 y.N, .string y.s, .slice y.a y.len y.cap] 30)).alloc (.cells #[.int .i64 0, .int .i64 0, .string ⟨#[]⟩, .slice none 0 0] 24) = W2 ∧ Below W.heap.size W W2 ∧ W2.heap.size = W.heap.size + 2 ∧ BoxC W2 W.heap.size x y ∧ BoxT W2 (W.heap.size + 1) noTerm := by
 refine ⟨_, rfl, ((Below.refl _ W).alloc (Nat.le_refl _) _).alloc (by simp) _, by simp, (Below.heap_alloc _ _ _ (by simp)).trans (BoxC.new W x y), ?_⟩
 have h := BoxT.new (W.alloc (.cells #[.int .i64 x.k, .int .i64 x.N, .string x.s, .slice x.a x.len x.cap, .int .i64 y.k, .int .i64 y.N, .string y.s, .slice y.a y.len y.cap] 30)) noTerm
 rw [World.size_alloc] at h
 exact h
theorem written_true (x y : TV) (W : World) (h : isTr y = true) :
  Calls Tryz.prog 33 #[clV x y] W fun e W' => e = .returned x.val ∧ Below W.heap.size W W' := by
 obtain ⟨k, N, s, a, len, cap⟩ := y
 simp only [isTr, Bool.and_eq_true, decide_eq_true_eq] at h
 obtain ⟨rfl, hs⟩ := h
 have hs' : (s.toList == [116, 114, 117, 101]) = true := by rw [hs]; rfl
 clear hs
 simp only [clV]
 go_enter Tryz.func33, Tryz.ntmps33
 go_wp2_with fail
 exact bodyPost_ret (v := x.val) (by simp [results, Tryz.results33, go_sem, TV.val]) rfl ⟨rfl, ((Below.refl _ W).alloc (Nat.le_refl _) _).alloc (by simp) _⟩
theorem written_rule (x y : TV) (W : World) (h : isTr y = false) :
  Calls Tryz.prog 33 #[clV x y] W fun e W' => ∃ B, W.heap.size ≤ B ∧ e = .returned (compV ⟨#[58, 45]⟩ (some ⟨B, 0, none⟩) 2 2).val ∧ W'.heap[B]? = some (.cells #[.int .i64 x.k, .int .i64 x.N, .string x.s, .slice x.a x.len x.cap, .int .i64 y.k, .int .i64 y.N, .string y.s, .slice y.a y.len y.cap] 24 (0, 0)) ∧ Below W.heap.size W W' := by
 obtain ⟨W2, hW2, hb2, hs2, hbc, hbz⟩ := box_wr W x y
 have hb3 : Below W2.heap.size W2 (W2.alloc (.cells #[.int .i64 x.k, .int .i64 x.N, .string x.s, .slice x.a x.len x.cap, .int .i64 y.k, .int .i64 y.N, .string y.s, .slice y.a y.len y.cap] 24)) := (Below.refl _ W2).alloc (Nat.le_refl _) _
 have hn := World.alloc_heap_new W2 (.cells #[.int .i64 x.k, .int .i64 x.N, .string x.s, .slice x.a x.len x.cap, .int .i64 y.k, .int .i64 y.N, .string y.s, .slice y.a y.len y.cap] 24)
 have hz := hbz.below hb3 hbz.lt
 have HF : Hid (Below W.heap.size W (set4 (W2.alloc (.cells #[.int .i64 x.k, .int .i64 x.N, .string x.s, .slice x.a x.len x.cap, .int .i64 y.k, .int .i64 y.N, .string y.s, .slice y.a y.len y.cap] 24)) (W.heap.size + 1) 0 (compV ⟨#[58, 45]⟩ (some ⟨W2.heap.size, 0, none⟩) 2 2)) ∧ W.heap.size ≤ W2.heap.size ∧ (set4 (W2.alloc (.cells #[.int .i64 x.k, .int .i64 x.N, .string x.s, .slice x.a x.len x.cap, .int .i64 y.k, .int .i64 y.N, .string y.s, .slice y.a y.len y.cap] 24)) (W.heap.size + 1) 0 (compV ⟨#[58, 45]⟩ (some ⟨W2.heap.size, 0, none⟩) 2 2)).heap[W2.heap.size]? = some (.cells #[.int .i64 x.k, .int .i64 x.N, .string x.s, .slice x.a x.len x.cap, .int .i64 y.k, .int .i64 y.N, .string y.s, .slice y.a y.len y.cap] 24 (0, 0))) :=
  ⟨set4_below (hb2.trans (hb3.mono hb2.size)) (by omega) 0 _, hb2.size, (set4_other _ _ 0 _ (by omega)).trans hn⟩
 obtain ⟨⟨c0, c1, c2, c3⟩, c4, c5, c6, c7⟩ := hbc.cs
 have z0 := hz.c0
 have z1 := hz.c1
 have z2 := hz.c2
 have z3 := hz.c3
 obtain ⟨y0, y1, y2, y3⟩ := hz.frz
 simp only [noTerm] at z0 z1 z2 z3
 clear hb2 hs2 hbc hbz hb3 hn hz
 obtain ⟨k, N, s, a, len, cap⟩ := y
 simp only at c4 c5 c6 c7 y0 y1 y2 y3 z0 z1 z2 z3 HF
 simp only [clV]
 by_cases k3 : k = 3
 ·subst k3
  have hs' : (s.toList == [116, 114, 117, 101]) = false := by
   simp only [isTr, Bool.and_eq_false_iff, decide_eq_false_iff_not] at h
   rcases h with h | h
   ·exact (h trivial).elim
   ·rw [beq_eq_false_iff_ne]; exact h
  clear h
  go_enter Tryz.func33, Tryz.ntmps33
  go_wp2_with fail
  try rw [hW2]
  exact bodyPost_ret (v := (compV ⟨#[58, 45]⟩ (some ⟨W2.heap.size, 0, none⟩) 2 2).val) (by simp [results, Tryz.results33, go_sem, TV.val, compV, z0, z1, z2, z3]) rfl ⟨W2.heap.size, HF.out.2.1, rfl, HF.out.2.2, HF.out.1⟩
 ·have k3' : (k == 3) = false := by simpa using k3
  clear h k3
  go_enter Tryz.func33, Tryz.ntmps33
  go_wp2_with fail
  try rw [hW2]
  exact bodyPost_ret (v := (compV ⟨#[58, 45]⟩ (some ⟨W2.heap.size, 0, none⟩) 2 2).val) (by simp [results, Tryz.results33, go_sem, TV.val, compV, z0, z1, z2, z3]) rfl ⟨W2.heap.size, HF.out.2.1, rfl, HF.out.2.2, HF.out.1⟩
def wroteC {n : Nat} (th tb : Tm (n + 1)) : Option (List Nd × List Nd) := if isB tb.tv trueL 0 = true then makeC th.lift else makeJ (headBad th.tv) (code th) (bodyC tb)
theorem written_make {n : Nat} (th tb : Tm (n + 1)) (W : World) (hTH : IsT W.heap.size W th) (hTB : IsT W.heap.size W tb) (okh : okT th = true) (okb : okT tb = true) (hl : 2 * ((code th).length + (code tb).length + 1) ≤ 4194304) (hn38 : n ≤ 274877906944 := by omega) :
  Calls Tryz.prog 33 #[clV th.tv tb.tv] W fun e V => ∃ x : TV, e = .returned x.val ∧ Below W.heap.size W V ∧ ∀ U, Below V.heap.size V U → Calls Tryz.prog 7 #[x.val] U fun e U' => MkSays (n + 4) U.heap.size (wroteC th tb) e U' ∧ Below U.heap.size U U' := by
 have e := isTr_isB (ok_top okb)
 unfold wroteC
 cases hi : isTr tb.tv with
 | true =>
  rw [hi] at e
  rw [← e, if_pos rfl]
  refine (written_true th.tv tb.tv W hi).mono ?_
  rintro e V ⟨rfl, hb⟩
  refine ⟨th.tv, rfl, hb, fun U hU => ?_⟩
  have hT : IsT U.heap.size U th := (((hTH.below hb).mono hb.size).below hU).mono hU.size
  have h := bmake_ok th.lift U (lift_isT hT (by omega)) (by rw [okT_m, lift_code, ← okT_m]; exact okh) (by rw [lift_code]; omega)
  rw [lift_tv] at h
  exact h
 | false =>
  rw [hi] at e
  rw [← e, if_neg (by simp)]
  refine (written_rule th.tv tb.tv W hi).mono ?_
  rintro e V ⟨B, hB, rfl, hblk, hb⟩
  refine ⟨_, rfl, hb, fun U hU => ?_⟩
  have hBl : B < V.heap.size := (Array.getElem?_eq_some_iff.1 hblk).1
  have hTh : IsT U.heap.size U th := (((hTH.below hb).mono hb.size).below hU).mono hU.size
  have hTb : IsT U.heap.size U tb := (((hTB.below hb).mono hb.size).below hU).mono hU.size
  have hblk' := (hU.block B hBl).trans hblk
  have hT : IsT U.heap.size U (ruleT B th tb) := by
   refine ⟨rfl, ⟨by show (2 : Nat) ≤ _; omega, by show (2 : Nat) ≤ 2; omega, by omega⟩, by show (2 : Nat) ≤ _; omega, .inr ⟨B, 0, rfl, by have := hU.size; omega, fun j z hz => ?_⟩⟩
   have hj : (j = 0 ∧ z = th) ∨ (j = 1 ∧ z = tb) := by
    match j, hz with
    | 0, hz => exact .inl ⟨rfl, by simpa [ruleT, Tm.kids] using hz.symm⟩
    | 1, hz => exact .inr ⟨rfl, by simpa [ruleT, Tm.kids] using hz.symm⟩
    | k + 2, hz => simp [ruleT, Tm.kids] at hz
   rcases hj with ⟨rfl, rfl⟩ | ⟨rfl, rfl⟩
   ·refine ⟨?_, hTh⟩
    refine ⟨?_, ?_, ?_, ?_⟩ <;> simp [World.cell?, hblk']
   ·refine ⟨?_, hTb⟩
    refine ⟨?_, ?_, ?_, ?_⟩ <;> simp [World.cell?, hblk']
  have hok : okT (ruleT B th tb) = true := by
   rw [okT_m, rule_code, List.all_cons, List.all_append, ← okT_m, ← okT_m, okh, okb]
   decide +kernel
  have h := bmake_ok (ruleT B th tb) U hT hok (by rw [rule_code]; simp only [List.length_cons, List.length_append]; omega)
  rw [rule_make] at h
  exact h
end Go.Proofs.YtlbobmebbllifaaGreat
