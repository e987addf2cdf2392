import Derived.Test.YtcjeeagnfmipgaaGreatDoorHss
import Derived.Test.YtcjeeagnfmipgaaGreatDoorDp
/- The contract of term.Measure: how many parts, how deep. -/
namespace Go.Proofs.YtcjeeagnfmipgaaGreatDoor
open Go.RowKit Go.Shelf Go.Maps
attribute [local go_sem] Oper.semAt_some

theorem boxT_then (w : World) (x : TV) : ∃ W2, (w.alloc (.cells #[.int .i64 x.k, .int .i64 x.N, .string x.s, .slice x.a x.len x.cap] 24)).alloc (.cells #[.int .i64 0] 3) = W2 ∧ Below w.heap.size w W2 ∧ BoxT W2 w.heap.size x ∧ Boxed W2 (w.heap.size + 1) 3 (.int .i64 0) ∧ W2.heap.size = w.heap.size + 2 := by
  have h := Boxed.new (w.alloc (.cells #[.int .i64 x.k, .int .i64 x.N, .string x.s, .slice x.a x.len x.cap] 24)) 3 (.int .i64 0)
  rw [World.size_alloc] at h
  exact ⟨_, rfl, ((Below.refl _ w).alloc (Nat.le_refl _) _).alloc (by simp) _, (BoxT.new w x).alloc _, h, by simp⟩

set_option maxRecDepth 100000 in
set_option maxHeartbeats 4000000 in
theorem measure_in (n : Nat) (hn : 4 ≤ n) {d : Nat} (t : Tm d) (w : World) (hT : IsT w.heap.size w t) (hok : okT t = true) (hl : (parts t).length ≤ 4194304) :
    CallsIn Fence.wide n Tryz.prog 34 #[t.tv.val] w fun e W' => e = .returned (.tuple #[.int .i64 ((parts t).length : Nat), .int .i64 (depT t : Nat), .int .i64 0]) ∧ Below w.heap.size w W' := by
  have h1 : 1 ≤ n := by omega
  obtain ⟨W2, hW2, hB2, hbx, hbn, hs2⟩ := boxT_then w t.tv
  have hch := check_in (n - 1) (by omega) t W2 ((hT.below hB2).mono hB2.size)
  rw [chk_yes hok] at hch
  have hdp := fun (W : World) (hb : Below w.heap.size w W) => depthOf_any d t W ((hT.below hb).mono hb.size) (by omega)
  obtain ⟨dp, hdpe⟩ : ∃ dp, depT t = dp := ⟨_, rfl⟩
  rw [hdpe] at hdp ⊢
  clear hdpe
  generalize hx0 : t.tv = x0 at *
  have Hx0 := hide hx0
  clear hx0
  have c0 := hbx.c0
  have c1 := hbx.c1
  have c2 := hbx.c2
  have c3 := hbx.c3
  simp only [TV.val] at hch hdp
  refine callsIn_of_wp_marks Tryz.func34 rfl trivial ?_ rfl
  simp only [TV.val, Tryz.ntmps34, List.size_toArray, List.length_cons, List.length_nil, Nat.reduceAdd, Nat.reduceSub, Array.replicate_succ, Array.replicate_zero, List.push_toArray, List.append_toArray, List.nil_append, List.cons_append]
  gi_wp2
  refine ⟨trivial, hch.mono ?_⟩
  clear hch c0 c1 c2 c3 hW2
  rintro e W1 ⟨rfl, hb1⟩
  have hbx1 : BoxT W1 w.heap.size x0 := (hb1.block w.heap.size (by omega)).trans hbx
  have hbn1 : Boxed W1 (w.heap.size + 1) 3 (.int .i64 0) := (hb1.block (w.heap.size + 1) (by omega)).trans hbn
  have hB : Below w.heap.size w W1 := hB2.trans (hb1.mono hB2.size)
  have hlt1 : w.heap.size + 2 ≤ W1.heap.size := by have := hb1.size; omega
  clear hbx hB2 hb1 hbn
  have d0 := hbx1.c0
  have d1 := hbx1.c1
  have d2 := hbx1.c2
  have d3 := hbx1.c3
  gi_wp2_with (refine ⟨trivial, ?_⟩; gi_at_call 32; refine (parts_in Fence.wide (n - 1) trivial rfl x0 _).mono ?_; rintro e w' ⟨rfl, rfl⟩)
  clear d0 d1 d2 d3
  have hbT := BoxT.new W1 x0
  have hB4 : Below w.heap.size w (W1.alloc (.cells #[.int .i64 x0.k, .int .i64 x0.N, .string x0.s, .slice x0.a x0.len x0.cap] 24)) := hB.alloc (by omega) _
  have hs4 : (W1.alloc (.cells #[.int .i64 x0.k, .int .i64 x0.N, .string x0.s, .slice x0.a x0.len x0.cap] 24)).heap.size = W1.heap.size + 1 := by simp
  have hbx4 := hbx1.alloc (.cells #[.int .i64 x0.k, .int .i64 x0.N, .string x0.s, .slice x0.a x0.len x0.cap] 24)
  have hbn4 := hbn1.alloc (.cells #[.int .i64 x0.k, .int .i64 x0.N, .string x0.s, .slice x0.a x0.len x0.cap] 24)
  obtain ⟨W4, hW4⟩ : ∃ W4, W1.alloc (.cells #[.int .i64 x0.k, .int .i64 x0.N, .string x0.s, .slice x0.a x0.len x0.cap] 24) = W4 := ⟨_, rfl⟩
  rw [hW4] at hbT hB4 hs4 hbx4 hbn4 ⊢
  clear hW4 hbx1 hbn1
  refine rangeC (k := 22) rfl h1 (gf := 73) (lb := #[.pointer (some ⟨W1.heap.size, 0, none⟩)]) rfl trivial (enters_of Tryz.func73 (by kernel_rfl) rfl)
    (parts_stops (n - 1) W1.heap.size w.heap.size W4.heap.size t W4 (by rw [unhide Hx0]; exact hbT) (hT.below hB4) (by omega) (Nat.le_refl _)) Kp.trans (Kp.putObj (w := W4)) (Below.refl _ _) (fun _ => rfl)
    (fun pre W => (Boxed W (w.heap.size + 1) 3 (.int .i64 (pre.length : Nat)) ∧ BoxT W w.heap.size x0) ∧ Below w.heap.size w W)
    (fun _ _ _ => False)
    (OwC.and (OwC.and (owC_boxed _ _ _ _ (fun pre : List TV => Value.int .i64 (pre.length : Nat)) rfl) (boxT_owC _ w.heap.size (fun _ : List TV => x0))) (owC_below (by omega) (Nat.le_refl _)))
    (fun c s A B row hs hg hr => hs)
    ⟨⟨hbn4, hbx4⟩, hB4⟩
    (fun x a' W => a' = { tmps := #[.agg #[.int .i64 x0.k, .int .i64 x0.N, .string x0.s, .slice x0.a x0.len x0.cap], .pointer (some ⟨w.heap.size, 0, none⟩), .pointer (some ⟨w.heap.size + 1, 0, none⟩), .int .i64 0, .int .i64 0, .agg #[.int .i64 x0.k, .int .i64 x0.N, .string x0.s, .slice x0.a x0.len x0.cap], .int .i64 0, .int .i64 0, .bool false, undef, .agg #[.int .i64 x0.k, .int .i64 x0.N, .string x0.s, .slice x0.a x0.len x0.cap], .func (.func 73) #[] #[.pointer (some ⟨W1.heap.size, 0, none⟩)], x.val, undef, undef, undef, undef, undef], defers := [] })
    (fun x a' _ X Y row hs hg hr => hs)
    ?assign ?body ?done ?stop
  case assign =>
    rintro l' pre x W K hI hK
    simp only [TV.val]
    gi_wp2
    exact hK _ _ (KeepsFrom.refl _ _) (Kp.refl _ _ W) hI (by simp [TV.val])
  case body =>
    rintro l' pre x a' W hl' ⟨r, hr⟩ ⟨⟨hbn', hbx'⟩, hB'⟩ rfl hlt
    have c0 := hbn'.cell
    have f0 := hbn'.frozen
    gi_wp2
    have hB5 := hB'.setCell (p := ⟨w.heap.size + 1, 0, none⟩) (by simp) (.int .i64 ((pre.length : Nat) + 1))
    refine ⟨(KeepsOthers.setCell _ _ _).from _, ⟨by simp, fun i o hi ha hc => ?_⟩, ⟨?_, ?_⟩, hB5⟩
    · rw [Below.heap_setCell _ _ _ _ (by simp; omega)]
      exact ha
    · have := hbn'.set (.int .i64 ((pre.length : Nat) + 1))
      simpa using this
    · unfold BoxT
      rw [Below.heap_setCell _ _ _ _ (by simp)]
      exact hbx'
  case done =>
    rintro D ys W hD rfl ⟨⟨hbn', hbx'⟩, hB'⟩ hK
    have hd := (hdp W.drew hB'.drew).mono (R' := fun e W5 => e = .returned (.int .i64 (dp : Nat)) ∧ Below W.heap.size W W5) (fun e W5 h => ⟨h.1, (Below.refl _ W).drew.trans h.2⟩)
    have hlt5 : w.heap.size + 1 < W.heap.size := hbn'.lt
    have hlt6 : w.heap.size < W.heap.size := hbx'.lt
    have c0 := hbx'.c0
    have c1 := hbx'.c1
    have c2 := hbx'.c2
    have c3 := hbx'.c3
    have m0 := hbn'.cell
    have m1 := hbn'.frozen
    gi_wp2
    refine wpIn_wide.2 ?_
    go_region_held3 (fun w' => w'.cell? ⟨w.heap.size, 0, none⟩ = some (.int .i64 x0.k) ∧ w'.cell? ⟨w.heap.size, 1, none⟩ = some (.int .i64 x0.N) ∧ w'.cell? ⟨w.heap.size, 2, none⟩ = some (.string x0.s) ∧ w'.cell? ⟨w.heap.size, 3, none⟩ = some (.slice x0.a x0.len x0.cap) ∧ w'.cell? ⟨w.heap.size + 1, 0, none⟩ = some (.int .i64 ((parts t).length : Nat)) ∧ w'.frozen? ⟨w.heap.size + 1, 0, none⟩ = false) (first | (go_keep; done) | (refine ⟨?_, ?_, ?_, ?_, ?_, ?_⟩ <;> first | (refine World.cell?_setCell_same' _ _ _ ?_; simp [*]; done) | (go_keep; done)))
      (first | (go_at_call 75; refine hd.mono ?_; clear hd; rintro e W5 ⟨rfl, hb5⟩; have hbc := bcell hb5; have q1 := (hb5.frozen (p := ⟨w.heap.size + 1, 0, none⟩) hlt5).trans m1))
    gi_wp2
    have hDl := (Array.getElem?_eq_some_iff.1 hK).1
    have hK5 : (W5.setCell ⟨w.heap.size + 1, 0, none⟩ (.int .i64 ((parts t).length : Nat))).heap[D]? = some (.deferred (some [])) := by
      rw [Below.heap_setCell _ _ _ _ (by simp; omega), hb5.block D hDl]
      exact hK
    have hB5 : Below w.heap.size w (W5.setCell ⟨w.heap.size + 1, 0, none⟩ (.int .i64 ((parts t).length : Nat))) := (hB'.trans (hb5.mono hB'.size)).setCell (p := ⟨w.heap.size + 1, 0, none⟩) (by simp) _
    have hbn5 : Boxed W5 (w.heap.size + 1) 3 (.int .i64 ((parts t).length : Nat)) := (hb5.block _ hlt5).trans hbn'
    have hc5 := cell_kept (hbn5.set (.int .i64 ((parts t).length : Nat))).cell (grownBy_putObj' _ D (.deferred none)) (fun r e => by cases e; exact ⟨_, hK5, rfl⟩)
    refine ⟨by simp, .inl ⟨_, _, rfl, run_takeDeferred hK5, ?_⟩⟩
    refine ⟨.tuple #[.int .i64 ((parts t).length : Nat), .int .i64 (dp : Nat), .int .i64 0], ?_, rfl, hB5.trans (belowK_b (w := w) (Nat.le_refl _) _ D _ _ (by omega) hK5 rfl rfl)⟩
    simp [results, Tryz.f34, go_sem, hc5]
  case stop => rintro D c pre W hD hpre h; exact h.elim
theorem measure_any {d : Nat} (t : Tm d) (w : World) (hT : IsT w.heap.size w t) (hok : okT t = true) (hl : (parts t).length ≤ 4194304) :
    Calls Tryz.prog 34 #[t.tv.val] w fun e W' => e = .returned (.tuple #[.int .i64 ((parts t).length : Nat), .int .i64 (depT t : Nat), .int .i64 0]) ∧ Below w.heap.size w W' :=
  callsIn_wide.1 (measure_in 4 (Nat.le_refl _) t w hT hok hl)

set_option maxRecDepth 100000 in
set_option maxHeartbeats 1000000 in
theorem measure_bad {d : Nat} (t : Tm d) (w : World) (hT : IsT w.heap.size w t) (hok : okT t = false) :
    Calls Tryz.prog 34 #[t.tv.val] w fun e W' => e = .returned (.tuple #[.int .i64 0, .int .i64 0, .int .i64 2]) ∧ Below w.heap.size w W' := by
  obtain ⟨W2, hW2, hB2, hbx, hbn, hs2⟩ := boxT_then w t.tv
  have hch := check_any t W2 ((hT.below hB2).mono hB2.size)
  rw [chk_no hok] at hch
  have c0 := hbx.c0
  have c1 := hbx.c1
  have c2 := hbx.c2
  have c3 := hbx.c3
  clear hT hok hbx
  simp only [TV.val] at hch ⊢
  go_enter Tryz.func34, Tryz.ntmps34
  go_wp2_with fail
  refine hch.mono ?_
  clear hch hW2 c0 c1 c2 c3
  rintro e W1 ⟨rfl, hb1⟩
  have hbn1 : Boxed W1 (w.heap.size + 1) 3 (.int .i64 0) := (hb1.block (w.heap.size + 1) (by omega)).trans hbn
  have hB : Below w.heap.size w W1 := hB2.trans (hb1.mono hB2.size)
  have m0 := hbn1.cell
  have m1 := hbn1.frozen
  have m2 := (hbn1.set (.int .i64 0)).cell
  have hBf : Below w.heap.size w (W1.setCell ⟨w.heap.size + 1, 0, none⟩ (.int .i64 0)) := hB.setCell (p := ⟨w.heap.size + 1, 0, none⟩) (by simp) _
  clear hB2 hb1 hbn hbn1 hB
  go_wp2_with fail
  exact bodyPost_ret (v := .tuple #[.int .i64 0, .int .i64 0, .int .i64 2]) (by simp [results, Tryz.results34, go_sem, m2]) rfl ⟨rfl, hBf⟩
end Go.Proofs.YtcjeeagnfmipgaaGreatDoor

