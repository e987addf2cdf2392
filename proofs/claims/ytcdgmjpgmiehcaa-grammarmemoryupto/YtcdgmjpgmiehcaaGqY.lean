import Derived.Test.YtcdgmjpgmiehcaaGqX
/- The errors of grammar's Translate. (Written by wip/gqtranserrgen.py, off GqX.) -/
namespace Go.Proofs.Ytcdgmjpgmiehcaa
open Go.RowKit Go.Shelf

set_option maxRecDepth 100000 in
set_option maxHeartbeats 8000000 in
theorem trans_bad {n : Nat} (t : Tm n) (V : World) (hT : IsT V.heap.size V t) (ok : okT t = false) :
    Calls Try.prog 8 #[t.tv.val] V fun e V' => e = .returned (.tuple #[noTerm.val, .int .i64 2]) ∧ Below V.heap.size V V' := by
  obtain ⟨W2, hW2, g2, hs2, b0, b1⟩ := box_zero V t.tv
  have HRU := hide (rename_bad t 0 W2 ((hT.below g2).mono g2.size) ok)
  have HB := hide (And.intro g2 b1)
  have c0 := b0.c0
  have c1 := b0.c1
  have c2 := b0.c2
  have c3 := b0.c3
  clear hT ok b0 b1 g2
  simp only [TV.val] at HRU ⊢
  go_enter Try.func8, Try.ntmps8
  go_wp2_with fail
  try rw [hW2]
  go_wp2_with fail
  clear hW2 c0 c1 c2 c3
  refine (unhide HRU).mono ?_
  rintro e W3 ⟨rfl, h3⟩
  have g4 : Below W3.heap.size W3 (W3.alloc (.cells #[.int .i64 0, .int .i64 0, .string ⟨#[]⟩, .slice none 0 0] 24)) := (Below.refl _ W3).alloc (Nat.le_refl _) _
  have h34 := h3.trans (g4.mono h3.size)
  have r7 : BoxT W3 (V.heap.size + 1) noTerm := BoxT.below (x := noTerm) (unhide HB).2 h3 (by omega)
  have hq7 := r7.lt
  obtain ⟨f0', f1', f2', f3'⟩ := r7.frz
  have m0 := r7.c0
  have m1 := r7.c1
  have m2 := r7.c2
  have m3 := r7.c3
  have b6 : BoxT ((set4 W3 (V.heap.size + 1) 0 noTerm).alloc (.cells #[.int .i64 0, .int .i64 0, .string ⟨#[]⟩, .slice none 0 0] 24)) (V.heap.size + 1) noTerm := (set4_box r7 noTerm).alloc _
  have z0 := b6.c0
  have z1 := b6.c1
  have z2 := b6.c2
  have z3 := b6.c3
  have hB3 := (unhide HB).1.trans (h3.mono (unhide HB).1.size)
  have HF := hide ((set4_below hB3 (show V.heap.size ≤ V.heap.size + 1 by omega) 0 noTerm).alloc (o := (.cells #[.int .i64 0, .int .i64 0, .string ⟨#[]⟩, .slice none 0 0] 24)) (by rw [set4_size]; exact hB3.size))
  clear r7 h34 g4 h3 HB HRU b6 hB3
  go_wp2_with fail
  exact bodyPost_ret (v := .tuple #[noTerm.val, .int .i64 2]) (by
    have e : ((((W3.setCell ⟨V.heap.size + 1, 0, none⟩ (.int .i64 0)).setCell ⟨V.heap.size + 1, 1, none⟩ (.int .i64 0)).setCell ⟨V.heap.size + 1, 2, none⟩ (.string ⟨#[]⟩)).setCell ⟨V.heap.size + 1, 3, none⟩ (.slice none 0 0)).alloc (.cells #[.int .i64 0, .int .i64 0, .string ⟨#[]⟩, .slice none 0 0] 24) = (set4 W3 (V.heap.size + 1) 0 noTerm).alloc (.cells #[.int .i64 0, .int .i64 0, .string ⟨#[]⟩, .slice none 0 0] 24) := rfl
    rw [e]
    simp [results, Try.results8, go_sem, TV.val, z0, z1, z2, z3]) rfl ⟨rfl, unhide HF⟩
set_option maxRecDepth 100000 in
set_option maxHeartbeats 8000000 in
theorem trans_not {n : Nat} (t : Tm (n + 1)) (V : World) (hT : IsT V.heap.size V t) (ok : okT t = true) (pl : (parts t).length ≤ 4194304) (hn : n ≤ 68719476736) (hx : isB t.tv ruleL 2 = false) :
    Calls Try.prog 8 #[t.tv.val] V fun e V' => e = .returned (.tuple #[noTerm.val, .int .i64 1]) ∧ Below V.heap.size V V' := by
  obtain ⟨W2, hW2, g2, hs2, b0, b1⟩ := box_zero V t.tv
  have HRU := hide (own_ren t V hT ok pl (by omega) W2 g2)
  have HIS : Hid (∀ (V : World) (o : Tm (n + 2)), Own t o → Calls Try.prog 20 #[.agg #[.int .i64 o.tv.k, .int .i64 o.tv.N, .string o.tv.s, .slice o.tv.a o.tv.len o.tv.cap], .string ⟨#[45, 45, 62]⟩, .int .i64 2] V fun e W' => e = .returned (.bool false) ∧ Below V.heap.size V W') := hide fun V o ho => by
    have := gis_any o.tv ⟨#[45, 45, 62]⟩ 2 V
    rw [show (⟨#[45, 45, 62]⟩ : ByteArray).toList = ruleL by decide +kernel, (isB_ren (sigT t) hT.wl ok ho.cd ruleL 2).trans hx] at this
    exact this
  have HB := hide (And.intro g2 b1)
  have c0 := b0.c0
  have c1 := b0.c1
  have c2 := b0.c2
  have c3 := b0.c3
  clear hT ok b0 b1 g2 hx pl
  simp only [TV.val] at HRU ⊢
  go_enter Try.func8, Try.ntmps8
  go_wp2_with fail
  try rw [hW2]
  go_wp2_with fail
  clear hW2 c0 c1 c2 c3
  refine (unhide HRU).mono ?_
  rintro e W3 ⟨o, rfl, h3, hTo, hOwn⟩
  obtain ⟨W4, hW4⟩ : ∃ W4, W3.alloc (.cells #[.int .i64 o.tv.k, .int .i64 o.tv.N, .string o.tv.s, .slice o.tv.a o.tv.len o.tv.cap] 24) = W4 := ⟨_, rfl⟩
  have g4 : Below W3.heap.size W3 W4 := by rw [← hW4]; exact (Below.refl _ W3).alloc (Nat.le_refl _) _
  have bo : BoxT W4 W3.heap.size o.tv := by rw [← hW4]; exact BoxT.new W3 o.tv
  have d0 := bo.c0
  have d1 := bo.c1
  have d2 := bo.c2
  have d3 := bo.c3
  have HIU := hide ((unhide HIS) W4 o hOwn)
  have HG := hide (h3.trans (g4.mono h3.size))
  clear HRU hTo hOwn HIS g4 bo h3
  go_wp2_with fail
  try rw [hW4]
  go_wp2_with fail
  clear hW4
  refine (unhide HIU).mono ?_
  rintro e W5 ⟨rfl, h5⟩
  have h25 := (unhide HG).trans (h5.mono (unhide HG).size)
  have r7 : BoxT W5 (V.heap.size + 1) noTerm := BoxT.below (x := noTerm) (unhide HB).2 h25 (by omega)
  obtain ⟨f0', f1', f2', f3'⟩ := r7.frz
  have m0 := r7.c0
  have m1 := r7.c1
  have m2 := r7.c2
  have m3 := r7.c3
  have HF := hide (set4_below ((unhide HB).1.trans (h25.mono (unhide HB).1.size)) (show V.heap.size ≤ V.heap.size + 1 by omega) 0 noTerm)
  clear r7 h25 h5 HB HIU HG d0 d1 d2 d3
  go_wp2_with fail
  exact bodyPost_ret (v := .tuple #[noTerm.val, .int .i64 1]) (by simp [results, Try.results8, go_sem, TV.val, noTerm, m0, m1, m2, m3]) rfl ⟨rfl, unhide HF⟩
set_option maxRecDepth 100000 in
set_option maxHeartbeats 8000000 in
theorem trans_head {n : Nat} (x : TV) (h b : Tm (n + 1)) (V : World) (hT : IsT (n := n + 2) V.heap.size V ((x, [h, b]) : TV × List (Tm (n + 1)))) (ok : okT (n := n + 2) ((x, [h, b]) : TV × List (Tm (n + 1))) = true) (pl : (parts (n := n + 2) ((x, [h, b]) : TV × List (Tm (n + 1)))).length ≤ 4194304) (hn : n ≤ 68719476736) (hx : isB x ruleL 2 = true) (hh : headE h.tv ≠ 0) :
    Calls Try.prog 8 #[x.val] V fun e V' => e = .returned (.tuple #[noTerm.val, .int .i64 (headE h.tv)]) ∧ Below V.heap.size V V' := by
  have HR1 := hide (own_ren (n := n + 2) ((x, [h, b]) : TV × List (Tm (n + 1))) V hT ok pl (by omega))
  obtain ⟨K, hK⟩ : ∃ K : Nat, (stepsN stpN [] (code (n := n + 2) ((x, [h, b]) : TV × List (Tm (n + 1))))).length = K := ⟨_, rfl⟩
  rw [hK] at HR1
  have hKb0 : K ≤ 4194304 ∧ cntT b ≤ 4194304 := by
    have h1 := varsC_len [] (code (n := n + 2) ((x, [h, b]) : TV × List (Tm (n + 1))))
    have h2 : (code (n := n + 2) ((x, [h, b]) : TV × List (Tm (n + 1)))).length = (parts (n := n + 2) ((x, [h, b]) : TV × List (Tm (n + 1)))).length := (by unfold code; rw [List.length_map])
    have h3 : (varsC [] (code (n := n + 2) ((x, [h, b]) : TV × List (Tm (n + 1))))).length = K := hK
    have h4 := cnt_le b (hT.wl.2 b (by simp [Tm.kids]))
    have h5 : (code (n := n + 2) ((x, [h, b]) : TV × List (Tm (n + 1)))).length = 1 + ((code h).length + (code b).length) := by rw [code_succ]; simp; omega
    simp only [List.length_nil] at h1
    omega
  have HK0 : Hid (∀ N, IsVarOf (code (n := n + 2) ((x, [h, b]) : TV × List (Tm (n + 1)))) N → 0 ≤ sigT (n := n + 2) ((x, [h, b]) : TV × List (Tm (n + 1))) N ∧ sigT (n := n + 2) ((x, [h, b]) : TV × List (Tm (n + 1))) N < K) := hide fun N hN => by
    have hm : N ∈ stepsN stpN [] (code (n := n + 2) ((x, [h, b]) : TV × List (Tm (n + 1)))) := (steps_mem _ [] N).2 (.inr hN)
    have := List.idxOf_lt_length_of_mem hm
    unfold sigT
    omega
  have hKb0' := hide hKb0
  clear hKb0 hK
  obtain ⟨W2, hW2, g2, hs2, b0, b1⟩ := box_zero V x
  have HRU := hide ((unhide HR1) W2 g2)
  have HIS : Hid (∀ (V : World) (x : TV), Calls Try.prog 20 #[.agg #[.int .i64 x.k, .int .i64 x.N, .string x.s, .slice x.a x.len x.cap], .string ⟨#[45, 45, 62]⟩, .int .i64 2] V fun e W' => e = .returned (.bool (isB x ruleL 2)) ∧ Below V.heap.size V W') := hide fun V x => by
    have := gis_any x ⟨#[45, 45, 62]⟩ 2 V
    rw [show (⟨#[45, 45, 62]⟩ : ByteArray).toList = ruleL by decide +kernel] at this
    exact this
  have HB := hide (And.intro g2 b1)
  have c0 := b0.c0
  have c1 := b0.c1
  have c2 := b0.c2
  have c3 := b0.c3
  have HT := hide (And.intro hT (And.intro ok (And.intro hx hh)))
  clear hT ok hx hh b0 b1 g2 HR1 pl
  simp only [TV.val, Tm.tv] at HRU ⊢
  go_enter Try.func8, Try.ntmps8
  go_wp2_with fail
  try rw [hW2]
  go_wp2_with fail
  clear hW2 c0 c1 c2 c3
  refine (unhide HRU).mono ?_
  rintro e W3 ⟨o, rfl, h3, hTo, hOwn⟩
  obtain ⟨ox, okk⟩ := o
  obtain ⟨hT, ok, hx, hh⟩ := unhide HT
  have hw : Wl (n := n + 2) ((x, [h, b]) : TV × List (Tm (n + 1))) := hT.wl
  obtain ⟨oh, ob, rfl, hol, hc1, hc2, hw1, hw2⟩ := own_parts (n := n + 1) hw ok hx hOwn
  have hox : isB ox ruleL 2 = true := by
    have := isB_ren (sigT (n := n + 2) ((x, [h, b]) : TV × List (Tm (n + 1)))) hw ok hOwn.cd ruleL 2
    exact this.trans hx
  rcases hTo.2.2.2 with h4 | ⟨Bk, off, hxa, hBk, hcs⟩
  · cases h4
  obtain ⟨ch, hTh⟩ := hcs 0 oh rfl
  obtain ⟨cb, hTb⟩ := hcs 1 ob rfl
  simp only [Nat.zero_mul, Nat.add_zero, Nat.one_mul] at ch cb
  obtain ⟨k0, N0, s0, a0, l0, cp0⟩ := ox
  have hxa' : a0 = some ⟨Bk, off, none⟩ := hxa
  have hol' : l0 = 2 := hol
  subst hxa' hol'
  obtain ⟨W4, hW4⟩ : ∃ W4, W3.alloc (.cells #[.int .i64 k0, .int .i64 N0, .string s0, .slice (some ⟨Bk, off, none⟩) 2 cp0] 24) = W4 := ⟨_, rfl⟩
  have g4 : Below W3.heap.size W3 W4 := by rw [← hW4]; exact (Below.refl _ W3).alloc (Nat.le_refl _) _
  have hs4 : W4.heap.size = W3.heap.size + 1 := by rw [← hW4]; simp
  have bo : BoxT W4 W3.heap.size ⟨k0, N0, s0, some ⟨Bk, off, none⟩, 2, cp0⟩ := by rw [← hW4]; exact BoxT.new W3 ⟨k0, N0, s0, some ⟨Bk, off, none⟩, 2, cp0⟩
  have d0 := bo.c0
  have d1 := bo.c1
  have d2 := bo.c2
  have d3 := bo.c3
  have HIU := hide ((unhide HIS) W4 ⟨k0, N0, s0, some ⟨Bk, off, none⟩, 2, cp0⟩)
  rw [hox] at HIU
  clear HRU HT hcs hxa hol hTo
  simp only at HIU ⊢
  go_wp2_with fail
  try rw [hW4]
  go_wp2_with fail
  refine (unhide HIU).mono ?_
  rintro e W5 ⟨rfl, h5⟩
  have hs5 := h5.size
  have bo5 := bo.below h5 bo.lt
  have kk : ∀ k, k < W3.heap.size → W5.heap[k]? = W3.heap[k]? := fun k hk => (h5.block k (by omega)).trans (g4.block k hk)
  have ch5 := ch.kept (kk Bk hBk)
  have cb5 := cb.kept (kk Bk hBk)
  clear d0 d1 d2 d3 HIU
  go_wp2_with fail
  refine wp_trans6 (ob := W3.heap.size) (Bk := Bk) (off := off) (oc := cp0) (h := oh.tv) (b := ob.tv) (by omega) (by omega) ⟨bo5.c3, ch5.1, ch5.2.1, ch5.2.2.1, ch5.2.2.2, cb5.1, cb5.2.1, cb5.2.2.1, cb5.2.2.2⟩ ?_
  intro W6 q1 q2 u30 u31 u32 u33 u34 u35 u36 u37 h6 hq1 hq2 hq12 bh bb
  have hs6 := h6.size
  obtain ⟨he1, he2⟩ := head_ren (sigT (n := n + 2) ((x, [h, b]) : TV × List (Tm (n + 1)))) (u := h) (o := oh) (hw.2 h (by simp [Tm.kids])) ((ok_kids ok).2 h (by simp)) hc1
  obtain ⟨hq1', hq2', _⟩ := btw_ren (sigT (n := n + 2) ((x, [h, b]) : TV × List (Tm (n + 1)))) b (hw.2 b (by simp [Tm.kids])) ((ok_kids ok).2 b (by simp)) ob hw2 hc2
  obtain ⟨hKb0, hcb0⟩ := unhide hKb0'
  have oko : okT (n := n + 3) ((⟨k0, N0, s0, some ⟨Bk, off, none⟩, 2, cp0⟩, [oh, ob]) : TV × List (Tm (n + 2))) = true := by
    have h1 : (renC (sigT (n := n + 2) ((x, [h, b]) : TV × List (Tm (n + 1)))) (code (n := n + 2) ((x, [h, b]) : TV × List (Tm (n + 1))))).all okM = true := ren_ok ((okT_m (n := n + 2) ((x, [h, b]) : TV × List (Tm (n + 1)))).symm.trans ok) (fun N hN => by have := (unhide HK0) N hN; omega)
    exact (okT_m (n := n + 3) ((⟨k0, N0, s0, some ⟨Bk, off, none⟩, 2, cp0⟩, [oh, ob]) : TV × List (Tm (n + 2)))).trans ((congrArg (fun c => List.all c okM) hOwn.cd).trans h1)
  have hxk := isB_kind hx
  have hcv : ∀ N, IsVarOf (code oh) N ∨ IsVarOf (code ob) N → 0 ≤ N ∧ N < (K : Int) := fun N hN => by
    rcases hN with hN | hN
    · rw [hc1] at hN
      obtain ⟨M, hM, rfl⟩ := ren_has hN
      exact (unhide HK0) M ((code_vars hxk M).2 (by rw [List.flatMap_cons]; exact (isVar_append _ _ M).2 (.inl hM)))
    · rw [hc2] at hN
      obtain ⟨M, hM, rfl⟩ := ren_has hN
      exact (unhide HK0) M ((code_vars hxk M).2 (by rw [List.flatMap_cons, List.flatMap_cons]; exact (isVar_append _ _ M).2 (.inr ((isVar_append _ _ M).2 (.inl hM)))))
  have hcn : cntT ob ≤ 4194304 := by rw [hq1']; exact hcb0
  have hlo := ok_len ((ok_kids oko).2 oh (by simp))
  have k36 : ∀ k, k < W3.heap.size → W6.heap[k]? = W3.heap[k]? := fun k hk => (h6.block k (by omega)).trans (kk k hk)
  have tb6 : IsT W6.heap.size W6 ob := (hTb.fromS (S := (· < W3.heap.size)) k36 hTb.blk).mono (by omega)
  have th6 : IsT W6.heap.size W6 oh := (hTh.fromS (S := (· < W3.heap.size)) k36 hTh.blk).mono (by omega)
  have g26 : Below W2.heap.size W2 W6 := ((h3.trans (g4.mono h3.size)).trans (h5.mono (by have := h3.size; omega))).trans (h6.mono (by have := h3.size; omega))
  have hB6 : Below V.heap.size V W6 := (unhide HB).1.trans (g26.mono (unhide HB).1.size)
  have r6 : BoxT W6 (V.heap.size + 1) noTerm := BoxT.below (x := noTerm) (unhide HB).2 g26 (by omega)
  have HHD := hide (ghead_any oh.tv W6 hlo)
  rw [he1] at HHD
  have a0 := bh.c0
  have a1 := bh.c1
  have a2 := bh.c2
  have a3 := bh.c3
  have hne : (headE h.tv == 0) = false := by simpa using hh
  have HZ := hide (And.intro hB6 r6)
  clear g26 hB6 r6 hc1 hc2 he1 he2 hq1' hq2' oko tb6 th6 hT ok hh hOwn hx hox hw hw1 hw2 ch cb ch5 cb5 hTh hTb bo bo5 hcv hcn hxk hKb0 hcb0 hKb0' HK0 g4 hW4 h5 h3 h6 kk k36 hlo
  simp only [TV.val] at HHD
  go_wp2_with fail
  refine (unhide HHD).mono ?_
  rintro e W7 ⟨rfl, h7⟩
  have r7 := (unhide HZ).2.below h7 (unhide HZ).2.lt
  obtain ⟨f0', f1', f2', f3'⟩ := r7.frz
  have m0 := r7.c0
  have m1 := r7.c1
  have m2 := r7.c2
  have m3 := r7.c3
  have HF := hide (set4_below ((unhide HZ).1.trans (h7.mono (unhide HZ).1.size)) (show V.heap.size ≤ V.heap.size + 1 by omega) 0 noTerm)
  clear h7 r7 HHD HZ bh bb a0 a1 a2 a3
  go_wp2_with fail
  exact bodyPost_ret (v := .tuple #[noTerm.val, .int .i64 (headE h.tv)]) (by simp [results, Try.results8, go_sem, TV.val, noTerm, m0, m1, m2, m3]) rfl ⟨rfl, unhide HF⟩
set_option maxRecDepth 100000 in
set_option maxHeartbeats 8000000 in
theorem trans_body {n : Nat} (x : TV) (h b : Tm (n + 1)) (V : World) (hT : IsT (n := n + 2) V.heap.size V ((x, [h, b]) : TV × List (Tm (n + 1)))) (ok : okT (n := n + 2) ((x, [h, b]) : TV × List (Tm (n + 1))) = true) (pl : (parts (n := n + 2) ((x, [h, b]) : TV × List (Tm (n + 1)))).length ≤ 4194304) (hn : n ≤ 68719476736) (hx : isB x ruleL 2 = true) (hh : headE h.tv = 0) (hb : berr b ≠ 0) :
    Calls Try.prog 8 #[x.val] V fun e V' => e = .returned (.tuple #[noTerm.val, .int .i64 (berr b)]) ∧ Below V.heap.size V V' := by
  have HR1 := hide (own_ren (n := n + 2) ((x, [h, b]) : TV × List (Tm (n + 1))) V hT ok pl (by omega))
  obtain ⟨K, hK⟩ : ∃ K : Nat, (stepsN stpN [] (code (n := n + 2) ((x, [h, b]) : TV × List (Tm (n + 1))))).length = K := ⟨_, rfl⟩
  rw [hK] at HR1
  have hKb0 : K ≤ 4194304 ∧ cntT b ≤ 4194304 := by
    have h1 := varsC_len [] (code (n := n + 2) ((x, [h, b]) : TV × List (Tm (n + 1))))
    have h2 : (code (n := n + 2) ((x, [h, b]) : TV × List (Tm (n + 1)))).length = (parts (n := n + 2) ((x, [h, b]) : TV × List (Tm (n + 1)))).length := (by unfold code; rw [List.length_map])
    have h3 : (varsC [] (code (n := n + 2) ((x, [h, b]) : TV × List (Tm (n + 1))))).length = K := hK
    have h4 := cnt_le b (hT.wl.2 b (by simp [Tm.kids]))
    have h5 : (code (n := n + 2) ((x, [h, b]) : TV × List (Tm (n + 1)))).length = 1 + ((code h).length + (code b).length) := by rw [code_succ]; simp; omega
    simp only [List.length_nil] at h1
    omega
  have HK0 : Hid (∀ N, IsVarOf (code (n := n + 2) ((x, [h, b]) : TV × List (Tm (n + 1)))) N → 0 ≤ sigT (n := n + 2) ((x, [h, b]) : TV × List (Tm (n + 1))) N ∧ sigT (n := n + 2) ((x, [h, b]) : TV × List (Tm (n + 1))) N < K) := hide fun N hN => by
    have hm : N ∈ stepsN stpN [] (code (n := n + 2) ((x, [h, b]) : TV × List (Tm (n + 1)))) := (steps_mem _ [] N).2 (.inr hN)
    have := List.idxOf_lt_length_of_mem hm
    unfold sigT
    omega
  have hKb0' := hide hKb0
  clear hKb0 hK
  obtain ⟨W2, hW2, g2, hs2, b0, b1⟩ := box_zero V x
  have HRU := hide ((unhide HR1) W2 g2)
  have HIS : Hid (∀ (V : World) (x : TV), Calls Try.prog 20 #[.agg #[.int .i64 x.k, .int .i64 x.N, .string x.s, .slice x.a x.len x.cap], .string ⟨#[45, 45, 62]⟩, .int .i64 2] V fun e W' => e = .returned (.bool (isB x ruleL 2)) ∧ Below V.heap.size V W') := hide fun V x => by
    have := gis_any x ⟨#[45, 45, 62]⟩ 2 V
    rw [show (⟨#[45, 45, 62]⟩ : ByteArray).toList = ruleL by decide +kernel] at this
    exact this
  have HB := hide (And.intro g2 b1)
  have c0 := b0.c0
  have c1 := b0.c1
  have c2 := b0.c2
  have c3 := b0.c3
  have HT := hide (And.intro hT (And.intro ok (And.intro hx (And.intro hh hb))))
  clear hT ok hx hh hb b0 b1 g2 HR1 pl
  simp only [TV.val, Tm.tv] at HRU ⊢
  go_enter Try.func8, Try.ntmps8
  go_wp2_with fail
  try rw [hW2]
  go_wp2_with fail
  clear hW2 c0 c1 c2 c3
  refine (unhide HRU).mono ?_
  rintro e W3 ⟨o, rfl, h3, hTo, hOwn⟩
  obtain ⟨ox, okk⟩ := o
  obtain ⟨hT, ok, hx, hh, hb⟩ := unhide HT
  have hw : Wl (n := n + 2) ((x, [h, b]) : TV × List (Tm (n + 1))) := hT.wl
  obtain ⟨oh, ob, rfl, hol, hc1, hc2, hw1, hw2⟩ := own_parts (n := n + 1) hw ok hx hOwn
  have hox : isB ox ruleL 2 = true := by
    have := isB_ren (sigT (n := n + 2) ((x, [h, b]) : TV × List (Tm (n + 1)))) hw ok hOwn.cd ruleL 2
    exact this.trans hx
  rcases hTo.2.2.2 with h4 | ⟨Bk, off, hxa, hBk, hcs⟩
  · cases h4
  obtain ⟨ch, hTh⟩ := hcs 0 oh rfl
  obtain ⟨cb, hTb⟩ := hcs 1 ob rfl
  simp only [Nat.zero_mul, Nat.add_zero, Nat.one_mul] at ch cb
  obtain ⟨k0, N0, s0, a0, l0, cp0⟩ := ox
  have hxa' : a0 = some ⟨Bk, off, none⟩ := hxa
  have hol' : l0 = 2 := hol
  subst hxa' hol'
  obtain ⟨W4, hW4⟩ : ∃ W4, W3.alloc (.cells #[.int .i64 k0, .int .i64 N0, .string s0, .slice (some ⟨Bk, off, none⟩) 2 cp0] 24) = W4 := ⟨_, rfl⟩
  have g4 : Below W3.heap.size W3 W4 := by rw [← hW4]; exact (Below.refl _ W3).alloc (Nat.le_refl _) _
  have hs4 : W4.heap.size = W3.heap.size + 1 := by rw [← hW4]; simp
  have bo : BoxT W4 W3.heap.size ⟨k0, N0, s0, some ⟨Bk, off, none⟩, 2, cp0⟩ := by rw [← hW4]; exact BoxT.new W3 ⟨k0, N0, s0, some ⟨Bk, off, none⟩, 2, cp0⟩
  have d0 := bo.c0
  have d1 := bo.c1
  have d2 := bo.c2
  have d3 := bo.c3
  have HIU := hide ((unhide HIS) W4 ⟨k0, N0, s0, some ⟨Bk, off, none⟩, 2, cp0⟩)
  rw [hox] at HIU
  clear HRU HT hcs hxa hol hTo
  simp only at HIU ⊢
  go_wp2_with fail
  try rw [hW4]
  go_wp2_with fail
  refine (unhide HIU).mono ?_
  rintro e W5 ⟨rfl, h5⟩
  have hs5 := h5.size
  have bo5 := bo.below h5 bo.lt
  have kk : ∀ k, k < W3.heap.size → W5.heap[k]? = W3.heap[k]? := fun k hk => (h5.block k (by omega)).trans (g4.block k hk)
  have ch5 := ch.kept (kk Bk hBk)
  have cb5 := cb.kept (kk Bk hBk)
  clear d0 d1 d2 d3 HIU
  go_wp2_with fail
  refine wp_trans6 (ob := W3.heap.size) (Bk := Bk) (off := off) (oc := cp0) (h := oh.tv) (b := ob.tv) (by omega) (by omega) ⟨bo5.c3, ch5.1, ch5.2.1, ch5.2.2.1, ch5.2.2.2, cb5.1, cb5.2.1, cb5.2.2.1, cb5.2.2.2⟩ ?_
  intro W6 q1 q2 u30 u31 u32 u33 u34 u35 u36 u37 h6 hq1 hq2 hq12 bh bb
  have hs6 := h6.size
  obtain ⟨he1, he2⟩ := head_ren (sigT (n := n + 2) ((x, [h, b]) : TV × List (Tm (n + 1)))) (u := h) (o := oh) (hw.2 h (by simp [Tm.kids])) ((ok_kids ok).2 h (by simp)) hc1
  obtain ⟨hq1', hq2', _⟩ := btw_ren (sigT (n := n + 2) ((x, [h, b]) : TV × List (Tm (n + 1)))) b (hw.2 b (by simp [Tm.kids])) ((ok_kids ok).2 b (by simp)) ob hw2 hc2
  obtain ⟨hKb0, hcb0⟩ := unhide hKb0'
  have oko : okT (n := n + 3) ((⟨k0, N0, s0, some ⟨Bk, off, none⟩, 2, cp0⟩, [oh, ob]) : TV × List (Tm (n + 2))) = true := by
    have h1 : (renC (sigT (n := n + 2) ((x, [h, b]) : TV × List (Tm (n + 1)))) (code (n := n + 2) ((x, [h, b]) : TV × List (Tm (n + 1))))).all okM = true := ren_ok ((okT_m (n := n + 2) ((x, [h, b]) : TV × List (Tm (n + 1)))).symm.trans ok) (fun N hN => by have := (unhide HK0) N hN; omega)
    exact (okT_m (n := n + 3) ((⟨k0, N0, s0, some ⟨Bk, off, none⟩, 2, cp0⟩, [oh, ob]) : TV × List (Tm (n + 2)))).trans ((congrArg (fun c => List.all c okM) hOwn.cd).trans h1)
  have hxk := isB_kind hx
  have hcv : ∀ N, IsVarOf (code oh) N ∨ IsVarOf (code ob) N → 0 ≤ N ∧ N < (K : Int) := fun N hN => by
    rcases hN with hN | hN
    · rw [hc1] at hN
      obtain ⟨M, hM, rfl⟩ := ren_has hN
      exact (unhide HK0) M ((code_vars hxk M).2 (by rw [List.flatMap_cons]; exact (isVar_append _ _ M).2 (.inl hM)))
    · rw [hc2] at hN
      obtain ⟨M, hM, rfl⟩ := ren_has hN
      exact (unhide HK0) M ((code_vars hxk M).2 (by rw [List.flatMap_cons, List.flatMap_cons]; exact (isVar_append _ _ M).2 (.inr ((isVar_append _ _ M).2 (.inl hM)))))
  have hcn : cntT ob ≤ 4194304 := by rw [hq1']; exact hcb0
  have hlo := ok_len ((ok_kids oko).2 oh (by simp))
  have k36 : ∀ k, k < W3.heap.size → W6.heap[k]? = W3.heap[k]? := fun k hk => (h6.block k (by omega)).trans (kk k hk)
  have tb6 : IsT W6.heap.size W6 ob := (hTb.fromS (S := (· < W3.heap.size)) k36 hTb.blk).mono (by omega)
  have th6 : IsT W6.heap.size W6 oh := (hTh.fromS (S := (· < W3.heap.size)) k36 hTh.blk).mono (by omega)
  have g26 : Below W2.heap.size W2 W6 := ((h3.trans (g4.mono h3.size)).trans (h5.mono (by have := h3.size; omega))).trans (h6.mono (by have := h3.size; omega))
  have hB6 : Below V.heap.size V W6 := (unhide HB).1.trans (g26.mono (unhide HB).1.size)
  have r6 : BoxT W6 (V.heap.size + 1) noTerm := BoxT.below (x := noTerm) (unhide HB).2 g26 (by omega)
  rw [hh] at he1
  have HHD := hide (ghead_any oh.tv W6 hlo)
  rw [he1] at HHD
  have HCB : Hid (∀ U, Below W6.heap.size W6 U → Calls Try.prog 22 #[.agg #[.int .i64 ob.tv.k, .int .i64 ob.tv.N, .string ob.tv.s, .slice ob.tv.a ob.tv.len ob.tv.cap]] U fun e W' => e = .returned (.tuple #[.int .i64 0, .int .i64 (berr b)]) ∧ Below U.heap.size U W') := hide fun U hU => by
    have := gcheck_any ob U ((tb6.below hU).mono hU.size) ((ok_kids oko).2 ob (by simp)) (by omega) (by omega)
    rw [hq2', if_neg hb] at this
    exact this
  have a0 := bh.c0
  have a1 := bh.c1
  have a2 := bh.c2
  have a3 := bh.c3
  have hne : (berr b == 0) = false := by simpa using hb
  have HZ := hide (And.intro hB6 (And.intro r6 bb))
  clear g26 hB6 r6 hc1 hc2 he1 he2 hq1' hq2' oko tb6 th6 hT ok hh hb hOwn hx hox hw hw1 hw2 ch cb ch5 cb5 hTh hTb bo bo5 hcv hcn hxk hKb0 hcb0 hKb0' HK0 g4 hW4 h5 h3 h6 kk k36 hlo
  simp only [TV.val] at HHD
  go_wp2_with fail
  refine (unhide HHD).mono ?_
  rintro e W7 ⟨rfl, h7⟩
  have bb7 := (unhide HZ).2.2.below h7 (unhide HZ).2.2.lt
  have e0 := bb7.c0
  have e1 := bb7.c1
  have e2 := bb7.c2
  have e3 := bb7.c3
  have HC7 := hide ((unhide HCB) W7 h7)
  clear a0 a1 a2 a3 HHD HCB bb7
  go_wp2_with fail
  refine (unhide HC7).mono ?_
  rintro e W8 ⟨rfl, h8⟩
  have h78 := h7.trans (h8.mono h7.size)
  have r7 := (unhide HZ).2.1.below h78 (unhide HZ).2.1.lt
  obtain ⟨f0', f1', f2', f3'⟩ := r7.frz
  have m0 := r7.c0
  have m1 := r7.c1
  have m2 := r7.c2
  have m3 := r7.c3
  have HF := hide (set4_below ((unhide HZ).1.trans (h78.mono (unhide HZ).1.size)) (show V.heap.size ≤ V.heap.size + 1 by omega) 0 noTerm)
  clear h7 h8 h78 r7 HC7 HZ bh bb e0 e1 e2 e3
  go_wp2_with fail
  exact bodyPost_ret (v := .tuple #[noTerm.val, .int .i64 (berr b)]) (by simp [results, Try.results8, go_sem, TV.val, noTerm, m0, m1, m2, m3]) rfl ⟨rfl, unhide HF⟩
end Go.Proofs.Ytcdgmjpgmiehcaa

