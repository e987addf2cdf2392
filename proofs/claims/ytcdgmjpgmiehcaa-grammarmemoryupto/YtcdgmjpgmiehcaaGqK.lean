import Derived.Test.YtcdgmjpgmiehcaaGqJ
/- grammar's top at bodies of bodies. (Written by wip/gqtop2gen.py.) -/
namespace Go.Proofs.Ytcdgmjpgmiehcaa
open Go.RowKit Go.Shelf

/-- Two tasks were left, and a row of two. -/
structure TwoP (B wb : Nat) (nx : Int) (lf : Value) (S : List Task) (V : World) (R : Nat) (T1 T2 : Task) (V' : World) : Prop where
  hR : V.heap.size ≤ R
  rR : Row4 V' R 2
  st : ∃ lf', WrB V' wb nx lf' ∧ StkK B V' lf' (S ++ [T2] ++ [T1])
  fr : FrG B (fun k => k = wb) V V'
  gr : GrB (fun k => k = wb ∨ lf.ownBlock = some k) V.heap.size V V'
theorem StkK.notbox {B : Nat} {W : World} {v : Value} {S : List Task} {b : Nat} {x : TV} (h : StkK B W v S) (hb : BoxT W b x) : ∀ g, v.ownBlock = some g → g ≠ b := fun g hg e => by
  obtain ⟨_, _, cur, hc⟩ := StkW.lt h hg
  rw [e] at hc
  have := hc.symm.trans hb
  simp at this
theorem FrG.set4 {B : Nat} {X : Nat → Prop} {V V' : World} (h : FrG B X V V') {b : Nat} (hb : V.heap.size ≤ b) (o : Nat) (x : TV) : FrG B X V (Proofs.Ytcdgmjpgmiehcaa.set4 V' b o x) :=
  ⟨h.os, h.tape, h.output, by rw [set4_size]; exact h.size, fun k hk hx hc => (set4_other V' b o x (by omega)).trans (h.block k hk hx hc)⟩
theorem FrG.box {B : Nat} {X : Nat → Prop} {V V' : World} (h : FrG B X V V') {b : Nat} {x : TV} (hb : BoxT V b x) (hx : ¬ X b) : BoxT V' b x := (h.block b hb.lt hx (.inr fun o ho => by
  rw [show V.heap[b]? = _ from hb] at ho
  cases ho
  simp [ofK])).trans hb
theorem TwoP.set4 {B wb : Nat} {nx : Int} {lf : Value} {S : List Task} {V U U2 : World} {R : Nat} {T1 T2 : Task} (h : TwoP B wb nx lf S U R T1 T2 U2) (hV : Below V.heap.size V U) {b : Nat} {z : TV} (hbV : V.heap.size ≤ b) (hbU : b < U.heap.size) (hwb : wb ≠ b) (hbx : BoxT U2 b z) (x : TV) : TwoP B wb nx lf S V R T1 T2 (Proofs.Ytcdgmjpgmiehcaa.set4 U2 b 0 x) := by
  obtain ⟨lf', hw, hst⟩ := h.st
  have ot := fun k (hk : k ≠ b) => set4_other U2 b 0 x hk
  have hsz := hV.size
  exact ⟨by have := h.hR; omega, h.rR.kept (ot _ (by have := h.hR; omega)), ⟨lf', hw.kept (ot _ hwb), hst.frame (fun g hg => ot g (hst.notbox hbx g hg))⟩, ((FrG.of_below hV).trans h.fr).set4 hbV 0 x, ((GrB.of_below hV).trans (h.gr.mono hV.size)).set4 hbV 0 x⟩
section
variable {B wb Bk off : Nat} {V : World} {nx : Int} {lf : Value} {S : List Task} {a b : TV}
set_option maxRecDepth 100000 in
set_option maxHeartbeats 8000000 in
theorem top_seq (E : Task) (hf : formB E.x = 2) (hw : WrB V wb nx lf) (hS : StkK B V lf S) (hl : S.length + 2 ≤ 1099511627776) (_hB : B ≤ V.heap.size) (hwB : B ≤ wb) (hBk : Bk < B) (hxa : E.x.a = some ⟨Bk, off, none⟩) (hxl : E.x.len = 2) (ha : cellsAt V Bk off a) (hb : cellsAt V Bk (off + 4) b) :
    Calls Try.prog 37 #[.pointer (some ⟨wb, 0, none⟩), E.val] V fun e V' => ∃ R q, e = .returned (compV E.x.s (some ⟨R, 0, none⟩) 2 2).val ∧ V.heap.size ≤ q ∧ PtB V' q noTerm false ∧ TwoP B wb nx lf S V R ⟨a, E.pf, q, ⟨R, 0, none⟩⟩ ⟨b, q, E.pt, ⟨R, 4, none⟩⟩ V' := by
  obtain ⟨W2, W3, hW2, hW3, t0, hs2, g3, hs3, b0, b1, b2⟩ := box_top V E
  have HFO : Hid (Calls Try.prog 33 #[.agg #[.int .i64 E.x.k, .int .i64 E.x.N, .string E.x.s, .slice E.x.a E.x.len E.x.cap]] W3 fun e W' => e = .returned (.int .i64 (formB E.x)) ∧ Below W3.heap.size W3 W') := hide (form_any E.x W3)
  have hwl := hw.lt
  have HBO : Hid (∀ (U : World) (q : Nat), Below W3.heap.size W3 U → Calls Try.prog 48 #[.pointer (some ⟨wb, 0, none⟩), .agg #[.int .i64 E.x.k, .int .i64 E.x.N, .string E.x.s, .slice E.x.a E.x.len E.x.cap], .agg #[.int .i64 0, .int .i64 0, .string ⟨#[]⟩, .slice none 0 0, .pointer (some ⟨E.pf, 0, none⟩), .pointer (some ⟨q, 0, none⟩), .pointer none], .agg #[.int .i64 0, .int .i64 0, .string ⟨#[]⟩, .slice none 0 0, .pointer (some ⟨q, 0, none⟩), .pointer (some ⟨E.pt, 0, none⟩), .pointer none]] U fun e V' => ∃ R, e = .returned (compV E.x.s (some ⟨R, 0, none⟩) 2 2).val ∧ TwoP B wb nx lf S U R ⟨a, E.pf, q, ⟨R, 0, none⟩⟩ ⟨b, q, E.pt, ⟨R, 4, none⟩⟩ V') := hide fun U q hU => by
    have gU := g3.trans (hU.mono g3.size)
    have hz := gU.size
    refine (both_any (x := E.x) (y1 := noTerm) (y2 := noTerm) (a := a) (b := b) (Bk := Bk) (off := off) (pl1 := .pointer none) (pl2 := .pointer none) (hw.kept (gU.block wb hwl)) (hS.below gU) hl (by omega) hwB hBk hxa hxl (ha.kept (gU.block Bk (by omega))) (hb.kept (gU.block Bk (by omega)))).mono fun e V' h => ?_
    obtain ⟨R, lf', h1, h2, h3, h4, h5, h6, h7⟩ := h
    exact ⟨R, h1, h2, h3, ⟨lf', h4, h5⟩, h6, h7⟩
  have HST := hide (And.intro g3 hwl)
  have a0 := b2.c0
  have a1 := b2.c1
  have a2 := b2.c2
  have a3 := b2.c3
  obtain ⟨j0, j1, j2, j3, _, _, _⟩ := t0.cells
  have HB := hide (And.intro b0 (And.intro b1 b2))
  have hrow : E.row.toArray = #[.int .i64 E.x.k, .int .i64 E.x.N, .string E.x.s, .slice E.x.a E.x.len E.x.cap, .pointer (some ⟨E.pf, 0, none⟩), .pointer (some ⟨E.pt, 0, none⟩), .pointer (some E.pl)] := rfl
  rw [hf] at HFO
  clear t0 b0 b1 b2 g3 hw hS hl _hB hwB hBk hxa hxl ha hb hwl
  simp only [Task.val]
  rw [hrow]
  clear hrow
  go_enter Try.func37, Try.ntmps37
  go_wp2_with fail
  try rw [hW2]
  go_wp2_with fail
  try rw [hW3]
  go_wp2_with fail
  clear hW2 hW3 j0 j1 j2 j3 a0 a1 a2 a3
  refine (unhide HFO).mono ?_
  rintro e U ⟨rfl, hU⟩
  obtain ⟨b0, b1, b2⟩ := unhide HB
  have hUs := hU.size
  have t0 : TkB U V.heap.size E := (hU.block _ (by omega)).trans b0
  have r0 : BoxT U (V.heap.size + 1) noTerm := b1.below hU (by omega)
  have x0 : BoxT U (V.heap.size + 1 + 1) E.x := b2.below hU (by omega)
  clear b0 b1 b2 HB HFO
  obtain ⟨i0, i1, i2, i3, i4, i5, i6⟩ := t0.cells
  obtain ⟨q, hq⟩ : ∃ q, U.heap.size = q := ⟨_, rfl⟩
  obtain ⟨UQ, hUQ⟩ : ∃ UQ, U.alloc (.cells #[.int .i64 0, .int .i64 0, .string ⟨#[]⟩, .slice none 0 0, .bool false] 61) = UQ := ⟨_, rfl⟩
  have gQ : Below U.heap.size U UQ := by rw [← hUQ]; exact (Below.refl _ U).alloc (Nat.le_refl _) _
  have hsQ : UQ.heap.size = U.heap.size + 1 := by rw [← hUQ]; simp
  have bq : PtB UQ q noTerm false := by rw [← hUQ, ← hq]; exact World.alloc_heap_new U _
  have tQ : TkB UQ V.heap.size E := (gQ.block _ (by omega)).trans t0
  have xQ := x0.below gQ (by omega)
  have rQ := r0.below gQ (by omega)
  obtain ⟨j0, j1, j2, j3, j4, j5, j6⟩ := tQ.cells
  have a0 := xQ.c0
  have a1 := xQ.c1
  have a2 := xQ.c2
  have a3 := xQ.c3
  have hUQ3 := hU.trans (gQ.mono hU.size)
  have HRU := hide ((unhide HBO) UQ q hUQ3)
  have hqs : V.heap.size + 3 ≤ q ∧ q < UQ.heap.size := by omega
  have HUU := hide (And.intro hUQ3 (And.intro rQ bq))
  clear t0 r0 x0 hU HBO gQ bq tQ xQ rQ hUQ3 hsQ
  go_wp2_with fail
  try rw [hUQ]
  go_wp2_with fail
  clear hUQ hq
  refine (unhide HRU).mono ?_
  rintro e U2 ⟨R, rfl, hP⟩
  have hVQ : Below V.heap.size V UQ := (unhide HST).1.trans ((unhide HUU).1.mono (unhide HST).1.size)
  have hwv := (unhide HST).2
  have bx : BoxT U2 (V.heap.size + 1) noTerm := hP.fr.box (unhide HUU).2.1 (by omega)
  have pq : PtB U2 q noTerm false := hP.fr.pt (unhide HUU).2.2 (by omega)
  obtain ⟨f0', f1', f2', f3'⟩ := bx.frz
  have e0 := bx.c0
  have e1 := bx.c1
  have e2 := bx.c2
  have e3 := bx.c3
  have b6 := set4_box bx (compV E.x.s (some ⟨R, 0, none⟩) 2 2)
  have g0 := b6.c0
  have g1 := b6.c1
  have g2 := b6.c2
  have g3 := b6.c3
  have HZ := hide (And.intro (pq.kept (set4_other U2 (V.heap.size + 1) 0 (compV E.x.s (some ⟨R, 0, none⟩) 2 2) (show q ≠ V.heap.size + 1 by omega))) (hP.set4 hVQ (show V.heap.size ≤ V.heap.size + 1 by omega) (by omega) (by omega) bx (compV E.x.s (some ⟨R, 0, none⟩) 2 2)))
  clear hP hVQ bx pq b6 HRU i0 i1 i2 i3 i4 i5 i6 a0 a1 a2 a3 j0 j1 j2 j3 j4 j5 j6
  simp only [TV.val, compV]
  go_wp2_with fail
  exact bodyPost_ret (v := (compV E.x.s (some ⟨R, 0, none⟩) 2 2).val) (by
    have e : (((U2.setCell ⟨V.heap.size + 1, 0, none⟩ (.int .i64 4)).setCell ⟨V.heap.size + 1, 1, none⟩ (.int .i64 0)).setCell ⟨V.heap.size + 1, 2, none⟩ (.string E.x.s)).setCell ⟨V.heap.size + 1, 3, none⟩ (.slice (some ⟨R, 0, none⟩) 2 2) = set4 U2 (V.heap.size + 1) 0 (compV E.x.s (some ⟨R, 0, none⟩) 2 2) := rfl
    rw [e]
    simp [results, Try.results37, go_sem, TV.val, g0, g1, g2, g3]) rfl ⟨R, q, rfl, by omega, (unhide HZ).1, (unhide HZ).2⟩
set_option maxRecDepth 100000 in
set_option maxHeartbeats 8000000 in
theorem top_choice (E : Task) (hf : formB E.x = 3) (hw : WrB V wb nx lf) (hS : StkK B V lf S) (hl : S.length + 2 ≤ 1099511627776) (_hB : B ≤ V.heap.size) (hwB : B ≤ wb) (hBk : Bk < B) (hxa : E.x.a = some ⟨Bk, off, none⟩) (hxl : E.x.len = 2) (ha : cellsAt V Bk off a) (hb : cellsAt V Bk (off + 4) b) :
    Calls Try.prog 37 #[.pointer (some ⟨wb, 0, none⟩), E.val] V fun e V' => ∃ R, e = .returned (compV E.x.s (some ⟨R, 0, none⟩) 2 2).val ∧ TwoP B wb nx lf S V R ⟨a, E.pf, E.pt, ⟨R, 0, none⟩⟩ ⟨b, E.pf, E.pt, ⟨R, 4, none⟩⟩ V' := by
  obtain ⟨W2, W3, hW2, hW3, t0, hs2, g3, hs3, b0, b1, b2⟩ := box_top V E
  have HFO : Hid (Calls Try.prog 33 #[.agg #[.int .i64 E.x.k, .int .i64 E.x.N, .string E.x.s, .slice E.x.a E.x.len E.x.cap]] W3 fun e W' => e = .returned (.int .i64 (formB E.x)) ∧ Below W3.heap.size W3 W') := hide (form_any E.x W3)
  have hwl := hw.lt
  have HBO : Hid (∀ (U : World), Below W3.heap.size W3 U → Calls Try.prog 48 #[.pointer (some ⟨wb, 0, none⟩), .agg #[.int .i64 E.x.k, .int .i64 E.x.N, .string E.x.s, .slice E.x.a E.x.len E.x.cap], .agg #[.int .i64 E.x.k, .int .i64 E.x.N, .string E.x.s, .slice E.x.a E.x.len E.x.cap, .pointer (some ⟨E.pf, 0, none⟩), .pointer (some ⟨E.pt, 0, none⟩), .pointer (some E.pl)], .agg #[.int .i64 E.x.k, .int .i64 E.x.N, .string E.x.s, .slice E.x.a E.x.len E.x.cap, .pointer (some ⟨E.pf, 0, none⟩), .pointer (some ⟨E.pt, 0, none⟩), .pointer (some E.pl)]] U fun e V' => ∃ R, e = .returned (compV E.x.s (some ⟨R, 0, none⟩) 2 2).val ∧ TwoP B wb nx lf S U R ⟨a, E.pf, E.pt, ⟨R, 0, none⟩⟩ ⟨b, E.pf, E.pt, ⟨R, 4, none⟩⟩ V') := hide fun U hU => by
    have gU := g3.trans (hU.mono g3.size)
    have hz := gU.size
    refine (both_any (x := E.x) (y1 := E.x) (y2 := E.x) (a := a) (b := b) (Bk := Bk) (off := off) (pl1 := .pointer (some E.pl)) (pl2 := .pointer (some E.pl)) (hw.kept (gU.block wb hwl)) (hS.below gU) hl (by omega) hwB hBk hxa hxl (ha.kept (gU.block Bk (by omega))) (hb.kept (gU.block Bk (by omega)))).mono fun e V' h => ?_
    obtain ⟨R, lf', h1, h2, h3, h4, h5, h6, h7⟩ := h
    exact ⟨R, h1, h2, h3, ⟨lf', h4, h5⟩, h6, h7⟩
  have HST := hide (And.intro g3 hwl)
  have a0 := b2.c0
  have a1 := b2.c1
  have a2 := b2.c2
  have a3 := b2.c3
  obtain ⟨j0, j1, j2, j3, _, _, _⟩ := t0.cells
  have HB := hide (And.intro b0 (And.intro b1 b2))
  have hrow : E.row.toArray = #[.int .i64 E.x.k, .int .i64 E.x.N, .string E.x.s, .slice E.x.a E.x.len E.x.cap, .pointer (some ⟨E.pf, 0, none⟩), .pointer (some ⟨E.pt, 0, none⟩), .pointer (some E.pl)] := rfl
  rw [hf] at HFO
  clear t0 b0 b1 b2 g3 hw hS hl _hB hwB hBk hxa hxl ha hb hwl
  simp only [Task.val]
  rw [hrow]
  clear hrow
  go_enter Try.func37, Try.ntmps37
  go_wp2_with fail
  try rw [hW2]
  go_wp2_with fail
  try rw [hW3]
  go_wp2_with fail
  clear hW2 hW3 j0 j1 j2 j3 a0 a1 a2 a3
  refine (unhide HFO).mono ?_
  rintro e U ⟨rfl, hU⟩
  obtain ⟨b0, b1, b2⟩ := unhide HB
  have hUs := hU.size
  have t0 : TkB U V.heap.size E := (hU.block _ (by omega)).trans b0
  have r0 : BoxT U (V.heap.size + 1) noTerm := b1.below hU (by omega)
  have x0 : BoxT U (V.heap.size + 1 + 1) E.x := b2.below hU (by omega)
  clear b0 b1 b2 HB HFO
  obtain ⟨i0, i1, i2, i3, i4, i5, i6⟩ := t0.cells
  have a0 := x0.c0
  have a1 := x0.c1
  have a2 := x0.c2
  have a3 := x0.c3
  have HRU := hide ((unhide HBO) U hU)
  have HUU := hide (And.intro hU r0)
  clear t0 r0 x0 hU HBO
  go_wp2_with fail
  refine (unhide HRU).mono ?_
  rintro e U2 ⟨R, rfl, hP⟩
  have hVQ : Below V.heap.size V U := (unhide HST).1.trans ((unhide HUU).1.mono (unhide HST).1.size)
  have hwv := (unhide HST).2
  have bx : BoxT U2 (V.heap.size + 1) noTerm := hP.fr.box (unhide HUU).2 (by omega)
  obtain ⟨f0', f1', f2', f3'⟩ := bx.frz
  have e0 := bx.c0
  have e1 := bx.c1
  have e2 := bx.c2
  have e3 := bx.c3
  have b6 := set4_box bx (compV E.x.s (some ⟨R, 0, none⟩) 2 2)
  have g0 := b6.c0
  have g1 := b6.c1
  have g2 := b6.c2
  have g3 := b6.c3
  have HZ := hide (hP.set4 hVQ (show V.heap.size ≤ V.heap.size + 1 by omega) (by omega) (by omega) bx (compV E.x.s (some ⟨R, 0, none⟩) 2 2))
  clear hP hVQ bx b6 HRU i0 i1 i2 i3 i4 i5 i6 a0 a1 a2 a3
  simp only [TV.val, compV]
  go_wp2_with fail
  exact bodyPost_ret (v := (compV E.x.s (some ⟨R, 0, none⟩) 2 2).val) (by
    have e : (((U2.setCell ⟨V.heap.size + 1, 0, none⟩ (.int .i64 4)).setCell ⟨V.heap.size + 1, 1, none⟩ (.int .i64 0)).setCell ⟨V.heap.size + 1, 2, none⟩ (.string E.x.s)).setCell ⟨V.heap.size + 1, 3, none⟩ (.slice (some ⟨R, 0, none⟩) 2 2) = set4 U2 (V.heap.size + 1) 0 (compV E.x.s (some ⟨R, 0, none⟩) 2 2) := rfl
    rw [e]
    simp [results, Try.results37, go_sem, TV.val, g0, g1, g2, g3]) rfl ⟨R, rfl, unhide HZ⟩
theorem NotP.set4 {V U U2 : World} {E : Task} {I A q : Nat} (h : NotP B wb nx lf S E a U I A q U2) (hV : Below V.heap.size V U) {k : Nat} {z : TV} (hbV : V.heap.size ≤ k) (hbU : k < U.heap.size) (hwb : wb ≠ k) (hbx : BoxT U2 k z) (x : TV) : NotP B wb nx lf S E a V I A q (Proofs.Ytcdgmjpgmiehcaa.set4 U2 k 0 x) := by
  obtain ⟨lf', hw, hst⟩ := h.st
  have ot := fun i (hk : i ≠ k) => set4_other U2 k 0 x hk
  have hsz := hV.size
  have h1 := h.hI
  have h2 := h.hA
  have h3 := h.hq
  exact ⟨by omega, by omega, by omega, h.ne, h.rI.kept (ot _ (by omega)), h.rA.kept (ot _ (by omega)), h.cA.kept (ot _ (by omega)), h.pq.kept (ot _ (by omega)), ⟨lf', hw.kept (ot _ hwb), hst.frame (fun g hg => ot g (hst.notbox hbx g hg))⟩, ((FrG.of_below hV).trans h.fr).set4 hbV 0 x, ((GrB.of_below hV).trans (h.gr.mono hV.size)).set4 hbV 0 x⟩
set_option maxRecDepth 100000 in
set_option maxHeartbeats 8000000 in
theorem top_not (E : Task) (hf : formB E.x = 4) (hw : WrB V wb nx lf) (hS : StkK B V lf S) (hl : S.length + 2 ≤ 1099511627776) (_hB : B ≤ V.heap.size) (hwB : B ≤ wb) (hBk : Bk < B) (hxa : E.x.a = some ⟨Bk, off, none⟩) (hxl : E.x.len = 1) (ha : cellsAt V Bk off a) :
    Calls Try.prog 37 #[.pointer (some ⟨wb, 0, none⟩), E.val] V fun e V' => ∃ I A q, e = .returned (compV ⟨#[44]⟩ (some ⟨A, 0, none⟩) 2 2).val ∧ NotP B wb nx lf S E a V I A q V' := by
  obtain ⟨W2, W3, hW2, hW3, t0, hs2, g3, hs3, b0, b1, b2⟩ := box_top V E
  have HFO : Hid (Calls Try.prog 33 #[.agg #[.int .i64 E.x.k, .int .i64 E.x.N, .string E.x.s, .slice E.x.a E.x.len E.x.cap]] W3 fun e W' => e = .returned (.int .i64 (formB E.x)) ∧ Below W3.heap.size W3 W') := hide (form_any E.x W3)
  have hwl := hw.lt
  have HBO : Hid (∀ (U : World), Below W3.heap.size W3 U → Calls Try.prog 49 #[.pointer (some ⟨wb, 0, none⟩), .agg #[.int .i64 E.x.k, .int .i64 E.x.N, .string E.x.s, .slice E.x.a E.x.len E.x.cap, .pointer (some ⟨E.pf, 0, none⟩), .pointer (some ⟨E.pt, 0, none⟩), .pointer (some E.pl)]] U fun e V' => ∃ I A q, e = .returned (compV ⟨#[44]⟩ (some ⟨A, 0, none⟩) 2 2).val ∧ NotP B wb nx lf S E a U I A q V') := hide fun U hU => by
    have gU := g3.trans (hU.mono g3.size)
    have hz := gU.size
    exact not_any (Bk := Bk) (off := off) E (hw.kept (gU.block wb hwl)) (hS.below gU) hl (by omega) hwB hBk hxa hxl (ha.kept (gU.block Bk (by omega)))
  have HST := hide (And.intro g3 hwl)
  have a0 := b2.c0
  have a1 := b2.c1
  have a2 := b2.c2
  have a3 := b2.c3
  obtain ⟨j0, j1, j2, j3, _, _, _⟩ := t0.cells
  have HB := hide (And.intro b0 (And.intro b1 b2))
  have hrow : E.row.toArray = #[.int .i64 E.x.k, .int .i64 E.x.N, .string E.x.s, .slice E.x.a E.x.len E.x.cap, .pointer (some ⟨E.pf, 0, none⟩), .pointer (some ⟨E.pt, 0, none⟩), .pointer (some E.pl)] := rfl
  rw [hf] at HFO
  clear t0 b0 b1 b2 g3 hw hS hl _hB hwB hBk hxa hxl ha hwl
  simp only [Task.val]
  rw [hrow]
  clear hrow
  go_enter Try.func37, Try.ntmps37
  go_wp2_with fail
  try rw [hW2]
  go_wp2_with fail
  try rw [hW3]
  go_wp2_with fail
  clear hW2 hW3 j0 j1 j2 j3 a0 a1 a2 a3
  refine (unhide HFO).mono ?_
  rintro e U ⟨rfl, hU⟩
  obtain ⟨b0, b1, b2⟩ := unhide HB
  have hUs := hU.size
  have t0 : TkB U V.heap.size E := (hU.block _ (by omega)).trans b0
  have r0 : BoxT U (V.heap.size + 1) noTerm := b1.below hU (by omega)
  have x0 : BoxT U (V.heap.size + 1 + 1) E.x := b2.below hU (by omega)
  clear b0 b1 b2 HB HFO
  obtain ⟨i0, i1, i2, i3, i4, i5, i6⟩ := t0.cells
  have HRU := hide ((unhide HBO) U hU)
  have HUU := hide (And.intro hU r0)
  clear t0 r0 x0 hU HBO
  go_wp2_with fail
  refine (unhide HRU).mono ?_
  rintro e U2 ⟨I, A, q, rfl, hP⟩
  have hVQ : Below V.heap.size V U := (unhide HST).1.trans ((unhide HUU).1.mono (unhide HST).1.size)
  have hwv := (unhide HST).2
  have bx : BoxT U2 (V.heap.size + 1) noTerm := hP.fr.box (unhide HUU).2 (by omega)
  obtain ⟨f0', f1', f2', f3'⟩ := bx.frz
  have e0 := bx.c0
  have e1 := bx.c1
  have e2 := bx.c2
  have e3 := bx.c3
  have b6 := set4_box bx (compV ⟨#[44]⟩ (some ⟨A, 0, none⟩) 2 2)
  have g0 := b6.c0
  have g1 := b6.c1
  have g2 := b6.c2
  have g3 := b6.c3
  have HZ := hide (hP.set4 hVQ (show V.heap.size ≤ V.heap.size + 1 by omega) (by omega) (by omega) bx (compV ⟨#[44]⟩ (some ⟨A, 0, none⟩) 2 2))
  clear hP hVQ bx b6 HRU i0 i1 i2 i3 i4 i5 i6
  simp only [TV.val, compV]
  go_wp2_with fail
  exact bodyPost_ret (v := (compV ⟨#[44]⟩ (some ⟨A, 0, none⟩) 2 2).val) (by
    have e : (((U2.setCell ⟨V.heap.size + 1, 0, none⟩ (.int .i64 4)).setCell ⟨V.heap.size + 1, 1, none⟩ (.int .i64 0)).setCell ⟨V.heap.size + 1, 2, none⟩ (.string ⟨#[44]⟩)).setCell ⟨V.heap.size + 1, 3, none⟩ (.slice (some ⟨A, 0, none⟩) 2 2) = set4 U2 (V.heap.size + 1) 0 (compV ⟨#[44]⟩ (some ⟨A, 0, none⟩) 2 2) := rfl
    rw [e]
    simp [results, Try.results37, go_sem, TV.val, g0, g1, g2, g3]) rfl ⟨I, A, q, rfl, unhide HZ⟩
end
end Go.Proofs.Ytcdgmjpgmiehcaa

