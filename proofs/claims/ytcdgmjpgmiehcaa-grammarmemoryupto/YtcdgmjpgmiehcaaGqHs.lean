import Derived.Test.YtcdgmjpgmiehcaaGqG
/- What leaving a task does; region 1 of grammar's not: two rows, in whatever order. (Written by wip/gqnotgen.py.) -/
namespace Go.Proofs.Ytcdgmjpgmiehcaa
open Go.RowKit Go.Shelf

/-- Behind W only the writer, its row of tasks and new blocks were changed; these tasks are left. -/
structure LvS (B wb : Nat) (nx : Int) (lf0 : Value) (S : List Task) (W U : World) : Prop where
  ex : ∃ lf, WrB U wb nx lf ∧ StkK B U lf S ∧ (lf.ownBlock = lf0.ownBlock ∨ ∃ g, lf.ownBlock = some g ∧ W.heap.size ≤ g)
  fr : FrG B (fun k => k = wb) W U
  gr : GrB (fun k => k = wb ∨ lf0.ownBlock = some k) W.heap.size W U
section
variable {B wb : Nat} {nx : Int} {lf0 : Value} {S : List Task} {W U U' : World}
theorem LvS.start (hw : WrB W wb nx lf0) (hS : StkK B W lf0 S) : LvS B wb nx lf0 S W W := ⟨⟨lf0, hw, hS, .inl rfl⟩, FrG.refl _ _ _, GrB.of_below (Below.refl _ _)⟩
theorem LvS.below (h : LvS B wb nx lf0 S W U) (hb : Below U.heap.size U U') : LvS B wb nx lf0 S W U' := by
  obtain ⟨lf, h1, h2, h3⟩ := h.ex
  exact ⟨⟨lf, h1.kept (hb.block wb h1.lt), h2.below hb, h3⟩, h.fr.trans (FrG.of_below hb), h.gr.trans (GrB.of_below (hb.mono h.gr.size))⟩
theorem LvS.leave (h : LvS B wb nx lf0 S W U) (E : Task) (hl : S.length + 1 ≤ 1099511627776) (hB : B ≤ W.heap.size) :
    Calls Try.prog 36 #[.pointer (some ⟨wb, 0, none⟩), E.val] U fun e U' => e = .returned (.tuple #[]) ∧ LvS B wb nx lf0 (S ++ [E]) W U' := by
  obtain ⟨lf, h1, h2, h3⟩ := h.ex
  have hz := h.gr.size
  refine (leave_any E h1 h2 hl (by omega)).mono fun e U' hp => ?_
  obtain ⟨e1, lf', p1, p2, p3, p4, p5⟩ := hp
  refine ⟨e1, ⟨lf', p1, p2, ?_⟩, h.fr.trans p3, ?_⟩
  · rcases p5 with e | ⟨g, e, hg⟩
    · rw [e]; exact h3
    · exact .inr ⟨g, e, by omega⟩
  · refine ⟨p4.os.trans h.gr.os, p4.tape.trans h.gr.tape, p4.output.trans h.gr.output, Nat.le_trans h.gr.size p4.size, fun k hk hx => ?_⟩
    refine (p4.block k (by omega) (fun hy => ?_)).trans (h.gr.block k hk hx)
    rcases hy with hy | hy
    · exact hx (.inl hy)
    · rcases h3 with e | ⟨g, e, hg⟩
      · exact hx (.inr (e.symm.trans hy))
      · rw [e] at hy
        have : g = k := by simpa using hy
        omega
end
theorem make_row (len : Nat) (h : len ≤ 50) (w : World) : ∃ w', (Instr.makeSlice 22 (.int .i64 (len : Int)) (.int .i64 (len : Int))).run Try.prog w = .ok (.slice (some ⟨w.heap.size, 0, none⟩) len len) w' ∧ Below w.heap.size w w' ∧ w'.heap.size = w.heap.size + 1 ∧ Row4 w' w.heap.size len :=
  ⟨_, make_terms len h w, (Below.refl _ w).alloc (Nat.le_refl _) _, by simp, ⟨_, World.alloc_heap_new w _, by simp [madeCells]⟩⟩
set_option maxRecDepth 100000 in
set_option maxHeartbeats 4000000 in
theorem wp_not1 {v0 v1 v2 v3 v4 v5 v6 v7 v8 v9 v10 v11 v12 v13 v14 v15 v16 v17 v18 v19 v20 v21 v22 v23 v24 v25 v26 v27 v28 v29 v30 v31 v32 v33 v34 v35 v36 v37 v38 v39 v40 v41 : Value} {d : List Deferred} {W2 : World} {Q : Exit → Act → World → Prop}
    (hQ : ∀ (W : World) (I A : Nat), Below W2.heap.size W2 W → W2.heap.size ≤ I → W2.heap.size ≤ A → I ≠ A → Row4 W I 1 → Row4 W A 2 → Q .normal ⟨#[v0, v1, v2, v3, v4, .slice (some ⟨I, 0, none⟩) 1 1, .slice (some ⟨A, 0, none⟩) 2 2, .slice (some ⟨I, 0, none⟩) 1 1, .slice (some ⟨A, 0, none⟩) 2 2, v9, v10, v11, v12, v13, v14, v15, v16, v17, v18, v19, v20, v21, v22, v23, v24, v25, v26, v27, v28, v29, v30, v31, v32, v33, v34, v35, v36, v37, v38, v39, v40, v41], d⟩ W) :
    (Code.region 1 #[{ dst := some 7, op := Op.makeSlice 22 (Operand.const (Value.int IntKind.i64 1)) (Operand.const (Value.int IntKind.i64 1)), type := 22, pos := "goal.go:79", after := #[], guard := none }, { dst := some 8, op := Op.makeSlice 22 (Operand.const (Value.int IntKind.i64 2)) (Operand.const (Value.int IntKind.i64 2)), type := 22, pos := "goal.go:79", after := #[], guard := none }, { dst := some 5, op := Op.assign (Operand.tmp 7), type := 22, pos := "goal.go:79", after := #[{ on := 0, ground := Ground.data }, { on := 0, ground := Ground.phase }, { on := 1, ground := Ground.textOnly Departure.lateStoresUnsure }], guard := none }, { dst := some 6, op := Op.assign (Operand.tmp 8), type := 22, pos := "goal.go:79", after := #[{ on := 1, ground := Ground.data }, { on := 2, ground := Ground.chain }, { on := 0, ground := Ground.phase }, { on := 1, ground := Ground.phase }, { on := 2, ground := Ground.phase }], guard := none }] true).wp Try.prog Q ⟨#[v0, v1, v2, v3, v4, v5, v6, v7, v8, v9, v10, v11, v12, v13, v14, v15, v16, v17, v18, v19, v20, v21, v22, v23, v24, v25, v26, v27, v28, v29, v30, v31, v32, v33, v34, v35, v36, v37, v38, v39, v40, v41], d⟩ W2 := by
  obtain ⟨D1, hD1⟩ : ∃ D1, W2.drew = D1 := ⟨_, rfl⟩
  have hDB : Below W2.heap.size W2 D1 := by rw [← hD1]; exact (Below.refl _ W2).drew
  have hsD := hDB.size
  obtain ⟨X1, r1, x1, x2, x3⟩ := make_row 1 (by omega) D1
  obtain ⟨X2, r2, x4, x5, x6⟩ := make_row 2 (by omega) X1
  obtain ⟨Y1, r3, y1, y2, y3⟩ := make_row 2 (by omega) D1
  obtain ⟨Y2, r4, y4, y5, y6⟩ := make_row 1 (by omega) Y1
  have HX := hide (hQ X2 D1.heap.size X1.heap.size ((hDB.trans (x1.mono hsD)).trans (x4.mono (by omega))) (by omega) (by omega) (by omega) (x3.kept (x4.block _ (by omega))) x6)
  have HY := hide (hQ Y2 Y1.heap.size D1.heap.size ((hDB.trans (y1.mono hsD)).trans (y4.mono (by omega))) (by omega) (by omega) (by omega) y6 (y3.kept (y4.block _ (by omega))))
  have r1' : (Instr.makeSlice 22 (.int .i64 1) (.int .i64 1)).run Try.prog D1 = _ := r1
  have r2' : (Instr.makeSlice 22 (.int .i64 2) (.int .i64 2)).run Try.prog X1 = _ := r2
  have r3' : (Instr.makeSlice 22 (.int .i64 2) (.int .i64 2)).run Try.prog D1 = _ := r3
  have r4' : (Instr.makeSlice 22 (.int .i64 1) (.int .i64 1)).run Try.prog Y1 = _ := r4
  clear hQ hDB x1 x2 x3 x4 x5 x6 y1 y2 y3 y4 y5 y6 hsD r1 r2 r3 r4
  refine wp_region_noPanic ?_
  refine wp_region_held_drew (S := fun w' => True) (by kernel_rfl) trivial (fun hHeld => ?_)
  rw [hD1]
  clear hD1
  refine wpAnyH_ready (rs := [0, 1]) (by kernel_rfl) (by simp) ?_
  refine rc 0 rfl (fun K hK => ?_) ?_
  · have hHold := hHeld
    clear hHeld
    go_simp
    refine hK.out _ _ ?_ (fun hHeld => ?_)
    · trivial
    clear hK K hHold
    try simp only [pu]
    refine tk 2 rfl hHeld ?_
    refine rd 1 rfl fun K hK => ?_
    have hHold := hHeld
    clear hHeld
    go_simp
    refine hK.out _ _ ?_ (fun hHeld => ?_)
    · trivial
    clear hK K hHold
    try simp only [pu]
    refine tk 3 rfl hHeld ?_
    refine wpAnyH_done (by kernel_rfl) ?_ _
    exact NoPanic.normal (unhide HX)
  refine rc 1 rfl (fun K hK => ?_) AllReadyH.nil
  have hHold := hHeld
  clear hHeld
  go_simp
  refine hK.out _ _ ?_ (fun hHeld => ?_)
  · trivial
  clear hK K hHold
  try simp only [pu]
  refine rd 0 rfl fun K hK => ?_
  have hHold := hHeld
  clear hHeld
  go_simp
  refine hK.out _ _ ?_ (fun hHeld => ?_)
  · trivial
  clear hK K hHold
  try simp only [pu]
  refine tk 2 rfl hHeld ?_
  refine tk 3 rfl hHeld ?_
  refine wpAnyH_done (by kernel_rfl) ?_ _
  exact NoPanic.normal (unhide HY)
end Go.Proofs.Ytcdgmjpgmiehcaa

/- grammar's not. (Written by wip/gqnotgen.py.) -/
namespace Go.Proofs.Ytcdgmjpgmiehcaa
open Go.RowKit Go.Shelf

/-- What not leaves: two rows, a point, two tasks. -/
structure NotP (B wb : Nat) (nx : Int) (lf : Value) (S : List Task) (E : Task) (a : TV) (V : World) (I A q : Nat) (V' : World) : Prop where
  hI : V.heap.size ≤ I
  hA : V.heap.size ≤ A
  hq : V.heap.size ≤ q
  ne : I ≠ A
  rI : Row4 V' I 1
  rA : Row4 V' A 2
  cA : cellsAt V' A 0 (compV E.x.s (some ⟨I, 0, none⟩) 1 1)
  pq : PtB V' q noTerm false
  st : ∃ lf', WrB V' wb nx lf' ∧ StkK B V' lf' (S ++ [⟨nilT, E.pf, E.pt, ⟨A, 4, none⟩⟩] ++ [⟨a, E.pf, q, ⟨I, 0, none⟩⟩])
  fr : FrG B (fun k => k = wb) V V'
  gr : GrB (fun k => k = wb ∨ lf.ownBlock = some k) V.heap.size V V'
set_option maxRecDepth 100000 in
set_option maxHeartbeats 8000000 in
theorem not_any {B wb Bk off : Nat} {V : World} {nx : Int} {lf : Value} {S : List Task} {a : TV} (E : Task) (hw : WrB V wb nx lf) (hS : StkK B V lf S) (hl : S.length + 2 ≤ 1099511627776) (_hB : B ≤ V.heap.size) (hwB : B ≤ wb) (hBk : Bk < B) (hxa : E.x.a = some ⟨Bk, off, none⟩) (hxl : E.x.len = 1) (ha : cellsAt V Bk off a) :
    Calls Try.prog 49 #[.pointer (some ⟨wb, 0, none⟩), E.val] V fun e V' => ∃ I A q, e = .returned (compV ⟨#[44]⟩ (some ⟨A, 0, none⟩) 2 2).val ∧ NotP B wb nx lf S E a V I A q V' := by
  have HN : Hid (∀ U : World, Calls Try.prog 53 #[] U fun e W' => e = .returned nilT.val ∧ Below U.heap.size U W') := hide fun U => gno_any U
  obtain ⟨W2, hW2⟩ : ∃ W2, (V.alloc (.cells #[.int .i64 E.x.k, .int .i64 E.x.N, .string E.x.s, .slice E.x.a E.x.len E.x.cap, .pointer (some ⟨E.pf, 0, none⟩), .pointer (some ⟨E.pt, 0, none⟩), .pointer (some E.pl)] 64)).alloc (.cells #[.int .i64 0, .int .i64 0, .string ⟨#[]⟩, .slice none 0 0] 24) = W2 := ⟨_, rfl⟩
  have hs2 : W2.heap.size = V.heap.size + 2 := by rw [← hW2]; simp
  have g2 : Below V.heap.size V W2 := by rw [← hW2]; exact ((Below.refl _ V).alloc (Nat.le_refl _) _).alloc (by simp) _
  have b0 : TkB W2 V.heap.size E := by rw [← hW2]; exact (Below.heap_alloc _ _ _ (by simp)).trans (World.alloc_heap_new V _)
  have b1 : BoxT W2 (V.heap.size + 1) noTerm := by
    rw [← hW2]
    have h0 := BoxT.new (V.alloc (.cells #[.int .i64 E.x.k, .int .i64 E.x.N, .string E.x.s, .slice E.x.a E.x.len E.x.cap, .pointer (some ⟨E.pf, 0, none⟩), .pointer (some ⟨E.pt, 0, none⟩), .pointer (some E.pl)] 64)) noTerm
    rw [World.size_alloc] at h0
    exact h0
  have hwl := hw.lt
  have hown : ∀ g, lf.ownBlock = some g → B ≤ g ∧ g < V.heap.size := fun g hg => ⟨(StkW.lt hS hg).1, (StkW.lt hS hg).2.1⟩
  have HALL : Hid (∀ (W U0 : World) (I A : Nat), Below W2.heap.size W2 W → W2.heap.size ≤ I → W2.heap.size ≤ A → I ≠ A → Row4 W I 1 → Row4 W A 2 → Below W.heap.size W U0 → ∀ W5, set4 U0 A 0 (compV E.x.s (some ⟨I, 0, none⟩) 1 1) = W5 →
      (∀ U : World, (∀ k, (V.heap.size ≤ k ∨ k < B) ∧ k < W5.heap.size → U.heap[k]? = W5.heap[k]?) → (U.cell? ⟨V.heap.size, 4, none⟩ = some (.pointer (some ⟨E.pf, 0, none⟩)) ∧ U.cell? ⟨V.heap.size, 5, none⟩ = some (.pointer (some ⟨E.pt, 0, none⟩))) ∧ (U.cell? ⟨V.heap.size, 3, none⟩ = some (.slice (some ⟨Bk, off, none⟩) 1 E.x.cap) ∧ U.cell? ⟨Bk, off, none⟩ = some (.int .i64 a.k) ∧ U.cell? ⟨Bk, off + 1, none⟩ = some (.int .i64 a.N) ∧ U.cell? ⟨Bk, off + 2, none⟩ = some (.string a.s) ∧ U.cell? ⟨Bk, off + 3, none⟩ = some (.slice a.a a.len a.cap) ∧ U.cell? ⟨V.heap.size, 4, none⟩ = some (.pointer (some ⟨E.pf, 0, none⟩)))) ∧ LvS B wb nx lf S W5 W5 ∧ (S.length + 2 ≤ 1099511627776 ∧ B ≤ W5.heap.size) ∧
      (∀ V1, LvS B wb nx lf (S ++ [⟨nilT, E.pf, E.pt, ⟨A, 4, none⟩⟩]) W5 V1 → ∀ k, (V.heap.size ≤ k ∨ k < B) ∧ k < W5.heap.size → V1.heap[k]? = W5.heap[k]?) ∧
      (∀ V1 V2 lf1, LvS B wb nx lf (S ++ [⟨nilT, E.pf, E.pt, ⟨A, 4, none⟩⟩]) W5 V1 → (lf1.ownBlock = lf.ownBlock ∨ ∃ g, lf1.ownBlock = some g ∧ W5.heap.size ≤ g) → Below V1.heap.size V1 V2 → ∀ V3 S', LvS B wb nx lf1 S' V2 V3 → ∀ k, (V.heap.size ≤ k ∨ k < B) ∧ k < W5.heap.size → V3.heap[k]? = W5.heap[k]?) ∧
      (∀ (V1 V2 : World) (lf1 : Value) (q : Nat), LvS B wb nx lf (S ++ [⟨nilT, E.pf, E.pt, ⟨A, 4, none⟩⟩]) W5 V1 → (lf1.ownBlock = lf.ownBlock ∨ ∃ g, lf1.ownBlock = some g ∧ W5.heap.size ≤ g) → Below V1.heap.size V1 V2 → PtB V2 q noTerm false → V1.heap.size ≤ q → (∀ g, lf1.ownBlock = some g → g < V1.heap.size) → ∀ V3, LvS B wb nx lf1 (S ++ [⟨nilT, E.pf, E.pt, ⟨A, 4, none⟩⟩] ++ [⟨a, E.pf, q, ⟨I, 0, none⟩⟩]) V2 V3 → ∀ X2, Below V3.heap.size V3 X2 → BoxT X2 (V.heap.size + 1) noTerm ∧ NotP B wb nx lf S E a V I A q (set4 X2 (V.heap.size + 1) 0 (compV ⟨#[44]⟩ (some ⟨A, 0, none⟩) 2 2)))) := hide fun W U0 I A hB0 hI hA hne rI rA hU W5 hW5 => by
    have z0 := hB0.size
    have zU := hU.size
    have hs5 : W5.heap.size = U0.heap.size := by rw [← hW5, set4_size]
    have gU : Below V.heap.size V U0 := (g2.trans (hB0.mono (by omega))).trans (hU.mono (by omega))
    have g5 : Below V.heap.size V W5 := by rw [← hW5]; exact set4_below gU (by omega) 0 _
    have ot : ∀ k, k ≠ A → W5.heap[k]? = U0.heap[k]? := fun k hk => by rw [← hW5]; exact set4_other U0 A 0 _ hk
    have hk2 : ∀ k, k < W2.heap.size → W5.heap[k]? = W2.heap[k]? := fun k hk => (ot k (by omega)).trans ((hU.block k (by omega)).trans (hB0.block k hk))
    have rI5 : Row4 W5 I 1 := (rI.kept (hU.block I rI.lt)).kept (ot I hne)
    have rA0 : Row4 U0 A 2 := rA.kept (hU.block A rA.lt)
    have rA5 : Row4 W5 A 2 := by rw [← hW5]; exact rA0.set4 0 _
    have cA5 : cellsAt W5 A 0 (compV E.x.s (some ⟨I, 0, none⟩) 1 1) := by
      rw [← hW5]
      exact set4_cells U0 A 0 _ (Option.isSome_iff_exists.2 (rA0.cell (o := 0) (by omega)).1) (Option.isSome_iff_exists.2 (rA0.cell (o := 0 + 1) (by omega)).1) (Option.isSome_iff_exists.2 (rA0.cell (o := 0 + 2) (by omega)).1) (Option.isSome_iff_exists.2 (rA0.cell (o := 0 + 3) (by omega)).1)
    have k1 : ∀ V1, LvS B wb nx lf (S ++ [⟨nilT, E.pf, E.pt, ⟨A, 4, none⟩⟩]) W5 V1 → ∀ k, (V.heap.size ≤ k ∨ k < B) ∧ k < W5.heap.size → V1.heap[k]? = W5.heap[k]? := fun V1 h k hk => h.gr.block k hk.2 (fun e => by
      rcases e with e | e
      · omega
      · have := hown k e; omega)
    have k3 : ∀ V1 V2 lf1, LvS B wb nx lf (S ++ [⟨nilT, E.pf, E.pt, ⟨A, 4, none⟩⟩]) W5 V1 → (lf1.ownBlock = lf.ownBlock ∨ ∃ g, lf1.ownBlock = some g ∧ W5.heap.size ≤ g) → Below V1.heap.size V1 V2 → ∀ V3 S', LvS B wb nx lf1 S' V2 V3 → ∀ k, (V.heap.size ≤ k ∨ k < B) ∧ k < W5.heap.size → V3.heap[k]? = W5.heap[k]? := fun V1 V2 lf1 h1 o1 g12 V3 S' h3 k hk => by
      have z1 := h1.gr.size
      have z2 := g12.size
      refine (h3.gr.block k (by omega) (fun e => ?_)).trans ((g12.block k (by omega)).trans (k1 V1 h1 k hk))
      rcases e with e | e
      · omega
      · rcases o1 with o | ⟨g, o, hg⟩
        · have := hown k (o.symm.trans e); omega
        · rw [o] at e
          have : g = k := by simpa using e
          omega
    refine ⟨fun U hU' => ?_, LvS.start (hw.kept (g5.block wb hwl)) (hS.below g5), ⟨by omega, by have := g5.size; omega⟩, k1, k3, fun V1 V2 lf1 q h1 o1 g12 hpq hqV hg1 V3 h3 X2 hX => ?_⟩
    · have e0 : TkB U V.heap.size E := ((hU' V.heap.size ⟨.inl (Nat.le_refl _), by omega⟩).trans (hk2 _ (by omega))).trans b0
      have eB : U.heap[Bk]? = V.heap[Bk]? := (hU' Bk ⟨.inr hBk, by omega⟩).trans (g5.block _ (by omega))
      obtain ⟨q0, q1, q2, q3⟩ := ha.kept eB
      obtain ⟨_, _, _, t3, t4, t5, _⟩ := e0.cells
      rw [hxa, hxl] at t3
      exact ⟨⟨t4, t5⟩, t3, q0, q1, q2, q3, t4⟩
    · have z1 := h1.gr.size
      have z2 := g12.size
      have z3 := h3.gr.size
      have zX := hX.size
      have kk := k3 V1 V2 lf1 h1 o1 g12 V3 _ h3
      have kX : ∀ k, (V.heap.size ≤ k ∨ k < B) ∧ k < W5.heap.size → X2.heap[k]? = W5.heap[k]? := fun k hk => (hX.block k (by omega)).trans (kk k hk)
      have oz := fun k (hk : k ≠ V.heap.size + 1) => set4_other X2 (V.heap.size + 1) 0 (compV ⟨#[44]⟩ (some ⟨A, 0, none⟩) 2 2) hk
      have hIl := rI5.lt
      have hAl := rA5.lt
      have eI := (oz I (by omega)).trans (kX I ⟨.inl (by omega), hIl⟩)
      have eA := (oz A (by omega)).trans (kX A ⟨.inl (by omega), hAl⟩)
      obtain ⟨lf', wl, sl, ol⟩ := h3.ex
      have hpq3 : PtB V3 q noTerm false := hpq.kept (h3.gr.block q hpq.lt (fun e => by
        rcases e with e | e
        · omega
        · rcases o1 with o | ⟨g, o, hg⟩
          · have := hown q (o.symm.trans e); omega
          · obtain ⟨lf2, w2, s2, o2⟩ := h3.ex
            rw [o] at e
            have hgq : g = q := by simpa using e
            have := hg1 g o; omega))
      refine ⟨(kX _ ⟨.inl (by omega), by omega⟩).trans ((hk2 _ (by omega)).trans b1), ⟨by omega, by omega, by omega, hne, rI5.kept eI, rA5.kept eA, cA5.kept eA, (hpq3.kept (hX.block q hpq3.lt)).kept (oz q (by omega)), ⟨lf', (wl.kept (hX.block wb wl.lt)).kept (oz wb (by omega)), (sl.below hX).frame (fun g hg => oz g (fun e => ?_))⟩, ?_, ?_⟩⟩
      · obtain ⟨_, _, cur, hc⟩ := StkW.lt sl hg
        have h9 : BoxT V3 (V.heap.size + 1) noTerm := (kk _ ⟨.inl (by omega), by omega⟩).trans ((hk2 _ (by omega)).trans b1)
        rw [e] at hc
        have := hc.symm.trans h9
        simp at this
      · have f := ((((FrG.of_below g5).trans h1.fr).trans (FrG.of_below g12)).trans h3.fr).trans (FrG.of_below hX)
        exact ⟨f.os, f.tape, f.output, by rw [set4_size]; exact f.size, fun k hk hx hc => (oz k (by omega)).trans (f.block k hk hx hc)⟩
      · have gg := (((GrB.of_below (X := fun k => k = wb ∨ lf.ownBlock = some k) g5).trans (h1.gr.mono g5.size)).trans (GrB.of_below (g12.mono (by have := g5.size; omega))))
        refine GrB.set4 (b := V.heap.size + 1) ?_ (by omega) _ _
        have g3' : GrB (fun k => k = wb ∨ lf.ownBlock = some k) V.heap.size V V3 := by
          refine ⟨h3.gr.os.trans gg.os, h3.gr.tape.trans gg.tape, h3.gr.output.trans gg.output, Nat.le_trans gg.size h3.gr.size, fun k hk hx => (h3.gr.block k (by have := gg.size; omega) (fun e => ?_)).trans (gg.block k hk hx)⟩
          rcases e with e | e
          · exact hx (.inl e)
          · rcases o1 with o | ⟨g', o, o'⟩
            · exact hx (.inr (o.symm.trans e))
            · rw [o] at e
              have : g' = k := by simpa using e
              have := g5.size
              omega
        exact g3'.trans (GrB.of_below (hX.mono g3'.size))
  have hx2 := b0.cells.2.2.1
  have HCI : Hid (∀ (I : Nat) (X : World), Calls Try.prog 24 #[.string E.x.s, .slice (some ⟨I, 0, none⟩) 1 1] X fun e W' => e = .returned (compV E.x.s (some ⟨I, 0, none⟩) 1 1).val ∧ Below X.heap.size X W') := hide fun I X => gcomp_any _ _ _ _ X
  have HCA : Hid (∀ (A : Nat) (X : World), Calls Try.prog 24 #[.string ⟨#[44]⟩, .slice (some ⟨A, 0, none⟩) 2 2] X fun e W' => e = .returned (compV ⟨#[44]⟩ (some ⟨A, 0, none⟩) 2 2).val ∧ Below X.heap.size X W') := hide fun A X => gcomp_any _ _ _ _ X
  have hrow : E.row.toArray = #[.int .i64 E.x.k, .int .i64 E.x.N, .string E.x.s, .slice E.x.a E.x.len E.x.cap, .pointer (some ⟨E.pf, 0, none⟩), .pointer (some ⟨E.pt, 0, none⟩), .pointer (some E.pl)] := rfl
  simp only [Task.val]
  rw [hrow]
  clear hrow hw hS ha hxa hxl b0 b1 g2 hown hwl hwB _hB hl hBk
  go_enter Try.func49, Try.ntmps49
  go_wp2_with fail
  try rw [hW2]
  clear hW2
  go_wp2_with fail
  refine wp_not1 ?_
  intro W I A k1 k2 k3 k4 k5 k6
  have x2 := (k1.cell (p := ⟨V.heap.size, 2, none⟩) (show V.heap.size < _ by omega)).trans hx2
  have HK := hide (And.intro k1 (And.intro k2 (And.intro k3 (And.intro k4 (And.intro k5 k6)))))
  clear k1 k2 k3 k4 k5 k6 hx2
  go_wp2_with fail
  refine ((unhide HCI) I W).mono ?_
  rintro e U0 ⟨rfl, hU0⟩
  obtain ⟨k1, k2, k3, k4, k5, k6⟩ := unhide HK
  obtain ⟨W5, hW5⟩ : ∃ W5, set4 U0 A 0 (compV E.x.s (some ⟨I, 0, none⟩) 1 1) = W5 := ⟨_, rfl⟩
  obtain ⟨p1, p2, p3, p4, p5, p6⟩ := (unhide HALL) W U0 I A k1 k2 k3 k4 k5 k6 hU0 W5 hW5
  have KEEP := hide p1
  have HLV := hide p2
  have HST := hide p3
  have HV1 := hide p4
  have HV3 := hide p5
  have HFIN := hide p6
  have rA0 : Row4 U0 A 2 := k6.kept (hU0.block A k6.lt)
  obtain ⟨⟨a0, m0⟩, n0⟩ := rA0.cell (o := 0) (by omega)
  obtain ⟨⟨a1, m1⟩, n1⟩ := rA0.cell (o := 0 + 1) (by omega)
  obtain ⟨⟨a2, m2⟩, n2⟩ := rA0.cell (o := 0 + 2) (by omega)
  obtain ⟨⟨a3, m3⟩, n3⟩ := rA0.cell (o := 0 + 3) (by omega)
  simp only [Nat.zero_add] at m1 m2 m3 n1 n2 n3
  unfold set4 at hW5
  simp only [Nat.zero_add] at hW5
  clear k1 k2 k3 k4 k5 k6 hU0 p1 p2 p3 p4 p5 p6 HALL HK x2 rA0 HCI
  simp only [TV.val, compV] at hW5 ⊢
  go_wp2_with fail
  try rw [hW5]
  clear hW5 m0 m1 m2 m3 n0 n1 n2 n3
  go_wp2_with fail
  obtain ⟨D1, hD1⟩ : ∃ D1, W5.drew = D1 := ⟨_, rfl⟩
  have hDB : Below W5.heap.size W5 D1 := by rw [← hD1]; exact (Below.refl _ W5).drew
  have kD := ((unhide KEEP) D1 (fun k hk => hDB.block k hk.2)).1
  have HD := hide hDB
  clear hDB
  refine wp_region_noPanic ?_
  refine wp_region_held_drew (S := fun w' => w'.cell? ⟨V.heap.size, 4, none⟩ = some (.pointer (some ⟨E.pf, 0, none⟩)) ∧ w'.cell? ⟨V.heap.size, 5, none⟩ = some (.pointer (some ⟨E.pt, 0, none⟩))) (by kernel_rfl) ?_ (fun hHeld => ?_)
  · (try rw [hD1]); exact kD
  rw [hD1] at hHeld ⊢
  clear hD1
  refine tk 0 rfl hHeld ?_
  refine tk 2 rfl hHeld ?_
  refine tk 3 rfl hHeld ?_
  refine tk 4 rfl hHeld ?_
  refine tk 5 rfl hHeld ?_
  refine tk 6 rfl hHeld ?_
  refine tk 7 rfl hHeld ?_
  refine rd 1 rfl fun K hK => ?_
  have hHold := hHeld
  clear hHeld
  go_simp
  refine ((unhide HN) D1).mono ?_
  rintro e U1 ⟨rfl, h1⟩
  have hB1 := (unhide HD).trans (h1.mono (unhide HD).size)
  have k1 := ((unhide KEEP) U1 (fun k hk => hB1.block k hk.2)).1
  have HL1 := hide (LvS.leave ((unhide HLV).below hB1) (⟨nilT, E.pf, E.pt, ⟨A, 4, none⟩⟩ : Task) (by have := (unhide HST).1; omega) (unhide HST).2)
  clear h1 hB1
  simp only [TV.val, nilT, atomT]
  go_wp2_with fail
  refine hK.out _ _ ?_ (fun hHeld => ?_)
  · ((try dsimp only); exact k1)
  clear hK K hHold
  try simp only [pu]
  refine tk 8 rfl hHeld ?_
  refine rd 9 rfl fun K hK => ?_
  have hHold := hHeld
  clear hHeld
  go_simp
  refine (unhide HL1).mono ?_
  rintro e V1 ⟨rfl, h1⟩
  have kp1 := (unhide HV1) V1 h1
  have k2 := ((unhide KEEP) V1 kp1).1
  have HL := hide (And.intro h1 kp1)
  clear h1 kp1
  go_wp2_with fail
  refine hK.out _ _ ?_ (fun hHeld => ?_)
  · ((try dsimp only); exact k2)
  clear hK K hHold
  try simp only [pu]
  refine wpAnyH_done (by kernel_rfl) ?_ _
  refine NoPanic.normal ?_
  clear hHeld
  go_wp2_with fail
  obtain ⟨h1, kp1⟩ := unhide HL
  obtain ⟨lf1, w1, s1, o1⟩ := h1.ex
  obtain ⟨D2, hD2⟩ : ∃ D2, V1.drew = D2 := ⟨_, rfl⟩
  have hDB2 : Below V1.heap.size V1 D2 := by rw [← hD2]; exact (Below.refl _ V1).drew
  have hV1s := h1.gr.size
  have kpD : ∀ k, (V.heap.size ≤ k ∨ k < B) ∧ k < W5.heap.size → D2.heap[k]? = W5.heap[k]? := fun k hk => (hDB2.block k (by omega)).trans (kp1 k hk)
  have kD2 := ((unhide KEEP) D2 kpD).2
  obtain ⟨q, hq⟩ : ∃ q, D2.heap.size = q := ⟨_, rfl⟩
  obtain ⟨V2, hV2⟩ : ∃ V2, D2.alloc (.cells #[.int .i64 0, .int .i64 0, .string ⟨#[]⟩, .slice none 0 0, .bool false] 61) = V2 := ⟨_, rfl⟩
  have gV2 : Below D2.heap.size D2 V2 := by rw [← hV2]; exact (Below.refl _ D2).alloc (Nat.le_refl _) _
  have hD2s := hDB2.size
  have bq : PtB V2 q noTerm false := by rw [← hV2, ← hq]; exact World.alloc_heap_new D2 _
  have kV2 := ((unhide KEEP) V2 (fun k hk => (gV2.block k (by omega)).trans (kpD k hk))).2
  have g12 : Below V1.heap.size V1 V2 := hDB2.trans (gV2.mono hD2s)
  have HL2 := hide (LvS.leave (LvS.start (w1.kept (g12.block wb w1.lt)) (s1.below g12)) (⟨a, E.pf, q, ⟨I, 0, none⟩⟩ : Task) (by simp only [List.length_append, List.length_cons, List.length_nil]; have := (unhide HST).1; omega) (by have := (unhide HST).2; have := g12.size; omega))
  have hql : V1.heap.size ≤ q := by omega
  have HFN := hide ((unhide HFIN) V1 V2 lf1 q h1 o1 g12 bq hql (fun g hg => (StkW.lt s1 hg).2.1))
  have KV3 := hide ((unhide HV3) V1 V2 lf1 h1 o1 g12)
  clear h1 kp1 w1 s1 o1 hDB2 kpD gV2 bq g12 HL hD2s hV1s hql HV3 HFIN HV1 HLV
  refine wp_region_noPanic ?_
  refine wp_region_held_drew (S := fun w' => w'.cell? ⟨V.heap.size, 3, none⟩ = some (.slice (some ⟨Bk, off, none⟩) 1 E.x.cap) ∧ w'.cell? ⟨Bk, off, none⟩ = some (.int .i64 a.k) ∧ w'.cell? ⟨Bk, off + 1, none⟩ = some (.int .i64 a.N) ∧ w'.cell? ⟨Bk, off + 2, none⟩ = some (.string a.s) ∧ w'.cell? ⟨Bk, off + 3, none⟩ = some (.slice a.a a.len a.cap) ∧ w'.cell? ⟨V.heap.size, 4, none⟩ = some (.pointer (some ⟨E.pf, 0, none⟩))) (by kernel_rfl) ?_ (fun hHeld => ?_)
  · (try rw [hD2]); exact kD2
  rw [hD2] at hHeld ⊢
  clear hD2
  refine tk 0 rfl hHeld ?_
  refine tk 1 rfl hHeld ?_
  refine tk 2 rfl hHeld ?_
  refine tk 3 rfl hHeld ?_
  refine tk 4 rfl hHeld ?_
  refine tk 5 rfl hHeld ?_
  refine tk 6 rfl hHeld ?_
  refine tk 7 rfl hHeld ?_
  refine tk 8 rfl hHeld ?_
  refine tk 10 rfl hHeld ?_
  refine tk 11 rfl hHeld ?_
  refine rd 9 rfl fun K hK => ?_
  have hHold := hHeld
  clear hHeld
  go_simp
  try rw [hV2]
  refine hK.out _ _ ?_ (fun hHeld => ?_)
  · ((try dsimp only); exact kV2)
  clear hK K hHold
  try simp only [pu]
  refine tk 12 rfl hHeld ?_
  refine rd 13 rfl fun K hK => ?_
  have hHold := hHeld
  clear hHeld
  go_simp
  refine (unhide HL2).mono ?_
  rintro e V3 ⟨rfl, h3⟩
  have k3 := ((unhide KEEP) V3 ((unhide KV3) V3 _ h3)).2
  have HL3 := hide h3
  clear h3
  go_wp2_with fail
  refine hK.out _ _ ?_ (fun hHeld => ?_)
  · ((try dsimp only); exact k3)
  clear hK K hHold
  try simp only [pu]
  refine wpAnyH_done (by kernel_rfl) ?_ _
  refine NoPanic.normal ?_
  clear hHeld
  go_wp2_with fail
  refine ((unhide HCA) A V3).mono ?_
  rintro e X2 ⟨rfl, hX2⟩
  obtain ⟨bx, hfin⟩ := (unhide HFN) V3 (unhide HL3) X2 hX2
  obtain ⟨f0', f1', f2', f3'⟩ := bx.frz
  have e0 := bx.c0
  have e1 := bx.c1
  have e2 := bx.c2
  have e3 := bx.c3
  have b6 := set4_box bx (compV ⟨#[44]⟩ (some ⟨A, 0, none⟩) 2 2)
  have z0 := b6.c0
  have z1 := b6.c1
  have z2 := b6.c2
  have z3 := b6.c3
  have HF := hide hfin
  clear hfin bx b6 hX2 HFN HL3
  simp only [TV.val, compV]
  go_wp2_with fail
  exact bodyPost_ret (v := (compV ⟨#[44]⟩ (some ⟨A, 0, none⟩) 2 2).val) (by
    have e : (((X2.setCell ⟨V.heap.size + 1, 0, none⟩ (.int .i64 4)).setCell ⟨V.heap.size + 1, 1, none⟩ (.int .i64 0)).setCell ⟨V.heap.size + 1, 2, none⟩ (.string ⟨#[44]⟩)).setCell ⟨V.heap.size + 1, 3, none⟩ (.slice (some ⟨A, 0, none⟩) 2 2) = set4 X2 (V.heap.size + 1) 0 (compV ⟨#[44]⟩ (some ⟨A, 0, none⟩) 2 2) := rfl
    rw [e]
    simp [results, Try.results49, go_sem, TV.val, z0, z1, z2, z3]) rfl ⟨I, A, q, rfl, unhide HF⟩
end Go.Proofs.Ytcdgmjpgmiehcaa

