import Derived.Test.YtcdgmjpgmiehcaaGqU
/- Region 15 of grammar's Translate: a chain of calls, and a box at whatever time. (Written by wip/gqtrans15gen.py.) -/
namespace Go.Proofs.Ytcdgmjpgmiehcaa
open Go.RowKit Go.Shelf

/-- What has come up so far: the box, the head, the goal, the clause. -/
structure TS (wb : Nat) (nx : Int) (W0 : World) (a : Option Nat) (x y z : Option (TV × Nat × List Nd)) (w : World) : Prop where
  fr : FrG wb (fun k => k = wb) W0 w
  wr : y = none → WrB w wb nx (.slice none 0 0)
  wl : wb < W0.heap.size
  bx : ∀ b, a = some b → W0.heap.size ≤ b ∧ BoxT w b noTerm
  hx : ∀ v D c, x = some (v, D, c) → HoldsG (fun k => ∀ b, a = some b → k ≠ b) D W0.heap.size w v.val c
  hy : ∀ v D c, y = some (v, D, c) → HoldsG (fun k => ∀ b, a = some b → k ≠ b) D W0.heap.size w v.val c
  hz : ∀ v D c, z = some (v, D, c) → HoldsG (fun k => ∀ b, a = some b → k ≠ b) D W0.heap.size w v.val c
theorem WrB.ne_box {W : World} {q b : Nat} {n : Int} {l : Value} {x : TV} (h : WrB W q n l) (hb : BoxT W b x) : ¬ b = q := fun e => by
  subst e
  have := (show W.heap[b]? = _ from h).symm.trans hb
  simp at this
section
variable {wb : Nat} {nx : Int} {W0 w w' : World} {a : Option Nat} {x y z : Option (TV × Nat × List Nd)}
theorem TS.below (h : TS wb nx W0 a x y z w) (hb : Below w.heap.size w w') : TS wb nx W0 a x y z w' :=
  ⟨h.fr.trans (FrG.of_below hb), fun e => (h.wr e).kept (hb.block wb (h.wr e).lt), h.wl, fun b e => ⟨(h.bx b e).1, (h.bx b e).2.below hb (h.bx b e).2.lt⟩, fun v D c e => (h.hx v D c e).below hb, fun v D c e => (h.hy v D c e).below hb, fun v D c e => (h.hz v D c e).below hb⟩
theorem TS.alloc (h : TS wb nx W0 none x y z w) (hw : w.alloc (.cells #[.int .i64 0, .int .i64 0, .string ⟨#[]⟩, .slice none 0 0] 24) = w') : TS wb nx W0 (some w.heap.size) x y z w' := by
  have hb : Below w.heap.size w w' := by rw [← hw]; exact (Below.refl _ w).alloc (Nat.le_refl _) _
  have h' := h.below hb
  have up : ∀ {v : TV} {D : Nat} {c : List Nd}, HoldsG (fun k => ∀ b, (none : Option Nat) = some b → k ≠ b) D W0.heap.size w v.val c → HoldsG (fun k => ∀ b, some w.heap.size = some b → k ≠ b) D W0.heap.size w' v.val c := fun hh =>
    HoldsG.below (HoldsG.weak hh (Nat.le_refl _) fun k hk => ⟨fun b e => by have := hk.2.lt; simp at e; omega, hk.2⟩) hb
  refine ⟨h'.fr, h'.wr, h.wl, fun b e => ?_, fun v D c e => up (h.hx v D c e), fun v D c e => up (h.hy v D c e), fun v D c e => up (h.hz v D c e)⟩
  simp at e
  subst e
  exact ⟨h.fr.size, by rw [← hw]; exact BoxT.new w noTerm⟩
theorem TS.new {v : TV} {D : Nat} {c : List Nd} (h : TS wb nx W0 a x y z w) (hv : HoldsG anyP D w.heap.size w' v.val c) : HoldsG (fun k => ∀ b, a = some b → k ≠ b) D W0.heap.size w' v.val c :=
  HoldsG.weak hv (Nat.le_refl _) fun k hk => ⟨fun b e => by have := (h.bx b e).2.lt; have := hk.2.1; omega, Nat.le_trans h.fr.size hk.2.1, hk.2.2⟩
theorem TS.callx {v : TV} {D : Nat} {c : List Nd} (h : TS wb nx W0 a none y z w) (hb : Below w.heap.size w w') (hv : HoldsG anyP D w.heap.size w' v.val c) : TS wb nx W0 a (some (v, D, c)) y z w' := by
  have h' := h.below hb
  refine ⟨h'.fr, h'.wr, h.wl, h'.bx, fun v' D' c' e => ?_, h'.hy, h'.hz⟩
  simp at e
  obtain ⟨rfl, rfl, rfl⟩ := e
  exact h.new hv
theorem TS.cally {v : TV} {D : Nat} {c : List Nd} (h : TS wb nx W0 a x none none w) (hf : FrG wb (fun k => k = wb) w w') (hv : HoldsG anyP D w.heap.size w' v.val c) : TS wb nx W0 a x (some (v, D, c)) none w' := by
  have hwl := h.wl
  refine ⟨h.fr.trans hf, fun e => (by cases e), h.wl, fun b e => ⟨(h.bx b e).1, hf.box (h.bx b e).2 (by have := (h.bx b e).1; omega)⟩, fun v' D' c' e => ?_, fun v' D' c' e => ?_, fun v' D' c' e => (by cases e)⟩
  · exact (h.hx v' D' c' e).frame hf (fun k _ hk => by have := hk.1; omega)
  · simp at e
    obtain ⟨rfl, rfl, rfl⟩ := e
    exact h.new hv
theorem TS.row {vx vy : TV} {D : Nat} {cx cy : List Nd} (h : TS wb nx W0 a (some (vx, D, cx)) (some (vy, D, cy)) none w) (hw : w.alloc (.cells #[.int .i64 vx.k, .int .i64 vx.N, .string vx.s, .slice vx.a vx.len vx.cap, .int .i64 vy.k, .int .i64 vy.N, .string vy.s, .slice vy.a vy.len vy.cap] 24) = w') : TS wb nx W0 a (some (vx, D, cx)) (some (vy, D, cy)) (some (compV ⟨#[58, 45]⟩ (some ⟨w.heap.size, 0, none⟩) 2 2, D + 1, (4, 0, (⟨#[58, 45]⟩ : ByteArray).toList, 2) :: (cx ++ cy))) w' := by
  have hb : Below w.heap.size w w' := by rw [← hw]; exact (Below.refl _ w).alloc (Nat.le_refl _) _
  have h' := h.below hb
  refine ⟨h'.fr, h'.wr, h.wl, h'.bx, h'.hx, h'.hy, fun v' D' c' e => ?_⟩
  simp at e
  obtain ⟨rfl, rfl, rfl⟩ := e
  have hn : w'.heap[w.heap.size]? = some (.cells #[.int .i64 vx.k, .int .i64 vx.N, .string vx.s, .slice vx.a vx.len vx.cap, .int .i64 vy.k, .int .i64 vy.N, .string vy.s, .slice vy.a vy.len vy.cap] 24 (0, 0)) := by rw [← hw]; exact World.alloc_heap_new w _
  have := comp_G (P := fun k => ∀ b, a = some b → k ≠ b) (D := D) (lo := W0.heap.size) (g := w.heap.size) (cap := 2) (W := w') (s := ⟨#[58, 45]⟩) (xs := [vx, vy]) (cs := [cx, cy]) (by decide) (by simp) rfl ⟨h.fr.size, _, hn, rfl⟩ (fun b e => by have := (h.bx b e).2.lt; omega) (by simp) (fun j q c hq hc => by
    match j, hq, hc with
    | 0, hq, hc =>
      simp at hq hc
      subst hq hc
      exact ⟨⟨cell_of hn rfl, cell_of hn rfl, cell_of hn rfl, cell_of hn rfl⟩, h'.hx _ _ _ rfl⟩
    | 1, hq, hc =>
      simp at hq hc
      subst hq hc
      exact ⟨⟨cell_of hn rfl, cell_of hn rfl, cell_of hn rfl, cell_of hn rfl⟩, h'.hy _ _ _ rfl⟩
    | j + 2, hq, hc => simp at hq)
  simpa using this
theorem TS.store {b : Nat} {v : TV} {D : Nat} {c : List Nd} (h : TS wb nx W0 (some b) x y (some (v, D, c)) w) : FrG wb (fun k => k = wb) W0 (set4 w b 0 v) ∧ W0.heap.size ≤ b ∧ BoxT (set4 w b 0 v) b v ∧ HoldsG anyP D W0.heap.size (set4 w b 0 v) v.val c := by
  obtain ⟨hb, bx⟩ := h.bx b rfl
  refine ⟨h.fr.set4 hb 0 v, hb, set4_box bx v, ?_⟩
  exact (HoldsG.move (h.hz v D c rfl) (fun k hk _ => set4_other w b 0 v (hk b rfl)) (by rw [set4_size]; exact Nat.le_refl _)).mono (Nat.le_refl _) (Nat.le_refl _) (fun _ _ => trivial)
end
set_option maxRecDepth 100000 in
set_option maxHeartbeats 8000000 in
theorem wp_trans15 {wb hb bb fb tb D : Nat} {nx : Int} {h b xf xt : TV} {ch cg : List Nd} {v0 v1 v2 v3 v4 v5 v6 v9 v10 v11 v15 v16 v17 v18 v19 v20 v21 v22 v23 v24 v25 v26 v27 v28 v29 v30 v31 v32 v33 v34 v35 v36 v37 v38 v39 v40 v41 v42 v43 v44 v45 v46 v47 v48 v49 v50 v51 v52 v53 v54 v55 v56 v57 v58 v59 v60 v61 v62 v63 v64 v65 v66 v67 v68 v69 v70 v71 v72 v73 v74 v75 v76 v77 v78 : Value} {d : List Deferred} {W0 : World} {Q : Exit → Act → World → Prop} (hwr : WrB W0 wb nx (.slice none 0 0)) (b1 : BoxT W0 hb h) (b2 : BoxT W0 bb b) (b3 : BoxT W0 fb xf) (b4 : BoxT W0 tb xt)
    (HE : ∀ U, FrG wb (fun k => k = wb) W0 U → Calls Try.prog 25 #[.agg #[.int .i64 h.k, .int .i64 h.N, .string h.s, .slice h.a h.len h.cap], .agg #[.int .i64 xf.k, .int .i64 xf.N, .string xf.s, .slice xf.a xf.len xf.cap], .agg #[.int .i64 xt.k, .int .i64 xt.N, .string xt.s, .slice xt.a xt.len xt.cap]] U fun e V' => ∃ x : TV, e = .returned x.val ∧ HoldsG anyP D U.heap.size V' x.val ch ∧ Below U.heap.size U V')
    (HG : ∀ U, FrG wb (fun k => k = wb) W0 U → WrB U wb nx (.slice none 0 0) → Calls Try.prog 26 #[.pointer (some ⟨wb, 0, none⟩), .agg #[.int .i64 b.k, .int .i64 b.N, .string b.s, .slice b.a b.len b.cap], .agg #[.int .i64 xf.k, .int .i64 xf.N, .string xf.s, .slice xf.a xf.len xf.cap], .agg #[.int .i64 xt.k, .int .i64 xt.N, .string xt.s, .slice xt.a xt.len xt.cap]] U fun e V' => ∃ y : TV, e = .returned y.val ∧ HoldsG anyP D U.heap.size V' y.val cg ∧ FrG wb (fun k => k = wb) U V')
    (hQ : ∀ (W : World) (b15 g3 : Nat) (u61 u62 u63 u64 u65 u66 u67 u68 u69 u70 : Value), FrG wb (fun k => k = wb) W0 W ∧ W0.heap.size ≤ b15 ∧ BoxT W b15 (compV ⟨#[58, 45]⟩ (some ⟨g3, 0, none⟩) 2 2) ∧ HoldsG anyP (D + 1) W0.heap.size W (compV ⟨#[58, 45]⟩ (some ⟨g3, 0, none⟩) 2 2).val ((4, 0, (⟨#[58, 45]⟩ : ByteArray).toList, 2) :: (ch ++ cg)) → Q .normal ⟨#[v0, v1, v2, v3, v4, v5, v6, .pointer (some ⟨hb, 0, none⟩), .pointer (some ⟨bb, 0, none⟩), v9, v10, v11, .pointer (some ⟨fb, 0, none⟩), .pointer (some ⟨tb, 0, none⟩), .pointer (some ⟨wb, 0, none⟩), .pointer (some ⟨b15, 0, none⟩), v16, v17, v18, v19, v20, v21, v22, v23, v24, v25, v26, v27, v28, v29, v30, v31, v32, v33, v34, v35, v36, v37, v38, v39, v40, v41, v42, v43, v44, v45, v46, v47, v48, v49, v50, v51, v52, v53, v54, v55, v56, v57, v58, v59, v60, u61, u62, u63, u64, u65, u66, u67, u68, u69, u70, v71, v72, v73, v74, v75, v76, v77, v78], d⟩ W) :
    (Code.region 15 #[{ dst := some 61, op := Op.load 24 (Operand.tmp 7), type := 24, pos := "grammar.go:27", after := #[], guard := none }, { dst := some 62, op := Op.load 24 (Operand.tmp 12), type := 24, pos := "grammar.go:27", after := #[], guard := none }, { dst := some 63, op := Op.load 24 (Operand.tmp 13), type := 24, pos := "grammar.go:27", after := #[], guard := none }, { dst := some 64, op := Op.call { callee := Callee.value (Operand.func 25), args := #[Operand.tmp 61, Operand.tmp 62, Operand.tmp 63], argTypes := #[24, 24, 24] }, type := 24, pos := "grammar.go:27", after := #[{ on := 0, ground := Ground.data }, { on := 1, ground := Ground.data }, { on := 2, ground := Ground.data }], guard := none }, { dst := some 65, op := Op.load 24 (Operand.tmp 8), type := 24, pos := "grammar.go:27", after := #[], guard := none }, { dst := some 66, op := Op.load 24 (Operand.tmp 12), type := 24, pos := "grammar.go:27", after := #[], guard := none }, { dst := some 67, op := Op.load 24 (Operand.tmp 13), type := 24, pos := "grammar.go:27", after := #[], guard := none }, { dst := some 68, op := Op.call { callee := Callee.value (Operand.func 26), args := #[Operand.tmp 14, Operand.tmp 65, Operand.tmp 66, Operand.tmp 67], argTypes := #[48, 24, 24, 24] }, type := 24, pos := "grammar.go:27", after := #[{ on := 4, ground := Ground.data }, { on := 5, ground := Ground.data }, { on := 6, ground := Ground.data }, { on := 3, ground := Ground.chain }], guard := none }, { dst := some 69, op := Op.buildSlice 22 2 #[(0, Operand.tmp 64), (1, Operand.tmp 68)], type := 22, pos := "grammar.go:27", after := #[{ on := 3, ground := Ground.data }, { on := 7, ground := Ground.data }], guard := none }, { dst := some 70, op := Op.call { callee := Callee.value (Operand.func 24), args := #[Operand.const (Value.string { data := #[58, 45] }), Operand.tmp 69], argTypes := #[9, 22] }, type := 24, pos := "grammar.go:27", after := #[{ on := 8, ground := Ground.data }, { on := 7, ground := Ground.chain }], guard := none }, { dst := some 15, op := Op.alloc 24, type := 0, pos := "grammar.go:27", after := #[], guard := none }, { dst := none, op := Op.store 24 (Operand.tmp 15) (Operand.tmp 70), type := 0, pos := "grammar.go:27", after := #[{ on := 10, ground := Ground.data }, { on := 9, ground := Ground.data }, { on := 9, ground := Ground.chain }, { on := 0, ground := Ground.phase }, { on := 1, ground := Ground.phase }, { on := 2, ground := Ground.phase }, { on := 3, ground := Ground.phase }, { on := 4, ground := Ground.phase }, { on := 5, ground := Ground.phase }, { on := 6, ground := Ground.phase }, { on := 7, ground := Ground.phase }, { on := 8, ground := Ground.phase }, { on := 9, ground := Ground.phase }, { on := 10, ground := Ground.phase }], guard := none }] true).wp Try.prog Q ⟨#[v0, v1, v2, v3, v4, v5, v6, .pointer (some ⟨hb, 0, none⟩), .pointer (some ⟨bb, 0, none⟩), v9, v10, v11, .pointer (some ⟨fb, 0, none⟩), .pointer (some ⟨tb, 0, none⟩), .pointer (some ⟨wb, 0, none⟩), v15, v16, v17, v18, v19, v20, v21, v22, v23, v24, v25, v26, v27, v28, v29, v30, v31, v32, v33, v34, v35, v36, v37, v38, v39, v40, v41, v42, v43, v44, v45, v46, v47, v48, v49, v50, v51, v52, v53, v54, v55, v56, v57, v58, v59, v60, v61, v62, v63, v64, v65, v66, v67, v68, v69, v70, v71, v72, v73, v74, v75, v76, v77, v78], d⟩ W0 := by
  obtain ⟨D1, hD1⟩ : ∃ D1, W0.drew = D1 := ⟨_, rfl⟩
  have hDB : Below W0.heap.size W0 D1 := by rw [← hD1]; exact (Below.refl _ W0).drew
  have hn1 := hwr.ne_box b1
  have hn2 := hwr.ne_box b2
  have hn3 := hwr.ne_box b3
  have hn4 := hwr.ne_box b4
  have KEEP : Hid (∀ U : World, FrG wb (fun k => k = wb) W0 U → (U.cell? ⟨hb, 0, none⟩ = some (.int .i64 h.k) ∧ U.cell? ⟨hb, 1, none⟩ = some (.int .i64 h.N) ∧ U.cell? ⟨hb, 2, none⟩ = some (.string h.s) ∧ U.cell? ⟨hb, 3, none⟩ = some (.slice h.a h.len h.cap) ∧ U.cell? ⟨bb, 0, none⟩ = some (.int .i64 b.k) ∧ U.cell? ⟨bb, 1, none⟩ = some (.int .i64 b.N) ∧ U.cell? ⟨bb, 2, none⟩ = some (.string b.s) ∧ U.cell? ⟨bb, 3, none⟩ = some (.slice b.a b.len b.cap) ∧ U.cell? ⟨fb, 0, none⟩ = some (.int .i64 xf.k) ∧ U.cell? ⟨fb, 1, none⟩ = some (.int .i64 xf.N) ∧ U.cell? ⟨fb, 2, none⟩ = some (.string xf.s) ∧ U.cell? ⟨fb, 3, none⟩ = some (.slice xf.a xf.len xf.cap) ∧ U.cell? ⟨tb, 0, none⟩ = some (.int .i64 xt.k) ∧ U.cell? ⟨tb, 1, none⟩ = some (.int .i64 xt.N) ∧ U.cell? ⟨tb, 2, none⟩ = some (.string xt.s) ∧ U.cell? ⟨tb, 3, none⟩ = some (.slice xt.a xt.len xt.cap))) := hide fun U hU => by
    have c1 := hU.box b1 hn1
    have c2 := hU.box b2 hn2
    have c3 := hU.box b3 hn3
    have c4 := hU.box b4 hn4
    exact ⟨c1.c0, c1.c1, c1.c2, c1.c3, c2.c0, c2.c1, c2.c2, c2.c3, c3.c0, c3.c1, c3.c2, c3.c3, c4.c0, c4.c1, c4.c2, c4.c3⟩
  have t0 : TS wb nx W0 none none none none D1 := ⟨FrG.of_below hDB, fun _ => hwr.kept (hDB.block wb hwr.lt), hwr.lt, fun b e => (by cases e), fun v D c e => (by cases e), fun v D c e => (by cases e), fun v D c e => (by cases e)⟩
  have HT := hide t0
  have HC : Hid (∀ (R : Nat) (X : World), Calls Try.prog 24 #[.string ⟨#[58, 45]⟩, .slice (some ⟨R, 0, none⟩) 2 2] X fun e W' => e = .returned (compV ⟨#[58, 45]⟩ (some ⟨R, 0, none⟩) 2 2).val ∧ Below X.heap.size X W') := hide fun R X => gcomp_any _ _ _ _ X
  have HE' := hide HE
  have HG' := hide HG
  have HQ := hide hQ
  have kD := (unhide KEEP) D1 t0.fr
  clear HE HG hQ t0 hDB hwr b1 b2 b3 b4 hn1 hn2 hn3 hn4
  have HE := HE'
  have HG := HG'
  clear HE' HG'
  refine wp_region_noPanic ?_
  refine wp_region_held_drew (S := fun w' => w'.cell? ⟨hb, 0, none⟩ = some (.int .i64 h.k) ∧ w'.cell? ⟨hb, 1, none⟩ = some (.int .i64 h.N) ∧ w'.cell? ⟨hb, 2, none⟩ = some (.string h.s) ∧ w'.cell? ⟨hb, 3, none⟩ = some (.slice h.a h.len h.cap) ∧ w'.cell? ⟨bb, 0, none⟩ = some (.int .i64 b.k) ∧ w'.cell? ⟨bb, 1, none⟩ = some (.int .i64 b.N) ∧ w'.cell? ⟨bb, 2, none⟩ = some (.string b.s) ∧ w'.cell? ⟨bb, 3, none⟩ = some (.slice b.a b.len b.cap) ∧ w'.cell? ⟨fb, 0, none⟩ = some (.int .i64 xf.k) ∧ w'.cell? ⟨fb, 1, none⟩ = some (.int .i64 xf.N) ∧ w'.cell? ⟨fb, 2, none⟩ = some (.string xf.s) ∧ w'.cell? ⟨fb, 3, none⟩ = some (.slice xf.a xf.len xf.cap) ∧ w'.cell? ⟨tb, 0, none⟩ = some (.int .i64 xt.k) ∧ w'.cell? ⟨tb, 1, none⟩ = some (.int .i64 xt.N) ∧ w'.cell? ⟨tb, 2, none⟩ = some (.string xt.s) ∧ w'.cell? ⟨tb, 3, none⟩ = some (.slice xt.a xt.len xt.cap)) (by kernel_rfl) ?_ (fun hHeld => ?_)
  · (try rw [hD1]); exact kD
  rw [hD1] at hHeld ⊢
  clear hD1 kD
  refine tk 0 rfl hHeld ?_
  refine tk 1 rfl hHeld ?_
  refine tk 2 rfl hHeld ?_
  refine tk 4 rfl hHeld ?_
  refine tk 5 rfl hHeld ?_
  refine tk 6 rfl hHeld ?_
  refine wpAnyH_ready (rs := [3, 10]) (by kernel_rfl) (by simp) ?_
  refine rc 3 rfl (fun K hK => ?_) ?_
  · have hHold := hHeld
    clear hHeld
    go_simp
    refine ((unhide HE) D1 (unhide HT).fr).mono ?_
    rintro e X1 ⟨x, rfl, hx, h1⟩
    have HT1 := hide ((unhide HT).callx h1 hx)
    clear hx h1 HT
    have HT := HT1
    clear HT1
    simp only [TV.val]
    go_wp2_with fail
    refine hK.out _ _ ?_ (fun hHeld => ?_)
    · ((try dsimp only); exact (unhide KEEP) _ (unhide HT).fr)
    clear hK K hHold
    try simp only [pu]
    refine wpAnyH_ready (rs := [7, 10]) (by kernel_rfl) (by simp) ?_
    refine rc 7 rfl (fun K hK => ?_) ?_
    · have hHold := hHeld
      clear hHeld
      go_simp
      refine ((unhide HG) X1 (unhide HT).fr ((unhide HT).wr rfl)).mono ?_
      rintro e X2 ⟨y, rfl, hy, h2⟩
      have HT1 := hide ((unhide HT).cally h2 hy)
      clear hy h2 HT
      have HT := HT1
      clear HT1
      simp only [TV.val]
      go_wp2_with fail
      refine hK.out _ _ ?_ (fun hHeld => ?_)
      · ((try dsimp only); exact (unhide KEEP) _ (unhide HT).fr)
      clear hK K hHold
      try simp only [pu]
      refine wpAnyH_ready (rs := [8, 10]) (by kernel_rfl) (by simp) ?_
      refine rc 8 rfl (fun K hK => ?_) ?_
      · have hHold := hHeld
        clear hHeld
        go_simp
        obtain ⟨X3, hX3⟩ : ∃ X3, X2.alloc (.cells #[.int .i64 x.k, .int .i64 x.N, .string x.s, .slice x.a x.len x.cap, .int .i64 y.k, .int .i64 y.N, .string y.s, .slice y.a y.len y.cap] 24) = X3 := ⟨_, rfl⟩
        obtain ⟨g3, hg3⟩ : ∃ g3, X2.heap.size = g3 := ⟨_, rfl⟩
        have HT1 := hide ((unhide HT).row hX3)
        rw [hg3] at HT1 ⊢
        rw [hX3]
        clear HT hX3 hg3
        have HT := HT1
        clear HT1
        refine hK.out _ _ ?_ (fun hHeld => ?_)
        · ((try dsimp only); exact (unhide KEEP) _ (unhide HT).fr)
        clear hK K hHold
        try simp only [pu]
        refine wpAnyH_ready (rs := [9, 10]) (by kernel_rfl) (by simp) ?_
        refine rc 9 rfl (fun K hK => ?_) ?_
        · have hHold := hHeld
          clear hHeld
          go_simp
          refine ((unhide HC) g3 X3).mono ?_
          rintro e X4 ⟨rfl, h4⟩
          have HT1 := hide ((unhide HT).below h4)
          clear h4 HT
          have HT := HT1
          clear HT1
          simp only [TV.val, compV]
          go_wp2_with fail
          refine hK.out _ _ ?_ (fun hHeld => ?_)
          · ((try dsimp only); exact (unhide KEEP) _ (unhide HT).fr)
          clear hK K hHold
          try simp only [pu]
          refine rd 10 rfl fun K hK => ?_
          have hHold := hHeld
          clear hHeld
          go_simp
          obtain ⟨Y4, hY4⟩ : ∃ Y, X4.alloc (.cells #[.int .i64 0, .int .i64 0, .string ⟨#[]⟩, .slice none 0 0] 24) = Y := ⟨_, rfl⟩
          obtain ⟨b15, hb15⟩ : ∃ b15, X4.heap.size = b15 := ⟨_, rfl⟩
          have HT1 := hide ((unhide HT).alloc hY4)
          rw [hb15] at HT1 ⊢
          rw [hY4]
          clear HT hY4 hb15
          have HT := HT1
          clear HT1
          refine hK.out _ _ ?_ (fun hHeld => ?_)
          · ((try dsimp only); exact (unhide KEEP) _ (unhide HT).fr)
          clear hK K hHold
          try simp only [pu]
          have HF := hide ((unhide HT).store)
          obtain ⟨bl, bx⟩ := (unhide HT).bx b15 rfl
          have m0 := bx.c0
          have m1 := bx.c1
          have m2 := bx.c2
          have m3 := bx.c3
          obtain ⟨n0, n1, n2, n3⟩ := bx.frz
          obtain ⟨WF, hWF⟩ : ∃ WF, set4 Y4 b15 0 (compV ⟨#[58, 45]⟩ (some ⟨g3, 0, none⟩) 2 2) = WF := ⟨_, rfl⟩
          rw [hWF] at HF
          have hfF := (unhide HF).1
          have HK2 := hide ((unhide KEEP) WF hfF)
          unfold set4 at hWF
          simp only [Nat.zero_add, compV] at hWF
          clear bx bl hfF
          refine rd 11 rfl fun K hK => ?_
          have hHold := hHeld
          clear hHeld
          go_simp
          try rw [hWF]
          refine hK.out _ _ ?_ (fun hHeld => ?_)
          · ((try dsimp only); exact unhide HK2)
          clear hK K hHold
          try simp only [pu]
          refine wpAnyH_done (by kernel_rfl) ?_ _
          exact NoPanic.normal ((unhide HQ) WF b15 g3 _ _ _ _ _ _ _ _ _ _ (unhide HF))
        refine rc 10 rfl (fun K hK => ?_) AllReadyH.nil
        have hHold := hHeld
        clear hHeld
        go_simp
        obtain ⟨Y3, hY3⟩ : ∃ Y, X3.alloc (.cells #[.int .i64 0, .int .i64 0, .string ⟨#[]⟩, .slice none 0 0] 24) = Y := ⟨_, rfl⟩
        obtain ⟨b15, hb15⟩ : ∃ b15, X3.heap.size = b15 := ⟨_, rfl⟩
        have HT1 := hide ((unhide HT).alloc hY3)
        rw [hb15] at HT1 ⊢
        rw [hY3]
        clear HT hY3 hb15
        have HT := HT1
        clear HT1
        refine hK.out _ _ ?_ (fun hHeld => ?_)
        · ((try dsimp only); exact (unhide KEEP) _ (unhide HT).fr)
        clear hK K hHold
        try simp only [pu]
        refine rd 9 rfl fun K hK => ?_
        have hHold := hHeld
        clear hHeld
        go_simp
        refine ((unhide HC) g3 Y3).mono ?_
        rintro e X4 ⟨rfl, h4⟩
        have HT1 := hide ((unhide HT).below h4)
        clear h4 HT
        have HT := HT1
        clear HT1
        simp only [TV.val, compV]
        go_wp2_with fail
        refine hK.out _ _ ?_ (fun hHeld => ?_)
        · ((try dsimp only); exact (unhide KEEP) _ (unhide HT).fr)
        clear hK K hHold
        try simp only [pu]
        have HF := hide ((unhide HT).store)
        obtain ⟨bl, bx⟩ := (unhide HT).bx b15 rfl
        have m0 := bx.c0
        have m1 := bx.c1
        have m2 := bx.c2
        have m3 := bx.c3
        obtain ⟨n0, n1, n2, n3⟩ := bx.frz
        obtain ⟨WF, hWF⟩ : ∃ WF, set4 X4 b15 0 (compV ⟨#[58, 45]⟩ (some ⟨g3, 0, none⟩) 2 2) = WF := ⟨_, rfl⟩
        rw [hWF] at HF
        have hfF := (unhide HF).1
        have HK2 := hide ((unhide KEEP) WF hfF)
        unfold set4 at hWF
        simp only [Nat.zero_add, compV] at hWF
        clear bx bl hfF
        refine rd 11 rfl fun K hK => ?_
        have hHold := hHeld
        clear hHeld
        go_simp
        try rw [hWF]
        refine hK.out _ _ ?_ (fun hHeld => ?_)
        · ((try dsimp only); exact unhide HK2)
        clear hK K hHold
        try simp only [pu]
        refine wpAnyH_done (by kernel_rfl) ?_ _
        exact NoPanic.normal ((unhide HQ) WF b15 g3 _ _ _ _ _ _ _ _ _ _ (unhide HF))
      refine rc 10 rfl (fun K hK => ?_) AllReadyH.nil
      have hHold := hHeld
      clear hHeld
      go_simp
      obtain ⟨Y2, hY2⟩ : ∃ Y, X2.alloc (.cells #[.int .i64 0, .int .i64 0, .string ⟨#[]⟩, .slice none 0 0] 24) = Y := ⟨_, rfl⟩
      obtain ⟨b15, hb15⟩ : ∃ b15, X2.heap.size = b15 := ⟨_, rfl⟩
      have HT1 := hide ((unhide HT).alloc hY2)
      rw [hb15] at HT1 ⊢
      rw [hY2]
      clear HT hY2 hb15
      have HT := HT1
      clear HT1
      refine hK.out _ _ ?_ (fun hHeld => ?_)
      · ((try dsimp only); exact (unhide KEEP) _ (unhide HT).fr)
      clear hK K hHold
      try simp only [pu]
      refine rd 8 rfl fun K hK => ?_
      have hHold := hHeld
      clear hHeld
      go_simp
      obtain ⟨X3, hX3⟩ : ∃ X3, Y2.alloc (.cells #[.int .i64 x.k, .int .i64 x.N, .string x.s, .slice x.a x.len x.cap, .int .i64 y.k, .int .i64 y.N, .string y.s, .slice y.a y.len y.cap] 24) = X3 := ⟨_, rfl⟩
      obtain ⟨g3, hg3⟩ : ∃ g3, Y2.heap.size = g3 := ⟨_, rfl⟩
      have HT1 := hide ((unhide HT).row hX3)
      rw [hg3] at HT1 ⊢
      rw [hX3]
      clear HT hX3 hg3
      have HT := HT1
      clear HT1
      refine hK.out _ _ ?_ (fun hHeld => ?_)
      · ((try dsimp only); exact (unhide KEEP) _ (unhide HT).fr)
      clear hK K hHold
      try simp only [pu]
      refine rd 9 rfl fun K hK => ?_
      have hHold := hHeld
      clear hHeld
      go_simp
      refine ((unhide HC) g3 X3).mono ?_
      rintro e X4 ⟨rfl, h4⟩
      have HT1 := hide ((unhide HT).below h4)
      clear h4 HT
      have HT := HT1
      clear HT1
      simp only [TV.val, compV]
      go_wp2_with fail
      refine hK.out _ _ ?_ (fun hHeld => ?_)
      · ((try dsimp only); exact (unhide KEEP) _ (unhide HT).fr)
      clear hK K hHold
      try simp only [pu]
      have HF := hide ((unhide HT).store)
      obtain ⟨bl, bx⟩ := (unhide HT).bx b15 rfl
      have m0 := bx.c0
      have m1 := bx.c1
      have m2 := bx.c2
      have m3 := bx.c3
      obtain ⟨n0, n1, n2, n3⟩ := bx.frz
      obtain ⟨WF, hWF⟩ : ∃ WF, set4 X4 b15 0 (compV ⟨#[58, 45]⟩ (some ⟨g3, 0, none⟩) 2 2) = WF := ⟨_, rfl⟩
      rw [hWF] at HF
      have hfF := (unhide HF).1
      have HK2 := hide ((unhide KEEP) WF hfF)
      unfold set4 at hWF
      simp only [Nat.zero_add, compV] at hWF
      clear bx bl hfF
      refine rd 11 rfl fun K hK => ?_
      have hHold := hHeld
      clear hHeld
      go_simp
      try rw [hWF]
      refine hK.out _ _ ?_ (fun hHeld => ?_)
      · ((try dsimp only); exact unhide HK2)
      clear hK K hHold
      try simp only [pu]
      refine wpAnyH_done (by kernel_rfl) ?_ _
      exact NoPanic.normal ((unhide HQ) WF b15 g3 _ _ _ _ _ _ _ _ _ _ (unhide HF))
    refine rc 10 rfl (fun K hK => ?_) AllReadyH.nil
    have hHold := hHeld
    clear hHeld
    go_simp
    obtain ⟨Y1, hY1⟩ : ∃ Y, X1.alloc (.cells #[.int .i64 0, .int .i64 0, .string ⟨#[]⟩, .slice none 0 0] 24) = Y := ⟨_, rfl⟩
    obtain ⟨b15, hb15⟩ : ∃ b15, X1.heap.size = b15 := ⟨_, rfl⟩
    have HT1 := hide ((unhide HT).alloc hY1)
    rw [hb15] at HT1 ⊢
    rw [hY1]
    clear HT hY1 hb15
    have HT := HT1
    clear HT1
    refine hK.out _ _ ?_ (fun hHeld => ?_)
    · ((try dsimp only); exact (unhide KEEP) _ (unhide HT).fr)
    clear hK K hHold
    try simp only [pu]
    refine rd 7 rfl fun K hK => ?_
    have hHold := hHeld
    clear hHeld
    go_simp
    refine ((unhide HG) Y1 (unhide HT).fr ((unhide HT).wr rfl)).mono ?_
    rintro e X2 ⟨y, rfl, hy, h2⟩
    have HT1 := hide ((unhide HT).cally h2 hy)
    clear hy h2 HT
    have HT := HT1
    clear HT1
    simp only [TV.val]
    go_wp2_with fail
    refine hK.out _ _ ?_ (fun hHeld => ?_)
    · ((try dsimp only); exact (unhide KEEP) _ (unhide HT).fr)
    clear hK K hHold
    try simp only [pu]
    refine rd 8 rfl fun K hK => ?_
    have hHold := hHeld
    clear hHeld
    go_simp
    obtain ⟨X3, hX3⟩ : ∃ X3, X2.alloc (.cells #[.int .i64 x.k, .int .i64 x.N, .string x.s, .slice x.a x.len x.cap, .int .i64 y.k, .int .i64 y.N, .string y.s, .slice y.a y.len y.cap] 24) = X3 := ⟨_, rfl⟩
    obtain ⟨g3, hg3⟩ : ∃ g3, X2.heap.size = g3 := ⟨_, rfl⟩
    have HT1 := hide ((unhide HT).row hX3)
    rw [hg3] at HT1 ⊢
    rw [hX3]
    clear HT hX3 hg3
    have HT := HT1
    clear HT1
    refine hK.out _ _ ?_ (fun hHeld => ?_)
    · ((try dsimp only); exact (unhide KEEP) _ (unhide HT).fr)
    clear hK K hHold
    try simp only [pu]
    refine rd 9 rfl fun K hK => ?_
    have hHold := hHeld
    clear hHeld
    go_simp
    refine ((unhide HC) g3 X3).mono ?_
    rintro e X4 ⟨rfl, h4⟩
    have HT1 := hide ((unhide HT).below h4)
    clear h4 HT
    have HT := HT1
    clear HT1
    simp only [TV.val, compV]
    go_wp2_with fail
    refine hK.out _ _ ?_ (fun hHeld => ?_)
    · ((try dsimp only); exact (unhide KEEP) _ (unhide HT).fr)
    clear hK K hHold
    try simp only [pu]
    have HF := hide ((unhide HT).store)
    obtain ⟨bl, bx⟩ := (unhide HT).bx b15 rfl
    have m0 := bx.c0
    have m1 := bx.c1
    have m2 := bx.c2
    have m3 := bx.c3
    obtain ⟨n0, n1, n2, n3⟩ := bx.frz
    obtain ⟨WF, hWF⟩ : ∃ WF, set4 X4 b15 0 (compV ⟨#[58, 45]⟩ (some ⟨g3, 0, none⟩) 2 2) = WF := ⟨_, rfl⟩
    rw [hWF] at HF
    have hfF := (unhide HF).1
    have HK2 := hide ((unhide KEEP) WF hfF)
    unfold set4 at hWF
    simp only [Nat.zero_add, compV] at hWF
    clear bx bl hfF
    refine rd 11 rfl fun K hK => ?_
    have hHold := hHeld
    clear hHeld
    go_simp
    try rw [hWF]
    refine hK.out _ _ ?_ (fun hHeld => ?_)
    · ((try dsimp only); exact unhide HK2)
    clear hK K hHold
    try simp only [pu]
    refine wpAnyH_done (by kernel_rfl) ?_ _
    exact NoPanic.normal ((unhide HQ) WF b15 g3 _ _ _ _ _ _ _ _ _ _ (unhide HF))
  refine rc 10 rfl (fun K hK => ?_) AllReadyH.nil
  have hHold := hHeld
  clear hHeld
  go_simp
  obtain ⟨Y0, hY0⟩ : ∃ Y, D1.alloc (.cells #[.int .i64 0, .int .i64 0, .string ⟨#[]⟩, .slice none 0 0] 24) = Y := ⟨_, rfl⟩
  obtain ⟨b15, hb15⟩ : ∃ b15, D1.heap.size = b15 := ⟨_, rfl⟩
  have HT1 := hide ((unhide HT).alloc hY0)
  rw [hb15] at HT1 ⊢
  rw [hY0]
  clear HT hY0 hb15
  have HT := HT1
  clear HT1
  refine hK.out _ _ ?_ (fun hHeld => ?_)
  · ((try dsimp only); exact (unhide KEEP) _ (unhide HT).fr)
  clear hK K hHold
  try simp only [pu]
  refine rd 3 rfl fun K hK => ?_
  have hHold := hHeld
  clear hHeld
  go_simp
  refine ((unhide HE) Y0 (unhide HT).fr).mono ?_
  rintro e X1 ⟨x, rfl, hx, h1⟩
  have HT1 := hide ((unhide HT).callx h1 hx)
  clear hx h1 HT
  have HT := HT1
  clear HT1
  simp only [TV.val]
  go_wp2_with fail
  refine hK.out _ _ ?_ (fun hHeld => ?_)
  · ((try dsimp only); exact (unhide KEEP) _ (unhide HT).fr)
  clear hK K hHold
  try simp only [pu]
  refine rd 7 rfl fun K hK => ?_
  have hHold := hHeld
  clear hHeld
  go_simp
  refine ((unhide HG) X1 (unhide HT).fr ((unhide HT).wr rfl)).mono ?_
  rintro e X2 ⟨y, rfl, hy, h2⟩
  have HT1 := hide ((unhide HT).cally h2 hy)
  clear hy h2 HT
  have HT := HT1
  clear HT1
  simp only [TV.val]
  go_wp2_with fail
  refine hK.out _ _ ?_ (fun hHeld => ?_)
  · ((try dsimp only); exact (unhide KEEP) _ (unhide HT).fr)
  clear hK K hHold
  try simp only [pu]
  refine rd 8 rfl fun K hK => ?_
  have hHold := hHeld
  clear hHeld
  go_simp
  obtain ⟨X3, hX3⟩ : ∃ X3, X2.alloc (.cells #[.int .i64 x.k, .int .i64 x.N, .string x.s, .slice x.a x.len x.cap, .int .i64 y.k, .int .i64 y.N, .string y.s, .slice y.a y.len y.cap] 24) = X3 := ⟨_, rfl⟩
  obtain ⟨g3, hg3⟩ : ∃ g3, X2.heap.size = g3 := ⟨_, rfl⟩
  have HT1 := hide ((unhide HT).row hX3)
  rw [hg3] at HT1 ⊢
  rw [hX3]
  clear HT hX3 hg3
  have HT := HT1
  clear HT1
  refine hK.out _ _ ?_ (fun hHeld => ?_)
  · ((try dsimp only); exact (unhide KEEP) _ (unhide HT).fr)
  clear hK K hHold
  try simp only [pu]
  refine rd 9 rfl fun K hK => ?_
  have hHold := hHeld
  clear hHeld
  go_simp
  refine ((unhide HC) g3 X3).mono ?_
  rintro e X4 ⟨rfl, h4⟩
  have HT1 := hide ((unhide HT).below h4)
  clear h4 HT
  have HT := HT1
  clear HT1
  simp only [TV.val, compV]
  go_wp2_with fail
  refine hK.out _ _ ?_ (fun hHeld => ?_)
  · ((try dsimp only); exact (unhide KEEP) _ (unhide HT).fr)
  clear hK K hHold
  try simp only [pu]
  have HF := hide ((unhide HT).store)
  obtain ⟨bl, bx⟩ := (unhide HT).bx b15 rfl
  have m0 := bx.c0
  have m1 := bx.c1
  have m2 := bx.c2
  have m3 := bx.c3
  obtain ⟨n0, n1, n2, n3⟩ := bx.frz
  obtain ⟨WF, hWF⟩ : ∃ WF, set4 X4 b15 0 (compV ⟨#[58, 45]⟩ (some ⟨g3, 0, none⟩) 2 2) = WF := ⟨_, rfl⟩
  rw [hWF] at HF
  have hfF := (unhide HF).1
  have HK2 := hide ((unhide KEEP) WF hfF)
  unfold set4 at hWF
  simp only [Nat.zero_add, compV] at hWF
  clear bx bl hfF
  refine rd 11 rfl fun K hK => ?_
  have hHold := hHeld
  clear hHeld
  go_simp
  try rw [hWF]
  refine hK.out _ _ ?_ (fun hHeld => ?_)
  · ((try dsimp only); exact unhide HK2)
  clear hK K hHold
  try simp only [pu]
  refine wpAnyH_done (by kernel_rfl) ?_ _
  exact NoPanic.normal ((unhide HQ) WF b15 g3 _ _ _ _ _ _ _ _ _ _ (unhide HF))
end Go.Proofs.Ytcdgmjpgmiehcaa

