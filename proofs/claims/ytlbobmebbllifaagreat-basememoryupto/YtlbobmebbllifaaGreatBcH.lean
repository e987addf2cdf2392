import Derived.Test.YtlbobmebbllifaaGreatBcG
/- base.copyOfClause, (*base.Base).Get. (Written by wip/getgen.py.) -/
namespace Go.Proofs.YtlbobmebbllifaaGreat
set_option maxHeartbeats 4000000
set_option maxRecDepth 100000
open Go.RowKit Go.Shelf Go.Maps
theorem far8n (W : World) (B : Nat) (x y : TV) {k : Nat} (o : Nat) (h : k ≠ B) : ((((((((W.setCell ⟨B, 0, none⟩ (.int .i64 x.k)).setCell ⟨B, 1, none⟩ (.int .i64 x.N)).setCell ⟨B, 2, none⟩ (.string x.s)).setCell ⟨B, 3, none⟩ (.slice x.a x.len x.cap)).setCell ⟨B, 4, none⟩ (.int .i64 y.k)).setCell ⟨B, 5, none⟩ (.int .i64 y.N)).setCell ⟨B, 6, none⟩ (.string y.s)).setCell ⟨B, 7, none⟩ (.slice y.a y.len y.cap)).cell? ⟨k, o, none⟩ = W.cell? ⟨k, o, none⟩ := by
 have hn : ∀ q, (⟨B, q, none⟩ : Addr) ≠ ⟨k, o, none⟩ := fun q e => h (by cases e; rfl)
 rw [World.cell?_setCell_other _ _ _ _ (hn _), World.cell?_setCell_other _ _ _ _ (hn _), World.cell?_setCell_other _ _ _ _ (hn _), World.cell?_setCell_other _ _ _ _ (hn _), World.cell?_setCell_other _ _ _ _ (hn _), World.cell?_setCell_other _ _ _ _ (hn _), World.cell?_setCell_other _ _ _ _ (hn _), World.cell?_setCell_other _ _ _ _ (hn _)]
theorem set8_nestn (W : World) (B : Nat) (x y : TV) : ((((((((W.setCell ⟨B, 0, none⟩ (.int .i64 x.k)).setCell ⟨B, 1, none⟩ (.int .i64 x.N)).setCell ⟨B, 2, none⟩ (.string x.s)).setCell ⟨B, 3, none⟩ (.slice x.a x.len x.cap)).setCell ⟨B, 4, none⟩ (.int .i64 y.k)).setCell ⟨B, 5, none⟩ (.int .i64 y.N)).setCell ⟨B, 6, none⟩ (.string y.s)).setCell ⟨B, 7, none⟩ (.slice y.a y.len y.cap)) = set8 W B x y := rfl
def CpSays (D lo : Nat) (h b : List Nd) (v : Value) (W' : World) : Prop := ∃ x y : TV, v = clV x y ∧ HoldsL D (lo ≤ ·) W' x.val h ∧ HoldsL D (lo ≤ ·) W' y.val b
theorem copyOfClause_any {D : Nat} {S : Nat → Prop} {W : World} {x y : TV} {h b : List Nd} (hx : HoldsS D S W x.val h) (hy : HoldsS D S W y.val b) (oh : h.all okM = true) (ob : b.all okM = true) (hD : D ≤ 2199023255552 := by omega) :
  Calls Tryz.prog 41 #[clV x y] W fun e W' => ∃ v, e = .returned v ∧ CpSays (D + 1) W.heap.size h b v W' ∧ Below W.heap.size W W' := by
 obtain ⟨W2, hW2, hb2, hs2, hbc, hbz⟩ := box_rm W x y
 have HX : Hid (∀ V, Below W.heap.size W V → Calls Tryz.prog 56 #[x.val] V fun e W' => ∃ x' : TV, e = .returned x'.val ∧ Below V.heap.size V W' ∧ HoldsL (D + 1) (V.heap.size ≤ ·) W' x'.val h) := fun V hV => by
  obtain ⟨t, e1, hT, -, hc⟩ := hx D (Nat.le_refl _) hD
  obtain rfl := tv_inj e1
  have := copyOf_any t V ((hT.below hV).mono hV.size) (by rw [okT_m, hc]; exact oh)
  rw [hc] at this
  exact this
 have HY : Hid (∀ V, Below W.heap.size W V → Calls Tryz.prog 56 #[y.val] V fun e W' => ∃ x' : TV, e = .returned x'.val ∧ Below V.heap.size V W' ∧ HoldsL (D + 1) (V.heap.size ≤ ·) W' x'.val b) := fun V hV => by
  obtain ⟨t, e1, hT, -, hc⟩ := hy D (Nat.le_refl _) hD
  obtain rfl := tv_inj e1
  have := copyOf_any t V ((hT.below hV).mono hV.size) (by rw [okT_m, hc]; exact ob)
  rw [hc] at this
  exact this
 have HB2 := hide hb2
 have HZ := hide hbz
 have HC := hide hbc
 simp only [TV.val] at HX HY
 clear hx hy oh ob hb2 hbc hbz
 simp only [clV]
 go_enter Tryz.func41, Tryz.ntmps41
 go_wp2_with fail
 try rw [hW2]
 clear hW2
 have KEEP : W2.cell? ⟨W.heap.size, 0, none⟩ = some (.int .i64 x.k) ∧ W2.cell? ⟨W.heap.size, 1, none⟩ = some (.int .i64 x.N) ∧ W2.cell? ⟨W.heap.size, 2, none⟩ = some (.string x.s) ∧ W2.cell? ⟨W.heap.size, 3, none⟩ = some (.slice x.a x.len x.cap) ∧ W2.cell? ⟨W.heap.size, 4, none⟩ = some (.int .i64 y.k) ∧ W2.cell? ⟨W.heap.size, 5, none⟩ = some (.int .i64 y.N) ∧ W2.cell? ⟨W.heap.size, 6, none⟩ = some (.string y.s) ∧ W2.cell? ⟨W.heap.size, 7, none⟩ = some (.slice y.a y.len y.cap) := ⟨(unhide HC).cs.1.1, (unhide HC).cs.1.2.1, (unhide HC).cs.1.2.2.1, (unhide HC).cs.1.2.2.2, (unhide HC).cs.2.1, (unhide HC).cs.2.2.1, (unhide HC).cs.2.2.2.1, (unhide HC).cs.2.2.2.2⟩
 have hc1 := HX.out W2.drew (unhide HB2).drew
 refine wp_region_noPanic ?_
 refine wp_region_held_drew (S := (fun w' => w'.cell? ⟨W.heap.size, 0, none⟩ = some (.int .i64 x.k) ∧ w'.cell? ⟨W.heap.size, 1, none⟩ = some (.int .i64 x.N) ∧ w'.cell? ⟨W.heap.size, 2, none⟩ = some (.string x.s) ∧ w'.cell? ⟨W.heap.size, 3, none⟩ = some (.slice x.a x.len x.cap) ∧ w'.cell? ⟨W.heap.size, 4, none⟩ = some (.int .i64 y.k) ∧ w'.cell? ⟨W.heap.size, 5, none⟩ = some (.int .i64 y.N) ∧ w'.cell? ⟨W.heap.size, 6, none⟩ = some (.string y.s) ∧ w'.cell? ⟨W.heap.size, 7, none⟩ = some (.slice y.a y.len y.cap))) (by kernel_rfl) ?_ (fun hHeld => ?_)
 ·exact KEEP
 refine wpAnyH_take (i := 0) (oi := { dst := some 3, op := Op.fieldAddr 30 (Operand.tmp 1) 0, type := 0, pos := "base.go:104", after := #[], guard := none }) (v := ?_) rfl (by kernel_rfl) (by kernel_rfl) (by kernel_rfl) (fun _ _ _ h => h) (Or.inl ⟨by rfl, ?_⟩) hHeld ?_
 rotate_left
 ·(intro w' hSw; (try dsimp only at hSw); go_simp; try with_reducible rfl)
 try simp only [Act.put, List.setIfInBounds_toArray, List.set_cons_zero, List.set_cons_succ]
 refine wpAnyH_take (i := 1) (oi := { dst := some 4, op := Op.load 24 (Operand.tmp 3), type := 24, pos := "base.go:104", after := #[{ on := 0, ground := Ground.data }], guard := none }) (v := ?_) rfl (by kernel_rfl) (by kernel_rfl) (by kernel_rfl) (fun _ _ _ h => h) (Or.inl ⟨by rfl, ?_⟩) hHeld ?_
 rotate_left
 ·(intro w' hSw; (try dsimp only at hSw); go_simp; try with_reducible rfl)
 try simp only [Act.put, List.setIfInBounds_toArray, List.set_cons_zero, List.set_cons_succ]
 refine wpAnyH_take (i := 3) (oi := { dst := some 6, op := Op.fieldAddr 30 (Operand.tmp 1) 1, type := 0, pos := "base.go:104", after := #[], guard := none }) (v := ?_) rfl (by kernel_rfl) (by kernel_rfl) (by kernel_rfl) (fun _ _ _ h => h) (Or.inl ⟨by rfl, ?_⟩) hHeld ?_
 rotate_left
 ·(intro w' hSw; (try dsimp only at hSw); go_simp; try with_reducible rfl)
 try simp only [Act.put, List.setIfInBounds_toArray, List.set_cons_zero, List.set_cons_succ]
 refine wpAnyH_take (i := 4) (oi := { dst := some 7, op := Op.load 24 (Operand.tmp 6), type := 24, pos := "base.go:104", after := #[{ on := 3, ground := Ground.data }], guard := none }) (v := ?_) rfl (by kernel_rfl) (by kernel_rfl) (by kernel_rfl) (fun _ _ _ h => h) (Or.inl ⟨by rfl, ?_⟩) hHeld ?_
 rotate_left
 ·(intro w' hSw; (try dsimp only at hSw); go_simp; try with_reducible rfl)
 try simp only [Act.put, List.setIfInBounds_toArray, List.set_cons_zero, List.set_cons_succ]
 refine wpAnyH_ready (rs := [2]) (by kernel_rfl) (by simp) ?_
 refine AllReadyH.cons (o := { dst := some 5, op := Op.call { callee := Callee.value (Operand.func 56), args := #[Operand.tmp 4], argTypes := #[24] }, type := 24, pos := "base.go:104", after := #[{ on := 1, ground := Ground.data }], guard := none }) rfl (fun K hK => ?_) AllReadyH.nil
 have hHold := hHeld
 clear hHeld
 go_simp
 refine hc1.mono ?_
 clear hc1
 rintro e V3 ⟨x3, rfl, g3, h3⟩
 have s3 := g3.size
 have kc : ∀ o, V3.cell? ⟨W.heap.size, o, none⟩ = W2.cell? ⟨W.heap.size, o, none⟩ := fun o => World.cell?_of_block (a := ⟨W.heap.size, o, none⟩) (w := W2) (g3.block W.heap.size (by show W.heap.size < W2.heap.size; omega))
 have KEEP : V3.cell? ⟨W.heap.size, 0, none⟩ = some (.int .i64 x.k) ∧ V3.cell? ⟨W.heap.size, 1, none⟩ = some (.int .i64 x.N) ∧ V3.cell? ⟨W.heap.size, 2, none⟩ = some (.string x.s) ∧ V3.cell? ⟨W.heap.size, 3, none⟩ = some (.slice x.a x.len x.cap) ∧ V3.cell? ⟨W.heap.size, 4, none⟩ = some (.int .i64 y.k) ∧ V3.cell? ⟨W.heap.size, 5, none⟩ = some (.int .i64 y.N) ∧ V3.cell? ⟨W.heap.size, 6, none⟩ = some (.string y.s) ∧ V3.cell? ⟨W.heap.size, 7, none⟩ = some (.slice y.a y.len y.cap) := ⟨(kc 0).trans KEEP.1, (kc 1).trans KEEP.2.1, (kc 2).trans KEEP.2.2.1, (kc 3).trans KEEP.2.2.2.1, (kc 4).trans KEEP.2.2.2.2.1, (kc 5).trans KEEP.2.2.2.2.2.1, (kc 6).trans KEEP.2.2.2.2.2.2.1, (kc 7).trans KEEP.2.2.2.2.2.2.2⟩
 have hc2 := HY.out V3 ((unhide HB2).drew.trans (g3.mono (by show W.heap.size ≤ W2.heap.size; omega)))
 clear kc
 dsimp only [TV.val]
 go_wp2_with fail
 refine hK.out _ _ ?_ (fun hHeld => ?_)
 ·((try dsimp only); exact KEEP)
 clear hK K hHold
 try simp only [Act.put, List.setIfInBounds_toArray, List.set_cons_zero, List.set_cons_succ]
 refine wpAnyH_ready (rs := [5]) (by kernel_rfl) (by simp) ?_
 refine AllReadyH.cons (o := { dst := some 8, op := Op.call { callee := Callee.value (Operand.func 56), args := #[Operand.tmp 7], argTypes := #[24] }, type := 24, pos := "base.go:104", after := #[{ on := 4, ground := Ground.data }, { on := 2, ground := Ground.chain }], guard := none }) rfl (fun K hK => ?_) AllReadyH.nil
 have hHold := hHeld
 clear hHeld
 go_simp
 refine hc2.mono ?_
 clear hc2
 rintro e V4 ⟨x4, rfl, g4, h4⟩
 have s4 := g4.size
 have s3' : W2.heap.size ≤ V3.heap.size := s3
 have kc : ∀ o, V4.cell? ⟨W.heap.size, o, none⟩ = V3.cell? ⟨W.heap.size, o, none⟩ := fun o => World.cell?_of_block (a := ⟨W.heap.size, o, none⟩) (w := V3) (g4.block W.heap.size (by omega))
 have KEEP : V4.cell? ⟨W.heap.size, 0, none⟩ = some (.int .i64 x.k) ∧ V4.cell? ⟨W.heap.size, 1, none⟩ = some (.int .i64 x.N) ∧ V4.cell? ⟨W.heap.size, 2, none⟩ = some (.string x.s) ∧ V4.cell? ⟨W.heap.size, 3, none⟩ = some (.slice x.a x.len x.cap) ∧ V4.cell? ⟨W.heap.size, 4, none⟩ = some (.int .i64 y.k) ∧ V4.cell? ⟨W.heap.size, 5, none⟩ = some (.int .i64 y.N) ∧ V4.cell? ⟨W.heap.size, 6, none⟩ = some (.string y.s) ∧ V4.cell? ⟨W.heap.size, 7, none⟩ = some (.slice y.a y.len y.cap) := ⟨(kc 0).trans KEEP.1, (kc 1).trans KEEP.2.1, (kc 2).trans KEEP.2.2.1, (kc 3).trans KEEP.2.2.2.1, (kc 4).trans KEEP.2.2.2.2.1, (kc 5).trans KEEP.2.2.2.2.2.1, (kc 6).trans KEEP.2.2.2.2.2.2.1, (kc 7).trans KEEP.2.2.2.2.2.2.2⟩
 have hz4 : BoxC V4 (W.heap.size + 1) noTerm noTerm := (g4.block _ (by omega)).trans ((g3.block _ (by show _ < W2.heap.size; omega)).trans (unhide HZ))
 obtain ⟨⟨z0, z1, z2, z3⟩, z4, z5, z6, z7⟩ := hz4.cs
 obtain ⟨y0, y1, y2, y3, y4, y5, y6, y7⟩ := hz4.fs
 simp only [noTerm] at z0 z1 z2 z3 z4 z5 z6 z7
 clear kc hz4
 dsimp only [TV.val]
 go_wp2_with fail
 refine hK.out _ _ ?_ (fun hHeld => ?_)
 ·((try dsimp only); exact KEEP)
 clear hK K hHold
 try simp only [Act.put, List.setIfInBounds_toArray, List.set_cons_zero, List.set_cons_succ]
 refine wpAnyH_take (i := 6) (oi := { dst := some 9, op := Op.build 30 #[(0, Operand.tmp 5), (1, Operand.tmp 8)], type := 30, pos := "base.go:104", after := #[{ on := 2, ground := Ground.data }, { on := 5, ground := Ground.data }], guard := none }) (v := ?_) rfl (by kernel_rfl) (by kernel_rfl) (by kernel_rfl) (fun _ _ _ h => h) (Or.inl ⟨by rfl, ?_⟩) hHeld ?_
 rotate_left
 ·(intro w' hSw; (try dsimp only at hSw); go_simp; try with_reducible rfl)
 try simp only [Act.put, List.setIfInBounds_toArray, List.set_cons_zero, List.set_cons_succ]
 refine wpAnyH_ready (rs := [7]) (by kernel_rfl) (by simp) ?_
 refine AllReadyH.cons (o := { dst := none, op := Op.store 30 (Operand.tmp 2) (Operand.tmp 9), type := 0, pos := "base.go:104", after := #[{ on := 6, ground := Ground.data }, { on := 5, ground := Ground.chain }, { on := 0, ground := Ground.phase }, { on := 1, ground := Ground.phase }, { on := 2, ground := Ground.phase }, { on := 3, ground := Ground.phase }, { on := 4, ground := Ground.phase }, { on := 5, ground := Ground.phase }, { on := 6, ground := Ground.phase }], guard := none }) rfl (fun K hK => ?_) AllReadyH.nil
 have hHold := hHeld
 clear hHeld
 go_simp
 refine hK.out _ _ ?_ (fun hHeld => ?_)
 ·((try dsimp only); exact ⟨(far8n _ (W.heap.size + 1) _ _ 0 (by omega)).trans KEEP.1, (far8n _ (W.heap.size + 1) _ _ 1 (by omega)).trans KEEP.2.1, (far8n _ (W.heap.size + 1) _ _ 2 (by omega)).trans KEEP.2.2.1, (far8n _ (W.heap.size + 1) _ _ 3 (by omega)).trans KEEP.2.2.2.1, (far8n _ (W.heap.size + 1) _ _ 4 (by omega)).trans KEEP.2.2.2.2.1, (far8n _ (W.heap.size + 1) _ _ 5 (by omega)).trans KEEP.2.2.2.2.2.1, (far8n _ (W.heap.size + 1) _ _ 6 (by omega)).trans KEEP.2.2.2.2.2.2.1, (far8n _ (W.heap.size + 1) _ _ 7 (by omega)).trans KEEP.2.2.2.2.2.2.2⟩)
 clear hK K hHold
 try simp only [Act.put, List.setIfInBounds_toArray, List.set_cons_zero, List.set_cons_succ]
 refine wpAnyH_done (by kernel_rfl) ?_ _
 refine NoPanic.normal ?_
 clear hHeld KEEP
 rw [set8_nestn]
 have hs2' : W2.heap.size ≤ V3.heap.size := s3
 have hd2 : W2.drew.heap.size = W2.heap.size := rfl
 have HF : Hid (Below W.heap.size W (set8 V4 (W.heap.size + 1) x3 x4) ∧ HoldsL (D + 1) (W.heap.size ≤ ·) (set8 V4 (W.heap.size + 1) x3 x4) x3.val h ∧ HoldsL (D + 1) (W.heap.size ≤ ·) (set8 V4 (W.heap.size + 1) x3 x4) x4.val b) :=
  ⟨set8_below (((unhide HB2).drew.trans (g3.mono (by omega))).trans (g4.mono (by omega))) (by omega) _ _, (holdsL_set4 (holdsL_set4 (h3.below g4) (by omega) 0 _) (by omega) 4 _).mono (Nat.le_refl _) (fun k hk => by have : W2.drew.heap.size ≤ k := hk; show W.heap.size ≤ k; omega), (holdsL_set4 (holdsL_set4 h4 (by omega) 0 _) (by omega) 4 _).mono (Nat.le_refl _) (fun k hk => by have : V3.heap.size ≤ k := hk; show W.heap.size ≤ k; omega)⟩
 have hcc := (boxC_set8 (show BoxC V4 (W.heap.size + 1) noTerm noTerm from (g4.block _ (by omega)).trans ((g3.block _ (by omega)).trans (unhide HZ))) x3 x4).cs
 obtain ⟨⟨w0, w1, w2, w3⟩, w4, w5, w6, w7⟩ := hcc
 generalize set8 V4 (W.heap.size + 1) x3 x4 = V5 at HF w0 w1 w2 w3 w4 w5 w6 w7 ⊢
 clear g3 g4 h3 h4 HZ HC HB2 HX HY z0 z1 z2 z3 z4 z5 z6 z7 y0 y1 y2 y3 y4 y5 y6 y7
 go_wp2_with fail
 exact bodyPost_ret (v := clV x3 x4) (by simp [results, Tryz.results41, go_sem, clV, w0, w1, w2, w3, w4, w5, w6, w7]) rfl ⟨_, rfl, ⟨x3, x4, rfl, HF.out.2.1, HF.out.2.2⟩, HF.out.1⟩
theorem get_any (b me mf eb : Nat) (laid pl id : Int) (ce : Nat) (ge : Lit → Option Addr) {D : Nat} {S : Nat → Prop} {x y : TV} {h bd : List Nd} (W : World) (hb : BsBlk W b laid me mf) (hme : PM 3 W me ce ge) (hid0 : -9223372036854775808 ≤ id) (hid1 : id ≤ 9223372036854775807) (hge : ge (.int .i64 id) = some ⟨eb, 0, none⟩) (hen : EnBlk W eb pl x y)
  (hx : HoldsS D S W x.val h) (hy : HoldsS D S W y.val bd) (oh : h.all okM = true) (ob : bd.all okM = true) (hD : D ≤ 2199023255552 := by omega) :
  Calls Tryz.prog 17 #[.pointer (some ⟨b, 0, none⟩), .int .i64 id] W fun e W' => (∃ x' y' : TV, e = .returned (.tuple #[clV x' y', .int .i64 0]) ∧ HoldsL (D + 1) (W.heap.size ≤ ·) W' x'.val h ∧ HoldsL (D + 1) (W.heap.size ≤ ·) W' y'.val bd) ∧ Below W.heap.size W W' := by
 have hb1 : Below W.heap.size W (W.alloc (.cells #[.int .i64 0, .int .i64 0, .string ⟨#[]⟩, .slice none 0 0, .int .i64 0, .int .i64 0, .string ⟨#[]⟩, .slice none 0 0] 30)) := (Below.refl _ W).alloc (Nat.le_refl _) _
 have hbz : BoxC (W.alloc (.cells #[.int .i64 0, .int .i64 0, .string ⟨#[]⟩, .slice none 0 0, .int .i64 0, .int .i64 0, .string ⟨#[]⟩, .slice none 0 0] 30)) W.heap.size noTerm noTerm := BoxC.new W noTerm noTerm
 have hki : keyOf Tryz.prog 3 (.int .i64 id) = some (.int .i64 id) := keyOf_int_mk Tryz.underlying3 (by simp [Lit.wf, IntKind.min, IntKind.max, IntKind.signed, IntKind.bits]; omega)
 have hlk := (hme.kept (hb1.block me hme.lt)).look Tryz.keyed3 Tryz.underlying54 (Tryz.zeroPtr61 _) hki
 rw [hge] at hlk
 obtain ⟨c0, c1, c2, -⟩ := (show BsBlk (W.alloc (.cells #[.int .i64 0, .int .i64 0, .string ⟨#[]⟩, .slice none 0 0, .int .i64 0, .int .i64 0, .string ⟨#[]⟩, .slice none 0 0] 30)) b laid me mf from (hb1.block b hb.lt).trans hb).cs
 obtain ⟨e0, ⟨e1, e2, e3, e4⟩, e5, e6, e7, e8⟩ := (show EnBlk (W.alloc (.cells #[.int .i64 0, .int .i64 0, .string ⟨#[]⟩, .slice none 0 0, .int .i64 0, .int .i64 0, .string ⟨#[]⟩, .slice none 0 0] 30)) eb pl x y from (hb1.block eb hen.lt).trans hen).cs
 have hcp := copyOfClause_any (hx.below hb1) (hy.below hb1) oh ob
 simp only [clV] at hcp
 have HZ := hide (And.intro hb1 hbz)
 clear hb hme hki hge hen hx hy oh ob hb1 hbz c0 c2 e0
 simp only [Option.isSome_some] at hlk
 go_enter Tryz.func17, Tryz.ntmps17
 go_wp2_with fail
 refine hcp.mono ?_
 clear hcp hlk c1 e1 e2 e3 e4 e5 e6 e7 e8
 rintro e V2 ⟨v, rfl, ⟨x', y', rfl, q1, q2⟩, g2⟩
 obtain ⟨hb1, hbz⟩ := unhide HZ
 have hs1 : W.heap.size + 1 = (W.alloc (.cells #[.int .i64 0, .int .i64 0, .string ⟨#[]⟩, .slice none 0 0, .int .i64 0, .int .i64 0, .string ⟨#[]⟩, .slice none 0 0] 30)).heap.size := by simp
 have hz2 : BoxC V2 W.heap.size noTerm noTerm := hbz.below g2 (by omega)
 obtain ⟨⟨z0, z1, z2, z3⟩, z4, z5, z6, z7⟩ := hz2.cs
 obtain ⟨y0, y1, y2, y3, y4, y5, y6, y7⟩ := hz2.fs
 simp only [noTerm] at z0 z1 z2 z3 z4 z5 z6 z7
 have HF : Hid (Below W.heap.size W (set8 V2 W.heap.size x' y') ∧ HoldsL (D + 1) (W.heap.size ≤ ·) (set8 V2 W.heap.size x' y') x'.val h ∧ HoldsL (D + 1) (W.heap.size ≤ ·) (set8 V2 W.heap.size x' y') y'.val bd) :=
  ⟨set8_below (hb1.trans (g2.mono (by omega))) (Nat.le_refl _) _ _, (holdsL_set4 (holdsL_set4 q1 (by omega) 0 _) (by omega) 4 _).mono (Nat.le_refl _) (fun k hk => by have : _ ≤ k := hk; show W.heap.size ≤ k; omega), (holdsL_set4 (holdsL_set4 q2 (by omega) 0 _) (by omega) 4 _).mono (Nat.le_refl _) (fun k hk => by have : _ ≤ k := hk; show W.heap.size ≤ k; omega)⟩
 clear hb1 hbz hz2 g2 q1 q2 HZ hs1
 simp only [clV]
 go_wp2_with fail
 exact bodyPost_ret (v := .tuple #[clV x' y', .int .i64 0]) (by simp [results, Tryz.results17, go_sem, clV, z0, z1, z2, z3, z4, z5, z6, z7]) rfl ⟨⟨x', y', rfl, HF.out.2.1, HF.out.2.2⟩, HF.out.1⟩
end Go.Proofs.YtlbobmebbllifaaGreat
