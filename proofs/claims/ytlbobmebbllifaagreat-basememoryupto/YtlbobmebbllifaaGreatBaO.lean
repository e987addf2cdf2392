import Derived.Test.YtlbobmebbllifaaGreatBcFs
import Derived.Deep.RegionHeld3
import Derived.Deep.Cut
/- hornkeep.thereBase, over base's contracts. -/
namespace Go.Proofs.YtlbobmebbllifaaGreat
open Go.RowKit Go.Shelf
theorem leaf_holds {D : Nat} {S : Nat → Prop} {W : World} {x : TV} {s : List UInt8} (h : HoldsS D S W x.val (atomC s)) (W' : World) : HoldsS (D + 1) S W' x.val (atomC s) := fun m hm hlm => by
 obtain ⟨t, h1, h2, h3, h4⟩ := h m (by omega) hlm
 cases m with
 | zero => exact Empty.elim t
 | succ m =>
  refine ⟨t, h1, ?_, h3, h4⟩
  obtain ⟨y, ky⟩ := t
  rw [code_succ] at h4
  have hy0 : y.len = 0 := congrArg (fun z : Nd => z.2.2.2) (List.cons.inj h4).1
  have hky : ky = [] := kids_nil h2.wl hy0
  obtain ⟨a, b, c, -⟩ := h2
  exact ⟨a, b, c, .inl hky⟩
def pK : Tm 1 := ((atomV ⟨#[112]⟩, []) : TV × List (Tm 0))
theorem pK_isT (W : World) : IsT W.heap.size W pK := ⟨rfl, ⟨by simp [pK, Tm.tv, atomV], by simp [pK, Tm.tv, atomV], by decide⟩, by show (1 : Nat) ≤ _; omega, .inl rfl⟩
theorem pK_makeC : makeC pK = some (atomC [112], atomC trueL) := by kernel_rfl
theorem pK_make : makeR pK = (0, atomC [112], atomC trueL) := makeR_of (by decide +kernel) pK_makeC
theorem pK_code : code pK = atomC [112] := by decide +kernel
set_option maxRecDepth 100000 in
set_option maxHeartbeats 4000000 in
theorem thereBase_any (B : BaseOps) (m : Nat) (w : World) (hN : B.Needs m w) (hm : m ≤ w.heap.size) : Calls Tryz.prog 4 #[] w fun e W' => e = .returned (.bool true) ∧ Below w.heap.size w W' := by
 have HA : Hid (∀ w : World, Calls Tryz.prog 20 #[.string ⟨#[112]⟩] w fun e W' => e = .returned (atomV ⟨#[112]⟩).val ∧ Below w.heap.size w W') := fun w => ratom_any _ w
 have HN : Hid (∀ V, Below w.heap.size w V → B.Needs m V ∧ m ≤ V.heap.size) := fun V hb => ⟨B.needs hN (hb.mono hm), Nat.le_trans hm hb.size⟩
 have h1 := B.new m w hN hm
 have HM : Hid (∀ V, Below w.heap.size w V → Calls Tryz.prog 7 #[(atomV ⟨#[112]⟩).val] V fun e W' => CAns 8 V.heap.size V.heap.size 0 (atomC [112]) (atomC trueL) e W' ∧ Below V.heap.size V W') := fun V hb => by
  have h := B.make pK m V (HN.out V hb).1 (HN.out V hb).2 (pK_isT V) (by rw [pK_code]; decide) (by decide)
  rw [pK_make] at h
  exact h
 clear hN
 simp only [atomV, TV.val, CAns, clV] at HA HM
 go_enter Tryz.func4, Tryz.ntmps4
 go_wp2_with fail
 refine h1.mono ?_
 rintro e V1 ⟨v, X, rfl, i1, hX, g1⟩
 clear h1
 have sV1 := g1.size
 have HX : Hid (∀ b, X b → w.heap.size ≤ b ∧ b < V1.heap.size) := hX
 have I1 := hide i1
 clear hX i1
 go_wp2_with fail
 refine (HA.out V1).mono ?_
 rintro e V2 ⟨rfl, g2⟩
 have sV2 := g2.size
 have hB2 : Below w.heap.size w V2 := g1.trans (g2.mono (by omega))
 go_wp2_with fail
 refine (HM.out V2 hB2).mono ?_
 rintro e V3 ⟨⟨D, x3, y3, rfl, q3, r3⟩, g3⟩
 clear HM
 have sV3 := g3.size
 obtain ⟨th, tb, ex, ey, hth, htb, ch, cb⟩ := holds_two_terms q3 r3
 have HXY : Hid (x3 = th.tv ∧ y3 = tb.tv) := ⟨ex, ey⟩
 have hbk := make_back (pK_isT V3).wl (show okT pK = true by decide +kernel) (by rw [pK_code]; decide) pK_makeC th tb hth.wl htb.wl ch cb
 have hp0 := hbk.2.2.1
 have HSM : Hid (∀ V : World, Calls Tryz.prog 12 #[x3.val, (atomV ⟨#[112]⟩).val] V fun e W' => e = .returned (.bool true) ∧ Below V.heap.size V W') := fun V => by
  have e1 := leaf_holds q3 V
  have e2 := mix_of (pK_isT V) (Nat.le_refl _) V.heap.size
  rw [pK_code] at e2
  have := same_shared e1 e2
  simpa [pK, Tm.tv] using this
 simp only [atomV, TV.val] at HSM
 clear hbk q3 r3 ex ey
 obtain ⟨U3, eU3, gU3, lU3, bF⟩ : ∃ V', V3.alloc (.cells #[.int .i64 x3.k, .int .i64 x3.N, .string x3.s, .slice x3.a x3.len x3.cap, .int .i64 y3.k, .int .i64 y3.N, .string y3.s, .slice y3.a y3.len y3.cap] 30) = V' ∧ Below V3.heap.size V3 V' ∧ V3.heap.size + 1 ≤ V'.heap.size ∧ BoxC V' V3.heap.size x3 y3 := ⟨_, rfl, (Below.refl _ _).alloc (Nat.le_refl _) _, by simp, BoxC.new V3 x3 y3⟩
 have hU : Below V1.heap.size V1 U3 := (g2.trans (g3.mono (by omega))).trans (gU3.mono (by omega))
 have hBU : Below w.heap.size w U3 := g1.trans (hU.mono (by omega))
 have h4 := B.add th tb false m X v U3 (HN.out U3 hBU).1 (HN.out U3 hBU).2 (B.is (unhide I1) hU) ((hth.below gU3).mono gU3.size) ((htb.below gU3).mono gU3.size) (by rw [ch, cb]; decide) hp0 (by rw [ch]; intro x hx; simp [atomC] at hx; subst hx; exact ⟨by decide, by decide⟩) (by have := D.2; omega)
 have hx := HXY.out.1
 have hy := HXY.out.2
 rw [← hx, ← hy, ch, cb] at h4
 clear hx hy HXY hth htb ch cb hp0 I1 g2 g3 gU3
 simp only [clV] at h4
 obtain ⟨⟨c_0, c_1, c_2, c_3⟩, c_4, c_5, c_6, c_7⟩ := bF.cs
 have HF := hide bF
 clear bF
 go_wp2_with fail
 try rw [eU3]
 refine h4.mono ?_
 rintro e V4 ⟨X', rfl, i4, -, g4⟩
 clear h4 eU3 c_0 c_1 c_2 c_3 c_4 c_5 c_6 c_7
 have sV4 := g4.size
 have bFV4 : BoxC V4 V3.heap.size x3 y3 := (g4.block V3.heap.size (by omega) fun hx => by have := (HX.out _ hx).2; omega).trans (unhide HF)
 have hB4 : Below w.heap.size w V4 := hBU.trans ⟨g4.os, g4.tape, g4.output, g4.size, fun k hk => g4.block k (by have := hBU.size; omega) fun hx => by have := (HX.out k hx).1; omega⟩
 have I4 := hide i4
 have HF4 := hide bFV4
 clear HF g4 HX i4 bFV4
 go_wp2_with fail
 refine (HA.out V4).mono ?_
 rintro e V5 ⟨rfl, g5⟩
 have sV5 := g5.size
 have hB5 : Below w.heap.size w V5 := hB4.trans (g5.mono (by have := hB4.size; omega))
 have h6 := B.look m X' v V5 (HN.out V5 hB5).1 (HN.out V5 hB5).2 (B.is (unhide I4) g5)
 clear I4
 simp only [atomV, TV.val] at h6
 go_wp2_with fail
 refine h6.mono ?_
 rintro e V6 ⟨la, lc, rfl, g6⟩
 clear h6
 have sV6 := g6.size
 have hB6 : Below w.heap.size w V6 := hB5.trans (g6.mono (by have := hB5.size; omega))
 have HF6 := hide (((unhide HF4).below g5 (by omega)).below g6 (by omega))
 clear HF4 g5 g6
 go_upto_region 5 with fail
 have bFV6 := unhide HF6
 have KEEP : V6.cell? ⟨V3.heap.size, 0, none⟩ = some (.int .i64 x3.k) ∧ V6.cell? ⟨V3.heap.size, 1, none⟩ = some (.int .i64 x3.N) ∧ V6.cell? ⟨V3.heap.size, 2, none⟩ = some (.string x3.s) ∧ V6.cell? ⟨V3.heap.size, 3, none⟩ = some (.slice x3.a x3.len x3.cap) := bFV6.cs.1
 refine wp_region_noPanic ?_
 refine wp_region_held_drew (S := (fun w' => w'.cell? ⟨V3.heap.size, 0, none⟩ = some (.int .i64 x3.k) ∧ w'.cell? ⟨V3.heap.size, 1, none⟩ = some (.int .i64 x3.N) ∧ w'.cell? ⟨V3.heap.size, 2, none⟩ = some (.string x3.s) ∧ w'.cell? ⟨V3.heap.size, 3, none⟩ = some (.slice x3.a x3.len x3.cap))) (by kernel_rfl) ?_ (fun hHeld => ?_)
 ·exact KEEP
 refine wpAnyH_take (i := 0) (oi := { dst := some 26, op := Op.move (Operand.tmp 3), type := 31, pos := "there.go:55", after := #[], guard := none }) (v := ?_) rfl (by kernel_rfl) (by kernel_rfl) (by kernel_rfl) (fun _ _ _ h => h) (Or.inl ⟨by rfl, ?_⟩) hHeld ?_
 rotate_left
 ·(intro w' hSw; (try dsimp only at hSw); go_simp; try with_reducible rfl)
 try simp only [Act.put, List.setIfInBounds_toArray, List.set_cons_zero, List.set_cons_succ]
 refine wpAnyH_take (i := 1) (oi := { dst := some 27, op := Op.binOp BinOp.eql 31 (Operand.tmp 26) (Operand.const (Value.int IntKind.i64 0)) 31, type := 4, pos := "there.go:55", after := #[{ on := 0, ground := Ground.data }], guard := none }) (v := ?_) rfl (by kernel_rfl) (by kernel_rfl) (by kernel_rfl) (fun _ _ _ h => h) (Or.inl ⟨by rfl, ?_⟩) hHeld ?_
 rotate_left
 ·(intro w' hSw; (try dsimp only at hSw); go_simp; try with_reducible rfl)
 try simp only [Act.put, List.setIfInBounds_toArray, List.set_cons_zero, List.set_cons_succ]
 refine wpAnyH_take (i := 2) (oi := { dst := some 28, op := Op.move (Operand.tmp 27), type := 4, pos := "there.go:55", after := #[{ on := 1, ground := Ground.data }], guard := none }) (v := ?_) rfl (by kernel_rfl) (by kernel_rfl) (by kernel_rfl) (fun _ _ _ h => h) (Or.inl ⟨by rfl, ?_⟩) hHeld ?_
 rotate_left
 ·(intro w' hSw; (try dsimp only at hSw); go_simp; try with_reducible rfl)
 try simp only [Act.put, List.setIfInBounds_toArray, List.set_cons_zero, List.set_cons_succ]
 refine wpAnyH_take (i := 3) (oi := { dst := some 29, op := Op.fieldAddr 30 (Operand.tmp 2) 0, type := 0, pos := "there.go:55", after := #[{ on := 2, ground := Ground.guard }], guard := some (2, true) }) (v := ?_) rfl (by kernel_rfl) (by kernel_rfl) (by kernel_rfl) (fun _ _ _ h => h) (Or.inl ⟨by rfl, ?_⟩) hHeld ?_
 rotate_left
 ·(intro w' hSw; (try dsimp only at hSw); go_simp; try with_reducible rfl)
 try simp only [Act.put, List.setIfInBounds_toArray, List.set_cons_zero, List.set_cons_succ]
 refine wpAnyH_take (i := 4) (oi := { dst := some 30, op := Op.load 24 (Operand.tmp 29), type := 24, pos := "there.go:55", after := #[{ on := 3, ground := Ground.data }, { on := 2, ground := Ground.guard }], guard := some (2, true) }) (v := ?_) rfl (by kernel_rfl) (by kernel_rfl) (by kernel_rfl) (fun _ _ _ h => h) (Or.inl ⟨by rfl, ?_⟩) hHeld ?_
 rotate_left
 ·(intro w' hSw; (try dsimp only at hSw); go_simp; try with_reducible rfl)
 try simp only [Act.put, List.setIfInBounds_toArray, List.set_cons_zero, List.set_cons_succ]
 refine wpAnyH_ready (rs := [5]) (by kernel_rfl) (by simp) ?_
 refine AllReadyH.cons (o := { dst := some 31, op := Op.call { callee := Callee.value (Operand.func 20), args := #[Operand.const (Value.string { data := #[112] })], argTypes := #[9] }, type := 24, pos := "there.go:55", after := #[{ on := 2, ground := Ground.chain }, { on := 2, ground := Ground.guard }], guard := some (2, true) }) rfl (fun K hK => ?_) AllReadyH.nil
 have hHold := hHeld
 clear hHeld
 go_simp
 refine (HA.out _).mono ?_
 rintro e W7 ⟨rfl, hbW7⟩
 have gW7 : Below V6.heap.size V6 W7 := (Below.refl _ V6).drew.trans hbW7
 have sW7 := gW7.size
 have hS := HSM.out W7
 have bFW7 := bFV6.below gW7 (by omega)
 have KEEP : W7.cell? ⟨V3.heap.size, 0, none⟩ = some (.int .i64 x3.k) ∧ W7.cell? ⟨V3.heap.size, 1, none⟩ = some (.int .i64 x3.N) ∧ W7.cell? ⟨V3.heap.size, 2, none⟩ = some (.string x3.s) ∧ W7.cell? ⟨V3.heap.size, 3, none⟩ = some (.slice x3.a x3.len x3.cap) := bFW7.cs.1
 go_wp2_with fail
 refine hK.out _ _ ?_ (fun hHeld => ?_)
 ·((try dsimp only); exact KEEP)
 clear hK K hHold
 try simp only [Act.put, List.setIfInBounds_toArray, List.set_cons_zero, List.set_cons_succ]
 refine wpAnyH_ready (rs := [6]) (by kernel_rfl) (by simp) ?_
 refine AllReadyH.cons (o := { dst := some 32, op := Op.call { callee := Callee.value (Operand.func 12), args := #[Operand.tmp 30, Operand.tmp 31], argTypes := #[24, 24] }, type := 4, pos := "there.go:55", after := #[{ on := 4, ground := Ground.data }, { on := 5, ground := Ground.data }, { on := 5, ground := Ground.chain }, { on := 2, ground := Ground.guard }], guard := some (2, true) }) rfl (fun K hK => ?_) AllReadyH.nil
 have hHold := hHeld
 clear hHeld
 go_simp
 refine (hS).mono ?_
 rintro e W8 ⟨rfl, hbW8⟩
 have gW8 := hbW8
 have sW8 := gW8.size
 have bFW8 := bFW7.below gW8 (by omega)
 have KEEP : W8.cell? ⟨V3.heap.size, 0, none⟩ = some (.int .i64 x3.k) ∧ W8.cell? ⟨V3.heap.size, 1, none⟩ = some (.int .i64 x3.N) ∧ W8.cell? ⟨V3.heap.size, 2, none⟩ = some (.string x3.s) ∧ W8.cell? ⟨V3.heap.size, 3, none⟩ = some (.slice x3.a x3.len x3.cap) := bFW8.cs.1
 go_wp2_with fail
 refine hK.out _ _ ?_ (fun hHeld => ?_)
 ·((try dsimp only); exact KEEP)
 clear hK K hHold
 try simp only [Act.put, List.setIfInBounds_toArray, List.set_cons_zero, List.set_cons_succ]
 refine wpAnyH_take (i := 7) (oi := { dst := some 33, op := Op.pick (Operand.tmp 28) (Operand.tmp 32) (Operand.const (Value.bool false)), type := 4, pos := "there.go:55", after := #[{ on := 2, ground := Ground.data }, { on := 6, ground := Ground.data }], guard := none }) (v := ?_) rfl (by kernel_rfl) (by kernel_rfl) (by kernel_rfl) (fun _ _ _ h => h) (Or.inl ⟨by rfl, ?_⟩) hHeld ?_
 rotate_left
 ·(intro w' hSw; (try dsimp only at hSw); go_simp; try with_reducible rfl)
 try simp only [Act.put, List.setIfInBounds_toArray, List.set_cons_zero, List.set_cons_succ]
 refine wpAnyH_take (i := 8) (oi := { dst := some 34, op := Op.move (Operand.tmp 33), type := 4, pos := "there.go:55", after := #[{ on := 7, ground := Ground.data }, { on := 6, ground := Ground.chain }], guard := none }) (v := ?_) rfl (by kernel_rfl) (by kernel_rfl) (by kernel_rfl) (fun _ _ _ h => h) (Or.inl ⟨by rfl, ?_⟩) hHeld ?_
 rotate_left
 ·(intro w' hSw; (try dsimp only at hSw); go_simp; try with_reducible rfl)
 try simp only [Act.put, List.setIfInBounds_toArray, List.set_cons_zero, List.set_cons_succ]
 refine wpAnyH_take (i := 9) (oi := { dst := some 35, op := Op.move (Operand.tmp 4), type := 3, pos := "there.go:55", after := #[{ on := 8, ground := Ground.guard }], guard := some (8, true) }) (v := ?_) rfl (by kernel_rfl) (by kernel_rfl) (by kernel_rfl) (fun _ _ _ h => h) (Or.inl ⟨by rfl, ?_⟩) hHeld ?_
 rotate_left
 ·(intro w' hSw; (try dsimp only at hSw); go_simp; try with_reducible rfl)
 try simp only [Act.put, List.setIfInBounds_toArray, List.set_cons_zero, List.set_cons_succ]
 refine wpAnyH_take (i := 10) (oi := { dst := some 36, op := Op.binOp BinOp.eql 3 (Operand.tmp 35) (Operand.const (Value.int IntKind.i64 1)) 3, type := 4, pos := "there.go:55", after := #[{ on := 9, ground := Ground.data }, { on := 8, ground := Ground.guard }], guard := some (8, true) }) (v := ?_) rfl (by kernel_rfl) (by kernel_rfl) (by kernel_rfl) (fun _ _ _ h => h) (Or.inl ⟨by rfl, ?_⟩) hHeld ?_
 rotate_left
 ·(intro w' hSw; (try dsimp only at hSw); go_simp; try with_reducible rfl)
 try simp only [Act.put, List.setIfInBounds_toArray, List.set_cons_zero, List.set_cons_succ]
 refine wpAnyH_take (i := 11) (oi := { dst := some 37, op := Op.pick (Operand.tmp 34) (Operand.tmp 36) (Operand.const (Value.bool false)), type := 4, pos := "there.go:55", after := #[{ on := 8, ground := Ground.data }, { on := 10, ground := Ground.data }], guard := none }) (v := ?_) rfl (by kernel_rfl) (by kernel_rfl) (by kernel_rfl) (fun _ _ _ h => h) (Or.inl ⟨by rfl, ?_⟩) hHeld ?_
 rotate_left
 ·(intro w' hSw; (try dsimp only at hSw); go_simp; try with_reducible rfl)
 try simp only [Act.put, List.setIfInBounds_toArray, List.set_cons_zero, List.set_cons_succ]
 refine wpAnyH_take (i := 12) (oi := { dst := some 38, op := Op.move (Operand.tmp 37), type := 4, pos := "there.go:55", after := #[{ on := 11, ground := Ground.data }, { on := 8, ground := Ground.chain }], guard := none }) (v := ?_) rfl (by kernel_rfl) (by kernel_rfl) (by kernel_rfl) (fun _ _ _ h => h) (Or.inl ⟨by rfl, ?_⟩) hHeld ?_
 rotate_left
 ·(intro w' hSw; (try dsimp only at hSw); go_simp; try with_reducible rfl)
 try simp only [Act.put, List.setIfInBounds_toArray, List.set_cons_zero, List.set_cons_succ]
 refine wpAnyH_take (i := 13) (oi := { dst := some 39, op := Op.move (Operand.tmp 5), type := 31, pos := "there.go:55", after := #[{ on := 12, ground := Ground.guard }], guard := some (12, true) }) (v := ?_) rfl (by kernel_rfl) (by kernel_rfl) (by kernel_rfl) (fun _ _ _ h => h) (Or.inl ⟨by rfl, ?_⟩) hHeld ?_
 rotate_left
 ·(intro w' hSw; (try dsimp only at hSw); go_simp; try with_reducible rfl)
 try simp only [Act.put, List.setIfInBounds_toArray, List.set_cons_zero, List.set_cons_succ]
 refine wpAnyH_take (i := 14) (oi := { dst := some 40, op := Op.binOp BinOp.eql 31 (Operand.tmp 39) (Operand.const (Value.int IntKind.i64 0)) 31, type := 4, pos := "there.go:55", after := #[{ on := 13, ground := Ground.data }, { on := 12, ground := Ground.guard }], guard := some (12, true) }) (v := ?_) rfl (by kernel_rfl) (by kernel_rfl) (by kernel_rfl) (fun _ _ _ h => h) (Or.inl ⟨by rfl, ?_⟩) hHeld ?_
 rotate_left
 ·(intro w' hSw; (try dsimp only at hSw); go_simp; try with_reducible rfl)
 try simp only [Act.put, List.setIfInBounds_toArray, List.set_cons_zero, List.set_cons_succ]
 refine wpAnyH_take (i := 15) (oi := { dst := some 41, op := Op.pick (Operand.tmp 38) (Operand.tmp 40) (Operand.const (Value.bool false)), type := 4, pos := "there.go:55", after := #[{ on := 12, ground := Ground.data }, { on := 14, ground := Ground.data }], guard := none }) (v := ?_) rfl (by kernel_rfl) (by kernel_rfl) (by kernel_rfl) (fun _ _ _ h => h) (Or.inl ⟨by rfl, ?_⟩) hHeld ?_
 rotate_left
 ·(intro w' hSw; (try dsimp only at hSw); go_simp; try with_reducible rfl)
 try simp only [Act.put, List.setIfInBounds_toArray, List.set_cons_zero, List.set_cons_succ]
 refine wpAnyH_take (i := 16) (oi := { dst := some 42, op := Op.move (Operand.tmp 41), type := 4, pos := "there.go:55", after := #[{ on := 15, ground := Ground.data }, { on := 12, ground := Ground.chain }], guard := none }) (v := ?_) rfl (by kernel_rfl) (by kernel_rfl) (by kernel_rfl) (fun _ _ _ h => h) (Or.inl ⟨by rfl, ?_⟩) hHeld ?_
 rotate_left
 ·(intro w' hSw; (try dsimp only at hSw); go_simp; try with_reducible rfl)
 try simp only [Act.put, List.setIfInBounds_toArray, List.set_cons_zero, List.set_cons_succ]
 refine wpAnyH_take (i := 17) (oi := { dst := some 43, op := Op.move (Operand.tmp 7), type := 31, pos := "there.go:55", after := #[{ on := 16, ground := Ground.guard }], guard := some (16, true) }) (v := ?_) rfl (by kernel_rfl) (by kernel_rfl) (by kernel_rfl) (fun _ _ _ h => h) (Or.inl ⟨by rfl, ?_⟩) hHeld ?_
 rotate_left
 ·(intro w' hSw; (try dsimp only at hSw); go_simp; try with_reducible rfl)
 try simp only [Act.put, List.setIfInBounds_toArray, List.set_cons_zero, List.set_cons_succ]
 refine wpAnyH_take (i := 18) (oi := { dst := some 44, op := Op.binOp BinOp.eql 31 (Operand.tmp 43) (Operand.const (Value.int IntKind.i64 0)) 31, type := 4, pos := "there.go:55", after := #[{ on := 17, ground := Ground.data }, { on := 16, ground := Ground.guard }], guard := some (16, true) }) (v := ?_) rfl (by kernel_rfl) (by kernel_rfl) (by kernel_rfl) (fun _ _ _ h => h) (Or.inl ⟨by rfl, ?_⟩) hHeld ?_
 rotate_left
 ·(intro w' hSw; (try dsimp only at hSw); go_simp; try with_reducible rfl)
 try simp only [Act.put, List.setIfInBounds_toArray, List.set_cons_zero, List.set_cons_succ]
 refine wpAnyH_take (i := 19) (oi := { dst := some 45, op := Op.pick (Operand.tmp 42) (Operand.tmp 44) (Operand.const (Value.bool false)), type := 4, pos := "there.go:55", after := #[{ on := 16, ground := Ground.data }, { on := 18, ground := Ground.data }], guard := none }) (v := ?_) rfl (by kernel_rfl) (by kernel_rfl) (by kernel_rfl) (fun _ _ _ h => h) (Or.inl ⟨by rfl, ?_⟩) hHeld ?_
 rotate_left
 ·(intro w' hSw; (try dsimp only at hSw); go_simp; try with_reducible rfl)
 try simp only [Act.put, List.setIfInBounds_toArray, List.set_cons_zero, List.set_cons_succ]
 refine wpAnyH_take (i := 20) (oi := { dst := some 46, op := Op.move (Operand.tmp 45), type := 4, pos := "there.go:55", after := #[{ on := 19, ground := Ground.data }, { on := 16, ground := Ground.chain }], guard := none }) (v := ?_) rfl (by kernel_rfl) (by kernel_rfl) (by kernel_rfl) (fun _ _ _ h => h) (Or.inl ⟨by rfl, ?_⟩) hHeld ?_
 rotate_left
 ·(intro w' hSw; (try dsimp only at hSw); go_simp; try with_reducible rfl)
 try simp only [Act.put, List.setIfInBounds_toArray, List.set_cons_zero, List.set_cons_succ]
 refine wpAnyH_take (i := 21) (oi := { dst := some 47, op := Op.move (Operand.tmp 6), type := 44, pos := "there.go:55", after := #[{ on := 20, ground := Ground.guard }], guard := some (20, true) }) (v := ?_) rfl (by kernel_rfl) (by kernel_rfl) (by kernel_rfl) (fun _ _ _ h => h) (Or.inl ⟨by rfl, ?_⟩) hHeld ?_
 rotate_left
 ·(intro w' hSw; (try dsimp only at hSw); go_simp; try with_reducible rfl)
 try simp only [Act.put, List.setIfInBounds_toArray, List.set_cons_zero, List.set_cons_succ]
 refine wpAnyH_take (i := 22) (oi := { dst := some 48, op := Op.call { callee := Callee.builtin Builtin.len, args := #[Operand.tmp 47], argTypes := #[44] }, type := 3, pos := "there.go:55", after := #[{ on := 21, ground := Ground.data }, { on := 20, ground := Ground.guard }], guard := some (20, true) }) (v := ?_) rfl (by kernel_rfl) (by kernel_rfl) (by kernel_rfl) (fun _ _ _ h => h) (Or.inl ⟨by rfl, ?_⟩) hHeld ?_
 rotate_left
 ·(intro w' hSw; (try dsimp only at hSw); go_simp; try with_reducible rfl)
 try simp only [Act.put, List.setIfInBounds_toArray, List.set_cons_zero, List.set_cons_succ]
 refine wpAnyH_take (i := 23) (oi := { dst := some 49, op := Op.binOp BinOp.eql 3 (Operand.tmp 48) (Operand.const (Value.int IntKind.i64 1)) 3, type := 4, pos := "there.go:55", after := #[{ on := 22, ground := Ground.data }, { on := 20, ground := Ground.guard }], guard := some (20, true) }) (v := ?_) rfl (by kernel_rfl) (by kernel_rfl) (by kernel_rfl) (fun _ _ _ h => h) (Or.inl ⟨by rfl, ?_⟩) hHeld ?_
 rotate_left
 ·(intro w' hSw; (try dsimp only at hSw); go_simp; try with_reducible rfl)
 try simp only [Act.put, List.setIfInBounds_toArray, List.set_cons_zero, List.set_cons_succ]
 refine wpAnyH_take (i := 24) (oi := { dst := some 50, op := Op.pick (Operand.tmp 46) (Operand.tmp 49) (Operand.const (Value.bool false)), type := 4, pos := "there.go:55", after := #[{ on := 20, ground := Ground.data }, { on := 23, ground := Ground.data }], guard := none }) (v := ?_) rfl (by kernel_rfl) (by kernel_rfl) (by kernel_rfl) (fun _ _ _ h => h) (Or.inl ⟨by rfl, ?_⟩) hHeld ?_
 rotate_left
 ·(intro w' hSw; (try dsimp only at hSw); go_simp; try with_reducible rfl)
 try simp only [Act.put, List.setIfInBounds_toArray, List.set_cons_zero, List.set_cons_succ]
 refine wpAnyH_take (i := 25) (oi := { dst := some 0, op := Op.assign (Operand.tmp 50), type := 4, pos := "there.go:55", after := #[{ on := 24, ground := Ground.data }, { on := 20, ground := Ground.chain }, { on := 0, ground := Ground.phase }, { on := 1, ground := Ground.phase }, { on := 2, ground := Ground.phase }, { on := 3, ground := Ground.phase }, { on := 4, ground := Ground.phase }, { on := 5, ground := Ground.phase }, { on := 6, ground := Ground.phase }, { on := 7, ground := Ground.phase }, { on := 8, ground := Ground.phase }, { on := 9, ground := Ground.phase }, { on := 10, ground := Ground.phase }, { on := 11, ground := Ground.phase }, { on := 12, ground := Ground.phase }, { on := 13, ground := Ground.phase }, { on := 14, ground := Ground.phase }, { on := 15, ground := Ground.phase }, { on := 16, ground := Ground.phase }, { on := 17, ground := Ground.phase }, { on := 18, ground := Ground.phase }, { on := 19, ground := Ground.phase }, { on := 20, ground := Ground.phase }, { on := 21, ground := Ground.phase }, { on := 22, ground := Ground.phase }, { on := 23, ground := Ground.phase }, { on := 24, ground := Ground.phase }], guard := none }) (v := ?_) rfl (by kernel_rfl) (by kernel_rfl) (by kernel_rfl) (fun _ _ _ h => h) (Or.inl ⟨by rfl, ?_⟩) hHeld ?_
 rotate_left
 ·(intro w' hSw; (try dsimp only at hSw); go_simp; try with_reducible rfl)
 try simp only [Act.put, List.setIfInBounds_toArray, List.set_cons_zero]
 refine wpAnyH_done (by kernel_rfl) ?_ _
 refine NoPanic.normal ?_
 clear hHeld KEEP
 have HB : Hid (Below w.heap.size w W8) := (hB6.trans (gW7.mono (by have := hB6.size; omega))).trans (gW8.mono (by have := hB6.size; omega))
 clear bFV6 bFW7 bFW8 hS gW7 gW8 hbW7 hbW8 HSM
 go_wp2_with fail
 all_goals go_ret
 all_goals exact ⟨rfl, HB.out⟩
end Go.Proofs.YtlbobmebbllifaaGreat
