import Derived.Test.YtlbobmebbllifaaGreatBdC
/- (*base.tree).without. (Written by wip/treegen.py.) -/
namespace Go.Proofs.YtlbobmebbllifaaGreat
open Go.RowKit Go.Shelf Go.Maps
theorem TrL.place {W : World} {p : Option Addr} {L : List (Nat × Int)} {h : Int} (ht : TrL W p L h) : ∀ y ∈ L, W.cell? ⟨y.1, 0, none⟩ = some (.int .i64 y.2) := by
 refine TrL.ind (P := fun _ L _ => ∀ y ∈ L, W.cell? ⟨y.1, 0, none⟩ = some (.int .i64 y.2)) (fun y hy => by cases hy) ?_ ht
 intro tb eb pl lp rp Ll Lr hl hr _ hc _ _ i1 i2 y hy
 rcases List.mem_append.1 hy with hy | hy
 ·exact i1 y hy
 ·rcases List.mem_cons.1 hy with rfl | hy
  ·exact hc
  ·exact i2 y hy
/- base.earlier, (*base.View).step of two trees. (Written by wip/stepgen.py.) -/
set_option maxHeartbeats 4000000
def earE : Option (Nat × Int) → Option (Nat × Int) → Option (Nat × Int)
 | none, y => y
 | some x, none => some x
 | some x, some y => if y.2 < x.2 then some y else some x
def ptrX (x : Option (Nat × Int)) : Value := ptrE (x.map (·.1))
theorem earlier_nil (y : Option (Nat × Int)) (w : World) : Calls Tryz.prog 54 #[ptrX none, ptrX y] w fun e W' => e = .returned (ptrX y) ∧ Below w.heap.size w W' := by
 unfold ptrX ptrE
 simp only [Option.map_none]
 generalize (y.map (·.1)).map (fun b => (⟨b, 0, none⟩ : Addr)) = q
 go_enter Tryz.func54, Tryz.ntmps54
 go_wp2_with fail
 go_region
 all_goals
  go_wp2_with fail
  all_goals go_ret
  all_goals exact ⟨rfl, (Below.refl _ _).drew⟩
theorem earlier_two (x y : Nat × Int) (w : World) (hx : w.cell? ⟨x.1, 0, none⟩ = some (.int .i64 x.2)) (hy : w.cell? ⟨y.1, 0, none⟩ = some (.int .i64 y.2)) : Calls Tryz.prog 54 #[ptrX (some x), ptrX (some y)] w fun e W' => e = .returned (ptrX (if y.2 < x.2 then some y else some x)) ∧ Below w.heap.size w W' := by
 obtain ⟨xb, xl⟩ := x
 obtain ⟨yb, yl⟩ := y
 simp only at hx hy ⊢
 by_cases h : yl < xl
 ·rw [if_pos h]
  simp only [ptrX, ptrE, Option.map_some]
  go_enter Tryz.func54, Tryz.ntmps54
  go_wp2_with fail
  go_region
  all_goals
   go_wp2_with fail
   all_goals go_ret
   all_goals exact ⟨rfl, (Below.refl _ _).drew⟩
 ·rw [if_neg h]
  simp only [ptrX, ptrE, Option.map_some]
  go_enter Tryz.func54, Tryz.ntmps54
  go_wp2_with fail
  go_region
  all_goals
   go_wp2_with fail
   all_goals go_ret
   all_goals exact ⟨rfl, (Below.refl _ _).drew⟩
theorem earlier_any (x y : Option (Nat × Int)) (w : World) (hx : ∀ z, x = some z → w.cell? ⟨z.1, 0, none⟩ = some (.int .i64 z.2)) (hy : ∀ z, y = some z → w.cell? ⟨z.1, 0, none⟩ = some (.int .i64 z.2)) : Calls Tryz.prog 54 #[ptrX x, ptrX y] w fun e W' => e = .returned (ptrX (earE x y)) ∧ Below w.heap.size w W' := by
 cases x with
 | none => exact earlier_nil y w
 | some x =>
  cases y with
  | none =>
   have h := earlier_left (some x.1) w
   exact h
  | some y => exact earlier_two x y w (hx x rfl) (hy y rfl)
def StepL (R : Option (Nat × Int)) (W' : World) (vb : Nat) (p q : Option Addr) (last : Int) : Prop := (∀ x, R = some x → VwBlk W' vb p q x.2) ∧ (R = none → VwBlk W' vb none none last)
theorem earE_in {x y z : Option (Nat × Int)} (h : earE x y = z) : ∀ w, z = some w → x = some w ∨ y = some w := by
 intro w hw
 subst hw
 cases x with
 | none => exact .inr h
 | some x =>
  cases y with
  | none => exact .inl h
  | some y =>
   have h' : (if y.2 < x.2 then some y else some x) = some w := h
   split at h'
   ·exact .inr h'
   ·exact .inl h'
set_option maxRecDepth 100000 in
theorem stepL (vb : Nat) (p q : Option Addr) (last : Int) {L1 L2 : List (Nat × Int)} {h1 h2 : Int} (W : World) (hv : VwBlk W vb p q last) (ht1 : TrL W p L1 h1) (ht2 : TrL W q L2 h2) (hs1 : Srt L1) (hs2 : Srt L2) :
  Calls Tryz.prog 40 #[.pointer (some ⟨vb, 0, none⟩)] W fun e W' => e = .returned (ptrX (earE (nextE L1 last) (nextE L2 last))) ∧ GrB (fun k => k = vb) W.heap.size W W' ∧ StepL (earE (nextE L1 last) (nextE L2 last)) W' vb p q last := by
 have in1 : ∀ z, nextE L1 last = some z → W.cell? ⟨z.1, 0, none⟩ = some (.int .i64 z.2) := fun z hz => ht1.place z (List.mem_of_find?_eq_some hz)
 have in2 : ∀ z, nextE L2 last = some z → W.cell? ⟨z.1, 0, none⟩ = some (.int .i64 z.2) := fun z hz => ht2.place z (List.mem_of_find?_eq_some hz)
 have HA : Hid (∀ V, Below W.heap.size W V → Calls Tryz.prog 55 #[.pointer p, .int .i64 last] V fun e W' => e = .returned (ptrX (nextE L1 last)) ∧ Below V.heap.size V W') := fun V hV => afterL (ht1.below hV) hs1 last
 have HN : Hid (∀ V, Below W.heap.size W V → Calls Tryz.prog 55 #[.pointer q, .int .i64 last] V fun e W' => e = .returned (ptrX (nextE L2 last)) ∧ Below V.heap.size V W') := fun V hV => afterL (ht2.below hV) hs2 last
 have HE : Hid (∀ V, Below W.heap.size W V → Calls Tryz.prog 54 #[ptrX (nextE L1 last), ptrX (nextE L2 last)] V fun e W' => e = .returned (ptrX (earE (nextE L1 last) (nextE L2 last))) ∧ Below V.heap.size V W') := fun V hV => earlier_any _ _ V (fun z hz => (hV.cell (p := ⟨z.1, 0, none⟩) (cell_in (in1 z hz))).trans (in1 z hz)) (fun z hz => (hV.cell (p := ⟨z.1, 0, none⟩) (cell_in (in2 z hz))).trans (in2 z hz))
 have hpl : ∀ x, earE (nextE L1 last) (nextE L2 last) = some x → W.cell? ⟨x.1, 0, none⟩ = some (.int .i64 x.2) := fun x hx => by
  rcases earE_in rfl x hx with h | h
  ·exact in1 x h
  ·exact in2 x h
 have hvl := hv.lt
 clear in1 in2 ht1 ht2 hs1 hs2
 generalize earE (nextE L1 last) (nextE L2 last) = R at *
 generalize nextE L1 last = R1 at *
 generalize nextE L2 last = R2 at *
 have KEEP : W.cell? ⟨vb, 0, none⟩ = some (.pointer p) ∧ W.cell? ⟨vb, 1, none⟩ = some (.pointer q) ∧ W.cell? ⟨vb, 2, none⟩ = some (.int .i64 last) := hv.cs.1
 have hca := HA.out W.drew (Below.refl _ W).drew
 have HV := hide hv
 clear hv HA
 go_enter Tryz.func40, Tryz.ntmps40
 go_wp2_with fail
 refine wp_region_noPanic ?_
 refine wp_region_held_drew (S := (fun w' => w'.cell? ⟨vb, 0, none⟩ = some (.pointer p) ∧ w'.cell? ⟨vb, 1, none⟩ = some (.pointer q) ∧ w'.cell? ⟨vb, 2, none⟩ = some (.int .i64 last))) (by kernel_rfl) ?_ (fun hHeld => ?_)
 ·exact KEEP
 refine wpAnyH_take (i := 0) (oi := { dst := some 4, op := Op.move (Operand.tmp 0), type := 40, pos := "look.go:91", after := #[], guard := none }) (v := ?_) rfl (by kernel_rfl) (by kernel_rfl) (by kernel_rfl) (fun _ _ _ h => h) (Or.inl ⟨by rfl, ?_⟩) hHeld ?_
 rotate_left
 ·(intro w' hSw; (try dsimp only at hSw); go_simp; try with_reducible rfl)
 try simp only [Act.put, List.setIfInBounds_toArray, List.set_cons_zero, List.set_cons_succ]
 refine wpAnyH_take (i := 1) (oi := { dst := some 5, op := Op.nilCheck (Operand.tmp 4), type := 0, pos := "look.go:91", after := #[{ on := 0, ground := Ground.data }], guard := none }) (v := ?_) rfl (by kernel_rfl) (by kernel_rfl) (by kernel_rfl) (fun _ _ _ h => h) (Or.inl ⟨by rfl, ?_⟩) hHeld ?_
 rotate_left
 ·(intro w' hSw; (try dsimp only at hSw); go_simp; try with_reducible rfl)
 try simp only [Act.put, List.setIfInBounds_toArray, List.set_cons_zero, List.set_cons_succ]
 refine wpAnyH_take (i := 2) (oi := { dst := some 6, op := Op.fieldAddr 113 (Operand.tmp 5) 0, type := 0, pos := "look.go:91", after := #[{ on := 1, ground := Ground.data }], guard := none }) (v := ?_) rfl (by kernel_rfl) (by kernel_rfl) (by kernel_rfl) (fun _ _ _ h => h) (Or.inl ⟨by rfl, ?_⟩) hHeld ?_
 rotate_left
 ·(intro w' hSw; (try dsimp only at hSw); go_simp; try with_reducible rfl)
 try simp only [Act.put, List.setIfInBounds_toArray, List.set_cons_zero, List.set_cons_succ]
 refine wpAnyH_take (i := 3) (oi := { dst := some 7, op := Op.indexAddr 111 (Operand.tmp 6) (Operand.const (Value.int IntKind.i64 0)), type := 0, pos := "look.go:91", after := #[{ on := 2, ground := Ground.data }], guard := none }) (v := ?_) rfl (by kernel_rfl) (by kernel_rfl) (by kernel_rfl) (fun _ _ _ h => h) (Or.inl ⟨by rfl, ?_⟩) hHeld ?_
 rotate_left
 ·(intro w' hSw; (try dsimp only at hSw); go_simp; try with_reducible rfl)
 try simp only [Act.put, List.setIfInBounds_toArray, List.set_cons_zero, List.set_cons_succ]
 refine wpAnyH_take (i := 4) (oi := { dst := some 8, op := Op.load 104 (Operand.tmp 7), type := 104, pos := "look.go:91", after := #[{ on := 3, ground := Ground.data }], guard := none }) (v := ?_) rfl (by kernel_rfl) (by kernel_rfl) (by kernel_rfl) (fun _ _ _ h => h) (Or.inl ⟨by rfl, ?_⟩) hHeld ?_
 rotate_left
 ·(intro w' hSw; (try dsimp only at hSw); go_simp; try with_reducible rfl)
 try simp only [Act.put, List.setIfInBounds_toArray, List.set_cons_zero, List.set_cons_succ]
 refine wpAnyH_take (i := 5) (oi := { dst := some 9, op := Op.move (Operand.tmp 0), type := 40, pos := "look.go:91", after := #[], guard := none }) (v := ?_) rfl (by kernel_rfl) (by kernel_rfl) (by kernel_rfl) (fun _ _ _ h => h) (Or.inl ⟨by rfl, ?_⟩) hHeld ?_
 rotate_left
 ·(intro w' hSw; (try dsimp only at hSw); go_simp; try with_reducible rfl)
 try simp only [Act.put, List.setIfInBounds_toArray, List.set_cons_zero, List.set_cons_succ]
 refine wpAnyH_take (i := 6) (oi := { dst := some 10, op := Op.nilCheck (Operand.tmp 9), type := 0, pos := "look.go:91", after := #[{ on := 5, ground := Ground.data }], guard := none }) (v := ?_) rfl (by kernel_rfl) (by kernel_rfl) (by kernel_rfl) (fun _ _ _ h => h) (Or.inl ⟨by rfl, ?_⟩) hHeld ?_
 rotate_left
 ·(intro w' hSw; (try dsimp only at hSw); go_simp; try with_reducible rfl)
 try simp only [Act.put, List.setIfInBounds_toArray, List.set_cons_zero, List.set_cons_succ]
 refine wpAnyH_take (i := 7) (oi := { dst := some 11, op := Op.fieldAddr 113 (Operand.tmp 10) 1, type := 0, pos := "look.go:91", after := #[{ on := 6, ground := Ground.data }], guard := none }) (v := ?_) rfl (by kernel_rfl) (by kernel_rfl) (by kernel_rfl) (fun _ _ _ h => h) (Or.inl ⟨by rfl, ?_⟩) hHeld ?_
 rotate_left
 ·(intro w' hSw; (try dsimp only at hSw); go_simp; try with_reducible rfl)
 try simp only [Act.put, List.setIfInBounds_toArray, List.set_cons_zero, List.set_cons_succ]
 refine wpAnyH_take (i := 8) (oi := { dst := some 12, op := Op.load 3 (Operand.tmp 11), type := 3, pos := "look.go:91", after := #[{ on := 7, ground := Ground.data }], guard := none }) (v := ?_) rfl (by kernel_rfl) (by kernel_rfl) (by kernel_rfl) (fun _ _ _ h => h) (Or.inl ⟨by rfl, ?_⟩) hHeld ?_
 rotate_left
 ·(intro w' hSw; (try dsimp only at hSw); go_simp; try with_reducible rfl)
 try simp only [Act.put, List.setIfInBounds_toArray, List.set_cons_zero, List.set_cons_succ]
 refine wpAnyH_take (i := 10) (oi := { dst := some 14, op := Op.move (Operand.tmp 0), type := 40, pos := "look.go:91", after := #[], guard := none }) (v := ?_) rfl (by kernel_rfl) (by kernel_rfl) (by kernel_rfl) (fun _ _ _ h => h) (Or.inl ⟨by rfl, ?_⟩) hHeld ?_
 rotate_left
 ·(intro w' hSw; (try dsimp only at hSw); go_simp; try with_reducible rfl)
 try simp only [Act.put, List.setIfInBounds_toArray, List.set_cons_zero, List.set_cons_succ]
 refine wpAnyH_take (i := 11) (oi := { dst := some 15, op := Op.nilCheck (Operand.tmp 14), type := 0, pos := "look.go:91", after := #[{ on := 10, ground := Ground.data }], guard := none }) (v := ?_) rfl (by kernel_rfl) (by kernel_rfl) (by kernel_rfl) (fun _ _ _ h => h) (Or.inl ⟨by rfl, ?_⟩) hHeld ?_
 rotate_left
 ·(intro w' hSw; (try dsimp only at hSw); go_simp; try with_reducible rfl)
 try simp only [Act.put, List.setIfInBounds_toArray, List.set_cons_zero, List.set_cons_succ]
 refine wpAnyH_take (i := 12) (oi := { dst := some 16, op := Op.fieldAddr 113 (Operand.tmp 15) 0, type := 0, pos := "look.go:91", after := #[{ on := 11, ground := Ground.data }], guard := none }) (v := ?_) rfl (by kernel_rfl) (by kernel_rfl) (by kernel_rfl) (fun _ _ _ h => h) (Or.inl ⟨by rfl, ?_⟩) hHeld ?_
 rotate_left
 ·(intro w' hSw; (try dsimp only at hSw); go_simp; try with_reducible rfl)
 try simp only [Act.put, List.setIfInBounds_toArray, List.set_cons_zero, List.set_cons_succ]
 refine wpAnyH_take (i := 13) (oi := { dst := some 17, op := Op.indexAddr 111 (Operand.tmp 16) (Operand.const (Value.int IntKind.i64 1)), type := 0, pos := "look.go:91", after := #[{ on := 12, ground := Ground.data }], guard := none }) (v := ?_) rfl (by kernel_rfl) (by kernel_rfl) (by kernel_rfl) (fun _ _ _ h => h) (Or.inl ⟨by rfl, ?_⟩) hHeld ?_
 rotate_left
 ·(intro w' hSw; (try dsimp only at hSw); go_simp; try with_reducible rfl)
 try simp only [Act.put, List.setIfInBounds_toArray, List.set_cons_zero, List.set_cons_succ]
 refine wpAnyH_take (i := 14) (oi := { dst := some 18, op := Op.load 104 (Operand.tmp 17), type := 104, pos := "look.go:91", after := #[{ on := 13, ground := Ground.data }], guard := none }) (v := ?_) rfl (by kernel_rfl) (by kernel_rfl) (by kernel_rfl) (fun _ _ _ h => h) (Or.inl ⟨by rfl, ?_⟩) hHeld ?_
 rotate_left
 ·(intro w' hSw; (try dsimp only at hSw); go_simp; try with_reducible rfl)
 try simp only [Act.put, List.setIfInBounds_toArray, List.set_cons_zero, List.set_cons_succ]
 refine wpAnyH_take (i := 15) (oi := { dst := some 19, op := Op.move (Operand.tmp 0), type := 40, pos := "look.go:91", after := #[], guard := none }) (v := ?_) rfl (by kernel_rfl) (by kernel_rfl) (by kernel_rfl) (fun _ _ _ h => h) (Or.inl ⟨by rfl, ?_⟩) hHeld ?_
 rotate_left
 ·(intro w' hSw; (try dsimp only at hSw); go_simp; try with_reducible rfl)
 try simp only [Act.put, List.setIfInBounds_toArray, List.set_cons_zero, List.set_cons_succ]
 refine wpAnyH_take (i := 16) (oi := { dst := some 20, op := Op.nilCheck (Operand.tmp 19), type := 0, pos := "look.go:91", after := #[{ on := 15, ground := Ground.data }], guard := none }) (v := ?_) rfl (by kernel_rfl) (by kernel_rfl) (by kernel_rfl) (fun _ _ _ h => h) (Or.inl ⟨by rfl, ?_⟩) hHeld ?_
 rotate_left
 ·(intro w' hSw; (try dsimp only at hSw); go_simp; try with_reducible rfl)
 try simp only [Act.put, List.setIfInBounds_toArray, List.set_cons_zero, List.set_cons_succ]
 refine wpAnyH_take (i := 17) (oi := { dst := some 21, op := Op.fieldAddr 113 (Operand.tmp 20) 1, type := 0, pos := "look.go:91", after := #[{ on := 16, ground := Ground.data }], guard := none }) (v := ?_) rfl (by kernel_rfl) (by kernel_rfl) (by kernel_rfl) (fun _ _ _ h => h) (Or.inl ⟨by rfl, ?_⟩) hHeld ?_
 rotate_left
 ·(intro w' hSw; (try dsimp only at hSw); go_simp; try with_reducible rfl)
 try simp only [Act.put, List.setIfInBounds_toArray, List.set_cons_zero, List.set_cons_succ]
 refine wpAnyH_take (i := 18) (oi := { dst := some 22, op := Op.load 3 (Operand.tmp 21), type := 3, pos := "look.go:91", after := #[{ on := 17, ground := Ground.data }], guard := none }) (v := ?_) rfl (by kernel_rfl) (by kernel_rfl) (by kernel_rfl) (fun _ _ _ h => h) (Or.inl ⟨by rfl, ?_⟩) hHeld ?_
 rotate_left
 ·(intro w' hSw; (try dsimp only at hSw); go_simp; try with_reducible rfl)
 try simp only [Act.put, List.setIfInBounds_toArray, List.set_cons_zero, List.set_cons_succ]
 refine wpAnyH_ready (rs := [9]) (by kernel_rfl) (by simp) ?_
 refine AllReadyH.cons (o := { dst := some 13, op := Op.call { callee := Callee.value (Operand.func 55), args := #[Operand.tmp 8, Operand.tmp 12], argTypes := #[104, 3] }, type := 67, pos := "look.go:91", after := #[{ on := 4, ground := Ground.data }, { on := 8, ground := Ground.data }], guard := none }) rfl (fun K hK => ?_) AllReadyH.nil
 have hHold := hHeld
 clear hHeld
 go_simp
 refine (hca).mono ?_
 rintro e V1 ⟨rfl, gV1⟩
 have sV1 : W.heap.size ≤ V1.heap.size := gV1.size
 have kc : ∀ o, V1.cell? ⟨vb, o, none⟩ = W.cell? ⟨vb, o, none⟩ := fun o => World.cell?_of_block (a := ⟨vb, o, none⟩) (w := W) (gV1.block vb (by show vb < W.heap.size; omega))
 have KEEP : V1.cell? ⟨vb, 0, none⟩ = some (.pointer p) ∧ V1.cell? ⟨vb, 1, none⟩ = some (.pointer q) ∧ V1.cell? ⟨vb, 2, none⟩ = some (.int .i64 last) := ⟨(kc _).trans KEEP.1, (kc _).trans KEEP.2.1, (kc _).trans KEEP.2.2⟩
 clear kc
 go_wp2_with fail
 refine hK.out _ _ ?_ (fun hHeld => ?_)
 ·((try dsimp only); exact KEEP)
 clear hK K hHold
 try simp only [Act.put, List.setIfInBounds_toArray, List.set_cons_zero, List.set_cons_succ]
 refine wpAnyH_ready (rs := [19]) (by kernel_rfl) (by simp) ?_
 refine AllReadyH.cons (o := { dst := some 23, op := Op.call { callee := Callee.value (Operand.func 55), args := #[Operand.tmp 18, Operand.tmp 22], argTypes := #[104, 3] }, type := 67, pos := "look.go:91", after := #[{ on := 14, ground := Ground.data }, { on := 18, ground := Ground.data }, { on := 9, ground := Ground.chain }], guard := none }) rfl (fun K hK => ?_) AllReadyH.nil
 have hHold := hHeld
 clear hHeld
 go_simp
 have g01 : Below W.heap.size W V1 := (Below.refl _ W).drew.trans (show Below W.heap.size W.drew V1 from gV1)
 refine (HN.out V1 g01).mono ?_
 rintro e V2 ⟨rfl, gV2⟩
 have sV2 : V1.heap.size ≤ V2.heap.size := gV2.size
 have kc : ∀ o, V2.cell? ⟨vb, o, none⟩ = V1.cell? ⟨vb, o, none⟩ := fun o => World.cell?_of_block (a := ⟨vb, o, none⟩) (w := V1) (gV2.block vb (by show vb < V1.heap.size; omega))
 have KEEP : V2.cell? ⟨vb, 0, none⟩ = some (.pointer p) ∧ V2.cell? ⟨vb, 1, none⟩ = some (.pointer q) ∧ V2.cell? ⟨vb, 2, none⟩ = some (.int .i64 last) := ⟨(kc _).trans KEEP.1, (kc _).trans KEEP.2.1, (kc _).trans KEEP.2.2⟩
 clear kc
 go_wp2_with fail
 refine hK.out _ _ ?_ (fun hHeld => ?_)
 ·((try dsimp only); exact KEEP)
 clear hK K hHold
 try simp only [Act.put, List.setIfInBounds_toArray, List.set_cons_zero, List.set_cons_succ]
 refine wpAnyH_ready (rs := [20]) (by kernel_rfl) (by simp) ?_
 refine AllReadyH.cons (o := { dst := some 24, op := Op.call { callee := Callee.value (Operand.func 54), args := #[Operand.tmp 13, Operand.tmp 23], argTypes := #[67, 67] }, type := 67, pos := "look.go:91", after := #[{ on := 9, ground := Ground.data }, { on := 19, ground := Ground.data }, { on := 19, ground := Ground.chain }], guard := none }) rfl (fun K hK => ?_) AllReadyH.nil
 have hHold := hHeld
 clear hHeld
 go_simp
 have g02 : Below W.heap.size W V2 := g01.trans (gV2.mono sV1)
 refine (HE.out V2 g02).mono ?_
 rintro e V3 ⟨rfl, gV3⟩
 have sV3 : V2.heap.size ≤ V3.heap.size := gV3.size
 have kc : ∀ o, V3.cell? ⟨vb, o, none⟩ = V2.cell? ⟨vb, o, none⟩ := fun o => World.cell?_of_block (a := ⟨vb, o, none⟩) (w := V2) (gV3.block vb (by show vb < V2.heap.size; omega))
 have KEEP : V3.cell? ⟨vb, 0, none⟩ = some (.pointer p) ∧ V3.cell? ⟨vb, 1, none⟩ = some (.pointer q) ∧ V3.cell? ⟨vb, 2, none⟩ = some (.int .i64 last) := ⟨(kc _).trans KEEP.1, (kc _).trans KEEP.2.1, (kc _).trans KEEP.2.2⟩
 clear kc
 go_wp2_with fail
 refine hK.out _ _ ?_ (fun hHeld => ?_)
 ·((try dsimp only); exact KEEP)
 clear hK K hHold
 try simp only [Act.put, List.setIfInBounds_toArray, List.set_cons_zero, List.set_cons_succ]
 refine wpAnyH_take (i := 21) (oi := { dst := some 3, op := Op.assign (Operand.tmp 24), type := 67, pos := "look.go:91", after := #[{ on := 20, ground := Ground.data }, { on := 20, ground := Ground.chain }, { on := 0, ground := Ground.phase }, { on := 1, ground := Ground.phase }, { on := 2, ground := Ground.phase }, { on := 3, ground := Ground.phase }, { on := 4, ground := Ground.phase }, { on := 5, ground := Ground.phase }, { on := 6, ground := Ground.phase }, { on := 7, ground := Ground.phase }, { on := 8, ground := Ground.phase }, { on := 9, ground := Ground.phase }, { on := 10, ground := Ground.phase }, { on := 11, ground := Ground.phase }, { on := 12, ground := Ground.phase }, { on := 13, ground := Ground.phase }, { on := 14, ground := Ground.phase }, { on := 15, ground := Ground.phase }, { on := 16, ground := Ground.phase }, { on := 17, ground := Ground.phase }, { on := 18, ground := Ground.phase }, { on := 19, ground := Ground.phase }, { on := 20, ground := Ground.phase }], guard := none }) (v := ?_) rfl (by kernel_rfl) (by kernel_rfl) (by kernel_rfl) (fun _ _ _ h => h) (Or.inl ⟨by rfl, ?_⟩) hHeld ?_
 rotate_left
 ·(intro w' hSw; (try dsimp only at hSw); go_simp; try with_reducible rfl)
 try simp only [Act.put, List.setIfInBounds_toArray, List.set_cons_zero, List.set_cons_succ]
 refine wpAnyH_done (by kernel_rfl) ?_ _
 refine NoPanic.normal ?_
 clear hHeld hca HN HE
 have gW3 : Below W.heap.size W V3 := g02.trans (gV3.mono (by omega))
 have hv3 : VwBlk V3 vb p q last := (gW3.block vb hvl).trans (unhide HV)
 obtain ⟨⟨v0, v1, v2⟩, f0, f1, f2⟩ := hv3.cs
 cases R with
 | none =>
  have hv4 := ((hv3.set.1 none).set).2.1 none
  have HF : Hid (GrB (fun k => k = vb) W.heap.size W ((V3.setCell ⟨vb, 0, none⟩ (.pointer none)).setCell ⟨vb, 1, none⟩ (.pointer none)) ∧ VwBlk ((V3.setCell ⟨vb, 0, none⟩ (.pointer none)).setCell ⟨vb, 1, none⟩ (.pointer none)) vb none none last) := ⟨⟨gW3.os, gW3.tape, gW3.output, by have := gW3.size; simpa using this, fun k hk hx => (Below.heap_setCell _ _ _ _ (by simpa using hx)).trans ((Below.heap_setCell _ _ _ _ (by simpa using hx)).trans (gW3.block k hk))⟩, hv4⟩
  clear gW3 hv3 hv4 KEEP HV gV1 gV2 gV3 hpl g01 g02
  simp only [ptrX, ptrE, Option.map_none]
  go_wp2_with fail
  all_goals go_ret
  all_goals exact ⟨rfl, HF.out.1, (fun eb h => by cases h), (fun _ => HF.out.2)⟩
 | some x =>
  have hpc := hpl x rfl
  have hp3 : V3.cell? ⟨x.1, 0, none⟩ = some (.int .i64 x.2) := (gW3.cell (p := ⟨x.1, 0, none⟩) (cell_in hpc)).trans hpc
  have hv4 := hv3.set.2.2 x.2
  have HF : Hid (GrB (fun k => k = vb) W.heap.size W (V3.setCell ⟨vb, 2, none⟩ (.int .i64 x.2)) ∧ VwBlk (V3.setCell ⟨vb, 2, none⟩ (.int .i64 x.2)) vb p q x.2) := ⟨⟨gW3.os, gW3.tape, gW3.output, by have := gW3.size; simpa using this, fun k hk hx => (Below.heap_setCell _ _ _ _ (by simpa using hx)).trans (gW3.block k hk)⟩, hv4⟩
  clear gW3 hv3 hv4 KEEP HV gV1 gV2 gV3 hpl hpc g01 g02
  simp only [ptrX, ptrE, Option.map_some]
  go_wp2_with fail
  all_goals go_ret
  all_goals exact ⟨rfl, HF.out.1, (fun y h => by cases h; exact HF.out.2), (fun h => by cases h)⟩
/- (*base.family).letThrough by a key, (*base.Base).View whatever the goal, familyOf of a known predicate. (Written by wip/viewgen.py.) -/
set_option maxHeartbeats 2000000
set_option maxRecDepth 100000
theorem familyOf_old (b me mf fb : Nat) (laid : Int) (cnt : Nat) (g : Lit → Option Addr) (s : ByteArray) (n : Nat) (w : World) (hb : BsBlk w b laid me mf) (hm : PM 80 w mf cnt g) (hs : s.size ≤ maxLen) (hn : n ≤ 9223372036854775807) (hg : g (predL s n) = some ⟨fb, 0, none⟩) :
  Calls Tryz.prog 30 #[.pointer (some ⟨b, 0, none⟩), predV s n] w fun e W' => e = .returned (.pointer (some ⟨fb, 0, none⟩)) ∧ Below w.heap.size w W' := by
 have hkey := pred_key s n hs hn
 have hb1 : Below w.heap.size w (w.alloc (.cells #[.string s, .int .i64 (n : Int)] 80)).drew := ((Below.refl _ w).alloc (Nat.le_refl _) _).drew
 have hm1 := hm.kept (hb1.block mf hm.lt)
 have hB1 : BsBlk (w.alloc (.cells #[.string s, .int .i64 (n : Int)] 80)).drew b laid me mf := (hb1.block b hb.lt).trans hb
 have hlk := hm1.look Tryz.keyedPred Tryz.underlying55 (Tryz.zeroPtr64 _) hkey
 rw [hg] at hlk
 obtain ⟨c0, c1, c2, -⟩ := hB1.cs
 have c2' : (w.alloc (.cells #[.string s, .int .i64 (n : Int)] 80)).cell? ⟨b, 2, none⟩ = some (.map (some mf)) := c2
 simp only [predV, Option.isSome_some] at hlk hkey ⊢
 have HB := hide hb1
 clear hb hm hm1 hB1 hkey hg hb1 c0 c1 c2
 go_enter Tryz.func30, Tryz.ntmps30
 go_wp2_with fail
 go_region
 go_wp2_with fail
 all_goals go_ret
 all_goals exact ⟨rfl, unhide HB⟩
theorem letThrough_key (fb km ck : Nat) (all : Option Addr) (gk : Lit → Option Addr) (k N : Int) (s : ByteArray) (n : Nat) (W : World) (hf : FmBlk W fb all km) (hm : PM 89 W km ck gk) (hk0 : ¬ k = 0) (hs : s.size ≤ maxLen) (hn : n ≤ 9223372036854775807) (hk1 : -9223372036854775808 ≤ k) (hk2 : k ≤ 9223372036854775807) (hN1 : -9223372036854775808 ≤ N) (hN2 : N ≤ 9223372036854775807) :
  Calls Tryz.prog 51 #[.pointer (some ⟨fb, 0, none⟩), keyV k N s n] W fun e W' => e = .returned (.agg #[.pointer (gk (keyL k N s n)), .pointer (gk (keyL 0 0 ⟨#[]⟩ 0))]) ∧ Below W.heap.size W W' := by
 have hb2 : Below W.heap.size W ((W.alloc (.cells #[.int .i64 k, .int .i64 N, .string s, .int .i64 (n : Int)] 89)).alloc (.cells #[.pointer none, .pointer none] 111)).drew := (((Below.refl _ W).alloc (Nat.le_refl _) _).alloc (by simp) _).drew
 have hl1 := (hm.kept (hb2.block km hm.lt)).look1 Tryz.keyedKey Tryz.underlying103 (Tryz.zeroPtr71 _) (key_key k N s n hs hn hk1 hk2 hN1 hN2)
 have hl2 := (hm.kept (hb2.block km hm.lt)).look1 Tryz.keyedKey Tryz.underlying103 (Tryz.zeroPtr71 _) (key_key 0 0 ⟨#[]⟩ 0 (by decide) (by omega) (by omega) (by omega) (by omega) (by omega))
 obtain ⟨_, f1, _⟩ := (show FmBlk ((W.alloc (.cells #[.int .i64 k, .int .i64 N, .string s, .int .i64 (n : Int)] 89)).alloc (.cells #[.pointer none, .pointer none] 111)).drew fb all km from (hb2.block fb hf.lt).trans hf).cs
 have f1' : ((W.alloc (.cells #[.int .i64 k, .int .i64 N, .string s, .int .i64 (n : Int)] 89)).alloc (.cells #[.pointer none, .pointer none] 111)).cell? ⟨fb, 1, none⟩ = some (.map (some km)) := f1
 generalize gk (keyL k N s n) = r1 at *
 generalize gk (keyL 0 0 ⟨#[]⟩ 0) = r2 at *
 simp only [keyV] at hl1 hl2 ⊢
 have e0 : ((0 : Nat) : Int) = 0 := rfl
 rw [e0] at hl2
 clear e0
 have hk0' : (k == 0) = false := by simpa using hk0
 clear hf hm hb2 f1 hs hn hk1 hk2 hN1 hN2
 go_enter Tryz.func51, Tryz.ntmps51
 go_wp2_with fail
 go_region
 all_goals
  go_wp2_with fail
  exact bodyPost_ret (v := .agg #[.pointer r1, .pointer r2]) (by simp [results, Tryz.results51, go_sem]) rfl ⟨rfl, by first | exact (((Below.refl _ W).alloc (Nat.le_refl _) _).alloc (by simp) _).drew⟩
theorem view_known (b me mf fb : Nat) (laid : Int) (cf : Nat) (gf : Lit → Option Addr) (p q : Option Addr) {n : Nat} (tg : Tm (n + 1)) (W : World) (hb : BsBlk W b laid me mf) (hmf : PM 80 W mf cf gf) (hT : IsT W.heap.size W tg) (hok : okT tg = true) (hcall : (decide (tg.tv.k = 3) || decide (tg.tv.k = 4)) = true) (hltq : ∀ V, Below W.heap.size W V → Calls Tryz.prog 51 #[.pointer (some ⟨fb, 0, none⟩), keyOfV tg] V fun e W' => e = .returned (.agg #[.pointer p, .pointer q]) ∧ Below V.heap.size V W') (hg : gf (predL tg.tv.s tg.tv.len) = some ⟨fb, 0, none⟩) :
  Calls Tryz.prog 13 #[.pointer (some ⟨b, 0, none⟩), tg.tv.val] W fun e W' => ∃ vb, e = .returned (.tuple #[.pointer (some ⟨vb, 0, none⟩), .int .i64 0]) ∧ W.heap.size ≤ vb ∧ VwBlk W' vb p q (-9223372036854775808) ∧ Below W.heap.size W W' :=
 view_by b p q tg W hT hok hcall fun V hV => rules_known b me mf fb laid cf gf p q tg.tv.s tg.tv.len _ _ _ _ V ((hV.block b hb.lt).trans hb) (hmf.kept (hV.block mf hmf.lt)) hT.2.2.1 hT.2.1.1 (fun V' hV' => hltq V' (hV.trans (hV'.mono hV.size))) hg
theorem view_unknown (b me mf : Nat) (laid : Int) (cf : Nat) (gf : Lit → Option Addr) {n : Nat} (tg : Tm (n + 1)) (W : World) (hb : BsBlk W b laid me mf) (hmf : PM 80 W mf cf gf) (hT : IsT W.heap.size W tg) (hok : okT tg = true) (hcall : (decide (tg.tv.k = 3) || decide (tg.tv.k = 4)) = true) (hg : gf (predL tg.tv.s tg.tv.len) = none) :
  Calls Tryz.prog 13 #[.pointer (some ⟨b, 0, none⟩), tg.tv.val] W fun e W' => ∃ vb, e = .returned (.tuple #[.pointer (some ⟨vb, 0, none⟩), .int .i64 0]) ∧ W.heap.size ≤ vb ∧ VwBlk W' vb none none (-9223372036854775808) ∧ Below W.heap.size W W' :=
 view_by b none none tg W hT hok hcall fun V hV => rules_unknown b me mf laid cf gf tg.tv.s tg.tv.len _ _ _ _ V ((hV.block b hb.lt).trans hb) (hmf.kept (hV.block mf hmf.lt)) hT.2.2.1 hT.2.1.1 hg
end Go.Proofs.YtlbobmebbllifaaGreat
