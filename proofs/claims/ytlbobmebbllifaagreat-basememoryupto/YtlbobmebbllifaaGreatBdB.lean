import Derived.Test.YtlbobmebbllifaaGreatBdA
/- base.leaningLeft, leaningRight, balanced. (Written by wip/treegen.py.) -/
namespace Go.Proofs.YtlbobmebbllifaaGreat
set_option maxHeartbeats 4000000
set_option maxRecDepth 100000
open Go.RowKit Go.Shelf Go.Maps
def TreeC (W : World) (f : Nat) (args : Array Value) (L : List (Nat × Int)) : Prop := Calls Tryz.prog f args W fun e W' => ∃ q h, e = .returned (.pointer (some ⟨q, 0, none⟩)) ∧ W.heap.size ≤ q ∧ Below W.heap.size W W' ∧ TrL W' (some ⟨q, 0, none⟩) L h
theorem grownC {W : World} {lp rp : Option Addr} {Ll Lr : List (Nat × Int)} {hl hr : Int} (h1 : TrL W lp Ll hl) (h2 : TrL W rp Lr hr) (eb : Nat) (pl : Int) (hc : W.cell? ⟨eb, 0, none⟩ = some (.int .i64 pl)) (hn : Ll.length + Lr.length < 4611686018427387904) : TreeC W 65 #[.pointer lp, .pointer (some ⟨eb, 0, none⟩), .pointer rp] (Ll ++ (eb, pl) :: Lr) := grownL h1 h2 eb pl hc hn
theorem cell_in {W : World} {b o : Nat} {v : Value} (h : W.cell? ⟨b, o, none⟩ = some v) : b < W.heap.size := by
 by_cases hb : b < W.heap.size
 ·exact hb
 ·have : W.heap[b]? = none := Array.getElem?_eq_none (by omega)
  simp [World.cell?, this] at h
theorem node_cells {W : World} {tb eb : Nat} {lp rp : Option Addr} {h : Int} (hb : W.heap[tb]? = some (.cells #[.pointer (some ⟨eb, 0, none⟩), .pointer lp, .pointer rp, .int .i64 h] 131 (0, 0))) : W.cell? ⟨tb, 0, none⟩ = some (.pointer (some ⟨eb, 0, none⟩)) ∧ W.cell? ⟨tb, 1, none⟩ = some (.pointer lp) ∧ W.cell? ⟨tb, 2, none⟩ = some (.pointer rp) ∧ W.cell? ⟨tb, 3, none⟩ = some (.int .i64 h) := by
 refine ⟨?_, ?_, ?_, ?_⟩ <;> simp [World.cell?, hb]
theorem leaningLeft_a {W : World} {tb xb eb : Nat} {xl pl ht : Int} {lp rp op : Option Addr} {Ll Lr Lo : List (Nat × Int)} {hl hr ho : Int} (hb : W.heap[tb]? = some (.cells #[.pointer (some ⟨xb, 0, none⟩), .pointer lp, .pointer rp, .int .i64 ht] 131 (0, 0))) (hx : W.cell? ⟨xb, 0, none⟩ = some (.int .i64 xl)) (he : W.cell? ⟨eb, 0, none⟩ = some (.int .i64 pl)) (h1 : TrL W lp Ll hl) (h2 : TrL W rp Lr hr) (h3 : TrL W op Lo ho) (hn : Ll.length + Lr.length + Lo.length < 4611686018427387900) (hc : hr ≤ hl) :
  TreeC W 88 #[.pointer (some ⟨tb, 0, none⟩), .pointer (some ⟨eb, 0, none⟩), .pointer op] ((Ll ++ (xb, xl) :: Lr) ++ (eb, pl) :: Lo) := by
 unfold TreeC
 have htl := cell_in (node_cells hb).1
 have hxl := cell_in hx
 have hel := cell_in he
 have GW : Hid (Below W.heap.size W W) := Below.refl _ _
 have HX : Hid (∀ V, Below W.heap.size W V → V.cell? ⟨xb, 0, none⟩ = some (.int .i64 xl) ∧ V.cell? ⟨eb, 0, none⟩ = some (.int .i64 pl) ∧ TrL V lp Ll hl ∧ TrL V rp Lr hr ∧ TrL V op Lo ho) := fun V hV => ⟨(hV.cell (p := ⟨xb, 0, none⟩) hxl).trans hx, (hV.cell (p := ⟨eb, 0, none⟩) hel).trans he, h1.below hV, h2.below hV, h3.below hV⟩
 obtain ⟨n0, n1, n2, n3⟩ := node_cells hb
 have HT : Hid (∀ V, Below W.heap.size W V → Calls Tryz.prog 87 #[.pointer lp] V fun e V' => e = .returned (.int .i64 hl) ∧ V' = V) := fun V hV => tall_any (h1.below hV).tall
 have HT2 : Hid (∀ V, Below W.heap.size W V → Calls Tryz.prog 87 #[.pointer rp] V fun e V' => e = .returned (.int .i64 hr) ∧ V' = V) := fun V hV => tall_any (h2.below hV).tall
 clear hb hx he h1 h2 h3 n3
 go_enter Tryz.func88, Tryz.ntmps88
 go_wp2_with fail
 have KEEP : W.cell? ⟨tb, 0, none⟩ = some (.pointer (some ⟨xb, 0, none⟩)) ∧ W.cell? ⟨tb, 1, none⟩ = some (.pointer lp) ∧ W.cell? ⟨tb, 2, none⟩ = some (.pointer rp) := ⟨n0, n1, n2⟩
 refine wp_region_noPanic ?_
 refine wp_region_held_drew (S := (fun w' => w'.cell? ⟨tb, 0, none⟩ = some (.pointer (some ⟨xb, 0, none⟩)) ∧ w'.cell? ⟨tb, 1, none⟩ = some (.pointer lp) ∧ w'.cell? ⟨tb, 2, none⟩ = some (.pointer rp))) (by kernel_rfl) ?_ (fun hHeld => ?_)
 ·exact KEEP
 refine wpAnyH_take (i := 0) (oi := { dst := some 8, op := Op.move (Operand.tmp 0), type := 104, pos := "tree.go:73", after := #[], guard := none }) (v := ?_) rfl (by kernel_rfl) (by kernel_rfl) (by kernel_rfl) (fun _ _ _ h => h) (Or.inl ⟨by rfl, ?_⟩) hHeld ?_
 rotate_left
 ·(intro w' hSw; (try dsimp only at hSw); go_simp; try with_reducible rfl)
 try simp only [Act.put, List.setIfInBounds_toArray, List.set_cons_zero, List.set_cons_succ]
 refine wpAnyH_take (i := 1) (oi := { dst := some 9, op := Op.nilCheck (Operand.tmp 8), type := 0, pos := "tree.go:73", after := #[{ on := 0, ground := Ground.data }], guard := none }) (v := ?_) rfl (by kernel_rfl) (by kernel_rfl) (by kernel_rfl) (fun _ _ _ h => h) (Or.inl ⟨by rfl, ?_⟩) hHeld ?_
 rotate_left
 ·(intro w' hSw; (try dsimp only at hSw); go_simp; try with_reducible rfl)
 try simp only [Act.put, List.setIfInBounds_toArray, List.set_cons_zero, List.set_cons_succ]
 refine wpAnyH_take (i := 2) (oi := { dst := some 10, op := Op.fieldAddr 131 (Operand.tmp 9) 1, type := 0, pos := "tree.go:73", after := #[{ on := 1, ground := Ground.data }], guard := none }) (v := ?_) rfl (by kernel_rfl) (by kernel_rfl) (by kernel_rfl) (fun _ _ _ h => h) (Or.inl ⟨by rfl, ?_⟩) hHeld ?_
 rotate_left
 ·(intro w' hSw; (try dsimp only at hSw); go_simp; try with_reducible rfl)
 try simp only [Act.put, List.setIfInBounds_toArray, List.set_cons_zero, List.set_cons_succ]
 refine wpAnyH_take (i := 3) (oi := { dst := some 11, op := Op.load 104 (Operand.tmp 10), type := 104, pos := "tree.go:73", after := #[{ on := 2, ground := Ground.data }], guard := none }) (v := ?_) rfl (by kernel_rfl) (by kernel_rfl) (by kernel_rfl) (fun _ _ _ h => h) (Or.inl ⟨by rfl, ?_⟩) hHeld ?_
 rotate_left
 ·(intro w' hSw; (try dsimp only at hSw); go_simp; try with_reducible rfl)
 try simp only [Act.put, List.setIfInBounds_toArray, List.set_cons_zero, List.set_cons_succ]
 refine wpAnyH_take (i := 5) (oi := { dst := some 13, op := Op.move (Operand.tmp 0), type := 104, pos := "tree.go:73", after := #[], guard := none }) (v := ?_) rfl (by kernel_rfl) (by kernel_rfl) (by kernel_rfl) (fun _ _ _ h => h) (Or.inl ⟨by rfl, ?_⟩) hHeld ?_
 rotate_left
 ·(intro w' hSw; (try dsimp only at hSw); go_simp; try with_reducible rfl)
 try simp only [Act.put, List.setIfInBounds_toArray, List.set_cons_zero, List.set_cons_succ]
 refine wpAnyH_take (i := 6) (oi := { dst := some 14, op := Op.nilCheck (Operand.tmp 13), type := 0, pos := "tree.go:73", after := #[{ on := 5, ground := Ground.data }], guard := none }) (v := ?_) rfl (by kernel_rfl) (by kernel_rfl) (by kernel_rfl) (fun _ _ _ h => h) (Or.inl ⟨by rfl, ?_⟩) hHeld ?_
 rotate_left
 ·(intro w' hSw; (try dsimp only at hSw); go_simp; try with_reducible rfl)
 try simp only [Act.put, List.setIfInBounds_toArray, List.set_cons_zero, List.set_cons_succ]
 refine wpAnyH_take (i := 7) (oi := { dst := some 15, op := Op.fieldAddr 131 (Operand.tmp 14) 2, type := 0, pos := "tree.go:73", after := #[{ on := 6, ground := Ground.data }], guard := none }) (v := ?_) rfl (by kernel_rfl) (by kernel_rfl) (by kernel_rfl) (fun _ _ _ h => h) (Or.inl ⟨by rfl, ?_⟩) hHeld ?_
 rotate_left
 ·(intro w' hSw; (try dsimp only at hSw); go_simp; try with_reducible rfl)
 try simp only [Act.put, List.setIfInBounds_toArray, List.set_cons_zero, List.set_cons_succ]
 refine wpAnyH_take (i := 8) (oi := { dst := some 16, op := Op.load 104 (Operand.tmp 15), type := 104, pos := "tree.go:73", after := #[{ on := 7, ground := Ground.data }], guard := none }) (v := ?_) rfl (by kernel_rfl) (by kernel_rfl) (by kernel_rfl) (fun _ _ _ h => h) (Or.inl ⟨by rfl, ?_⟩) hHeld ?_
 rotate_left
 ·(intro w' hSw; (try dsimp only at hSw); go_simp; try with_reducible rfl)
 try simp only [Act.put, List.setIfInBounds_toArray, List.set_cons_zero, List.set_cons_succ]
 refine wpAnyH_ready (rs := [4]) (by kernel_rfl) (by simp) ?_
 refine AllReadyH.cons (o := { dst := some 12, op := Op.call { callee := Callee.value (Operand.func 87), args := #[Operand.tmp 11], argTypes := #[104] }, type := 3, pos := "tree.go:73", after := #[{ on := 3, ground := Ground.data }], guard := none }) rfl (fun K hK => ?_) AllReadyH.nil
 have hHold := hHeld
 clear hHeld
 go_simp
 refine (HT.out W.drew (unhide GW).drew).mono ?_
 rintro e V1 ⟨rfl, rfl⟩
 go_wp2_with fail
 refine hK.out _ _ ?_ (fun hHeld => ?_)
 ·((try dsimp only); exact KEEP)
 clear hK K hHold
 try simp only [Act.put, List.setIfInBounds_toArray, List.set_cons_zero, List.set_cons_succ]
 refine wpAnyH_ready (rs := [9]) (by kernel_rfl) (by simp) ?_
 refine AllReadyH.cons (o := { dst := some 17, op := Op.call { callee := Callee.value (Operand.func 87), args := #[Operand.tmp 16], argTypes := #[104] }, type := 3, pos := "tree.go:73", after := #[{ on := 8, ground := Ground.data }, { on := 4, ground := Ground.chain }], guard := none }) rfl (fun K hK => ?_) AllReadyH.nil
 have hHold := hHeld
 clear hHeld
 go_simp
 refine (HT2.out W.drew (unhide GW).drew).mono ?_
 rintro e V1 ⟨rfl, rfl⟩
 go_wp2_with fail
 refine hK.out _ _ ?_ (fun hHeld => ?_)
 ·((try dsimp only); exact KEEP)
 clear hK K hHold
 try simp only [Act.put, List.setIfInBounds_toArray, List.set_cons_zero, List.set_cons_succ]
 refine wpAnyH_take (i := 10) (oi := { dst := some 18, op := Op.binOp BinOp.geq 3 (Operand.tmp 12) (Operand.tmp 17) 3, type := 4, pos := "tree.go:73", after := #[{ on := 4, ground := Ground.data }, { on := 9, ground := Ground.data }], guard := none }) (v := ?_) rfl (by kernel_rfl) (by kernel_rfl) (by kernel_rfl) (fun _ _ _ h => h) (Or.inl ⟨by rfl, ?_⟩) hHeld ?_
 rotate_left
 ·(intro w' hSw; (try dsimp only at hSw); go_simp; try with_reducible rfl)
 try simp only [Act.put, List.setIfInBounds_toArray, List.set_cons_zero, List.set_cons_succ]
 refine wpAnyH_done (by kernel_rfl) ?_ _
 refine NoPanic.normal ?_
 clear hHeld KEEP HT HT2
 have WD : Hid (Below W.heap.size W W.drew) := (Below.refl _ W).drew
 obtain ⟨V0, hV0⟩ : ∃ V0, W.drew = V0 := ⟨_, rfl⟩
 have s0 : V0.heap.size = W.heap.size := by rw [← hV0]; rfl
 rw [hV0] at WD
 have GV0 : Hid (Below W.heap.size W V0) := WD.out
 rw [hV0]
 clear WD
 have m0 : V0.cell? ⟨tb, 0, none⟩ = some (.pointer (some ⟨xb, 0, none⟩)) := ((unhide GV0).cell (p := ⟨tb, 0, none⟩) htl).trans n0
 have m1 : V0.cell? ⟨tb, 1, none⟩ = some (.pointer lp) := ((unhide GV0).cell (p := ⟨tb, 1, none⟩) htl).trans n1
 have m2 : V0.cell? ⟨tb, 2, none⟩ = some (.pointer rp) := ((unhide GV0).cell (p := ⟨tb, 2, none⟩) htl).trans n2
 clear n0 n1 n2 hV0
 replace htl : tb < V0.heap.size := by omega
 have hge : hl ≥ hr := hc
 clear hc
 go_wp2_with fail
 have KEEP : V0.cell? ⟨tb, 0, none⟩ = some (.pointer (some ⟨xb, 0, none⟩)) ∧ V0.cell? ⟨tb, 1, none⟩ = some (.pointer lp) ∧ V0.cell? ⟨tb, 2, none⟩ = some (.pointer rp) := ⟨m0, m1, m2⟩
 refine wp_region_noPanic ?_
 refine wp_region_held_drew (S := (fun w' => w'.cell? ⟨tb, 0, none⟩ = some (.pointer (some ⟨xb, 0, none⟩)) ∧ w'.cell? ⟨tb, 1, none⟩ = some (.pointer lp) ∧ w'.cell? ⟨tb, 2, none⟩ = some (.pointer rp))) (by kernel_rfl) ?_ (fun hHeld => ?_)
 ·exact KEEP
 refine wpAnyH_take (i := 0) (oi := { dst := some 19, op := Op.move (Operand.tmp 0), type := 104, pos := "tree.go:74", after := #[], guard := none }) (v := ?_) rfl (by kernel_rfl) (by kernel_rfl) (by kernel_rfl) (fun _ _ _ h => h) (Or.inl ⟨by rfl, ?_⟩) hHeld ?_
 rotate_left
 ·(intro w' hSw; (try dsimp only at hSw); go_simp; try with_reducible rfl)
 try simp only [Act.put, List.setIfInBounds_toArray, List.set_cons_zero, List.set_cons_succ]
 refine wpAnyH_take (i := 1) (oi := { dst := some 20, op := Op.nilCheck (Operand.tmp 19), type := 0, pos := "tree.go:74", after := #[{ on := 0, ground := Ground.data }], guard := none }) (v := ?_) rfl (by kernel_rfl) (by kernel_rfl) (by kernel_rfl) (fun _ _ _ h => h) (Or.inl ⟨by rfl, ?_⟩) hHeld ?_
 rotate_left
 ·(intro w' hSw; (try dsimp only at hSw); go_simp; try with_reducible rfl)
 try simp only [Act.put, List.setIfInBounds_toArray, List.set_cons_zero, List.set_cons_succ]
 refine wpAnyH_take (i := 2) (oi := { dst := some 21, op := Op.fieldAddr 131 (Operand.tmp 20) 1, type := 0, pos := "tree.go:74", after := #[{ on := 1, ground := Ground.data }], guard := none }) (v := ?_) rfl (by kernel_rfl) (by kernel_rfl) (by kernel_rfl) (fun _ _ _ h => h) (Or.inl ⟨by rfl, ?_⟩) hHeld ?_
 rotate_left
 ·(intro w' hSw; (try dsimp only at hSw); go_simp; try with_reducible rfl)
 try simp only [Act.put, List.setIfInBounds_toArray, List.set_cons_zero, List.set_cons_succ]
 refine wpAnyH_take (i := 3) (oi := { dst := some 22, op := Op.load 104 (Operand.tmp 21), type := 104, pos := "tree.go:74", after := #[{ on := 2, ground := Ground.data }], guard := none }) (v := ?_) rfl (by kernel_rfl) (by kernel_rfl) (by kernel_rfl) (fun _ _ _ h => h) (Or.inl ⟨by rfl, ?_⟩) hHeld ?_
 rotate_left
 ·(intro w' hSw; (try dsimp only at hSw); go_simp; try with_reducible rfl)
 try simp only [Act.put, List.setIfInBounds_toArray, List.set_cons_zero, List.set_cons_succ]
 refine wpAnyH_take (i := 4) (oi := { dst := some 23, op := Op.move (Operand.tmp 0), type := 104, pos := "tree.go:74", after := #[], guard := none }) (v := ?_) rfl (by kernel_rfl) (by kernel_rfl) (by kernel_rfl) (fun _ _ _ h => h) (Or.inl ⟨by rfl, ?_⟩) hHeld ?_
 rotate_left
 ·(intro w' hSw; (try dsimp only at hSw); go_simp; try with_reducible rfl)
 try simp only [Act.put, List.setIfInBounds_toArray, List.set_cons_zero, List.set_cons_succ]
 refine wpAnyH_take (i := 5) (oi := { dst := some 24, op := Op.nilCheck (Operand.tmp 23), type := 0, pos := "tree.go:74", after := #[{ on := 4, ground := Ground.data }], guard := none }) (v := ?_) rfl (by kernel_rfl) (by kernel_rfl) (by kernel_rfl) (fun _ _ _ h => h) (Or.inl ⟨by rfl, ?_⟩) hHeld ?_
 rotate_left
 ·(intro w' hSw; (try dsimp only at hSw); go_simp; try with_reducible rfl)
 try simp only [Act.put, List.setIfInBounds_toArray, List.set_cons_zero, List.set_cons_succ]
 refine wpAnyH_take (i := 6) (oi := { dst := some 25, op := Op.fieldAddr 131 (Operand.tmp 24) 0, type := 0, pos := "tree.go:74", after := #[{ on := 5, ground := Ground.data }], guard := none }) (v := ?_) rfl (by kernel_rfl) (by kernel_rfl) (by kernel_rfl) (fun _ _ _ h => h) (Or.inl ⟨by rfl, ?_⟩) hHeld ?_
 rotate_left
 ·(intro w' hSw; (try dsimp only at hSw); go_simp; try with_reducible rfl)
 try simp only [Act.put, List.setIfInBounds_toArray, List.set_cons_zero, List.set_cons_succ]
 refine wpAnyH_take (i := 7) (oi := { dst := some 26, op := Op.load 67 (Operand.tmp 25), type := 67, pos := "tree.go:74", after := #[{ on := 6, ground := Ground.data }], guard := none }) (v := ?_) rfl (by kernel_rfl) (by kernel_rfl) (by kernel_rfl) (fun _ _ _ h => h) (Or.inl ⟨by rfl, ?_⟩) hHeld ?_
 rotate_left
 ·(intro w' hSw; (try dsimp only at hSw); go_simp; try with_reducible rfl)
 try simp only [Act.put, List.setIfInBounds_toArray, List.set_cons_zero, List.set_cons_succ]
 refine wpAnyH_take (i := 8) (oi := { dst := some 27, op := Op.move (Operand.tmp 0), type := 104, pos := "tree.go:74", after := #[], guard := none }) (v := ?_) rfl (by kernel_rfl) (by kernel_rfl) (by kernel_rfl) (fun _ _ _ h => h) (Or.inl ⟨by rfl, ?_⟩) hHeld ?_
 rotate_left
 ·(intro w' hSw; (try dsimp only at hSw); go_simp; try with_reducible rfl)
 try simp only [Act.put, List.setIfInBounds_toArray, List.set_cons_zero, List.set_cons_succ]
 refine wpAnyH_take (i := 9) (oi := { dst := some 28, op := Op.nilCheck (Operand.tmp 27), type := 0, pos := "tree.go:74", after := #[{ on := 8, ground := Ground.data }], guard := none }) (v := ?_) rfl (by kernel_rfl) (by kernel_rfl) (by kernel_rfl) (fun _ _ _ h => h) (Or.inl ⟨by rfl, ?_⟩) hHeld ?_
 rotate_left
 ·(intro w' hSw; (try dsimp only at hSw); go_simp; try with_reducible rfl)
 try simp only [Act.put, List.setIfInBounds_toArray, List.set_cons_zero, List.set_cons_succ]
 refine wpAnyH_take (i := 10) (oi := { dst := some 29, op := Op.fieldAddr 131 (Operand.tmp 28) 2, type := 0, pos := "tree.go:74", after := #[{ on := 9, ground := Ground.data }], guard := none }) (v := ?_) rfl (by kernel_rfl) (by kernel_rfl) (by kernel_rfl) (fun _ _ _ h => h) (Or.inl ⟨by rfl, ?_⟩) hHeld ?_
 rotate_left
 ·(intro w' hSw; (try dsimp only at hSw); go_simp; try with_reducible rfl)
 try simp only [Act.put, List.setIfInBounds_toArray, List.set_cons_zero, List.set_cons_succ]
 refine wpAnyH_take (i := 11) (oi := { dst := some 30, op := Op.load 104 (Operand.tmp 29), type := 104, pos := "tree.go:74", after := #[{ on := 10, ground := Ground.data }], guard := none }) (v := ?_) rfl (by kernel_rfl) (by kernel_rfl) (by kernel_rfl) (fun _ _ _ h => h) (Or.inl ⟨by rfl, ?_⟩) hHeld ?_
 rotate_left
 ·(intro w' hSw; (try dsimp only at hSw); go_simp; try with_reducible rfl)
 try simp only [Act.put, List.setIfInBounds_toArray, List.set_cons_zero, List.set_cons_succ]
 refine wpAnyH_take (i := 12) (oi := { dst := some 31, op := Op.move (Operand.tmp 1), type := 67, pos := "tree.go:74", after := #[], guard := none }) (v := ?_) rfl (by kernel_rfl) (by kernel_rfl) (by kernel_rfl) (fun _ _ _ h => h) (Or.inl ⟨by rfl, ?_⟩) hHeld ?_
 rotate_left
 ·(intro w' hSw; (try dsimp only at hSw); go_simp; try with_reducible rfl)
 try simp only [Act.put, List.setIfInBounds_toArray, List.set_cons_zero, List.set_cons_succ]
 refine wpAnyH_take (i := 13) (oi := { dst := some 32, op := Op.move (Operand.tmp 2), type := 104, pos := "tree.go:74", after := #[], guard := none }) (v := ?_) rfl (by kernel_rfl) (by kernel_rfl) (by kernel_rfl) (fun _ _ _ h => h) (Or.inl ⟨by rfl, ?_⟩) hHeld ?_
 rotate_left
 ·(intro w' hSw; (try dsimp only at hSw); go_simp; try with_reducible rfl)
 try simp only [Act.put, List.setIfInBounds_toArray, List.set_cons_zero, List.set_cons_succ]
 refine wpAnyH_ready (rs := [14]) (by kernel_rfl) (by simp) ?_
 refine AllReadyH.cons (o := { dst := some 33, op := Op.call { callee := Callee.value (Operand.func 65), args := #[Operand.tmp 30, Operand.tmp 31, Operand.tmp 32], argTypes := #[104, 67, 104] }, type := 104, pos := "tree.go:74", after := #[{ on := 11, ground := Ground.data }, { on := 12, ground := Ground.data }, { on := 13, ground := Ground.data }], guard := none }) rfl (fun K hK => ?_) AllReadyH.nil
 have hHold := hHeld
 clear hHeld
 go_simp
 have hcl := grownC (HX.out V0.drew (unhide GV0).drew).2.2.2.1 (HX.out V0.drew (unhide GV0).drew).2.2.2.2 eb pl (HX.out V0.drew (unhide GV0).drew).2.1 (by omega)
 refine hcl.mono ?_
 clear hcl
 rintro e V1 ⟨q1, i1, rfl, hq1, gV1, t1⟩
 have sV1 : V0.heap.size ≤ V1.heap.size := gV1.size
 have GV1 : Hid (Below W.heap.size W V1) := (unhide GV0).drew.trans (gV1.mono (by have := (unhide GV0).size; show W.heap.size ≤ V0.heap.size; omega))
 have kc : ∀ k o, k < V0.heap.size → V1.cell? ⟨k, o, none⟩ = V0.cell? ⟨k, o, none⟩ := fun k o hk => World.cell?_of_block (a := ⟨k, o, none⟩) (w := V0) (gV1.block k hk)
 have KEEP : V1.cell? ⟨tb, 0, none⟩ = some (.pointer (some ⟨xb, 0, none⟩)) ∧ V1.cell? ⟨tb, 1, none⟩ = some (.pointer lp) ∧ V1.cell? ⟨tb, 2, none⟩ = some (.pointer rp) := ⟨(kc _ _ htl).trans KEEP.1, (kc _ _ htl).trans KEEP.2.1, (kc _ _ htl).trans KEEP.2.2⟩
 have htl : tb < V1.heap.size := Nat.lt_of_lt_of_le htl sV1
 clear kc
 go_wp2_with fail
 refine hK.out _ _ ?_ (fun hHeld => ?_)
 ·((try dsimp only); exact KEEP)
 clear hK K hHold
 try simp only [Act.put, List.setIfInBounds_toArray, List.set_cons_zero, List.set_cons_succ]
 refine wpAnyH_ready (rs := [15]) (by kernel_rfl) (by simp) ?_
 refine AllReadyH.cons (o := { dst := some 34, op := Op.call { callee := Callee.value (Operand.func 65), args := #[Operand.tmp 22, Operand.tmp 26, Operand.tmp 33], argTypes := #[104, 67, 104] }, type := 104, pos := "tree.go:74", after := #[{ on := 3, ground := Ground.data }, { on := 7, ground := Ground.data }, { on := 14, ground := Ground.data }, { on := 14, ground := Ground.chain }], guard := none }) rfl (fun K hK => ?_) AllReadyH.nil
 have hHold := hHeld
 clear hHeld
 go_simp
 have hcl := grownC (HX.out V1 (unhide GV1)).2.2.1 t1 xb xl (HX.out V1 (unhide GV1)).1 (by simp only [List.length_append, List.length_cons]; omega)
 refine hcl.mono ?_
 clear hcl
 rintro e V2 ⟨q2, i2, rfl, hq2, gV2, t2⟩
 have sV2 : V1.heap.size ≤ V2.heap.size := gV2.size
 have GV2 : Hid (Below W.heap.size W V2) := (unhide GV1).trans (gV2.mono (by have := (unhide GV1).size; show W.heap.size ≤ V1.heap.size; omega))
 have kc : ∀ k o, k < V1.heap.size → V2.cell? ⟨k, o, none⟩ = V1.cell? ⟨k, o, none⟩ := fun k o hk => World.cell?_of_block (a := ⟨k, o, none⟩) (w := V1) (gV2.block k hk)
 have KEEP : V2.cell? ⟨tb, 0, none⟩ = some (.pointer (some ⟨xb, 0, none⟩)) ∧ V2.cell? ⟨tb, 1, none⟩ = some (.pointer lp) ∧ V2.cell? ⟨tb, 2, none⟩ = some (.pointer rp) := ⟨(kc _ _ htl).trans KEEP.1, (kc _ _ htl).trans KEEP.2.1, (kc _ _ htl).trans KEEP.2.2⟩
 have htl : tb < V2.heap.size := Nat.lt_of_lt_of_le htl sV2
 clear kc
 go_wp2_with fail
 refine hK.out _ _ ?_ (fun hHeld => ?_)
 ·((try dsimp only); exact KEEP)
 clear hK K hHold
 try simp only [Act.put, List.setIfInBounds_toArray, List.set_cons_zero, List.set_cons_succ]
 refine wpAnyH_take (i := 16) (oi := { dst := some 6, op := Op.assign (Operand.tmp 34), type := 104, pos := "tree.go:74", after := #[{ on := 15, ground := Ground.data }, { on := 15, ground := Ground.chain }, { on := 0, ground := Ground.phase }, { on := 1, ground := Ground.phase }, { on := 2, ground := Ground.phase }, { on := 3, ground := Ground.phase }, { on := 4, ground := Ground.phase }, { on := 5, ground := Ground.phase }, { on := 6, ground := Ground.phase }, { on := 7, ground := Ground.phase }, { on := 8, ground := Ground.phase }, { on := 9, ground := Ground.phase }, { on := 10, ground := Ground.phase }, { on := 11, ground := Ground.phase }, { on := 12, ground := Ground.phase }, { on := 13, ground := Ground.phase }, { on := 14, ground := Ground.phase }, { on := 15, ground := Ground.phase }], guard := none }) (v := ?_) rfl (by kernel_rfl) (by kernel_rfl) (by kernel_rfl) (fun _ _ _ h => h) (Or.inl ⟨by rfl, ?_⟩) hHeld ?_
 rotate_left
 ·(intro w' hSw; (try dsimp only at hSw); go_simp; try with_reducible rfl)
 try simp only [Act.put, List.setIfInBounds_toArray, List.set_cons_zero, List.set_cons_succ]
 refine wpAnyH_done (by kernel_rfl) ?_ _
 refine NoPanic.normal ?_
 clear hHeld KEEP
 have HF : Hid (Below W.heap.size W V2 ∧ W.heap.size ≤ q2 ∧ TrL V2 (some ⟨q2, 0, none⟩) ((Ll ++ (xb, xl) :: Lr) ++ (eb, pl) :: Lo) i2) := ⟨unhide GV2, by omega, by have h := t2; rw [show Ll ++ (xb, xl) :: (Lr ++ (eb, pl) :: Lo) = (Ll ++ (xb, xl) :: Lr) ++ (eb, pl) :: Lo by simp] at h; exact h⟩
 clear t1 t2 gV1 gV2 GV0 GV1 GV2 HX
 go_wp2_with fail
 all_goals go_ret
 all_goals exact ⟨q2, i2, rfl, HF.out.2.1, HF.out.1, HF.out.2.2⟩
theorem leaningRight_a {W : World} {tb xb eb : Nat} {xl pl ht : Int} {lp rp op : Option Addr} {Ll Lr Lo : List (Nat × Int)} {hl hr ho : Int} (hb : W.heap[tb]? = some (.cells #[.pointer (some ⟨xb, 0, none⟩), .pointer lp, .pointer rp, .int .i64 ht] 131 (0, 0))) (hx : W.cell? ⟨xb, 0, none⟩ = some (.int .i64 xl)) (he : W.cell? ⟨eb, 0, none⟩ = some (.int .i64 pl)) (h1 : TrL W lp Ll hl) (h2 : TrL W rp Lr hr) (h3 : TrL W op Lo ho) (hn : Ll.length + Lr.length + Lo.length < 4611686018427387900) (hc : hl ≤ hr) :
  TreeC W 89 #[.pointer op, .pointer (some ⟨eb, 0, none⟩), .pointer (some ⟨tb, 0, none⟩)] (Lo ++ (eb, pl) :: (Ll ++ (xb, xl) :: Lr)) := by
 unfold TreeC
 have htl := cell_in (node_cells hb).1
 have hxl := cell_in hx
 have hel := cell_in he
 have GW : Hid (Below W.heap.size W W) := Below.refl _ _
 have HX : Hid (∀ V, Below W.heap.size W V → V.cell? ⟨xb, 0, none⟩ = some (.int .i64 xl) ∧ V.cell? ⟨eb, 0, none⟩ = some (.int .i64 pl) ∧ TrL V lp Ll hl ∧ TrL V rp Lr hr ∧ TrL V op Lo ho) := fun V hV => ⟨(hV.cell (p := ⟨xb, 0, none⟩) hxl).trans hx, (hV.cell (p := ⟨eb, 0, none⟩) hel).trans he, h1.below hV, h2.below hV, h3.below hV⟩
 obtain ⟨n0, n1, n2, n3⟩ := node_cells hb
 have HT : Hid (∀ V, Below W.heap.size W V → Calls Tryz.prog 87 #[.pointer rp] V fun e V' => e = .returned (.int .i64 hr) ∧ V' = V) := fun V hV => tall_any (h2.below hV).tall
 have HT2 : Hid (∀ V, Below W.heap.size W V → Calls Tryz.prog 87 #[.pointer lp] V fun e V' => e = .returned (.int .i64 hl) ∧ V' = V) := fun V hV => tall_any (h1.below hV).tall
 clear hb hx he h1 h2 h3 n3
 go_enter Tryz.func89, Tryz.ntmps89
 go_wp2_with fail
 have KEEP : W.cell? ⟨tb, 0, none⟩ = some (.pointer (some ⟨xb, 0, none⟩)) ∧ W.cell? ⟨tb, 1, none⟩ = some (.pointer lp) ∧ W.cell? ⟨tb, 2, none⟩ = some (.pointer rp) := ⟨n0, n1, n2⟩
 refine wp_region_noPanic ?_
 refine wp_region_held_drew (S := (fun w' => w'.cell? ⟨tb, 0, none⟩ = some (.pointer (some ⟨xb, 0, none⟩)) ∧ w'.cell? ⟨tb, 1, none⟩ = some (.pointer lp) ∧ w'.cell? ⟨tb, 2, none⟩ = some (.pointer rp))) (by kernel_rfl) ?_ (fun hHeld => ?_)
 ·exact KEEP
 refine wpAnyH_take (i := 0) (oi := { dst := some 8, op := Op.move (Operand.tmp 2), type := 104, pos := "tree.go:81", after := #[], guard := none }) (v := ?_) rfl (by kernel_rfl) (by kernel_rfl) (by kernel_rfl) (fun _ _ _ h => h) (Or.inl ⟨by rfl, ?_⟩) hHeld ?_
 rotate_left
 ·(intro w' hSw; (try dsimp only at hSw); go_simp; try with_reducible rfl)
 try simp only [Act.put, List.setIfInBounds_toArray, List.set_cons_zero, List.set_cons_succ]
 refine wpAnyH_take (i := 1) (oi := { dst := some 9, op := Op.nilCheck (Operand.tmp 8), type := 0, pos := "tree.go:81", after := #[{ on := 0, ground := Ground.data }], guard := none }) (v := ?_) rfl (by kernel_rfl) (by kernel_rfl) (by kernel_rfl) (fun _ _ _ h => h) (Or.inl ⟨by rfl, ?_⟩) hHeld ?_
 rotate_left
 ·(intro w' hSw; (try dsimp only at hSw); go_simp; try with_reducible rfl)
 try simp only [Act.put, List.setIfInBounds_toArray, List.set_cons_zero, List.set_cons_succ]
 refine wpAnyH_take (i := 2) (oi := { dst := some 10, op := Op.fieldAddr 131 (Operand.tmp 9) 2, type := 0, pos := "tree.go:81", after := #[{ on := 1, ground := Ground.data }], guard := none }) (v := ?_) rfl (by kernel_rfl) (by kernel_rfl) (by kernel_rfl) (fun _ _ _ h => h) (Or.inl ⟨by rfl, ?_⟩) hHeld ?_
 rotate_left
 ·(intro w' hSw; (try dsimp only at hSw); go_simp; try with_reducible rfl)
 try simp only [Act.put, List.setIfInBounds_toArray, List.set_cons_zero, List.set_cons_succ]
 refine wpAnyH_take (i := 3) (oi := { dst := some 11, op := Op.load 104 (Operand.tmp 10), type := 104, pos := "tree.go:81", after := #[{ on := 2, ground := Ground.data }], guard := none }) (v := ?_) rfl (by kernel_rfl) (by kernel_rfl) (by kernel_rfl) (fun _ _ _ h => h) (Or.inl ⟨by rfl, ?_⟩) hHeld ?_
 rotate_left
 ·(intro w' hSw; (try dsimp only at hSw); go_simp; try with_reducible rfl)
 try simp only [Act.put, List.setIfInBounds_toArray, List.set_cons_zero, List.set_cons_succ]
 refine wpAnyH_take (i := 5) (oi := { dst := some 13, op := Op.move (Operand.tmp 2), type := 104, pos := "tree.go:81", after := #[], guard := none }) (v := ?_) rfl (by kernel_rfl) (by kernel_rfl) (by kernel_rfl) (fun _ _ _ h => h) (Or.inl ⟨by rfl, ?_⟩) hHeld ?_
 rotate_left
 ·(intro w' hSw; (try dsimp only at hSw); go_simp; try with_reducible rfl)
 try simp only [Act.put, List.setIfInBounds_toArray, List.set_cons_zero, List.set_cons_succ]
 refine wpAnyH_take (i := 6) (oi := { dst := some 14, op := Op.nilCheck (Operand.tmp 13), type := 0, pos := "tree.go:81", after := #[{ on := 5, ground := Ground.data }], guard := none }) (v := ?_) rfl (by kernel_rfl) (by kernel_rfl) (by kernel_rfl) (fun _ _ _ h => h) (Or.inl ⟨by rfl, ?_⟩) hHeld ?_
 rotate_left
 ·(intro w' hSw; (try dsimp only at hSw); go_simp; try with_reducible rfl)
 try simp only [Act.put, List.setIfInBounds_toArray, List.set_cons_zero, List.set_cons_succ]
 refine wpAnyH_take (i := 7) (oi := { dst := some 15, op := Op.fieldAddr 131 (Operand.tmp 14) 1, type := 0, pos := "tree.go:81", after := #[{ on := 6, ground := Ground.data }], guard := none }) (v := ?_) rfl (by kernel_rfl) (by kernel_rfl) (by kernel_rfl) (fun _ _ _ h => h) (Or.inl ⟨by rfl, ?_⟩) hHeld ?_
 rotate_left
 ·(intro w' hSw; (try dsimp only at hSw); go_simp; try with_reducible rfl)
 try simp only [Act.put, List.setIfInBounds_toArray, List.set_cons_zero, List.set_cons_succ]
 refine wpAnyH_take (i := 8) (oi := { dst := some 16, op := Op.load 104 (Operand.tmp 15), type := 104, pos := "tree.go:81", after := #[{ on := 7, ground := Ground.data }], guard := none }) (v := ?_) rfl (by kernel_rfl) (by kernel_rfl) (by kernel_rfl) (fun _ _ _ h => h) (Or.inl ⟨by rfl, ?_⟩) hHeld ?_
 rotate_left
 ·(intro w' hSw; (try dsimp only at hSw); go_simp; try with_reducible rfl)
 try simp only [Act.put, List.setIfInBounds_toArray, List.set_cons_zero, List.set_cons_succ]
 refine wpAnyH_ready (rs := [4]) (by kernel_rfl) (by simp) ?_
 refine AllReadyH.cons (o := { dst := some 12, op := Op.call { callee := Callee.value (Operand.func 87), args := #[Operand.tmp 11], argTypes := #[104] }, type := 3, pos := "tree.go:81", after := #[{ on := 3, ground := Ground.data }], guard := none }) rfl (fun K hK => ?_) AllReadyH.nil
 have hHold := hHeld
 clear hHeld
 go_simp
 refine (HT.out W.drew (unhide GW).drew).mono ?_
 rintro e V1 ⟨rfl, rfl⟩
 go_wp2_with fail
 refine hK.out _ _ ?_ (fun hHeld => ?_)
 ·((try dsimp only); exact KEEP)
 clear hK K hHold
 try simp only [Act.put, List.setIfInBounds_toArray, List.set_cons_zero, List.set_cons_succ]
 refine wpAnyH_ready (rs := [9]) (by kernel_rfl) (by simp) ?_
 refine AllReadyH.cons (o := { dst := some 17, op := Op.call { callee := Callee.value (Operand.func 87), args := #[Operand.tmp 16], argTypes := #[104] }, type := 3, pos := "tree.go:81", after := #[{ on := 8, ground := Ground.data }, { on := 4, ground := Ground.chain }], guard := none }) rfl (fun K hK => ?_) AllReadyH.nil
 have hHold := hHeld
 clear hHeld
 go_simp
 refine (HT2.out W.drew (unhide GW).drew).mono ?_
 rintro e V1 ⟨rfl, rfl⟩
 go_wp2_with fail
 refine hK.out _ _ ?_ (fun hHeld => ?_)
 ·((try dsimp only); exact KEEP)
 clear hK K hHold
 try simp only [Act.put, List.setIfInBounds_toArray, List.set_cons_zero, List.set_cons_succ]
 refine wpAnyH_take (i := 10) (oi := { dst := some 18, op := Op.binOp BinOp.geq 3 (Operand.tmp 12) (Operand.tmp 17) 3, type := 4, pos := "tree.go:81", after := #[{ on := 4, ground := Ground.data }, { on := 9, ground := Ground.data }], guard := none }) (v := ?_) rfl (by kernel_rfl) (by kernel_rfl) (by kernel_rfl) (fun _ _ _ h => h) (Or.inl ⟨by rfl, ?_⟩) hHeld ?_
 rotate_left
 ·(intro w' hSw; (try dsimp only at hSw); go_simp; try with_reducible rfl)
 try simp only [Act.put, List.setIfInBounds_toArray, List.set_cons_zero, List.set_cons_succ]
 refine wpAnyH_done (by kernel_rfl) ?_ _
 refine NoPanic.normal ?_
 clear hHeld KEEP HT HT2
 have WD : Hid (Below W.heap.size W W.drew) := (Below.refl _ W).drew
 obtain ⟨V0, hV0⟩ : ∃ V0, W.drew = V0 := ⟨_, rfl⟩
 have s0 : V0.heap.size = W.heap.size := by rw [← hV0]; rfl
 rw [hV0] at WD
 have GV0 : Hid (Below W.heap.size W V0) := WD.out
 rw [hV0]
 clear WD
 have m0 : V0.cell? ⟨tb, 0, none⟩ = some (.pointer (some ⟨xb, 0, none⟩)) := ((unhide GV0).cell (p := ⟨tb, 0, none⟩) htl).trans n0
 have m1 : V0.cell? ⟨tb, 1, none⟩ = some (.pointer lp) := ((unhide GV0).cell (p := ⟨tb, 1, none⟩) htl).trans n1
 have m2 : V0.cell? ⟨tb, 2, none⟩ = some (.pointer rp) := ((unhide GV0).cell (p := ⟨tb, 2, none⟩) htl).trans n2
 clear n0 n1 n2 hV0
 replace htl : tb < V0.heap.size := by omega
 have hge : hr ≥ hl := hc
 clear hc
 go_wp2_with fail
 have KEEP : V0.cell? ⟨tb, 0, none⟩ = some (.pointer (some ⟨xb, 0, none⟩)) ∧ V0.cell? ⟨tb, 1, none⟩ = some (.pointer lp) ∧ V0.cell? ⟨tb, 2, none⟩ = some (.pointer rp) := ⟨m0, m1, m2⟩
 refine wp_region_noPanic ?_
 refine wp_region_held_drew (S := (fun w' => w'.cell? ⟨tb, 0, none⟩ = some (.pointer (some ⟨xb, 0, none⟩)) ∧ w'.cell? ⟨tb, 1, none⟩ = some (.pointer lp) ∧ w'.cell? ⟨tb, 2, none⟩ = some (.pointer rp))) (by kernel_rfl) ?_ (fun hHeld => ?_)
 ·exact KEEP
 refine wpAnyH_take (i := 0) (oi := { dst := some 19, op := Op.move (Operand.tmp 0), type := 104, pos := "tree.go:82", after := #[], guard := none }) (v := ?_) rfl (by kernel_rfl) (by kernel_rfl) (by kernel_rfl) (fun _ _ _ h => h) (Or.inl ⟨by rfl, ?_⟩) hHeld ?_
 rotate_left
 ·(intro w' hSw; (try dsimp only at hSw); go_simp; try with_reducible rfl)
 try simp only [Act.put, List.setIfInBounds_toArray, List.set_cons_zero, List.set_cons_succ]
 refine wpAnyH_take (i := 1) (oi := { dst := some 20, op := Op.move (Operand.tmp 1), type := 67, pos := "tree.go:82", after := #[], guard := none }) (v := ?_) rfl (by kernel_rfl) (by kernel_rfl) (by kernel_rfl) (fun _ _ _ h => h) (Or.inl ⟨by rfl, ?_⟩) hHeld ?_
 rotate_left
 ·(intro w' hSw; (try dsimp only at hSw); go_simp; try with_reducible rfl)
 try simp only [Act.put, List.setIfInBounds_toArray, List.set_cons_zero, List.set_cons_succ]
 refine wpAnyH_take (i := 2) (oi := { dst := some 21, op := Op.move (Operand.tmp 2), type := 104, pos := "tree.go:82", after := #[], guard := none }) (v := ?_) rfl (by kernel_rfl) (by kernel_rfl) (by kernel_rfl) (fun _ _ _ h => h) (Or.inl ⟨by rfl, ?_⟩) hHeld ?_
 rotate_left
 ·(intro w' hSw; (try dsimp only at hSw); go_simp; try with_reducible rfl)
 try simp only [Act.put, List.setIfInBounds_toArray, List.set_cons_zero, List.set_cons_succ]
 refine wpAnyH_take (i := 3) (oi := { dst := some 22, op := Op.nilCheck (Operand.tmp 21), type := 0, pos := "tree.go:82", after := #[{ on := 2, ground := Ground.data }], guard := none }) (v := ?_) rfl (by kernel_rfl) (by kernel_rfl) (by kernel_rfl) (fun _ _ _ h => h) (Or.inl ⟨by rfl, ?_⟩) hHeld ?_
 rotate_left
 ·(intro w' hSw; (try dsimp only at hSw); go_simp; try with_reducible rfl)
 try simp only [Act.put, List.setIfInBounds_toArray, List.set_cons_zero, List.set_cons_succ]
 refine wpAnyH_take (i := 4) (oi := { dst := some 23, op := Op.fieldAddr 131 (Operand.tmp 22) 1, type := 0, pos := "tree.go:82", after := #[{ on := 3, ground := Ground.data }], guard := none }) (v := ?_) rfl (by kernel_rfl) (by kernel_rfl) (by kernel_rfl) (fun _ _ _ h => h) (Or.inl ⟨by rfl, ?_⟩) hHeld ?_
 rotate_left
 ·(intro w' hSw; (try dsimp only at hSw); go_simp; try with_reducible rfl)
 try simp only [Act.put, List.setIfInBounds_toArray, List.set_cons_zero, List.set_cons_succ]
 refine wpAnyH_take (i := 5) (oi := { dst := some 24, op := Op.load 104 (Operand.tmp 23), type := 104, pos := "tree.go:82", after := #[{ on := 4, ground := Ground.data }], guard := none }) (v := ?_) rfl (by kernel_rfl) (by kernel_rfl) (by kernel_rfl) (fun _ _ _ h => h) (Or.inl ⟨by rfl, ?_⟩) hHeld ?_
 rotate_left
 ·(intro w' hSw; (try dsimp only at hSw); go_simp; try with_reducible rfl)
 try simp only [Act.put, List.setIfInBounds_toArray, List.set_cons_zero, List.set_cons_succ]
 refine wpAnyH_take (i := 7) (oi := { dst := some 26, op := Op.move (Operand.tmp 2), type := 104, pos := "tree.go:82", after := #[], guard := none }) (v := ?_) rfl (by kernel_rfl) (by kernel_rfl) (by kernel_rfl) (fun _ _ _ h => h) (Or.inl ⟨by rfl, ?_⟩) hHeld ?_
 rotate_left
 ·(intro w' hSw; (try dsimp only at hSw); go_simp; try with_reducible rfl)
 try simp only [Act.put, List.setIfInBounds_toArray, List.set_cons_zero, List.set_cons_succ]
 refine wpAnyH_take (i := 8) (oi := { dst := some 27, op := Op.nilCheck (Operand.tmp 26), type := 0, pos := "tree.go:82", after := #[{ on := 7, ground := Ground.data }], guard := none }) (v := ?_) rfl (by kernel_rfl) (by kernel_rfl) (by kernel_rfl) (fun _ _ _ h => h) (Or.inl ⟨by rfl, ?_⟩) hHeld ?_
 rotate_left
 ·(intro w' hSw; (try dsimp only at hSw); go_simp; try with_reducible rfl)
 try simp only [Act.put, List.setIfInBounds_toArray, List.set_cons_zero, List.set_cons_succ]
 refine wpAnyH_take (i := 9) (oi := { dst := some 28, op := Op.fieldAddr 131 (Operand.tmp 27) 0, type := 0, pos := "tree.go:82", after := #[{ on := 8, ground := Ground.data }], guard := none }) (v := ?_) rfl (by kernel_rfl) (by kernel_rfl) (by kernel_rfl) (fun _ _ _ h => h) (Or.inl ⟨by rfl, ?_⟩) hHeld ?_
 rotate_left
 ·(intro w' hSw; (try dsimp only at hSw); go_simp; try with_reducible rfl)
 try simp only [Act.put, List.setIfInBounds_toArray, List.set_cons_zero, List.set_cons_succ]
 refine wpAnyH_take (i := 10) (oi := { dst := some 29, op := Op.load 67 (Operand.tmp 28), type := 67, pos := "tree.go:82", after := #[{ on := 9, ground := Ground.data }], guard := none }) (v := ?_) rfl (by kernel_rfl) (by kernel_rfl) (by kernel_rfl) (fun _ _ _ h => h) (Or.inl ⟨by rfl, ?_⟩) hHeld ?_
 rotate_left
 ·(intro w' hSw; (try dsimp only at hSw); go_simp; try with_reducible rfl)
 try simp only [Act.put, List.setIfInBounds_toArray, List.set_cons_zero, List.set_cons_succ]
 refine wpAnyH_take (i := 11) (oi := { dst := some 30, op := Op.move (Operand.tmp 2), type := 104, pos := "tree.go:82", after := #[], guard := none }) (v := ?_) rfl (by kernel_rfl) (by kernel_rfl) (by kernel_rfl) (fun _ _ _ h => h) (Or.inl ⟨by rfl, ?_⟩) hHeld ?_
 rotate_left
 ·(intro w' hSw; (try dsimp only at hSw); go_simp; try with_reducible rfl)
 try simp only [Act.put, List.setIfInBounds_toArray, List.set_cons_zero, List.set_cons_succ]
 refine wpAnyH_take (i := 12) (oi := { dst := some 31, op := Op.nilCheck (Operand.tmp 30), type := 0, pos := "tree.go:82", after := #[{ on := 11, ground := Ground.data }], guard := none }) (v := ?_) rfl (by kernel_rfl) (by kernel_rfl) (by kernel_rfl) (fun _ _ _ h => h) (Or.inl ⟨by rfl, ?_⟩) hHeld ?_
 rotate_left
 ·(intro w' hSw; (try dsimp only at hSw); go_simp; try with_reducible rfl)
 try simp only [Act.put, List.setIfInBounds_toArray, List.set_cons_zero, List.set_cons_succ]
 refine wpAnyH_take (i := 13) (oi := { dst := some 32, op := Op.fieldAddr 131 (Operand.tmp 31) 2, type := 0, pos := "tree.go:82", after := #[{ on := 12, ground := Ground.data }], guard := none }) (v := ?_) rfl (by kernel_rfl) (by kernel_rfl) (by kernel_rfl) (fun _ _ _ h => h) (Or.inl ⟨by rfl, ?_⟩) hHeld ?_
 rotate_left
 ·(intro w' hSw; (try dsimp only at hSw); go_simp; try with_reducible rfl)
 try simp only [Act.put, List.setIfInBounds_toArray, List.set_cons_zero, List.set_cons_succ]
 refine wpAnyH_take (i := 14) (oi := { dst := some 33, op := Op.load 104 (Operand.tmp 32), type := 104, pos := "tree.go:82", after := #[{ on := 13, ground := Ground.data }], guard := none }) (v := ?_) rfl (by kernel_rfl) (by kernel_rfl) (by kernel_rfl) (fun _ _ _ h => h) (Or.inl ⟨by rfl, ?_⟩) hHeld ?_
 rotate_left
 ·(intro w' hSw; (try dsimp only at hSw); go_simp; try with_reducible rfl)
 try simp only [Act.put, List.setIfInBounds_toArray, List.set_cons_zero, List.set_cons_succ]
 refine wpAnyH_ready (rs := [6]) (by kernel_rfl) (by simp) ?_
 refine AllReadyH.cons (o := { dst := some 25, op := Op.call { callee := Callee.value (Operand.func 65), args := #[Operand.tmp 19, Operand.tmp 20, Operand.tmp 24], argTypes := #[104, 67, 104] }, type := 104, pos := "tree.go:82", after := #[{ on := 0, ground := Ground.data }, { on := 1, ground := Ground.data }, { on := 5, ground := Ground.data }], guard := none }) rfl (fun K hK => ?_) AllReadyH.nil
 have hHold := hHeld
 clear hHeld
 go_simp
 have hcl := grownC (HX.out V0.drew (unhide GV0).drew).2.2.2.2 (HX.out V0.drew (unhide GV0).drew).2.2.1 eb pl (HX.out V0.drew (unhide GV0).drew).2.1 (by omega)
 refine hcl.mono ?_
 clear hcl
 rintro e V1 ⟨q1, i1, rfl, hq1, gV1, t1⟩
 have sV1 : V0.heap.size ≤ V1.heap.size := gV1.size
 have GV1 : Hid (Below W.heap.size W V1) := (unhide GV0).drew.trans (gV1.mono (by have := (unhide GV0).size; show W.heap.size ≤ V0.heap.size; omega))
 have kc : ∀ k o, k < V0.heap.size → V1.cell? ⟨k, o, none⟩ = V0.cell? ⟨k, o, none⟩ := fun k o hk => World.cell?_of_block (a := ⟨k, o, none⟩) (w := V0) (gV1.block k hk)
 have KEEP : V1.cell? ⟨tb, 0, none⟩ = some (.pointer (some ⟨xb, 0, none⟩)) ∧ V1.cell? ⟨tb, 1, none⟩ = some (.pointer lp) ∧ V1.cell? ⟨tb, 2, none⟩ = some (.pointer rp) := ⟨(kc _ _ htl).trans KEEP.1, (kc _ _ htl).trans KEEP.2.1, (kc _ _ htl).trans KEEP.2.2⟩
 have htl : tb < V1.heap.size := Nat.lt_of_lt_of_le htl sV1
 clear kc
 go_wp2_with fail
 refine hK.out _ _ ?_ (fun hHeld => ?_)
 ·((try dsimp only); exact KEEP)
 clear hK K hHold
 try simp only [Act.put, List.setIfInBounds_toArray, List.set_cons_zero, List.set_cons_succ]
 refine wpAnyH_ready (rs := [15]) (by kernel_rfl) (by simp) ?_
 refine AllReadyH.cons (o := { dst := some 34, op := Op.call { callee := Callee.value (Operand.func 65), args := #[Operand.tmp 25, Operand.tmp 29, Operand.tmp 33], argTypes := #[104, 67, 104] }, type := 104, pos := "tree.go:82", after := #[{ on := 6, ground := Ground.data }, { on := 10, ground := Ground.data }, { on := 14, ground := Ground.data }, { on := 6, ground := Ground.chain }], guard := none }) rfl (fun K hK => ?_) AllReadyH.nil
 have hHold := hHeld
 clear hHeld
 go_simp
 have hcl := grownC t1 (HX.out V1 (unhide GV1)).2.2.2.1 xb xl (HX.out V1 (unhide GV1)).1 (by simp only [List.length_append, List.length_cons]; omega)
 refine hcl.mono ?_
 clear hcl
 rintro e V2 ⟨q2, i2, rfl, hq2, gV2, t2⟩
 have sV2 : V1.heap.size ≤ V2.heap.size := gV2.size
 have GV2 : Hid (Below W.heap.size W V2) := (unhide GV1).trans (gV2.mono (by have := (unhide GV1).size; show W.heap.size ≤ V1.heap.size; omega))
 have kc : ∀ k o, k < V1.heap.size → V2.cell? ⟨k, o, none⟩ = V1.cell? ⟨k, o, none⟩ := fun k o hk => World.cell?_of_block (a := ⟨k, o, none⟩) (w := V1) (gV2.block k hk)
 have KEEP : V2.cell? ⟨tb, 0, none⟩ = some (.pointer (some ⟨xb, 0, none⟩)) ∧ V2.cell? ⟨tb, 1, none⟩ = some (.pointer lp) ∧ V2.cell? ⟨tb, 2, none⟩ = some (.pointer rp) := ⟨(kc _ _ htl).trans KEEP.1, (kc _ _ htl).trans KEEP.2.1, (kc _ _ htl).trans KEEP.2.2⟩
 have htl : tb < V2.heap.size := Nat.lt_of_lt_of_le htl sV2
 clear kc
 go_wp2_with fail
 refine hK.out _ _ ?_ (fun hHeld => ?_)
 ·((try dsimp only); exact KEEP)
 clear hK K hHold
 try simp only [Act.put, List.setIfInBounds_toArray, List.set_cons_zero, List.set_cons_succ]
 refine wpAnyH_take (i := 16) (oi := { dst := some 6, op := Op.assign (Operand.tmp 34), type := 104, pos := "tree.go:82", after := #[{ on := 15, ground := Ground.data }, { on := 15, ground := Ground.chain }, { on := 0, ground := Ground.phase }, { on := 1, ground := Ground.phase }, { on := 2, ground := Ground.phase }, { on := 3, ground := Ground.phase }, { on := 4, ground := Ground.phase }, { on := 5, ground := Ground.phase }, { on := 6, ground := Ground.phase }, { on := 7, ground := Ground.phase }, { on := 8, ground := Ground.phase }, { on := 9, ground := Ground.phase }, { on := 10, ground := Ground.phase }, { on := 11, ground := Ground.phase }, { on := 12, ground := Ground.phase }, { on := 13, ground := Ground.phase }, { on := 14, ground := Ground.phase }, { on := 15, ground := Ground.phase }], guard := none }) (v := ?_) rfl (by kernel_rfl) (by kernel_rfl) (by kernel_rfl) (fun _ _ _ h => h) (Or.inl ⟨by rfl, ?_⟩) hHeld ?_
 rotate_left
 ·(intro w' hSw; (try dsimp only at hSw); go_simp; try with_reducible rfl)
 try simp only [Act.put, List.setIfInBounds_toArray, List.set_cons_zero, List.set_cons_succ]
 refine wpAnyH_done (by kernel_rfl) ?_ _
 refine NoPanic.normal ?_
 clear hHeld KEEP
 have HF : Hid (Below W.heap.size W V2 ∧ W.heap.size ≤ q2 ∧ TrL V2 (some ⟨q2, 0, none⟩) (Lo ++ (eb, pl) :: (Ll ++ (xb, xl) :: Lr)) i2) := ⟨unhide GV2, by omega, by have h := t2; rw [show (Lo ++ (eb, pl) :: Ll) ++ (xb, xl) :: Lr = Lo ++ (eb, pl) :: (Ll ++ (xb, xl) :: Lr) by simp] at h; exact h⟩
 clear t1 t2 gV1 gV2 GV0 GV1 GV2 HX
 go_wp2_with fail
 all_goals go_ret
 all_goals exact ⟨q2, i2, rfl, HF.out.2.1, HF.out.1, HF.out.2.2⟩
theorem leaningLeft_b {W : World} {tb xb eb ub yb : Nat} {xl pl ht yl : Int} {np ulp urp op : Option Addr} {Ln Lul Lur Lo : List (Nat × Int)} {hn hul hur ho : Int} (hb : W.heap[tb]? = some (.cells #[.pointer (some ⟨xb, 0, none⟩), .pointer np, .pointer (some ⟨ub, 0, none⟩), .int .i64 ht] 131 (0, 0))) (hu : W.heap[ub]? = some (.cells #[.pointer (some ⟨yb, 0, none⟩), .pointer ulp, .pointer urp, .int .i64 (max hul hur + 1)] 131 (0, 0))) (hx : W.cell? ⟨xb, 0, none⟩ = some (.int .i64 xl)) (hy : W.cell? ⟨yb, 0, none⟩ = some (.int .i64 yl)) (he : W.cell? ⟨eb, 0, none⟩ = some (.int .i64 pl)) (h1 : TrL W np Ln hn) (h2 : TrL W ulp Lul hul) (h4 : TrL W urp Lur hur) (h3 : TrL W op Lo ho) (hnn : Ln.length + Lul.length + Lur.length + Lo.length < 4611686018427387900) (hc : hn < max hul hur + 1) :
  TreeC W 88 #[.pointer (some ⟨tb, 0, none⟩), .pointer (some ⟨eb, 0, none⟩), .pointer op] ((Ln ++ (xb, xl) :: (Lul ++ (yb, yl) :: Lur)) ++ (eb, pl) :: Lo) := by
 unfold TreeC
 have htl := cell_in (node_cells hb).1
 have hul' := cell_in (node_cells hu).1
 have hxl := cell_in hx
 have hyl := cell_in hy
 have hel := cell_in he
 have GW : Hid (Below W.heap.size W W) := Below.refl _ _
 have HX : Hid (∀ V, Below W.heap.size W V → V.cell? ⟨xb, 0, none⟩ = some (.int .i64 xl) ∧ V.cell? ⟨eb, 0, none⟩ = some (.int .i64 pl) ∧ V.cell? ⟨yb, 0, none⟩ = some (.int .i64 yl) ∧ TrL V np Ln hn ∧ TrL V ulp Lul hul ∧ TrL V urp Lur hur ∧ TrL V op Lo ho) := fun V hV => ⟨(hV.cell (p := ⟨xb, 0, none⟩) hxl).trans hx, (hV.cell (p := ⟨eb, 0, none⟩) hel).trans he, (hV.cell (p := ⟨yb, 0, none⟩) hyl).trans hy, h1.below hV, h2.below hV, h4.below hV, h3.below hV⟩
 obtain ⟨n0, n1, n2, -⟩ := node_cells hb
 obtain ⟨u0, u1, u2, -⟩ := node_cells hu
 have HTN : Hid (∀ V, Below W.heap.size W V → Calls Tryz.prog 87 #[.pointer np] V fun e V' => e = .returned (.int .i64 hn) ∧ V' = V) := fun V hV => tall_any (h1.below hV).tall
 have HTF : Hid (∀ V, Below W.heap.size W V → Calls Tryz.prog 87 #[.pointer (some ⟨ub, 0, none⟩)] V fun e V' => e = .returned (.int .i64 (max hul hur + 1)) ∧ V' = V) := fun V hV => tall_any ((h2.node h4 hu hy).below hV).tall
 generalize max hul hur + 1 = uh at *
 clear hb hu hx hy he h1 h2 h3 h4
 go_enter Tryz.func88, Tryz.ntmps88
 go_wp2_with fail
 have KEEP : W.cell? ⟨tb, 0, none⟩ = some (.pointer (some ⟨xb, 0, none⟩)) ∧ W.cell? ⟨tb, 1, none⟩ = some (.pointer np) ∧ W.cell? ⟨tb, 2, none⟩ = some (.pointer (some ⟨ub, 0, none⟩)) := ⟨n0, n1, n2⟩
 refine wp_region_noPanic ?_
 refine wp_region_held_drew (S := (fun w' => w'.cell? ⟨tb, 0, none⟩ = some (.pointer (some ⟨xb, 0, none⟩)) ∧ w'.cell? ⟨tb, 1, none⟩ = some (.pointer np) ∧ w'.cell? ⟨tb, 2, none⟩ = some (.pointer (some ⟨ub, 0, none⟩)))) (by kernel_rfl) ?_ (fun hHeld => ?_)
 ·exact KEEP
 refine wpAnyH_take (i := 0) (oi := { dst := some 8, op := Op.move (Operand.tmp 0), type := 104, pos := "tree.go:73", after := #[], guard := none }) (v := ?_) rfl (by kernel_rfl) (by kernel_rfl) (by kernel_rfl) (fun _ _ _ h => h) (Or.inl ⟨by rfl, ?_⟩) hHeld ?_
 rotate_left
 ·(intro w' hSw; (try dsimp only at hSw); go_simp; try with_reducible rfl)
 try simp only [Act.put, List.setIfInBounds_toArray, List.set_cons_zero, List.set_cons_succ]
 refine wpAnyH_take (i := 1) (oi := { dst := some 9, op := Op.nilCheck (Operand.tmp 8), type := 0, pos := "tree.go:73", after := #[{ on := 0, ground := Ground.data }], guard := none }) (v := ?_) rfl (by kernel_rfl) (by kernel_rfl) (by kernel_rfl) (fun _ _ _ h => h) (Or.inl ⟨by rfl, ?_⟩) hHeld ?_
 rotate_left
 ·(intro w' hSw; (try dsimp only at hSw); go_simp; try with_reducible rfl)
 try simp only [Act.put, List.setIfInBounds_toArray, List.set_cons_zero, List.set_cons_succ]
 refine wpAnyH_take (i := 2) (oi := { dst := some 10, op := Op.fieldAddr 131 (Operand.tmp 9) 1, type := 0, pos := "tree.go:73", after := #[{ on := 1, ground := Ground.data }], guard := none }) (v := ?_) rfl (by kernel_rfl) (by kernel_rfl) (by kernel_rfl) (fun _ _ _ h => h) (Or.inl ⟨by rfl, ?_⟩) hHeld ?_
 rotate_left
 ·(intro w' hSw; (try dsimp only at hSw); go_simp; try with_reducible rfl)
 try simp only [Act.put, List.setIfInBounds_toArray, List.set_cons_zero, List.set_cons_succ]
 refine wpAnyH_take (i := 3) (oi := { dst := some 11, op := Op.load 104 (Operand.tmp 10), type := 104, pos := "tree.go:73", after := #[{ on := 2, ground := Ground.data }], guard := none }) (v := ?_) rfl (by kernel_rfl) (by kernel_rfl) (by kernel_rfl) (fun _ _ _ h => h) (Or.inl ⟨by rfl, ?_⟩) hHeld ?_
 rotate_left
 ·(intro w' hSw; (try dsimp only at hSw); go_simp; try with_reducible rfl)
 try simp only [Act.put, List.setIfInBounds_toArray, List.set_cons_zero, List.set_cons_succ]
 refine wpAnyH_take (i := 5) (oi := { dst := some 13, op := Op.move (Operand.tmp 0), type := 104, pos := "tree.go:73", after := #[], guard := none }) (v := ?_) rfl (by kernel_rfl) (by kernel_rfl) (by kernel_rfl) (fun _ _ _ h => h) (Or.inl ⟨by rfl, ?_⟩) hHeld ?_
 rotate_left
 ·(intro w' hSw; (try dsimp only at hSw); go_simp; try with_reducible rfl)
 try simp only [Act.put, List.setIfInBounds_toArray, List.set_cons_zero, List.set_cons_succ]
 refine wpAnyH_take (i := 6) (oi := { dst := some 14, op := Op.nilCheck (Operand.tmp 13), type := 0, pos := "tree.go:73", after := #[{ on := 5, ground := Ground.data }], guard := none }) (v := ?_) rfl (by kernel_rfl) (by kernel_rfl) (by kernel_rfl) (fun _ _ _ h => h) (Or.inl ⟨by rfl, ?_⟩) hHeld ?_
 rotate_left
 ·(intro w' hSw; (try dsimp only at hSw); go_simp; try with_reducible rfl)
 try simp only [Act.put, List.setIfInBounds_toArray, List.set_cons_zero, List.set_cons_succ]
 refine wpAnyH_take (i := 7) (oi := { dst := some 15, op := Op.fieldAddr 131 (Operand.tmp 14) 2, type := 0, pos := "tree.go:73", after := #[{ on := 6, ground := Ground.data }], guard := none }) (v := ?_) rfl (by kernel_rfl) (by kernel_rfl) (by kernel_rfl) (fun _ _ _ h => h) (Or.inl ⟨by rfl, ?_⟩) hHeld ?_
 rotate_left
 ·(intro w' hSw; (try dsimp only at hSw); go_simp; try with_reducible rfl)
 try simp only [Act.put, List.setIfInBounds_toArray, List.set_cons_zero, List.set_cons_succ]
 refine wpAnyH_take (i := 8) (oi := { dst := some 16, op := Op.load 104 (Operand.tmp 15), type := 104, pos := "tree.go:73", after := #[{ on := 7, ground := Ground.data }], guard := none }) (v := ?_) rfl (by kernel_rfl) (by kernel_rfl) (by kernel_rfl) (fun _ _ _ h => h) (Or.inl ⟨by rfl, ?_⟩) hHeld ?_
 rotate_left
 ·(intro w' hSw; (try dsimp only at hSw); go_simp; try with_reducible rfl)
 try simp only [Act.put, List.setIfInBounds_toArray, List.set_cons_zero, List.set_cons_succ]
 refine wpAnyH_ready (rs := [4]) (by kernel_rfl) (by simp) ?_
 refine AllReadyH.cons (o := { dst := some 12, op := Op.call { callee := Callee.value (Operand.func 87), args := #[Operand.tmp 11], argTypes := #[104] }, type := 3, pos := "tree.go:73", after := #[{ on := 3, ground := Ground.data }], guard := none }) rfl (fun K hK => ?_) AllReadyH.nil
 have hHold := hHeld
 clear hHeld
 go_simp
 refine (HTN.out W.drew (unhide GW).drew).mono ?_
 rintro e V1 ⟨rfl, rfl⟩
 go_wp2_with fail
 refine hK.out _ _ ?_ (fun hHeld => ?_)
 ·((try dsimp only); exact KEEP)
 clear hK K hHold
 try simp only [Act.put, List.setIfInBounds_toArray, List.set_cons_zero, List.set_cons_succ]
 refine wpAnyH_ready (rs := [9]) (by kernel_rfl) (by simp) ?_
 refine AllReadyH.cons (o := { dst := some 17, op := Op.call { callee := Callee.value (Operand.func 87), args := #[Operand.tmp 16], argTypes := #[104] }, type := 3, pos := "tree.go:73", after := #[{ on := 8, ground := Ground.data }, { on := 4, ground := Ground.chain }], guard := none }) rfl (fun K hK => ?_) AllReadyH.nil
 have hHold := hHeld
 clear hHeld
 go_simp
 refine (HTF.out W.drew (unhide GW).drew).mono ?_
 rintro e V1 ⟨rfl, rfl⟩
 go_wp2_with fail
 refine hK.out _ _ ?_ (fun hHeld => ?_)
 ·((try dsimp only); exact KEEP)
 clear hK K hHold
 try simp only [Act.put, List.setIfInBounds_toArray, List.set_cons_zero, List.set_cons_succ]
 refine wpAnyH_take (i := 10) (oi := { dst := some 18, op := Op.binOp BinOp.geq 3 (Operand.tmp 12) (Operand.tmp 17) 3, type := 4, pos := "tree.go:73", after := #[{ on := 4, ground := Ground.data }, { on := 9, ground := Ground.data }], guard := none }) (v := ?_) rfl (by kernel_rfl) (by kernel_rfl) (by kernel_rfl) (fun _ _ _ h => h) (Or.inl ⟨by rfl, ?_⟩) hHeld ?_
 rotate_left
 ·(intro w' hSw; (try dsimp only at hSw); go_simp; try with_reducible rfl)
 try simp only [Act.put, List.setIfInBounds_toArray, List.set_cons_zero, List.set_cons_succ]
 refine wpAnyH_done (by kernel_rfl) ?_ _
 refine NoPanic.normal ?_
 clear hHeld KEEP HTN HTF
 have WD : Hid (Below W.heap.size W W.drew) := (Below.refl _ W).drew
 obtain ⟨V0, hV0⟩ : ∃ V0, W.drew = V0 := ⟨_, rfl⟩
 have s0 : V0.heap.size = W.heap.size := by rw [← hV0]; rfl
 rw [hV0] at WD
 have GV0 : Hid (Below W.heap.size W V0) := WD.out
 rw [hV0]
 clear WD
 have m0 : V0.cell? ⟨tb, 0, none⟩ = some (.pointer (some ⟨xb, 0, none⟩)) := ((unhide GV0).cell (p := ⟨tb, 0, none⟩) htl).trans n0
 have m1 : V0.cell? ⟨tb, 1, none⟩ = some (.pointer np) := ((unhide GV0).cell (p := ⟨tb, 1, none⟩) htl).trans n1
 have m2 : V0.cell? ⟨tb, 2, none⟩ = some (.pointer (some ⟨ub, 0, none⟩)) := ((unhide GV0).cell (p := ⟨tb, 2, none⟩) htl).trans n2
 have w0 : V0.cell? ⟨ub, 0, none⟩ = some (.pointer (some ⟨yb, 0, none⟩)) := ((unhide GV0).cell (p := ⟨ub, 0, none⟩) hul').trans u0
 have w1 : V0.cell? ⟨ub, 1, none⟩ = some (.pointer ulp) := ((unhide GV0).cell (p := ⟨ub, 1, none⟩) hul').trans u1
 have w2 : V0.cell? ⟨ub, 2, none⟩ = some (.pointer urp) := ((unhide GV0).cell (p := ⟨ub, 2, none⟩) hul').trans u2
 clear n0 n1 n2 u0 u1 u2 hV0
 replace htl : tb < V0.heap.size := by omega
 replace hul' : ub < V0.heap.size := by omega
 have hge : ¬ (hn ≥ uh) := by omega
 clear hc
 go_wp2_with fail
 have KEEP : V0.cell? ⟨tb, 0, none⟩ = some (.pointer (some ⟨xb, 0, none⟩)) ∧ V0.cell? ⟨tb, 1, none⟩ = some (.pointer np) ∧ V0.cell? ⟨tb, 2, none⟩ = some (.pointer (some ⟨ub, 0, none⟩)) ∧ V0.cell? ⟨ub, 0, none⟩ = some (.pointer (some ⟨yb, 0, none⟩)) ∧ V0.cell? ⟨ub, 1, none⟩ = some (.pointer ulp) ∧ V0.cell? ⟨ub, 2, none⟩ = some (.pointer urp) := ⟨m0, m1, m2, w0, w1, w2⟩
 refine wp_region_noPanic ?_
 refine wp_region_held_drew (S := (fun w' => w'.cell? ⟨tb, 0, none⟩ = some (.pointer (some ⟨xb, 0, none⟩)) ∧ w'.cell? ⟨tb, 1, none⟩ = some (.pointer np) ∧ w'.cell? ⟨tb, 2, none⟩ = some (.pointer (some ⟨ub, 0, none⟩)) ∧ w'.cell? ⟨ub, 0, none⟩ = some (.pointer (some ⟨yb, 0, none⟩)) ∧ w'.cell? ⟨ub, 1, none⟩ = some (.pointer ulp) ∧ w'.cell? ⟨ub, 2, none⟩ = some (.pointer urp))) (by kernel_rfl) ?_ (fun hHeld => ?_)
 ·exact KEEP
 refine wpAnyH_take (i := 0) (oi := { dst := some 39, op := Op.move (Operand.tmp 0), type := 104, pos := "tree.go:77", after := #[], guard := none }) (v := ?_) rfl (by kernel_rfl) (by kernel_rfl) (by kernel_rfl) (fun _ _ _ h => h) (Or.inl ⟨by rfl, ?_⟩) hHeld ?_
 rotate_left
 ·(intro w' hSw; (try dsimp only at hSw); go_simp; try with_reducible rfl)
 try simp only [Act.put, List.setIfInBounds_toArray, List.set_cons_zero, List.set_cons_succ]
 refine wpAnyH_take (i := 1) (oi := { dst := some 40, op := Op.nilCheck (Operand.tmp 39), type := 0, pos := "tree.go:77", after := #[{ on := 0, ground := Ground.data }], guard := none }) (v := ?_) rfl (by kernel_rfl) (by kernel_rfl) (by kernel_rfl) (fun _ _ _ h => h) (Or.inl ⟨by rfl, ?_⟩) hHeld ?_
 rotate_left
 ·(intro w' hSw; (try dsimp only at hSw); go_simp; try with_reducible rfl)
 try simp only [Act.put, List.setIfInBounds_toArray, List.set_cons_zero, List.set_cons_succ]
 refine wpAnyH_take (i := 2) (oi := { dst := some 41, op := Op.fieldAddr 131 (Operand.tmp 40) 1, type := 0, pos := "tree.go:77", after := #[{ on := 1, ground := Ground.data }], guard := none }) (v := ?_) rfl (by kernel_rfl) (by kernel_rfl) (by kernel_rfl) (fun _ _ _ h => h) (Or.inl ⟨by rfl, ?_⟩) hHeld ?_
 rotate_left
 ·(intro w' hSw; (try dsimp only at hSw); go_simp; try with_reducible rfl)
 try simp only [Act.put, List.setIfInBounds_toArray, List.set_cons_zero, List.set_cons_succ]
 refine wpAnyH_take (i := 3) (oi := { dst := some 42, op := Op.load 104 (Operand.tmp 41), type := 104, pos := "tree.go:77", after := #[{ on := 2, ground := Ground.data }], guard := none }) (v := ?_) rfl (by kernel_rfl) (by kernel_rfl) (by kernel_rfl) (fun _ _ _ h => h) (Or.inl ⟨by rfl, ?_⟩) hHeld ?_
 rotate_left
 ·(intro w' hSw; (try dsimp only at hSw); go_simp; try with_reducible rfl)
 try simp only [Act.put, List.setIfInBounds_toArray, List.set_cons_zero, List.set_cons_succ]
 refine wpAnyH_take (i := 4) (oi := { dst := some 43, op := Op.move (Operand.tmp 0), type := 104, pos := "tree.go:77", after := #[], guard := none }) (v := ?_) rfl (by kernel_rfl) (by kernel_rfl) (by kernel_rfl) (fun _ _ _ h => h) (Or.inl ⟨by rfl, ?_⟩) hHeld ?_
 rotate_left
 ·(intro w' hSw; (try dsimp only at hSw); go_simp; try with_reducible rfl)
 try simp only [Act.put, List.setIfInBounds_toArray, List.set_cons_zero, List.set_cons_succ]
 refine wpAnyH_take (i := 5) (oi := { dst := some 44, op := Op.nilCheck (Operand.tmp 43), type := 0, pos := "tree.go:77", after := #[{ on := 4, ground := Ground.data }], guard := none }) (v := ?_) rfl (by kernel_rfl) (by kernel_rfl) (by kernel_rfl) (fun _ _ _ h => h) (Or.inl ⟨by rfl, ?_⟩) hHeld ?_
 rotate_left
 ·(intro w' hSw; (try dsimp only at hSw); go_simp; try with_reducible rfl)
 try simp only [Act.put, List.setIfInBounds_toArray, List.set_cons_zero, List.set_cons_succ]
 refine wpAnyH_take (i := 6) (oi := { dst := some 45, op := Op.fieldAddr 131 (Operand.tmp 44) 0, type := 0, pos := "tree.go:77", after := #[{ on := 5, ground := Ground.data }], guard := none }) (v := ?_) rfl (by kernel_rfl) (by kernel_rfl) (by kernel_rfl) (fun _ _ _ h => h) (Or.inl ⟨by rfl, ?_⟩) hHeld ?_
 rotate_left
 ·(intro w' hSw; (try dsimp only at hSw); go_simp; try with_reducible rfl)
 try simp only [Act.put, List.setIfInBounds_toArray, List.set_cons_zero, List.set_cons_succ]
 refine wpAnyH_take (i := 7) (oi := { dst := some 46, op := Op.load 67 (Operand.tmp 45), type := 67, pos := "tree.go:77", after := #[{ on := 6, ground := Ground.data }], guard := none }) (v := ?_) rfl (by kernel_rfl) (by kernel_rfl) (by kernel_rfl) (fun _ _ _ h => h) (Or.inl ⟨by rfl, ?_⟩) hHeld ?_
 rotate_left
 ·(intro w' hSw; (try dsimp only at hSw); go_simp; try with_reducible rfl)
 try simp only [Act.put, List.setIfInBounds_toArray, List.set_cons_zero, List.set_cons_succ]
 refine wpAnyH_take (i := 8) (oi := { dst := some 47, op := Op.move (Operand.tmp 7), type := 104, pos := "tree.go:77", after := #[], guard := none }) (v := ?_) rfl (by kernel_rfl) (by kernel_rfl) (by kernel_rfl) (fun _ _ _ h => h) (Or.inl ⟨by rfl, ?_⟩) hHeld ?_
 rotate_left
 ·(intro w' hSw; (try dsimp only at hSw); go_simp; try with_reducible rfl)
 try simp only [Act.put, List.setIfInBounds_toArray, List.set_cons_zero, List.set_cons_succ]
 refine wpAnyH_take (i := 9) (oi := { dst := some 48, op := Op.nilCheck (Operand.tmp 47), type := 0, pos := "tree.go:77", after := #[{ on := 8, ground := Ground.data }], guard := none }) (v := ?_) rfl (by kernel_rfl) (by kernel_rfl) (by kernel_rfl) (fun _ _ _ h => h) (Or.inl ⟨by rfl, ?_⟩) hHeld ?_
 rotate_left
 ·(intro w' hSw; (try dsimp only at hSw); go_simp; try with_reducible rfl)
 try simp only [Act.put, List.setIfInBounds_toArray, List.set_cons_zero, List.set_cons_succ]
 refine wpAnyH_take (i := 10) (oi := { dst := some 49, op := Op.fieldAddr 131 (Operand.tmp 48) 1, type := 0, pos := "tree.go:77", after := #[{ on := 9, ground := Ground.data }], guard := none }) (v := ?_) rfl (by kernel_rfl) (by kernel_rfl) (by kernel_rfl) (fun _ _ _ h => h) (Or.inl ⟨by rfl, ?_⟩) hHeld ?_
 rotate_left
 ·(intro w' hSw; (try dsimp only at hSw); go_simp; try with_reducible rfl)
 try simp only [Act.put, List.setIfInBounds_toArray, List.set_cons_zero, List.set_cons_succ]
 refine wpAnyH_take (i := 11) (oi := { dst := some 50, op := Op.load 104 (Operand.tmp 49), type := 104, pos := "tree.go:77", after := #[{ on := 10, ground := Ground.data }], guard := none }) (v := ?_) rfl (by kernel_rfl) (by kernel_rfl) (by kernel_rfl) (fun _ _ _ h => h) (Or.inl ⟨by rfl, ?_⟩) hHeld ?_
 rotate_left
 ·(intro w' hSw; (try dsimp only at hSw); go_simp; try with_reducible rfl)
 try simp only [Act.put, List.setIfInBounds_toArray, List.set_cons_zero, List.set_cons_succ]
 refine wpAnyH_take (i := 13) (oi := { dst := some 52, op := Op.move (Operand.tmp 7), type := 104, pos := "tree.go:77", after := #[], guard := none }) (v := ?_) rfl (by kernel_rfl) (by kernel_rfl) (by kernel_rfl) (fun _ _ _ h => h) (Or.inl ⟨by rfl, ?_⟩) hHeld ?_
 rotate_left
 ·(intro w' hSw; (try dsimp only at hSw); go_simp; try with_reducible rfl)
 try simp only [Act.put, List.setIfInBounds_toArray, List.set_cons_zero, List.set_cons_succ]
 refine wpAnyH_take (i := 14) (oi := { dst := some 53, op := Op.nilCheck (Operand.tmp 52), type := 0, pos := "tree.go:77", after := #[{ on := 13, ground := Ground.data }], guard := none }) (v := ?_) rfl (by kernel_rfl) (by kernel_rfl) (by kernel_rfl) (fun _ _ _ h => h) (Or.inl ⟨by rfl, ?_⟩) hHeld ?_
 rotate_left
 ·(intro w' hSw; (try dsimp only at hSw); go_simp; try with_reducible rfl)
 try simp only [Act.put, List.setIfInBounds_toArray, List.set_cons_zero, List.set_cons_succ]
 refine wpAnyH_take (i := 15) (oi := { dst := some 54, op := Op.fieldAddr 131 (Operand.tmp 53) 0, type := 0, pos := "tree.go:77", after := #[{ on := 14, ground := Ground.data }], guard := none }) (v := ?_) rfl (by kernel_rfl) (by kernel_rfl) (by kernel_rfl) (fun _ _ _ h => h) (Or.inl ⟨by rfl, ?_⟩) hHeld ?_
 rotate_left
 ·(intro w' hSw; (try dsimp only at hSw); go_simp; try with_reducible rfl)
 try simp only [Act.put, List.setIfInBounds_toArray, List.set_cons_zero, List.set_cons_succ]
 refine wpAnyH_take (i := 16) (oi := { dst := some 55, op := Op.load 67 (Operand.tmp 54), type := 67, pos := "tree.go:77", after := #[{ on := 15, ground := Ground.data }], guard := none }) (v := ?_) rfl (by kernel_rfl) (by kernel_rfl) (by kernel_rfl) (fun _ _ _ h => h) (Or.inl ⟨by rfl, ?_⟩) hHeld ?_
 rotate_left
 ·(intro w' hSw; (try dsimp only at hSw); go_simp; try with_reducible rfl)
 try simp only [Act.put, List.setIfInBounds_toArray, List.set_cons_zero, List.set_cons_succ]
 refine wpAnyH_take (i := 17) (oi := { dst := some 56, op := Op.move (Operand.tmp 7), type := 104, pos := "tree.go:77", after := #[], guard := none }) (v := ?_) rfl (by kernel_rfl) (by kernel_rfl) (by kernel_rfl) (fun _ _ _ h => h) (Or.inl ⟨by rfl, ?_⟩) hHeld ?_
 rotate_left
 ·(intro w' hSw; (try dsimp only at hSw); go_simp; try with_reducible rfl)
 try simp only [Act.put, List.setIfInBounds_toArray, List.set_cons_zero, List.set_cons_succ]
 refine wpAnyH_take (i := 18) (oi := { dst := some 57, op := Op.nilCheck (Operand.tmp 56), type := 0, pos := "tree.go:77", after := #[{ on := 17, ground := Ground.data }], guard := none }) (v := ?_) rfl (by kernel_rfl) (by kernel_rfl) (by kernel_rfl) (fun _ _ _ h => h) (Or.inl ⟨by rfl, ?_⟩) hHeld ?_
 rotate_left
 ·(intro w' hSw; (try dsimp only at hSw); go_simp; try with_reducible rfl)
 try simp only [Act.put, List.setIfInBounds_toArray, List.set_cons_zero, List.set_cons_succ]
 refine wpAnyH_take (i := 19) (oi := { dst := some 58, op := Op.fieldAddr 131 (Operand.tmp 57) 2, type := 0, pos := "tree.go:77", after := #[{ on := 18, ground := Ground.data }], guard := none }) (v := ?_) rfl (by kernel_rfl) (by kernel_rfl) (by kernel_rfl) (fun _ _ _ h => h) (Or.inl ⟨by rfl, ?_⟩) hHeld ?_
 rotate_left
 ·(intro w' hSw; (try dsimp only at hSw); go_simp; try with_reducible rfl)
 try simp only [Act.put, List.setIfInBounds_toArray, List.set_cons_zero, List.set_cons_succ]
 refine wpAnyH_take (i := 20) (oi := { dst := some 59, op := Op.load 104 (Operand.tmp 58), type := 104, pos := "tree.go:77", after := #[{ on := 19, ground := Ground.data }], guard := none }) (v := ?_) rfl (by kernel_rfl) (by kernel_rfl) (by kernel_rfl) (fun _ _ _ h => h) (Or.inl ⟨by rfl, ?_⟩) hHeld ?_
 rotate_left
 ·(intro w' hSw; (try dsimp only at hSw); go_simp; try with_reducible rfl)
 try simp only [Act.put, List.setIfInBounds_toArray, List.set_cons_zero, List.set_cons_succ]
 refine wpAnyH_take (i := 21) (oi := { dst := some 60, op := Op.move (Operand.tmp 1), type := 67, pos := "tree.go:77", after := #[], guard := none }) (v := ?_) rfl (by kernel_rfl) (by kernel_rfl) (by kernel_rfl) (fun _ _ _ h => h) (Or.inl ⟨by rfl, ?_⟩) hHeld ?_
 rotate_left
 ·(intro w' hSw; (try dsimp only at hSw); go_simp; try with_reducible rfl)
 try simp only [Act.put, List.setIfInBounds_toArray, List.set_cons_zero, List.set_cons_succ]
 refine wpAnyH_take (i := 22) (oi := { dst := some 61, op := Op.move (Operand.tmp 2), type := 104, pos := "tree.go:77", after := #[], guard := none }) (v := ?_) rfl (by kernel_rfl) (by kernel_rfl) (by kernel_rfl) (fun _ _ _ h => h) (Or.inl ⟨by rfl, ?_⟩) hHeld ?_
 rotate_left
 ·(intro w' hSw; (try dsimp only at hSw); go_simp; try with_reducible rfl)
 try simp only [Act.put, List.setIfInBounds_toArray, List.set_cons_zero, List.set_cons_succ]
 refine wpAnyH_ready (rs := [12]) (by kernel_rfl) (by simp) ?_
 refine AllReadyH.cons (o := { dst := some 51, op := Op.call { callee := Callee.value (Operand.func 65), args := #[Operand.tmp 42, Operand.tmp 46, Operand.tmp 50], argTypes := #[104, 67, 104] }, type := 104, pos := "tree.go:77", after := #[{ on := 3, ground := Ground.data }, { on := 7, ground := Ground.data }, { on := 11, ground := Ground.data }], guard := none }) rfl (fun K hK => ?_) AllReadyH.nil
 have hHold := hHeld
 clear hHeld
 go_simp
 have hcl := grownC (HX.out V0.drew (unhide GV0).drew).2.2.2.1 (HX.out V0.drew (unhide GV0).drew).2.2.2.2.1 xb xl (HX.out V0.drew (unhide GV0).drew).1 (by omega)
 refine hcl.mono ?_
 clear hcl
 rintro e V1 ⟨q1, i1, rfl, hq1, gV1, t1⟩
 have sV1 : V0.heap.size ≤ V1.heap.size := gV1.size
 have GV1 : Hid (Below W.heap.size W V1) := (unhide GV0).drew.trans (gV1.mono (by have := (unhide GV0).size; show W.heap.size ≤ V0.heap.size; omega))
 have kc : ∀ k o, k < V0.heap.size → V1.cell? ⟨k, o, none⟩ = V0.cell? ⟨k, o, none⟩ := fun k o hk => World.cell?_of_block (a := ⟨k, o, none⟩) (w := V0) (gV1.block k hk)
 have KEEP : V1.cell? ⟨tb, 0, none⟩ = some (.pointer (some ⟨xb, 0, none⟩)) ∧ V1.cell? ⟨tb, 1, none⟩ = some (.pointer np) ∧ V1.cell? ⟨tb, 2, none⟩ = some (.pointer (some ⟨ub, 0, none⟩)) ∧ V1.cell? ⟨ub, 0, none⟩ = some (.pointer (some ⟨yb, 0, none⟩)) ∧ V1.cell? ⟨ub, 1, none⟩ = some (.pointer ulp) ∧ V1.cell? ⟨ub, 2, none⟩ = some (.pointer urp) := ⟨(kc _ _ htl).trans KEEP.1, (kc _ _ htl).trans KEEP.2.1, (kc _ _ htl).trans KEEP.2.2.1, (kc _ _ hul').trans KEEP.2.2.2.1, (kc _ _ hul').trans KEEP.2.2.2.2.1, (kc _ _ hul').trans KEEP.2.2.2.2.2⟩
 have htl : tb < V1.heap.size := Nat.lt_of_lt_of_le htl sV1
 have hul' : ub < V1.heap.size := Nat.lt_of_lt_of_le hul' sV1
 clear kc
 go_wp2_with fail
 refine hK.out _ _ ?_ (fun hHeld => ?_)
 ·((try dsimp only); exact KEEP)
 clear hK K hHold
 try simp only [Act.put, List.setIfInBounds_toArray, List.set_cons_zero, List.set_cons_succ]
 refine wpAnyH_ready (rs := [23]) (by kernel_rfl) (by simp) ?_
 refine AllReadyH.cons (o := { dst := some 62, op := Op.call { callee := Callee.value (Operand.func 65), args := #[Operand.tmp 59, Operand.tmp 60, Operand.tmp 61], argTypes := #[104, 67, 104] }, type := 104, pos := "tree.go:77", after := #[{ on := 20, ground := Ground.data }, { on := 21, ground := Ground.data }, { on := 22, ground := Ground.data }, { on := 12, ground := Ground.chain }], guard := none }) rfl (fun K hK => ?_) AllReadyH.nil
 have hHold := hHeld
 clear hHeld
 go_simp
 have hcl := grownC (HX.out V1 (unhide GV1)).2.2.2.2.2.1 (HX.out V1 (unhide GV1)).2.2.2.2.2.2 eb pl (HX.out V1 (unhide GV1)).2.1 (by omega)
 refine hcl.mono ?_
 clear hcl
 rintro e V2 ⟨q2, i2, rfl, hq2, gV2, t2⟩
 have sV2 : V1.heap.size ≤ V2.heap.size := gV2.size
 have GV2 : Hid (Below W.heap.size W V2) := (unhide GV1).trans (gV2.mono (by have := (unhide GV1).size; show W.heap.size ≤ V1.heap.size; omega))
 have kc : ∀ k o, k < V1.heap.size → V2.cell? ⟨k, o, none⟩ = V1.cell? ⟨k, o, none⟩ := fun k o hk => World.cell?_of_block (a := ⟨k, o, none⟩) (w := V1) (gV2.block k hk)
 have KEEP : V2.cell? ⟨tb, 0, none⟩ = some (.pointer (some ⟨xb, 0, none⟩)) ∧ V2.cell? ⟨tb, 1, none⟩ = some (.pointer np) ∧ V2.cell? ⟨tb, 2, none⟩ = some (.pointer (some ⟨ub, 0, none⟩)) ∧ V2.cell? ⟨ub, 0, none⟩ = some (.pointer (some ⟨yb, 0, none⟩)) ∧ V2.cell? ⟨ub, 1, none⟩ = some (.pointer ulp) ∧ V2.cell? ⟨ub, 2, none⟩ = some (.pointer urp) := ⟨(kc _ _ htl).trans KEEP.1, (kc _ _ htl).trans KEEP.2.1, (kc _ _ htl).trans KEEP.2.2.1, (kc _ _ hul').trans KEEP.2.2.2.1, (kc _ _ hul').trans KEEP.2.2.2.2.1, (kc _ _ hul').trans KEEP.2.2.2.2.2⟩
 have htl : tb < V2.heap.size := Nat.lt_of_lt_of_le htl sV2
 have hul' : ub < V2.heap.size := Nat.lt_of_lt_of_le hul' sV2
 clear kc
 have t1 := t1.below gV2
 go_wp2_with fail
 refine hK.out _ _ ?_ (fun hHeld => ?_)
 ·((try dsimp only); exact KEEP)
 clear hK K hHold
 try simp only [Act.put, List.setIfInBounds_toArray, List.set_cons_zero, List.set_cons_succ]
 refine wpAnyH_ready (rs := [24]) (by kernel_rfl) (by simp) ?_
 refine AllReadyH.cons (o := { dst := some 63, op := Op.call { callee := Callee.value (Operand.func 65), args := #[Operand.tmp 51, Operand.tmp 55, Operand.tmp 62], argTypes := #[104, 67, 104] }, type := 104, pos := "tree.go:77", after := #[{ on := 12, ground := Ground.data }, { on := 16, ground := Ground.data }, { on := 23, ground := Ground.data }, { on := 23, ground := Ground.chain }], guard := none }) rfl (fun K hK => ?_) AllReadyH.nil
 have hHold := hHeld
 clear hHeld
 go_simp
 have hcl := grownC t1 t2 yb yl (HX.out V2 (unhide GV2)).2.2.1 (by simp only [List.length_append, List.length_cons]; omega)
 refine hcl.mono ?_
 clear hcl
 rintro e V3 ⟨q3, i3, rfl, hq3, gV3, t3⟩
 have sV3 : V2.heap.size ≤ V3.heap.size := gV3.size
 have GV3 : Hid (Below W.heap.size W V3) := (unhide GV2).trans (gV3.mono (by have := (unhide GV2).size; show W.heap.size ≤ V2.heap.size; omega))
 have kc : ∀ k o, k < V2.heap.size → V3.cell? ⟨k, o, none⟩ = V2.cell? ⟨k, o, none⟩ := fun k o hk => World.cell?_of_block (a := ⟨k, o, none⟩) (w := V2) (gV3.block k hk)
 have KEEP : V3.cell? ⟨tb, 0, none⟩ = some (.pointer (some ⟨xb, 0, none⟩)) ∧ V3.cell? ⟨tb, 1, none⟩ = some (.pointer np) ∧ V3.cell? ⟨tb, 2, none⟩ = some (.pointer (some ⟨ub, 0, none⟩)) ∧ V3.cell? ⟨ub, 0, none⟩ = some (.pointer (some ⟨yb, 0, none⟩)) ∧ V3.cell? ⟨ub, 1, none⟩ = some (.pointer ulp) ∧ V3.cell? ⟨ub, 2, none⟩ = some (.pointer urp) := ⟨(kc _ _ htl).trans KEEP.1, (kc _ _ htl).trans KEEP.2.1, (kc _ _ htl).trans KEEP.2.2.1, (kc _ _ hul').trans KEEP.2.2.2.1, (kc _ _ hul').trans KEEP.2.2.2.2.1, (kc _ _ hul').trans KEEP.2.2.2.2.2⟩
 have htl : tb < V3.heap.size := Nat.lt_of_lt_of_le htl sV3
 have hul' : ub < V3.heap.size := Nat.lt_of_lt_of_le hul' sV3
 clear kc
 go_wp2_with fail
 refine hK.out _ _ ?_ (fun hHeld => ?_)
 ·((try dsimp only); exact KEEP)
 clear hK K hHold
 try simp only [Act.put, List.setIfInBounds_toArray, List.set_cons_zero, List.set_cons_succ]
 refine wpAnyH_take (i := 25) (oi := { dst := some 6, op := Op.assign (Operand.tmp 63), type := 104, pos := "tree.go:77", after := #[{ on := 24, ground := Ground.data }, { on := 24, ground := Ground.chain }, { on := 0, ground := Ground.phase }, { on := 1, ground := Ground.phase }, { on := 2, ground := Ground.phase }, { on := 3, ground := Ground.phase }, { on := 4, ground := Ground.phase }, { on := 5, ground := Ground.phase }, { on := 6, ground := Ground.phase }, { on := 7, ground := Ground.phase }, { on := 8, ground := Ground.phase }, { on := 9, ground := Ground.phase }, { on := 10, ground := Ground.phase }, { on := 11, ground := Ground.phase }, { on := 12, ground := Ground.phase }, { on := 13, ground := Ground.phase }, { on := 14, ground := Ground.phase }, { on := 15, ground := Ground.phase }, { on := 16, ground := Ground.phase }, { on := 17, ground := Ground.phase }, { on := 18, ground := Ground.phase }, { on := 19, ground := Ground.phase }, { on := 20, ground := Ground.phase }, { on := 21, ground := Ground.phase }, { on := 22, ground := Ground.phase }, { on := 23, ground := Ground.phase }, { on := 24, ground := Ground.phase }], guard := none }) (v := ?_) rfl (by kernel_rfl) (by kernel_rfl) (by kernel_rfl) (fun _ _ _ h => h) (Or.inl ⟨by rfl, ?_⟩) hHeld ?_
 rotate_left
 ·(intro w' hSw; (try dsimp only at hSw); go_simp; try with_reducible rfl)
 try simp only [Act.put, List.setIfInBounds_toArray, List.set_cons_zero, List.set_cons_succ]
 refine wpAnyH_done (by kernel_rfl) ?_ _
 refine NoPanic.normal ?_
 clear hHeld KEEP
 have HF : Hid (Below W.heap.size W V3 ∧ W.heap.size ≤ q3 ∧ TrL V3 (some ⟨q3, 0, none⟩) ((Ln ++ (xb, xl) :: (Lul ++ (yb, yl) :: Lur)) ++ (eb, pl) :: Lo) i3) := ⟨unhide GV3, by omega, by have h := t3; rw [show (Ln ++ (xb, xl) :: Lul) ++ (yb, yl) :: (Lur ++ (eb, pl) :: Lo) = (Ln ++ (xb, xl) :: (Lul ++ (yb, yl) :: Lur)) ++ (eb, pl) :: Lo by simp] at h; exact h⟩
 clear t1 t2 t3 gV1 gV2 gV3 GV0 GV1 GV2 GV3 HX
 go_wp2_with fail
 all_goals go_ret
 all_goals exact ⟨q3, i3, rfl, HF.out.2.1, HF.out.1, HF.out.2.2⟩
theorem leaningLeft_any {W : World} {tp op : Option Addr} {eb : Nat} {pl : Int} {Lt Lo : List (Nat × Int)} {ht ho : Int} (h1 : TrL W tp Lt ht) (h3 : TrL W op Lo ho) (he : W.cell? ⟨eb, 0, none⟩ = some (.int .i64 pl)) (hn : Lt.length + Lo.length < 4611686018427387900) (hc : 1 ≤ ht) : TreeC W 88 #[.pointer tp, .pointer (some ⟨eb, 0, none⟩), .pointer op] (Lt ++ (eb, pl) :: Lo) := by
 rcases h1.cases with ⟨_, _, rfl⟩ | ⟨tb, xb, xl, lp, rp, Ll, Lr, hl, hr, rfl, hb, hx, k1, k2, rfl, rfl⟩
 ·omega
 ·rw [len_cons] at hn
  by_cases hle : hr ≤ hl
  ·exact leaningLeft_a hb hx he k1 k2 h3 (by omega) hle
  ·rcases k2.cases with ⟨_, _, rfl⟩ | ⟨ub, yb, yl, ulp, urp, Lul, Lur, hul, hur, rfl, hu, hy, m1, m2, rfl, rfl⟩
   ·have := k1.ht; omega
   ·rw [len_cons] at hn
    exact leaningLeft_b hb hu hx hy he k1 m1 m2 h3 (by omega) (by omega)
theorem leaningRight_b {W : World} {tb xb eb ub yb : Nat} {xl pl ht yl : Int} {np ulp urp op : Option Addr} {Ln Lul Lur Lo : List (Nat × Int)} {hn hul hur ho : Int} (hb : W.heap[tb]? = some (.cells #[.pointer (some ⟨xb, 0, none⟩), .pointer (some ⟨ub, 0, none⟩), .pointer np, .int .i64 ht] 131 (0, 0))) (hu : W.heap[ub]? = some (.cells #[.pointer (some ⟨yb, 0, none⟩), .pointer ulp, .pointer urp, .int .i64 (max hul hur + 1)] 131 (0, 0))) (hx : W.cell? ⟨xb, 0, none⟩ = some (.int .i64 xl)) (hy : W.cell? ⟨yb, 0, none⟩ = some (.int .i64 yl)) (he : W.cell? ⟨eb, 0, none⟩ = some (.int .i64 pl)) (h1 : TrL W np Ln hn) (h2 : TrL W ulp Lul hul) (h4 : TrL W urp Lur hur) (h3 : TrL W op Lo ho) (hnn : Ln.length + Lul.length + Lur.length + Lo.length < 4611686018427387900) (hc : hn < max hul hur + 1) :
  TreeC W 89 #[.pointer op, .pointer (some ⟨eb, 0, none⟩), .pointer (some ⟨tb, 0, none⟩)] (Lo ++ (eb, pl) :: ((Lul ++ (yb, yl) :: Lur) ++ (xb, xl) :: Ln)) := by
 unfold TreeC
 have htl := cell_in (node_cells hb).1
 have hul' := cell_in (node_cells hu).1
 have hxl := cell_in hx
 have hyl := cell_in hy
 have hel := cell_in he
 have GW : Hid (Below W.heap.size W W) := Below.refl _ _
 have HX : Hid (∀ V, Below W.heap.size W V → V.cell? ⟨xb, 0, none⟩ = some (.int .i64 xl) ∧ V.cell? ⟨eb, 0, none⟩ = some (.int .i64 pl) ∧ V.cell? ⟨yb, 0, none⟩ = some (.int .i64 yl) ∧ TrL V np Ln hn ∧ TrL V ulp Lul hul ∧ TrL V urp Lur hur ∧ TrL V op Lo ho) := fun V hV => ⟨(hV.cell (p := ⟨xb, 0, none⟩) hxl).trans hx, (hV.cell (p := ⟨eb, 0, none⟩) hel).trans he, (hV.cell (p := ⟨yb, 0, none⟩) hyl).trans hy, h1.below hV, h2.below hV, h4.below hV, h3.below hV⟩
 obtain ⟨n0, n1, n2, -⟩ := node_cells hb
 obtain ⟨u0, u1, u2, -⟩ := node_cells hu
 have HTN : Hid (∀ V, Below W.heap.size W V → Calls Tryz.prog 87 #[.pointer np] V fun e V' => e = .returned (.int .i64 hn) ∧ V' = V) := fun V hV => tall_any (h1.below hV).tall
 have HTF : Hid (∀ V, Below W.heap.size W V → Calls Tryz.prog 87 #[.pointer (some ⟨ub, 0, none⟩)] V fun e V' => e = .returned (.int .i64 (max hul hur + 1)) ∧ V' = V) := fun V hV => tall_any ((h2.node h4 hu hy).below hV).tall
 generalize max hul hur + 1 = uh at *
 clear hb hu hx hy he h1 h2 h3 h4
 go_enter Tryz.func89, Tryz.ntmps89
 go_wp2_with fail
 have KEEP : W.cell? ⟨tb, 0, none⟩ = some (.pointer (some ⟨xb, 0, none⟩)) ∧ W.cell? ⟨tb, 1, none⟩ = some (.pointer (some ⟨ub, 0, none⟩)) ∧ W.cell? ⟨tb, 2, none⟩ = some (.pointer np) := ⟨n0, n1, n2⟩
 refine wp_region_noPanic ?_
 refine wp_region_held_drew (S := (fun w' => w'.cell? ⟨tb, 0, none⟩ = some (.pointer (some ⟨xb, 0, none⟩)) ∧ w'.cell? ⟨tb, 1, none⟩ = some (.pointer (some ⟨ub, 0, none⟩)) ∧ w'.cell? ⟨tb, 2, none⟩ = some (.pointer np))) (by kernel_rfl) ?_ (fun hHeld => ?_)
 ·exact KEEP
 refine wpAnyH_take (i := 0) (oi := { dst := some 8, op := Op.move (Operand.tmp 2), type := 104, pos := "tree.go:81", after := #[], guard := none }) (v := ?_) rfl (by kernel_rfl) (by kernel_rfl) (by kernel_rfl) (fun _ _ _ h => h) (Or.inl ⟨by rfl, ?_⟩) hHeld ?_
 rotate_left
 ·(intro w' hSw; (try dsimp only at hSw); go_simp; try with_reducible rfl)
 try simp only [Act.put, List.setIfInBounds_toArray, List.set_cons_zero, List.set_cons_succ]
 refine wpAnyH_take (i := 1) (oi := { dst := some 9, op := Op.nilCheck (Operand.tmp 8), type := 0, pos := "tree.go:81", after := #[{ on := 0, ground := Ground.data }], guard := none }) (v := ?_) rfl (by kernel_rfl) (by kernel_rfl) (by kernel_rfl) (fun _ _ _ h => h) (Or.inl ⟨by rfl, ?_⟩) hHeld ?_
 rotate_left
 ·(intro w' hSw; (try dsimp only at hSw); go_simp; try with_reducible rfl)
 try simp only [Act.put, List.setIfInBounds_toArray, List.set_cons_zero, List.set_cons_succ]
 refine wpAnyH_take (i := 2) (oi := { dst := some 10, op := Op.fieldAddr 131 (Operand.tmp 9) 2, type := 0, pos := "tree.go:81", after := #[{ on := 1, ground := Ground.data }], guard := none }) (v := ?_) rfl (by kernel_rfl) (by kernel_rfl) (by kernel_rfl) (fun _ _ _ h => h) (Or.inl ⟨by rfl, ?_⟩) hHeld ?_
 rotate_left
 ·(intro w' hSw; (try dsimp only at hSw); go_simp; try with_reducible rfl)
 try simp only [Act.put, List.setIfInBounds_toArray, List.set_cons_zero, List.set_cons_succ]
 refine wpAnyH_take (i := 3) (oi := { dst := some 11, op := Op.load 104 (Operand.tmp 10), type := 104, pos := "tree.go:81", after := #[{ on := 2, ground := Ground.data }], guard := none }) (v := ?_) rfl (by kernel_rfl) (by kernel_rfl) (by kernel_rfl) (fun _ _ _ h => h) (Or.inl ⟨by rfl, ?_⟩) hHeld ?_
 rotate_left
 ·(intro w' hSw; (try dsimp only at hSw); go_simp; try with_reducible rfl)
 try simp only [Act.put, List.setIfInBounds_toArray, List.set_cons_zero, List.set_cons_succ]
 refine wpAnyH_take (i := 5) (oi := { dst := some 13, op := Op.move (Operand.tmp 2), type := 104, pos := "tree.go:81", after := #[], guard := none }) (v := ?_) rfl (by kernel_rfl) (by kernel_rfl) (by kernel_rfl) (fun _ _ _ h => h) (Or.inl ⟨by rfl, ?_⟩) hHeld ?_
 rotate_left
 ·(intro w' hSw; (try dsimp only at hSw); go_simp; try with_reducible rfl)
 try simp only [Act.put, List.setIfInBounds_toArray, List.set_cons_zero, List.set_cons_succ]
 refine wpAnyH_take (i := 6) (oi := { dst := some 14, op := Op.nilCheck (Operand.tmp 13), type := 0, pos := "tree.go:81", after := #[{ on := 5, ground := Ground.data }], guard := none }) (v := ?_) rfl (by kernel_rfl) (by kernel_rfl) (by kernel_rfl) (fun _ _ _ h => h) (Or.inl ⟨by rfl, ?_⟩) hHeld ?_
 rotate_left
 ·(intro w' hSw; (try dsimp only at hSw); go_simp; try with_reducible rfl)
 try simp only [Act.put, List.setIfInBounds_toArray, List.set_cons_zero, List.set_cons_succ]
 refine wpAnyH_take (i := 7) (oi := { dst := some 15, op := Op.fieldAddr 131 (Operand.tmp 14) 1, type := 0, pos := "tree.go:81", after := #[{ on := 6, ground := Ground.data }], guard := none }) (v := ?_) rfl (by kernel_rfl) (by kernel_rfl) (by kernel_rfl) (fun _ _ _ h => h) (Or.inl ⟨by rfl, ?_⟩) hHeld ?_
 rotate_left
 ·(intro w' hSw; (try dsimp only at hSw); go_simp; try with_reducible rfl)
 try simp only [Act.put, List.setIfInBounds_toArray, List.set_cons_zero, List.set_cons_succ]
 refine wpAnyH_take (i := 8) (oi := { dst := some 16, op := Op.load 104 (Operand.tmp 15), type := 104, pos := "tree.go:81", after := #[{ on := 7, ground := Ground.data }], guard := none }) (v := ?_) rfl (by kernel_rfl) (by kernel_rfl) (by kernel_rfl) (fun _ _ _ h => h) (Or.inl ⟨by rfl, ?_⟩) hHeld ?_
 rotate_left
 ·(intro w' hSw; (try dsimp only at hSw); go_simp; try with_reducible rfl)
 try simp only [Act.put, List.setIfInBounds_toArray, List.set_cons_zero, List.set_cons_succ]
 refine wpAnyH_ready (rs := [4]) (by kernel_rfl) (by simp) ?_
 refine AllReadyH.cons (o := { dst := some 12, op := Op.call { callee := Callee.value (Operand.func 87), args := #[Operand.tmp 11], argTypes := #[104] }, type := 3, pos := "tree.go:81", after := #[{ on := 3, ground := Ground.data }], guard := none }) rfl (fun K hK => ?_) AllReadyH.nil
 have hHold := hHeld
 clear hHeld
 go_simp
 refine (HTN.out W.drew (unhide GW).drew).mono ?_
 rintro e V1 ⟨rfl, rfl⟩
 go_wp2_with fail
 refine hK.out _ _ ?_ (fun hHeld => ?_)
 ·((try dsimp only); exact KEEP)
 clear hK K hHold
 try simp only [Act.put, List.setIfInBounds_toArray, List.set_cons_zero, List.set_cons_succ]
 refine wpAnyH_ready (rs := [9]) (by kernel_rfl) (by simp) ?_
 refine AllReadyH.cons (o := { dst := some 17, op := Op.call { callee := Callee.value (Operand.func 87), args := #[Operand.tmp 16], argTypes := #[104] }, type := 3, pos := "tree.go:81", after := #[{ on := 8, ground := Ground.data }, { on := 4, ground := Ground.chain }], guard := none }) rfl (fun K hK => ?_) AllReadyH.nil
 have hHold := hHeld
 clear hHeld
 go_simp
 refine (HTF.out W.drew (unhide GW).drew).mono ?_
 rintro e V1 ⟨rfl, rfl⟩
 go_wp2_with fail
 refine hK.out _ _ ?_ (fun hHeld => ?_)
 ·((try dsimp only); exact KEEP)
 clear hK K hHold
 try simp only [Act.put, List.setIfInBounds_toArray, List.set_cons_zero, List.set_cons_succ]
 refine wpAnyH_take (i := 10) (oi := { dst := some 18, op := Op.binOp BinOp.geq 3 (Operand.tmp 12) (Operand.tmp 17) 3, type := 4, pos := "tree.go:81", after := #[{ on := 4, ground := Ground.data }, { on := 9, ground := Ground.data }], guard := none }) (v := ?_) rfl (by kernel_rfl) (by kernel_rfl) (by kernel_rfl) (fun _ _ _ h => h) (Or.inl ⟨by rfl, ?_⟩) hHeld ?_
 rotate_left
 ·(intro w' hSw; (try dsimp only at hSw); go_simp; try with_reducible rfl)
 try simp only [Act.put, List.setIfInBounds_toArray, List.set_cons_zero, List.set_cons_succ]
 refine wpAnyH_done (by kernel_rfl) ?_ _
 refine NoPanic.normal ?_
 clear hHeld KEEP HTN HTF
 have WD : Hid (Below W.heap.size W W.drew) := (Below.refl _ W).drew
 obtain ⟨V0, hV0⟩ : ∃ V0, W.drew = V0 := ⟨_, rfl⟩
 have s0 : V0.heap.size = W.heap.size := by rw [← hV0]; rfl
 rw [hV0] at WD
 have GV0 : Hid (Below W.heap.size W V0) := WD.out
 rw [hV0]
 clear WD
 have m0 : V0.cell? ⟨tb, 0, none⟩ = some (.pointer (some ⟨xb, 0, none⟩)) := ((unhide GV0).cell (p := ⟨tb, 0, none⟩) htl).trans n0
 have m1 : V0.cell? ⟨tb, 1, none⟩ = some (.pointer (some ⟨ub, 0, none⟩)) := ((unhide GV0).cell (p := ⟨tb, 1, none⟩) htl).trans n1
 have m2 : V0.cell? ⟨tb, 2, none⟩ = some (.pointer np) := ((unhide GV0).cell (p := ⟨tb, 2, none⟩) htl).trans n2
 have w0 : V0.cell? ⟨ub, 0, none⟩ = some (.pointer (some ⟨yb, 0, none⟩)) := ((unhide GV0).cell (p := ⟨ub, 0, none⟩) hul').trans u0
 have w1 : V0.cell? ⟨ub, 1, none⟩ = some (.pointer ulp) := ((unhide GV0).cell (p := ⟨ub, 1, none⟩) hul').trans u1
 have w2 : V0.cell? ⟨ub, 2, none⟩ = some (.pointer urp) := ((unhide GV0).cell (p := ⟨ub, 2, none⟩) hul').trans u2
 clear n0 n1 n2 u0 u1 u2 hV0
 replace htl : tb < V0.heap.size := by omega
 replace hul' : ub < V0.heap.size := by omega
 have hge : ¬ (hn ≥ uh) := by omega
 clear hc
 go_wp2_with fail
 have KEEP : V0.cell? ⟨tb, 0, none⟩ = some (.pointer (some ⟨xb, 0, none⟩)) ∧ V0.cell? ⟨tb, 1, none⟩ = some (.pointer (some ⟨ub, 0, none⟩)) ∧ V0.cell? ⟨tb, 2, none⟩ = some (.pointer np) ∧ V0.cell? ⟨ub, 0, none⟩ = some (.pointer (some ⟨yb, 0, none⟩)) ∧ V0.cell? ⟨ub, 1, none⟩ = some (.pointer ulp) ∧ V0.cell? ⟨ub, 2, none⟩ = some (.pointer urp) := ⟨m0, m1, m2, w0, w1, w2⟩
 refine wp_region_noPanic ?_
 refine wp_region_held_drew (S := (fun w' => w'.cell? ⟨tb, 0, none⟩ = some (.pointer (some ⟨xb, 0, none⟩)) ∧ w'.cell? ⟨tb, 1, none⟩ = some (.pointer (some ⟨ub, 0, none⟩)) ∧ w'.cell? ⟨tb, 2, none⟩ = some (.pointer np) ∧ w'.cell? ⟨ub, 0, none⟩ = some (.pointer (some ⟨yb, 0, none⟩)) ∧ w'.cell? ⟨ub, 1, none⟩ = some (.pointer ulp) ∧ w'.cell? ⟨ub, 2, none⟩ = some (.pointer urp))) (by kernel_rfl) ?_ (fun hHeld => ?_)
 ·exact KEEP
 refine wpAnyH_take (i := 0) (oi := { dst := some 39, op := Op.move (Operand.tmp 0), type := 104, pos := "tree.go:85", after := #[], guard := none }) (v := ?_) rfl (by kernel_rfl) (by kernel_rfl) (by kernel_rfl) (fun _ _ _ h => h) (Or.inl ⟨by rfl, ?_⟩) hHeld ?_
 rotate_left
 ·(intro w' hSw; (try dsimp only at hSw); go_simp; try with_reducible rfl)
 try simp only [Act.put, List.setIfInBounds_toArray, List.set_cons_zero, List.set_cons_succ]
 refine wpAnyH_take (i := 1) (oi := { dst := some 40, op := Op.move (Operand.tmp 1), type := 67, pos := "tree.go:85", after := #[], guard := none }) (v := ?_) rfl (by kernel_rfl) (by kernel_rfl) (by kernel_rfl) (fun _ _ _ h => h) (Or.inl ⟨by rfl, ?_⟩) hHeld ?_
 rotate_left
 ·(intro w' hSw; (try dsimp only at hSw); go_simp; try with_reducible rfl)
 try simp only [Act.put, List.setIfInBounds_toArray, List.set_cons_zero, List.set_cons_succ]
 refine wpAnyH_take (i := 2) (oi := { dst := some 41, op := Op.move (Operand.tmp 7), type := 104, pos := "tree.go:85", after := #[], guard := none }) (v := ?_) rfl (by kernel_rfl) (by kernel_rfl) (by kernel_rfl) (fun _ _ _ h => h) (Or.inl ⟨by rfl, ?_⟩) hHeld ?_
 rotate_left
 ·(intro w' hSw; (try dsimp only at hSw); go_simp; try with_reducible rfl)
 try simp only [Act.put, List.setIfInBounds_toArray, List.set_cons_zero, List.set_cons_succ]
 refine wpAnyH_take (i := 3) (oi := { dst := some 42, op := Op.nilCheck (Operand.tmp 41), type := 0, pos := "tree.go:85", after := #[{ on := 2, ground := Ground.data }], guard := none }) (v := ?_) rfl (by kernel_rfl) (by kernel_rfl) (by kernel_rfl) (fun _ _ _ h => h) (Or.inl ⟨by rfl, ?_⟩) hHeld ?_
 rotate_left
 ·(intro w' hSw; (try dsimp only at hSw); go_simp; try with_reducible rfl)
 try simp only [Act.put, List.setIfInBounds_toArray, List.set_cons_zero, List.set_cons_succ]
 refine wpAnyH_take (i := 4) (oi := { dst := some 43, op := Op.fieldAddr 131 (Operand.tmp 42) 1, type := 0, pos := "tree.go:85", after := #[{ on := 3, ground := Ground.data }], guard := none }) (v := ?_) rfl (by kernel_rfl) (by kernel_rfl) (by kernel_rfl) (fun _ _ _ h => h) (Or.inl ⟨by rfl, ?_⟩) hHeld ?_
 rotate_left
 ·(intro w' hSw; (try dsimp only at hSw); go_simp; try with_reducible rfl)
 try simp only [Act.put, List.setIfInBounds_toArray, List.set_cons_zero, List.set_cons_succ]
 refine wpAnyH_take (i := 5) (oi := { dst := some 44, op := Op.load 104 (Operand.tmp 43), type := 104, pos := "tree.go:85", after := #[{ on := 4, ground := Ground.data }], guard := none }) (v := ?_) rfl (by kernel_rfl) (by kernel_rfl) (by kernel_rfl) (fun _ _ _ h => h) (Or.inl ⟨by rfl, ?_⟩) hHeld ?_
 rotate_left
 ·(intro w' hSw; (try dsimp only at hSw); go_simp; try with_reducible rfl)
 try simp only [Act.put, List.setIfInBounds_toArray, List.set_cons_zero, List.set_cons_succ]
 refine wpAnyH_take (i := 7) (oi := { dst := some 46, op := Op.move (Operand.tmp 7), type := 104, pos := "tree.go:85", after := #[], guard := none }) (v := ?_) rfl (by kernel_rfl) (by kernel_rfl) (by kernel_rfl) (fun _ _ _ h => h) (Or.inl ⟨by rfl, ?_⟩) hHeld ?_
 rotate_left
 ·(intro w' hSw; (try dsimp only at hSw); go_simp; try with_reducible rfl)
 try simp only [Act.put, List.setIfInBounds_toArray, List.set_cons_zero, List.set_cons_succ]
 refine wpAnyH_take (i := 8) (oi := { dst := some 47, op := Op.nilCheck (Operand.tmp 46), type := 0, pos := "tree.go:85", after := #[{ on := 7, ground := Ground.data }], guard := none }) (v := ?_) rfl (by kernel_rfl) (by kernel_rfl) (by kernel_rfl) (fun _ _ _ h => h) (Or.inl ⟨by rfl, ?_⟩) hHeld ?_
 rotate_left
 ·(intro w' hSw; (try dsimp only at hSw); go_simp; try with_reducible rfl)
 try simp only [Act.put, List.setIfInBounds_toArray, List.set_cons_zero, List.set_cons_succ]
 refine wpAnyH_take (i := 9) (oi := { dst := some 48, op := Op.fieldAddr 131 (Operand.tmp 47) 0, type := 0, pos := "tree.go:85", after := #[{ on := 8, ground := Ground.data }], guard := none }) (v := ?_) rfl (by kernel_rfl) (by kernel_rfl) (by kernel_rfl) (fun _ _ _ h => h) (Or.inl ⟨by rfl, ?_⟩) hHeld ?_
 rotate_left
 ·(intro w' hSw; (try dsimp only at hSw); go_simp; try with_reducible rfl)
 try simp only [Act.put, List.setIfInBounds_toArray, List.set_cons_zero, List.set_cons_succ]
 refine wpAnyH_take (i := 10) (oi := { dst := some 49, op := Op.load 67 (Operand.tmp 48), type := 67, pos := "tree.go:85", after := #[{ on := 9, ground := Ground.data }], guard := none }) (v := ?_) rfl (by kernel_rfl) (by kernel_rfl) (by kernel_rfl) (fun _ _ _ h => h) (Or.inl ⟨by rfl, ?_⟩) hHeld ?_
 rotate_left
 ·(intro w' hSw; (try dsimp only at hSw); go_simp; try with_reducible rfl)
 try simp only [Act.put, List.setIfInBounds_toArray, List.set_cons_zero, List.set_cons_succ]
 refine wpAnyH_take (i := 11) (oi := { dst := some 50, op := Op.move (Operand.tmp 7), type := 104, pos := "tree.go:85", after := #[], guard := none }) (v := ?_) rfl (by kernel_rfl) (by kernel_rfl) (by kernel_rfl) (fun _ _ _ h => h) (Or.inl ⟨by rfl, ?_⟩) hHeld ?_
 rotate_left
 ·(intro w' hSw; (try dsimp only at hSw); go_simp; try with_reducible rfl)
 try simp only [Act.put, List.setIfInBounds_toArray, List.set_cons_zero, List.set_cons_succ]
 refine wpAnyH_take (i := 12) (oi := { dst := some 51, op := Op.nilCheck (Operand.tmp 50), type := 0, pos := "tree.go:85", after := #[{ on := 11, ground := Ground.data }], guard := none }) (v := ?_) rfl (by kernel_rfl) (by kernel_rfl) (by kernel_rfl) (fun _ _ _ h => h) (Or.inl ⟨by rfl, ?_⟩) hHeld ?_
 rotate_left
 ·(intro w' hSw; (try dsimp only at hSw); go_simp; try with_reducible rfl)
 try simp only [Act.put, List.setIfInBounds_toArray, List.set_cons_zero, List.set_cons_succ]
 refine wpAnyH_take (i := 13) (oi := { dst := some 52, op := Op.fieldAddr 131 (Operand.tmp 51) 2, type := 0, pos := "tree.go:85", after := #[{ on := 12, ground := Ground.data }], guard := none }) (v := ?_) rfl (by kernel_rfl) (by kernel_rfl) (by kernel_rfl) (fun _ _ _ h => h) (Or.inl ⟨by rfl, ?_⟩) hHeld ?_
 rotate_left
 ·(intro w' hSw; (try dsimp only at hSw); go_simp; try with_reducible rfl)
 try simp only [Act.put, List.setIfInBounds_toArray, List.set_cons_zero, List.set_cons_succ]
 refine wpAnyH_take (i := 14) (oi := { dst := some 53, op := Op.load 104 (Operand.tmp 52), type := 104, pos := "tree.go:85", after := #[{ on := 13, ground := Ground.data }], guard := none }) (v := ?_) rfl (by kernel_rfl) (by kernel_rfl) (by kernel_rfl) (fun _ _ _ h => h) (Or.inl ⟨by rfl, ?_⟩) hHeld ?_
 rotate_left
 ·(intro w' hSw; (try dsimp only at hSw); go_simp; try with_reducible rfl)
 try simp only [Act.put, List.setIfInBounds_toArray, List.set_cons_zero, List.set_cons_succ]
 refine wpAnyH_take (i := 15) (oi := { dst := some 54, op := Op.move (Operand.tmp 2), type := 104, pos := "tree.go:85", after := #[], guard := none }) (v := ?_) rfl (by kernel_rfl) (by kernel_rfl) (by kernel_rfl) (fun _ _ _ h => h) (Or.inl ⟨by rfl, ?_⟩) hHeld ?_
 rotate_left
 ·(intro w' hSw; (try dsimp only at hSw); go_simp; try with_reducible rfl)
 try simp only [Act.put, List.setIfInBounds_toArray, List.set_cons_zero, List.set_cons_succ]
 refine wpAnyH_take (i := 16) (oi := { dst := some 55, op := Op.nilCheck (Operand.tmp 54), type := 0, pos := "tree.go:85", after := #[{ on := 15, ground := Ground.data }], guard := none }) (v := ?_) rfl (by kernel_rfl) (by kernel_rfl) (by kernel_rfl) (fun _ _ _ h => h) (Or.inl ⟨by rfl, ?_⟩) hHeld ?_
 rotate_left
 ·(intro w' hSw; (try dsimp only at hSw); go_simp; try with_reducible rfl)
 try simp only [Act.put, List.setIfInBounds_toArray, List.set_cons_zero, List.set_cons_succ]
 refine wpAnyH_take (i := 17) (oi := { dst := some 56, op := Op.fieldAddr 131 (Operand.tmp 55) 0, type := 0, pos := "tree.go:85", after := #[{ on := 16, ground := Ground.data }], guard := none }) (v := ?_) rfl (by kernel_rfl) (by kernel_rfl) (by kernel_rfl) (fun _ _ _ h => h) (Or.inl ⟨by rfl, ?_⟩) hHeld ?_
 rotate_left
 ·(intro w' hSw; (try dsimp only at hSw); go_simp; try with_reducible rfl)
 try simp only [Act.put, List.setIfInBounds_toArray, List.set_cons_zero, List.set_cons_succ]
 refine wpAnyH_take (i := 18) (oi := { dst := some 57, op := Op.load 67 (Operand.tmp 56), type := 67, pos := "tree.go:85", after := #[{ on := 17, ground := Ground.data }], guard := none }) (v := ?_) rfl (by kernel_rfl) (by kernel_rfl) (by kernel_rfl) (fun _ _ _ h => h) (Or.inl ⟨by rfl, ?_⟩) hHeld ?_
 rotate_left
 ·(intro w' hSw; (try dsimp only at hSw); go_simp; try with_reducible rfl)
 try simp only [Act.put, List.setIfInBounds_toArray, List.set_cons_zero, List.set_cons_succ]
 refine wpAnyH_take (i := 19) (oi := { dst := some 58, op := Op.move (Operand.tmp 2), type := 104, pos := "tree.go:85", after := #[], guard := none }) (v := ?_) rfl (by kernel_rfl) (by kernel_rfl) (by kernel_rfl) (fun _ _ _ h => h) (Or.inl ⟨by rfl, ?_⟩) hHeld ?_
 rotate_left
 ·(intro w' hSw; (try dsimp only at hSw); go_simp; try with_reducible rfl)
 try simp only [Act.put, List.setIfInBounds_toArray, List.set_cons_zero, List.set_cons_succ]
 refine wpAnyH_take (i := 20) (oi := { dst := some 59, op := Op.nilCheck (Operand.tmp 58), type := 0, pos := "tree.go:85", after := #[{ on := 19, ground := Ground.data }], guard := none }) (v := ?_) rfl (by kernel_rfl) (by kernel_rfl) (by kernel_rfl) (fun _ _ _ h => h) (Or.inl ⟨by rfl, ?_⟩) hHeld ?_
 rotate_left
 ·(intro w' hSw; (try dsimp only at hSw); go_simp; try with_reducible rfl)
 try simp only [Act.put, List.setIfInBounds_toArray, List.set_cons_zero, List.set_cons_succ]
 refine wpAnyH_take (i := 21) (oi := { dst := some 60, op := Op.fieldAddr 131 (Operand.tmp 59) 2, type := 0, pos := "tree.go:85", after := #[{ on := 20, ground := Ground.data }], guard := none }) (v := ?_) rfl (by kernel_rfl) (by kernel_rfl) (by kernel_rfl) (fun _ _ _ h => h) (Or.inl ⟨by rfl, ?_⟩) hHeld ?_
 rotate_left
 ·(intro w' hSw; (try dsimp only at hSw); go_simp; try with_reducible rfl)
 try simp only [Act.put, List.setIfInBounds_toArray, List.set_cons_zero, List.set_cons_succ]
 refine wpAnyH_take (i := 22) (oi := { dst := some 61, op := Op.load 104 (Operand.tmp 60), type := 104, pos := "tree.go:85", after := #[{ on := 21, ground := Ground.data }], guard := none }) (v := ?_) rfl (by kernel_rfl) (by kernel_rfl) (by kernel_rfl) (fun _ _ _ h => h) (Or.inl ⟨by rfl, ?_⟩) hHeld ?_
 rotate_left
 ·(intro w' hSw; (try dsimp only at hSw); go_simp; try with_reducible rfl)
 try simp only [Act.put, List.setIfInBounds_toArray, List.set_cons_zero, List.set_cons_succ]
 refine wpAnyH_ready (rs := [6]) (by kernel_rfl) (by simp) ?_
 refine AllReadyH.cons (o := { dst := some 45, op := Op.call { callee := Callee.value (Operand.func 65), args := #[Operand.tmp 39, Operand.tmp 40, Operand.tmp 44], argTypes := #[104, 67, 104] }, type := 104, pos := "tree.go:85", after := #[{ on := 0, ground := Ground.data }, { on := 1, ground := Ground.data }, { on := 5, ground := Ground.data }], guard := none }) rfl (fun K hK => ?_) AllReadyH.nil
 have hHold := hHeld
 clear hHeld
 go_simp
 have hcl := grownC (HX.out V0.drew (unhide GV0).drew).2.2.2.2.2.2 (HX.out V0.drew (unhide GV0).drew).2.2.2.2.1 eb pl (HX.out V0.drew (unhide GV0).drew).2.1 (by omega)
 refine hcl.mono ?_
 clear hcl
 rintro e V1 ⟨q1, i1, rfl, hq1, gV1, t1⟩
 have sV1 : V0.heap.size ≤ V1.heap.size := gV1.size
 have GV1 : Hid (Below W.heap.size W V1) := (unhide GV0).drew.trans (gV1.mono (by have := (unhide GV0).size; show W.heap.size ≤ V0.heap.size; omega))
 have kc : ∀ k o, k < V0.heap.size → V1.cell? ⟨k, o, none⟩ = V0.cell? ⟨k, o, none⟩ := fun k o hk => World.cell?_of_block (a := ⟨k, o, none⟩) (w := V0) (gV1.block k hk)
 have KEEP : V1.cell? ⟨tb, 0, none⟩ = some (.pointer (some ⟨xb, 0, none⟩)) ∧ V1.cell? ⟨tb, 1, none⟩ = some (.pointer (some ⟨ub, 0, none⟩)) ∧ V1.cell? ⟨tb, 2, none⟩ = some (.pointer np) ∧ V1.cell? ⟨ub, 0, none⟩ = some (.pointer (some ⟨yb, 0, none⟩)) ∧ V1.cell? ⟨ub, 1, none⟩ = some (.pointer ulp) ∧ V1.cell? ⟨ub, 2, none⟩ = some (.pointer urp) := ⟨(kc _ _ htl).trans KEEP.1, (kc _ _ htl).trans KEEP.2.1, (kc _ _ htl).trans KEEP.2.2.1, (kc _ _ hul').trans KEEP.2.2.2.1, (kc _ _ hul').trans KEEP.2.2.2.2.1, (kc _ _ hul').trans KEEP.2.2.2.2.2⟩
 have htl : tb < V1.heap.size := Nat.lt_of_lt_of_le htl sV1
 have hul' : ub < V1.heap.size := Nat.lt_of_lt_of_le hul' sV1
 clear kc
 go_wp2_with fail
 refine hK.out _ _ ?_ (fun hHeld => ?_)
 ·((try dsimp only); exact KEEP)
 clear hK K hHold
 try simp only [Act.put, List.setIfInBounds_toArray, List.set_cons_zero, List.set_cons_succ]
 refine wpAnyH_ready (rs := [23]) (by kernel_rfl) (by simp) ?_
 refine AllReadyH.cons (o := { dst := some 62, op := Op.call { callee := Callee.value (Operand.func 65), args := #[Operand.tmp 53, Operand.tmp 57, Operand.tmp 61], argTypes := #[104, 67, 104] }, type := 104, pos := "tree.go:85", after := #[{ on := 14, ground := Ground.data }, { on := 18, ground := Ground.data }, { on := 22, ground := Ground.data }, { on := 6, ground := Ground.chain }], guard := none }) rfl (fun K hK => ?_) AllReadyH.nil
 have hHold := hHeld
 clear hHeld
 go_simp
 have hcl := grownC (HX.out V1 (unhide GV1)).2.2.2.2.2.1 (HX.out V1 (unhide GV1)).2.2.2.1 xb xl (HX.out V1 (unhide GV1)).1 (by omega)
 refine hcl.mono ?_
 clear hcl
 rintro e V2 ⟨q2, i2, rfl, hq2, gV2, t2⟩
 have sV2 : V1.heap.size ≤ V2.heap.size := gV2.size
 have GV2 : Hid (Below W.heap.size W V2) := (unhide GV1).trans (gV2.mono (by have := (unhide GV1).size; show W.heap.size ≤ V1.heap.size; omega))
 have kc : ∀ k o, k < V1.heap.size → V2.cell? ⟨k, o, none⟩ = V1.cell? ⟨k, o, none⟩ := fun k o hk => World.cell?_of_block (a := ⟨k, o, none⟩) (w := V1) (gV2.block k hk)
 have KEEP : V2.cell? ⟨tb, 0, none⟩ = some (.pointer (some ⟨xb, 0, none⟩)) ∧ V2.cell? ⟨tb, 1, none⟩ = some (.pointer (some ⟨ub, 0, none⟩)) ∧ V2.cell? ⟨tb, 2, none⟩ = some (.pointer np) ∧ V2.cell? ⟨ub, 0, none⟩ = some (.pointer (some ⟨yb, 0, none⟩)) ∧ V2.cell? ⟨ub, 1, none⟩ = some (.pointer ulp) ∧ V2.cell? ⟨ub, 2, none⟩ = some (.pointer urp) := ⟨(kc _ _ htl).trans KEEP.1, (kc _ _ htl).trans KEEP.2.1, (kc _ _ htl).trans KEEP.2.2.1, (kc _ _ hul').trans KEEP.2.2.2.1, (kc _ _ hul').trans KEEP.2.2.2.2.1, (kc _ _ hul').trans KEEP.2.2.2.2.2⟩
 have htl : tb < V2.heap.size := Nat.lt_of_lt_of_le htl sV2
 have hul' : ub < V2.heap.size := Nat.lt_of_lt_of_le hul' sV2
 clear kc
 have t1 := t1.below gV2
 go_wp2_with fail
 refine hK.out _ _ ?_ (fun hHeld => ?_)
 ·((try dsimp only); exact KEEP)
 clear hK K hHold
 try simp only [Act.put, List.setIfInBounds_toArray, List.set_cons_zero, List.set_cons_succ]
 refine wpAnyH_ready (rs := [24]) (by kernel_rfl) (by simp) ?_
 refine AllReadyH.cons (o := { dst := some 63, op := Op.call { callee := Callee.value (Operand.func 65), args := #[Operand.tmp 45, Operand.tmp 49, Operand.tmp 62], argTypes := #[104, 67, 104] }, type := 104, pos := "tree.go:85", after := #[{ on := 6, ground := Ground.data }, { on := 10, ground := Ground.data }, { on := 23, ground := Ground.data }, { on := 23, ground := Ground.chain }], guard := none }) rfl (fun K hK => ?_) AllReadyH.nil
 have hHold := hHeld
 clear hHeld
 go_simp
 have hcl := grownC t1 t2 yb yl (HX.out V2 (unhide GV2)).2.2.1 (by simp only [List.length_append, List.length_cons]; omega)
 refine hcl.mono ?_
 clear hcl
 rintro e V3 ⟨q3, i3, rfl, hq3, gV3, t3⟩
 have sV3 : V2.heap.size ≤ V3.heap.size := gV3.size
 have GV3 : Hid (Below W.heap.size W V3) := (unhide GV2).trans (gV3.mono (by have := (unhide GV2).size; show W.heap.size ≤ V2.heap.size; omega))
 have kc : ∀ k o, k < V2.heap.size → V3.cell? ⟨k, o, none⟩ = V2.cell? ⟨k, o, none⟩ := fun k o hk => World.cell?_of_block (a := ⟨k, o, none⟩) (w := V2) (gV3.block k hk)
 have KEEP : V3.cell? ⟨tb, 0, none⟩ = some (.pointer (some ⟨xb, 0, none⟩)) ∧ V3.cell? ⟨tb, 1, none⟩ = some (.pointer (some ⟨ub, 0, none⟩)) ∧ V3.cell? ⟨tb, 2, none⟩ = some (.pointer np) ∧ V3.cell? ⟨ub, 0, none⟩ = some (.pointer (some ⟨yb, 0, none⟩)) ∧ V3.cell? ⟨ub, 1, none⟩ = some (.pointer ulp) ∧ V3.cell? ⟨ub, 2, none⟩ = some (.pointer urp) := ⟨(kc _ _ htl).trans KEEP.1, (kc _ _ htl).trans KEEP.2.1, (kc _ _ htl).trans KEEP.2.2.1, (kc _ _ hul').trans KEEP.2.2.2.1, (kc _ _ hul').trans KEEP.2.2.2.2.1, (kc _ _ hul').trans KEEP.2.2.2.2.2⟩
 have htl : tb < V3.heap.size := Nat.lt_of_lt_of_le htl sV3
 have hul' : ub < V3.heap.size := Nat.lt_of_lt_of_le hul' sV3
 clear kc
 go_wp2_with fail
 refine hK.out _ _ ?_ (fun hHeld => ?_)
 ·((try dsimp only); exact KEEP)
 clear hK K hHold
 try simp only [Act.put, List.setIfInBounds_toArray, List.set_cons_zero, List.set_cons_succ]
 refine wpAnyH_take (i := 25) (oi := { dst := some 6, op := Op.assign (Operand.tmp 63), type := 104, pos := "tree.go:85", after := #[{ on := 24, ground := Ground.data }, { on := 24, ground := Ground.chain }, { on := 0, ground := Ground.phase }, { on := 1, ground := Ground.phase }, { on := 2, ground := Ground.phase }, { on := 3, ground := Ground.phase }, { on := 4, ground := Ground.phase }, { on := 5, ground := Ground.phase }, { on := 6, ground := Ground.phase }, { on := 7, ground := Ground.phase }, { on := 8, ground := Ground.phase }, { on := 9, ground := Ground.phase }, { on := 10, ground := Ground.phase }, { on := 11, ground := Ground.phase }, { on := 12, ground := Ground.phase }, { on := 13, ground := Ground.phase }, { on := 14, ground := Ground.phase }, { on := 15, ground := Ground.phase }, { on := 16, ground := Ground.phase }, { on := 17, ground := Ground.phase }, { on := 18, ground := Ground.phase }, { on := 19, ground := Ground.phase }, { on := 20, ground := Ground.phase }, { on := 21, ground := Ground.phase }, { on := 22, ground := Ground.phase }, { on := 23, ground := Ground.phase }, { on := 24, ground := Ground.phase }], guard := none }) (v := ?_) rfl (by kernel_rfl) (by kernel_rfl) (by kernel_rfl) (fun _ _ _ h => h) (Or.inl ⟨by rfl, ?_⟩) hHeld ?_
 rotate_left
 ·(intro w' hSw; (try dsimp only at hSw); go_simp; try with_reducible rfl)
 try simp only [Act.put, List.setIfInBounds_toArray, List.set_cons_zero, List.set_cons_succ]
 refine wpAnyH_done (by kernel_rfl) ?_ _
 refine NoPanic.normal ?_
 clear hHeld KEEP
 have HF : Hid (Below W.heap.size W V3 ∧ W.heap.size ≤ q3 ∧ TrL V3 (some ⟨q3, 0, none⟩) (Lo ++ (eb, pl) :: ((Lul ++ (yb, yl) :: Lur) ++ (xb, xl) :: Ln)) i3) := ⟨unhide GV3, by omega, by have h := t3; rw [show (Lo ++ (eb, pl) :: Lul) ++ (yb, yl) :: (Lur ++ (xb, xl) :: Ln) = Lo ++ (eb, pl) :: ((Lul ++ (yb, yl) :: Lur) ++ (xb, xl) :: Ln) by simp] at h; exact h⟩
 clear t1 t2 t3 gV1 gV2 gV3 GV0 GV1 GV2 GV3 HX
 go_wp2_with fail
 all_goals go_ret
 all_goals exact ⟨q3, i3, rfl, HF.out.2.1, HF.out.1, HF.out.2.2⟩
theorem leaningRight_any {W : World} {tp op : Option Addr} {eb : Nat} {pl : Int} {Lt Lo : List (Nat × Int)} {ht ho : Int} (h1 : TrL W tp Lt ht) (h3 : TrL W op Lo ho) (he : W.cell? ⟨eb, 0, none⟩ = some (.int .i64 pl)) (hn : Lt.length + Lo.length < 4611686018427387900) (hc : 1 ≤ ht) : TreeC W 89 #[.pointer op, .pointer (some ⟨eb, 0, none⟩), .pointer tp] (Lo ++ (eb, pl) :: Lt) := by
 rcases h1.cases with ⟨_, _, rfl⟩ | ⟨tb, xb, xl, lp, rp, Ll, Lr, hl, hr, rfl, hb, hx, k1, k2, rfl, rfl⟩
 ·omega
 ·rw [len_cons] at hn
  by_cases hle : hl ≤ hr
  ·exact leaningRight_a hb hx he k1 k2 h3 (by omega) hle
  ·rcases k1.cases with ⟨_, _, rfl⟩ | ⟨ub, yb, yl, ulp, urp, Lul, Lur, hul, hur, rfl, hu, hy, m1, m2, rfl, rfl⟩
   ·have := k2.ht; omega
   ·rw [len_cons] at hn
    exact leaningRight_b hb hu hx hy he k2 m1 m2 h3 (by omega) (by omega)
theorem balanced_any {W : World} {lp rp : Option Addr} {eb : Nat} {pl : Int} {Ll Lr : List (Nat × Int)} {hl hr : Int} (h1 : TrL W lp Ll hl) (h2 : TrL W rp Lr hr) (he : W.cell? ⟨eb, 0, none⟩ = some (.int .i64 pl)) (hn : Ll.length + Lr.length < 4611686018427387900) : TreeC W 66 #[.pointer lp, .pointer (some ⟨eb, 0, none⟩), .pointer rp] (Ll ++ (eb, pl) :: Lr) := by
 have b1 := h1.ht
 have b2 := h2.ht
 have t1 := tall_any h1.tall
 have t2 := tall_any h2.tall
 have w1 : wrap64 (hr + 1) = hr + 1 := by unfold wrap64; omega
 have w2 : wrap64 (hl + 1) = hl + 1 := by unfold wrap64; omega
 by_cases c1 : hr + 1 < hl
 ·have hx := leaningLeft_any h1 h2 he hn (by omega)
  unfold TreeC at hx ⊢
  clear h1 h2 he b1 b2 w2
  have c1' : hl > hr + 1 := c1
  go_enter Tryz.func66, Tryz.ntmps66
  go_wp2_with fail
  refine t1.mono ?_
  rintro e V1 ⟨rfl, rfl⟩
  go_wp2_with fail
  refine t2.mono ?_
  rintro e V2 ⟨rfl, rfl⟩
  go_wp2_with fail
  refine hx.mono ?_
  rintro e V3 ⟨q, h, rfl, k1, k2, k3⟩
  have HF := hide (And.intro k1 (And.intro k2 k3))
  clear k1 k2 k3 hx t1 t2
  go_wp2_with fail
  all_goals go_ret
  all_goals exact ⟨q, h, rfl, HF.out⟩
 ·have c1' : ¬ (hl > hr + 1) := c1
  by_cases c2 : hl + 1 < hr
  ·have hx := leaningRight_any h2 h1 he (by omega) (by omega)
   unfold TreeC at hx ⊢
   clear h1 h2 he b1 b2 c1
   have c2' : hr > hl + 1 := c2
   go_enter Tryz.func66, Tryz.ntmps66
   go_wp2_with fail
   refine t1.mono ?_
   rintro e V1 ⟨rfl, rfl⟩
   go_wp2_with fail
   refine t2.mono ?_
   rintro e V2 ⟨rfl, rfl⟩
   go_wp2_with fail
   refine t2.mono ?_
   rintro e V1 ⟨rfl, rfl⟩
   go_wp2_with fail
   refine t1.mono ?_
   rintro e V2 ⟨rfl, rfl⟩
   go_wp2_with fail
   refine hx.mono ?_
   rintro e V3 ⟨q, h, rfl, k1, k2, k3⟩
   have HF := hide (And.intro k1 (And.intro k2 k3))
   clear k1 k2 k3 hx t1 t2
   go_wp2_with fail
   all_goals go_ret
   all_goals exact ⟨q, h, rfl, HF.out⟩
  ·have hx := grownC h1 h2 eb pl he (by omega)
   have c2' : ¬ (hr > hl + 1) := c2
   unfold TreeC at hx ⊢
   clear h1 h2 he b1 b2 c1 c2
   go_enter Tryz.func66, Tryz.ntmps66
   go_wp2_with fail
   refine t1.mono ?_
   rintro e V1 ⟨rfl, rfl⟩
   go_wp2_with fail
   refine t2.mono ?_
   rintro e V2 ⟨rfl, rfl⟩
   go_wp2_with fail
   refine t2.mono ?_
   rintro e V1 ⟨rfl, rfl⟩
   go_wp2_with fail
   refine t1.mono ?_
   rintro e V2 ⟨rfl, rfl⟩
   go_wp2_with fail
   refine hx.mono ?_
   rintro e V3 ⟨q, h, rfl, k1, k2, k3⟩
   have HF := hide (And.intro k1 (And.intro k2 k3))
   clear k1 k2 k3 hx t1 t2
   go_wp2_with fail
   all_goals go_ret
   all_goals exact ⟨q, h, rfl, HF.out⟩
end Go.Proofs.YtlbobmebbllifaaGreat
