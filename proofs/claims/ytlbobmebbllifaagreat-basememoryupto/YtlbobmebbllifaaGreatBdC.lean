import Derived.Test.YtlbobmebbllifaaGreatBdB
/- Sorted rows of entries: after, with. (Written by wip/treegen.py.) -/
namespace Go.Proofs.YtlbobmebbllifaaGreat
set_option maxHeartbeats 4000000
set_option maxRecDepth 100000
open Go.RowKit Go.Shelf Go.Maps
def Srt (L : List (Nat × Int)) : Prop := L.Pairwise (fun a b => a.2 < b.2)
theorem srt_node {Ll Lr : List (Nat × Int)} {x : Nat × Int} (h : Srt (Ll ++ x :: Lr)) : Srt Ll ∧ Srt Lr ∧ (∀ y ∈ Ll, y.2 < x.2) ∧ (∀ y ∈ Lr, x.2 < y.2) ∧ ∀ y ∈ Ll, ∀ z ∈ Lr, y.2 < z.2 := by
 unfold Srt at h
 rw [List.pairwise_append, List.pairwise_cons] at h
 exact ⟨h.1, h.2.1.2, fun y hy => h.2.2 y hy x (by simp), h.2.1.1, fun y hy z hz => h.2.2 y hy z (by simp [hz])⟩
theorem find_none {L : List (Nat × Int)} {p : Int} (h : ∀ y ∈ L, y.2 ≤ p) : L.find? (fun x => decide (p < x.2)) = none := by
 rw [List.find?_eq_none]
 intro y hy
 have := h y hy
 simp
 omega
theorem afterT_find : ∀ {n : Nat} (t : Tr n) (p : Int) (f : Option Nat), Srt (entsT t) → afterT t p f = match (entsT t).find? (fun x => decide (p < x.2)) with | some x => some x.1 | none => f := by
 intro n
 induction n with
 | zero => intro t p f _; rfl
 | succ n ih =>
  intro t p f hs
  match t, hs with
  | none, _ => rfl
  | some (tb, eb, pl, ht, l, r), hs =>
   have hs' : Srt (entsT l ++ (eb, pl) :: entsT r) := hs
   obtain ⟨s1, s2, s3, s4, _⟩ := srt_node hs'
   show (if p < pl then afterT l p (some eb) else afterT r p f) = match (entsT l ++ (eb, pl) :: entsT r).find? (fun x => decide (p < x.2)) with | some x => some x.1 | none => f
   rw [List.find?_append]
   by_cases hp : p < pl
   ·rw [if_pos hp, ih l p (some eb) s1, List.find?_cons_of_pos (by simpa using hp)]
    cases hq : (entsT l).find? (fun x => decide (p < x.2)) with
    | none => rfl
    | some x => rfl
   ·rw [if_neg hp, ih r p f s2, find_none (L := entsT l) (fun y hy => by have := s3 y hy; omega), List.find?_cons_of_neg (by simpa using hp)]
    rfl
def nextE (L : List (Nat × Int)) (p : Int) : Option (Nat × Int) := L.find? (fun x => decide (p < x.2))
theorem afterL {W : World} {p : Option Addr} {L : List (Nat × Int)} {h : Int} (ht : TrL W p L h) (hs : Srt L) (pl : Int) : Calls Tryz.prog 55 #[.pointer p, .int .i64 pl] W fun e W' => e = .returned (ptrE ((nextE L pl).map (·.1))) ∧ Below W.heap.size W W' := by
 obtain ⟨N, k⟩ := ht
 obtain ⟨t, h1, _, h3, _⟩ := k N (Nat.le_refl _)
 have h := after_any t p pl W h1
 rw [afterT_find t pl none (by rw [h3]; exact hs), h3] at h
 unfold nextE
 cases hq : L.find? (fun x => decide (pl < x.2)) with
 | none => rw [hq] at h; exact h
 | some x => rw [hq] at h; exact h
def insL (L : List (Nat × Int)) (x : Nat × Int) : List (Nat × Int) := L.filter (fun y => decide (y.2 < x.2)) ++ x :: L.filter (fun y => decide (x.2 ≤ y.2))
theorem insL_len (L : List (Nat × Int)) (x : Nat × Int) : (insL L x).length = L.length + 1 := by
 unfold insL
 rw [List.length_append, List.length_cons]
 induction L with
 | nil => rfl
 | cons y L ih =>
  by_cases h : y.2 < x.2
  ·rw [List.filter_cons_of_pos (by simpa using h), List.filter_cons_of_neg (by simp; omega)]
   simp only [List.length_cons]
   omega
  ·rw [List.filter_cons_of_neg (by simpa using h), List.filter_cons_of_pos (by simp; omega)]
   simp only [List.length_cons]
   omega
theorem filter_all' {L : List (Nat × Int)} {f : Nat × Int → Bool} (h : ∀ y ∈ L, f y = true) : L.filter f = L := List.filter_eq_self.2 h
theorem filter_no {L : List (Nat × Int)} {f : Nat × Int → Bool} (h : ∀ y ∈ L, f y = false) : L.filter f = [] := List.filter_eq_nil_iff.2 (fun y hy => by rw [h y hy]; simp)
theorem insL_left {Ll Lr : List (Nat × Int)} {x e : Nat × Int} (hs : Srt (Ll ++ x :: Lr)) (h : e.2 < x.2) : insL (Ll ++ x :: Lr) e = insL Ll e ++ x :: Lr := by
 obtain ⟨_, _, _, s4, _⟩ := srt_node hs
 unfold insL
 rw [List.filter_append, List.filter_append, List.filter_cons_of_neg (by simp; omega), List.filter_cons_of_pos (by simp; omega), filter_no (L := Lr) (f := fun y => decide (y.2 < e.2)) (fun y hy => by have := s4 y hy; simp; omega), filter_all' (L := Lr) (f := fun y => decide (e.2 ≤ y.2)) (fun y hy => by have := s4 y hy; simp; omega)]
 simp
theorem insL_right {Ll Lr : List (Nat × Int)} {x e : Nat × Int} (hs : Srt (Ll ++ x :: Lr)) (h : x.2 < e.2) : insL (Ll ++ x :: Lr) e = Ll ++ x :: insL Lr e := by
 obtain ⟨_, _, s3, _, _⟩ := srt_node hs
 unfold insL
 rw [List.filter_append, List.filter_append, List.filter_cons_of_pos (by simpa using h), List.filter_cons_of_neg (by simp; omega), filter_all' (L := Ll) (f := fun y => decide (y.2 < e.2)) (fun y hy => by have := s3 y hy; simp; omega), filter_no (L := Ll) (f := fun y => decide (e.2 ≤ y.2)) (fun y hy => by have := s3 y hy; simp; omega)]
 simp
theorem with_left {W : World} {tb xb eb : Nat} {xl pl ht : Int} {lp rp : Option Addr} {Ll Lr Ls : List (Nat × Int)} {hl hr : Int} (hb : W.heap[tb]? = some (.cells #[.pointer (some ⟨xb, 0, none⟩), .pointer lp, .pointer rp, .int .i64 ht] 131 (0, 0))) (hx : W.cell? ⟨xb, 0, none⟩ = some (.int .i64 xl)) (he : W.cell? ⟨eb, 0, none⟩ = some (.int .i64 pl)) (h1 : TrL W lp Ll hl) (h2 : TrL W rp Lr hr) (hn : Ls.length + Ll.length + Lr.length < 4611686018427387900) (hc : pl < xl) (ih : ∀ V, Below W.heap.size W V → TreeC V 48 #[.pointer lp, .pointer (some ⟨eb, 0, none⟩)] Ls) :
  TreeC W 48 #[.pointer (some ⟨tb, 0, none⟩), .pointer (some ⟨eb, 0, none⟩)] (Ls ++ (xb, xl) :: Lr) := by
 unfold TreeC
 have htl := cell_in (node_cells hb).1
 have hxl := cell_in hx
 have hel := cell_in he
 have HX : Hid (∀ V, Below W.heap.size W V → V.cell? ⟨xb, 0, none⟩ = some (.int .i64 xl) ∧ TrL V lp Ll hl ∧ TrL V rp Lr hr) := fun V hV => ⟨(hV.cell (p := ⟨xb, 0, none⟩) hxl).trans hx, h1.below hV, h2.below hV⟩
 obtain ⟨n0, n1, n2, -⟩ := node_cells hb
 have HI := hide ih
 have hcc : pl < xl := hc
 clear hb h1 h2 ih hc
 go_enter Tryz.func48, Tryz.ntmps48
 go_wp2_with fail
 go_region
 have WD : Hid (Below W.heap.size W W.drew) := (Below.refl _ W).drew
 obtain ⟨V0, hV0⟩ : ∃ V0, W.drew = V0 := ⟨_, rfl⟩
 have s0 : V0.heap.size = W.heap.size := by rw [← hV0]; rfl
 rw [hV0] at WD
 have GV0 : Hid (Below W.heap.size W V0) := WD.out
 rw [hV0]
 clear WD
 have m0 : V0.cell? ⟨tb, 0, none⟩ = some (.pointer (some ⟨xb, 0, none⟩)) := ((unhide GV0).cell (p := ⟨tb, 0, none⟩) htl).trans n0
 have m1 : V0.cell? ⟨tb, 1, none⟩ = some (.pointer lp) := ((unhide GV0).cell (p := ⟨tb, 1, none⟩) htl).trans n1
 have m2 : V0.cell? ⟨tb, 2, none⟩ = some (.pointer rp) := ((unhide GV0).cell (p := ⟨tb, 2, none⟩) htl).trans n2
 clear n0 n1 n2 hV0 hx he
 replace htl : tb < V0.heap.size := by omega
 go_wp2_with fail
 have KEEP : V0.cell? ⟨tb, 0, none⟩ = some (.pointer (some ⟨xb, 0, none⟩)) ∧ V0.cell? ⟨tb, 1, none⟩ = some (.pointer lp) ∧ V0.cell? ⟨tb, 2, none⟩ = some (.pointer rp) := ⟨m0, m1, m2⟩
 refine wp_region_noPanic ?_
 refine wp_region_held_drew (S := (fun w' => w'.cell? ⟨tb, 0, none⟩ = some (.pointer (some ⟨xb, 0, none⟩)) ∧ w'.cell? ⟨tb, 1, none⟩ = some (.pointer lp) ∧ w'.cell? ⟨tb, 2, none⟩ = some (.pointer rp))) (by kernel_rfl) ?_ (fun hHeld => ?_)
 ·exact KEEP
 refine wpAnyH_take (i := 0) (oi := { dst := some 23, op := Op.move (Operand.tmp 0), type := 104, pos := "tree.go:31", after := #[], guard := none }) (v := ?_) rfl (by kernel_rfl) (by kernel_rfl) (by kernel_rfl) (fun _ _ _ h => h) (Or.inl ⟨by rfl, ?_⟩) hHeld ?_
 rotate_left
 ·(intro w' hSw; (try dsimp only at hSw); go_simp; try with_reducible rfl)
 try simp only [Act.put, List.setIfInBounds_toArray, List.set_cons_zero, List.set_cons_succ]
 refine wpAnyH_take (i := 1) (oi := { dst := some 24, op := Op.nilCheck (Operand.tmp 23), type := 0, pos := "tree.go:31", after := #[{ on := 0, ground := Ground.data }], guard := none }) (v := ?_) rfl (by kernel_rfl) (by kernel_rfl) (by kernel_rfl) (fun _ _ _ h => h) (Or.inl ⟨by rfl, ?_⟩) hHeld ?_
 rotate_left
 ·(intro w' hSw; (try dsimp only at hSw); go_simp; try with_reducible rfl)
 try simp only [Act.put, List.setIfInBounds_toArray, List.set_cons_zero, List.set_cons_succ]
 refine wpAnyH_take (i := 2) (oi := { dst := some 25, op := Op.fieldAddr 131 (Operand.tmp 24) 1, type := 0, pos := "tree.go:31", after := #[{ on := 1, ground := Ground.data }], guard := none }) (v := ?_) rfl (by kernel_rfl) (by kernel_rfl) (by kernel_rfl) (fun _ _ _ h => h) (Or.inl ⟨by rfl, ?_⟩) hHeld ?_
 rotate_left
 ·(intro w' hSw; (try dsimp only at hSw); go_simp; try with_reducible rfl)
 try simp only [Act.put, List.setIfInBounds_toArray, List.set_cons_zero, List.set_cons_succ]
 refine wpAnyH_take (i := 3) (oi := { dst := some 26, op := Op.load 104 (Operand.tmp 25), type := 104, pos := "tree.go:31", after := #[{ on := 2, ground := Ground.data }], guard := none }) (v := ?_) rfl (by kernel_rfl) (by kernel_rfl) (by kernel_rfl) (fun _ _ _ h => h) (Or.inl ⟨by rfl, ?_⟩) hHeld ?_
 rotate_left
 ·(intro w' hSw; (try dsimp only at hSw); go_simp; try with_reducible rfl)
 try simp only [Act.put, List.setIfInBounds_toArray, List.set_cons_zero, List.set_cons_succ]
 refine wpAnyH_take (i := 4) (oi := { dst := some 27, op := Op.move (Operand.tmp 1), type := 67, pos := "tree.go:31", after := #[], guard := none }) (v := ?_) rfl (by kernel_rfl) (by kernel_rfl) (by kernel_rfl) (fun _ _ _ h => h) (Or.inl ⟨by rfl, ?_⟩) hHeld ?_
 rotate_left
 ·(intro w' hSw; (try dsimp only at hSw); go_simp; try with_reducible rfl)
 try simp only [Act.put, List.setIfInBounds_toArray, List.set_cons_zero, List.set_cons_succ]
 refine wpAnyH_take (i := 6) (oi := { dst := some 29, op := Op.move (Operand.tmp 0), type := 104, pos := "tree.go:31", after := #[], guard := none }) (v := ?_) rfl (by kernel_rfl) (by kernel_rfl) (by kernel_rfl) (fun _ _ _ h => h) (Or.inl ⟨by rfl, ?_⟩) hHeld ?_
 rotate_left
 ·(intro w' hSw; (try dsimp only at hSw); go_simp; try with_reducible rfl)
 try simp only [Act.put, List.setIfInBounds_toArray, List.set_cons_zero, List.set_cons_succ]
 refine wpAnyH_take (i := 7) (oi := { dst := some 30, op := Op.nilCheck (Operand.tmp 29), type := 0, pos := "tree.go:31", after := #[{ on := 6, ground := Ground.data }], guard := none }) (v := ?_) rfl (by kernel_rfl) (by kernel_rfl) (by kernel_rfl) (fun _ _ _ h => h) (Or.inl ⟨by rfl, ?_⟩) hHeld ?_
 rotate_left
 ·(intro w' hSw; (try dsimp only at hSw); go_simp; try with_reducible rfl)
 try simp only [Act.put, List.setIfInBounds_toArray, List.set_cons_zero, List.set_cons_succ]
 refine wpAnyH_take (i := 8) (oi := { dst := some 31, op := Op.fieldAddr 131 (Operand.tmp 30) 0, type := 0, pos := "tree.go:31", after := #[{ on := 7, ground := Ground.data }], guard := none }) (v := ?_) rfl (by kernel_rfl) (by kernel_rfl) (by kernel_rfl) (fun _ _ _ h => h) (Or.inl ⟨by rfl, ?_⟩) hHeld ?_
 rotate_left
 ·(intro w' hSw; (try dsimp only at hSw); go_simp; try with_reducible rfl)
 try simp only [Act.put, List.setIfInBounds_toArray, List.set_cons_zero, List.set_cons_succ]
 refine wpAnyH_take (i := 9) (oi := { dst := some 32, op := Op.load 67 (Operand.tmp 31), type := 67, pos := "tree.go:31", after := #[{ on := 8, ground := Ground.data }], guard := none }) (v := ?_) rfl (by kernel_rfl) (by kernel_rfl) (by kernel_rfl) (fun _ _ _ h => h) (Or.inl ⟨by rfl, ?_⟩) hHeld ?_
 rotate_left
 ·(intro w' hSw; (try dsimp only at hSw); go_simp; try with_reducible rfl)
 try simp only [Act.put, List.setIfInBounds_toArray, List.set_cons_zero, List.set_cons_succ]
 refine wpAnyH_take (i := 10) (oi := { dst := some 33, op := Op.move (Operand.tmp 0), type := 104, pos := "tree.go:31", after := #[], guard := none }) (v := ?_) rfl (by kernel_rfl) (by kernel_rfl) (by kernel_rfl) (fun _ _ _ h => h) (Or.inl ⟨by rfl, ?_⟩) hHeld ?_
 rotate_left
 ·(intro w' hSw; (try dsimp only at hSw); go_simp; try with_reducible rfl)
 try simp only [Act.put, List.setIfInBounds_toArray, List.set_cons_zero, List.set_cons_succ]
 refine wpAnyH_take (i := 11) (oi := { dst := some 34, op := Op.nilCheck (Operand.tmp 33), type := 0, pos := "tree.go:31", after := #[{ on := 10, ground := Ground.data }], guard := none }) (v := ?_) rfl (by kernel_rfl) (by kernel_rfl) (by kernel_rfl) (fun _ _ _ h => h) (Or.inl ⟨by rfl, ?_⟩) hHeld ?_
 rotate_left
 ·(intro w' hSw; (try dsimp only at hSw); go_simp; try with_reducible rfl)
 try simp only [Act.put, List.setIfInBounds_toArray, List.set_cons_zero, List.set_cons_succ]
 refine wpAnyH_take (i := 12) (oi := { dst := some 35, op := Op.fieldAddr 131 (Operand.tmp 34) 2, type := 0, pos := "tree.go:31", after := #[{ on := 11, ground := Ground.data }], guard := none }) (v := ?_) rfl (by kernel_rfl) (by kernel_rfl) (by kernel_rfl) (fun _ _ _ h => h) (Or.inl ⟨by rfl, ?_⟩) hHeld ?_
 rotate_left
 ·(intro w' hSw; (try dsimp only at hSw); go_simp; try with_reducible rfl)
 try simp only [Act.put, List.setIfInBounds_toArray, List.set_cons_zero, List.set_cons_succ]
 refine wpAnyH_take (i := 13) (oi := { dst := some 36, op := Op.load 104 (Operand.tmp 35), type := 104, pos := "tree.go:31", after := #[{ on := 12, ground := Ground.data }], guard := none }) (v := ?_) rfl (by kernel_rfl) (by kernel_rfl) (by kernel_rfl) (fun _ _ _ h => h) (Or.inl ⟨by rfl, ?_⟩) hHeld ?_
 rotate_left
 ·(intro w' hSw; (try dsimp only at hSw); go_simp; try with_reducible rfl)
 try simp only [Act.put, List.setIfInBounds_toArray, List.set_cons_zero, List.set_cons_succ]
 refine wpAnyH_ready (rs := [5]) (by kernel_rfl) (by simp) ?_
 refine AllReadyH.cons (o := { dst := some 28, op := Op.call { callee := Callee.value (Operand.func 48), args := #[Operand.tmp 26, Operand.tmp 27], argTypes := #[104, 67] }, type := 104, pos := "tree.go:31", after := #[{ on := 3, ground := Ground.data }, { on := 4, ground := Ground.data }], guard := none }) rfl (fun K hK => ?_) AllReadyH.nil
 have hHold := hHeld
 clear hHeld
 go_simp
 have hcl := (unhide HI) V0.drew (unhide GV0).drew
 refine hcl.mono ?_
 clear hcl
 rintro e V1 ⟨q1, i1, rfl, hq1, gV1, t1⟩
 have sV1 : V0.heap.size ≤ V1.heap.size := gV1.size
 have GV1 : Hid (Below W.heap.size W V1) := (unhide GV0).drew.trans (gV1.mono (by have := (unhide GV0).size; show W.heap.size ≤ V0.heap.size; omega))
 have kc : ∀ k o, k < V0.heap.size → V1.cell? ⟨k, o, none⟩ = V0.cell? ⟨k, o, none⟩ := fun k o hk => World.cell?_of_block (a := ⟨k, o, none⟩) (w := V0) (gV1.block k hk)
 have KEEP : V1.cell? ⟨tb, 0, none⟩ = some (.pointer (some ⟨xb, 0, none⟩)) ∧ V1.cell? ⟨tb, 1, none⟩ = some (.pointer lp) ∧ V1.cell? ⟨tb, 2, none⟩ = some (.pointer rp) := ⟨(kc _ _ htl).trans KEEP.1, (kc _ _ htl).trans KEEP.2.1, (kc _ _ htl).trans KEEP.2.2⟩
 have htl : tb < V1.heap.size := Nat.lt_of_lt_of_le htl sV1
 clear kc
 go_wp2_with fail
 refine hK.out _ _ ?_ (fun hHeld => ?_)
 ·((try dsimp only); exact KEEP)
 clear hK K hHold
 try simp only [Act.put, List.setIfInBounds_toArray, List.set_cons_zero, List.set_cons_succ]
 refine wpAnyH_ready (rs := [14]) (by kernel_rfl) (by simp) ?_
 refine AllReadyH.cons (o := { dst := some 37, op := Op.call { callee := Callee.value (Operand.func 66), args := #[Operand.tmp 28, Operand.tmp 32, Operand.tmp 36], argTypes := #[104, 67, 104] }, type := 104, pos := "tree.go:31", after := #[{ on := 5, ground := Ground.data }, { on := 9, ground := Ground.data }, { on := 13, ground := Ground.data }, { on := 5, ground := Ground.chain }], guard := none }) rfl (fun K hK => ?_) AllReadyH.nil
 have hHold := hHeld
 clear hHeld
 go_simp
 have hcl := balanced_any t1 (HX.out V1 (unhide GV1)).2.2 (HX.out V1 (unhide GV1)).1 (by omega)
 refine hcl.mono ?_
 clear hcl
 rintro e V2 ⟨q2, i2, rfl, hq2, gV2, t2⟩
 have sV2 : V1.heap.size ≤ V2.heap.size := gV2.size
 have GV2 : Hid (Below W.heap.size W V2) := (unhide GV1).trans (gV2.mono (by have := (unhide GV1).size; show W.heap.size ≤ V1.heap.size; omega))
 have kc : ∀ k o, k < V1.heap.size → V2.cell? ⟨k, o, none⟩ = V1.cell? ⟨k, o, none⟩ := fun k o hk => World.cell?_of_block (a := ⟨k, o, none⟩) (w := V1) (gV2.block k hk)
 have KEEP : V2.cell? ⟨tb, 0, none⟩ = some (.pointer (some ⟨xb, 0, none⟩)) ∧ V2.cell? ⟨tb, 1, none⟩ = some (.pointer lp) ∧ V2.cell? ⟨tb, 2, none⟩ = some (.pointer rp) := ⟨(kc _ _ htl).trans KEEP.1, (kc _ _ htl).trans KEEP.2.1, (kc _ _ htl).trans KEEP.2.2⟩
 have htl : tb < V2.heap.size := Nat.lt_of_lt_of_le htl sV2
 clear kc
 go_wp2_with fail
 refine hK.out _ _ ?_ (fun hHeld => ?_)
 ·((try dsimp only); exact KEEP)
 clear hK K hHold
 try simp only [Act.put, List.setIfInBounds_toArray, List.set_cons_zero, List.set_cons_succ]
 refine wpAnyH_take (i := 15) (oi := { dst := some 4, op := Op.assign (Operand.tmp 37), type := 104, pos := "tree.go:31", after := #[{ on := 14, ground := Ground.data }, { on := 14, ground := Ground.chain }, { on := 0, ground := Ground.phase }, { on := 1, ground := Ground.phase }, { on := 2, ground := Ground.phase }, { on := 3, ground := Ground.phase }, { on := 4, ground := Ground.phase }, { on := 5, ground := Ground.phase }, { on := 6, ground := Ground.phase }, { on := 7, ground := Ground.phase }, { on := 8, ground := Ground.phase }, { on := 9, ground := Ground.phase }, { on := 10, ground := Ground.phase }, { on := 11, ground := Ground.phase }, { on := 12, ground := Ground.phase }, { on := 13, ground := Ground.phase }, { on := 14, ground := Ground.phase }], guard := none }) (v := ?_) rfl (by kernel_rfl) (by kernel_rfl) (by kernel_rfl) (fun _ _ _ h => h) (Or.inl ⟨by rfl, ?_⟩) hHeld ?_
 rotate_left
 ·(intro w' hSw; (try dsimp only at hSw); go_simp; try with_reducible rfl)
 try simp only [Act.put, List.setIfInBounds_toArray, List.set_cons_zero, List.set_cons_succ]
 refine wpAnyH_done (by kernel_rfl) ?_ _
 refine NoPanic.normal ?_
 clear hHeld KEEP
 have HF : Hid (W.heap.size ≤ q2 ∧ Below W.heap.size W V2 ∧ TrL V2 (some ⟨q2, 0, none⟩) (Ls ++ (xb, xl) :: Lr) i2) := ⟨by omega, unhide GV2, t2⟩
 clear t1 t2 gV1 gV2 GV0 GV1 GV2 HX HI
 go_wp2_with fail
 all_goals go_ret
 all_goals exact ⟨q2, i2, rfl, HF.out⟩
theorem with_right {W : World} {tb xb eb : Nat} {xl pl ht : Int} {lp rp : Option Addr} {Ll Lr Ls : List (Nat × Int)} {hl hr : Int} (hb : W.heap[tb]? = some (.cells #[.pointer (some ⟨xb, 0, none⟩), .pointer lp, .pointer rp, .int .i64 ht] 131 (0, 0))) (hx : W.cell? ⟨xb, 0, none⟩ = some (.int .i64 xl)) (he : W.cell? ⟨eb, 0, none⟩ = some (.int .i64 pl)) (h1 : TrL W lp Ll hl) (h2 : TrL W rp Lr hr) (hn : Ls.length + Ll.length + Lr.length < 4611686018427387900) (hc : ¬ pl < xl) (ih : ∀ V, Below W.heap.size W V → TreeC V 48 #[.pointer rp, .pointer (some ⟨eb, 0, none⟩)] Ls) :
  TreeC W 48 #[.pointer (some ⟨tb, 0, none⟩), .pointer (some ⟨eb, 0, none⟩)] (Ll ++ (xb, xl) :: Ls) := by
 unfold TreeC
 have htl := cell_in (node_cells hb).1
 have hxl := cell_in hx
 have hel := cell_in he
 have HX : Hid (∀ V, Below W.heap.size W V → V.cell? ⟨xb, 0, none⟩ = some (.int .i64 xl) ∧ TrL V lp Ll hl ∧ TrL V rp Lr hr) := fun V hV => ⟨(hV.cell (p := ⟨xb, 0, none⟩) hxl).trans hx, h1.below hV, h2.below hV⟩
 obtain ⟨n0, n1, n2, -⟩ := node_cells hb
 have HI := hide ih
 have hcc : ¬ pl < xl := hc
 clear hb h1 h2 ih hc
 go_enter Tryz.func48, Tryz.ntmps48
 go_wp2_with fail
 go_region
 have WD : Hid (Below W.heap.size W W.drew) := (Below.refl _ W).drew
 obtain ⟨V0, hV0⟩ : ∃ V0, W.drew = V0 := ⟨_, rfl⟩
 have s0 : V0.heap.size = W.heap.size := by rw [← hV0]; rfl
 rw [hV0] at WD
 have GV0 : Hid (Below W.heap.size W V0) := WD.out
 rw [hV0]
 clear WD
 have m0 : V0.cell? ⟨tb, 0, none⟩ = some (.pointer (some ⟨xb, 0, none⟩)) := ((unhide GV0).cell (p := ⟨tb, 0, none⟩) htl).trans n0
 have m1 : V0.cell? ⟨tb, 1, none⟩ = some (.pointer lp) := ((unhide GV0).cell (p := ⟨tb, 1, none⟩) htl).trans n1
 have m2 : V0.cell? ⟨tb, 2, none⟩ = some (.pointer rp) := ((unhide GV0).cell (p := ⟨tb, 2, none⟩) htl).trans n2
 clear n0 n1 n2 hV0 hx he
 replace htl : tb < V0.heap.size := by omega
 go_wp2_with fail
 have KEEP : V0.cell? ⟨tb, 0, none⟩ = some (.pointer (some ⟨xb, 0, none⟩)) ∧ V0.cell? ⟨tb, 1, none⟩ = some (.pointer lp) ∧ V0.cell? ⟨tb, 2, none⟩ = some (.pointer rp) := ⟨m0, m1, m2⟩
 refine wp_region_noPanic ?_
 refine wp_region_held_drew (S := (fun w' => w'.cell? ⟨tb, 0, none⟩ = some (.pointer (some ⟨xb, 0, none⟩)) ∧ w'.cell? ⟨tb, 1, none⟩ = some (.pointer lp) ∧ w'.cell? ⟨tb, 2, none⟩ = some (.pointer rp))) (by kernel_rfl) ?_ (fun hHeld => ?_)
 ·exact KEEP
 refine wpAnyH_take (i := 0) (oi := { dst := some 38, op := Op.move (Operand.tmp 0), type := 104, pos := "tree.go:33", after := #[], guard := none }) (v := ?_) rfl (by kernel_rfl) (by kernel_rfl) (by kernel_rfl) (fun _ _ _ h => h) (Or.inl ⟨by rfl, ?_⟩) hHeld ?_
 rotate_left
 ·(intro w' hSw; (try dsimp only at hSw); go_simp; try with_reducible rfl)
 try simp only [Act.put, List.setIfInBounds_toArray, List.set_cons_zero, List.set_cons_succ]
 refine wpAnyH_take (i := 1) (oi := { dst := some 39, op := Op.nilCheck (Operand.tmp 38), type := 0, pos := "tree.go:33", after := #[{ on := 0, ground := Ground.data }], guard := none }) (v := ?_) rfl (by kernel_rfl) (by kernel_rfl) (by kernel_rfl) (fun _ _ _ h => h) (Or.inl ⟨by rfl, ?_⟩) hHeld ?_
 rotate_left
 ·(intro w' hSw; (try dsimp only at hSw); go_simp; try with_reducible rfl)
 try simp only [Act.put, List.setIfInBounds_toArray, List.set_cons_zero, List.set_cons_succ]
 refine wpAnyH_take (i := 2) (oi := { dst := some 40, op := Op.fieldAddr 131 (Operand.tmp 39) 1, type := 0, pos := "tree.go:33", after := #[{ on := 1, ground := Ground.data }], guard := none }) (v := ?_) rfl (by kernel_rfl) (by kernel_rfl) (by kernel_rfl) (fun _ _ _ h => h) (Or.inl ⟨by rfl, ?_⟩) hHeld ?_
 rotate_left
 ·(intro w' hSw; (try dsimp only at hSw); go_simp; try with_reducible rfl)
 try simp only [Act.put, List.setIfInBounds_toArray, List.set_cons_zero, List.set_cons_succ]
 refine wpAnyH_take (i := 3) (oi := { dst := some 41, op := Op.load 104 (Operand.tmp 40), type := 104, pos := "tree.go:33", after := #[{ on := 2, ground := Ground.data }], guard := none }) (v := ?_) rfl (by kernel_rfl) (by kernel_rfl) (by kernel_rfl) (fun _ _ _ h => h) (Or.inl ⟨by rfl, ?_⟩) hHeld ?_
 rotate_left
 ·(intro w' hSw; (try dsimp only at hSw); go_simp; try with_reducible rfl)
 try simp only [Act.put, List.setIfInBounds_toArray, List.set_cons_zero, List.set_cons_succ]
 refine wpAnyH_take (i := 4) (oi := { dst := some 42, op := Op.move (Operand.tmp 0), type := 104, pos := "tree.go:33", after := #[], guard := none }) (v := ?_) rfl (by kernel_rfl) (by kernel_rfl) (by kernel_rfl) (fun _ _ _ h => h) (Or.inl ⟨by rfl, ?_⟩) hHeld ?_
 rotate_left
 ·(intro w' hSw; (try dsimp only at hSw); go_simp; try with_reducible rfl)
 try simp only [Act.put, List.setIfInBounds_toArray, List.set_cons_zero, List.set_cons_succ]
 refine wpAnyH_take (i := 5) (oi := { dst := some 43, op := Op.nilCheck (Operand.tmp 42), type := 0, pos := "tree.go:33", after := #[{ on := 4, ground := Ground.data }], guard := none }) (v := ?_) rfl (by kernel_rfl) (by kernel_rfl) (by kernel_rfl) (fun _ _ _ h => h) (Or.inl ⟨by rfl, ?_⟩) hHeld ?_
 rotate_left
 ·(intro w' hSw; (try dsimp only at hSw); go_simp; try with_reducible rfl)
 try simp only [Act.put, List.setIfInBounds_toArray, List.set_cons_zero, List.set_cons_succ]
 refine wpAnyH_take (i := 6) (oi := { dst := some 44, op := Op.fieldAddr 131 (Operand.tmp 43) 0, type := 0, pos := "tree.go:33", after := #[{ on := 5, ground := Ground.data }], guard := none }) (v := ?_) rfl (by kernel_rfl) (by kernel_rfl) (by kernel_rfl) (fun _ _ _ h => h) (Or.inl ⟨by rfl, ?_⟩) hHeld ?_
 rotate_left
 ·(intro w' hSw; (try dsimp only at hSw); go_simp; try with_reducible rfl)
 try simp only [Act.put, List.setIfInBounds_toArray, List.set_cons_zero, List.set_cons_succ]
 refine wpAnyH_take (i := 7) (oi := { dst := some 45, op := Op.load 67 (Operand.tmp 44), type := 67, pos := "tree.go:33", after := #[{ on := 6, ground := Ground.data }], guard := none }) (v := ?_) rfl (by kernel_rfl) (by kernel_rfl) (by kernel_rfl) (fun _ _ _ h => h) (Or.inl ⟨by rfl, ?_⟩) hHeld ?_
 rotate_left
 ·(intro w' hSw; (try dsimp only at hSw); go_simp; try with_reducible rfl)
 try simp only [Act.put, List.setIfInBounds_toArray, List.set_cons_zero, List.set_cons_succ]
 refine wpAnyH_take (i := 8) (oi := { dst := some 46, op := Op.move (Operand.tmp 0), type := 104, pos := "tree.go:33", after := #[], guard := none }) (v := ?_) rfl (by kernel_rfl) (by kernel_rfl) (by kernel_rfl) (fun _ _ _ h => h) (Or.inl ⟨by rfl, ?_⟩) hHeld ?_
 rotate_left
 ·(intro w' hSw; (try dsimp only at hSw); go_simp; try with_reducible rfl)
 try simp only [Act.put, List.setIfInBounds_toArray, List.set_cons_zero, List.set_cons_succ]
 refine wpAnyH_take (i := 9) (oi := { dst := some 47, op := Op.nilCheck (Operand.tmp 46), type := 0, pos := "tree.go:33", after := #[{ on := 8, ground := Ground.data }], guard := none }) (v := ?_) rfl (by kernel_rfl) (by kernel_rfl) (by kernel_rfl) (fun _ _ _ h => h) (Or.inl ⟨by rfl, ?_⟩) hHeld ?_
 rotate_left
 ·(intro w' hSw; (try dsimp only at hSw); go_simp; try with_reducible rfl)
 try simp only [Act.put, List.setIfInBounds_toArray, List.set_cons_zero, List.set_cons_succ]
 refine wpAnyH_take (i := 10) (oi := { dst := some 48, op := Op.fieldAddr 131 (Operand.tmp 47) 2, type := 0, pos := "tree.go:33", after := #[{ on := 9, ground := Ground.data }], guard := none }) (v := ?_) rfl (by kernel_rfl) (by kernel_rfl) (by kernel_rfl) (fun _ _ _ h => h) (Or.inl ⟨by rfl, ?_⟩) hHeld ?_
 rotate_left
 ·(intro w' hSw; (try dsimp only at hSw); go_simp; try with_reducible rfl)
 try simp only [Act.put, List.setIfInBounds_toArray, List.set_cons_zero, List.set_cons_succ]
 refine wpAnyH_take (i := 11) (oi := { dst := some 49, op := Op.load 104 (Operand.tmp 48), type := 104, pos := "tree.go:33", after := #[{ on := 10, ground := Ground.data }], guard := none }) (v := ?_) rfl (by kernel_rfl) (by kernel_rfl) (by kernel_rfl) (fun _ _ _ h => h) (Or.inl ⟨by rfl, ?_⟩) hHeld ?_
 rotate_left
 ·(intro w' hSw; (try dsimp only at hSw); go_simp; try with_reducible rfl)
 try simp only [Act.put, List.setIfInBounds_toArray, List.set_cons_zero, List.set_cons_succ]
 refine wpAnyH_take (i := 12) (oi := { dst := some 50, op := Op.move (Operand.tmp 1), type := 67, pos := "tree.go:33", after := #[], guard := none }) (v := ?_) rfl (by kernel_rfl) (by kernel_rfl) (by kernel_rfl) (fun _ _ _ h => h) (Or.inl ⟨by rfl, ?_⟩) hHeld ?_
 rotate_left
 ·(intro w' hSw; (try dsimp only at hSw); go_simp; try with_reducible rfl)
 try simp only [Act.put, List.setIfInBounds_toArray, List.set_cons_zero, List.set_cons_succ]
 refine wpAnyH_ready (rs := [13]) (by kernel_rfl) (by simp) ?_
 refine AllReadyH.cons (o := { dst := some 51, op := Op.call { callee := Callee.value (Operand.func 48), args := #[Operand.tmp 49, Operand.tmp 50], argTypes := #[104, 67] }, type := 104, pos := "tree.go:33", after := #[{ on := 11, ground := Ground.data }, { on := 12, ground := Ground.data }], guard := none }) rfl (fun K hK => ?_) AllReadyH.nil
 have hHold := hHeld
 clear hHeld
 go_simp
 have hcl := (unhide HI) V0.drew (unhide GV0).drew
 refine hcl.mono ?_
 clear hcl
 rintro e V1 ⟨q1, i1, rfl, hq1, gV1, t1⟩
 have sV1 : V0.heap.size ≤ V1.heap.size := gV1.size
 have GV1 : Hid (Below W.heap.size W V1) := (unhide GV0).drew.trans (gV1.mono (by have := (unhide GV0).size; show W.heap.size ≤ V0.heap.size; omega))
 have kc : ∀ k o, k < V0.heap.size → V1.cell? ⟨k, o, none⟩ = V0.cell? ⟨k, o, none⟩ := fun k o hk => World.cell?_of_block (a := ⟨k, o, none⟩) (w := V0) (gV1.block k hk)
 have KEEP : V1.cell? ⟨tb, 0, none⟩ = some (.pointer (some ⟨xb, 0, none⟩)) ∧ V1.cell? ⟨tb, 1, none⟩ = some (.pointer lp) ∧ V1.cell? ⟨tb, 2, none⟩ = some (.pointer rp) := ⟨(kc _ _ htl).trans KEEP.1, (kc _ _ htl).trans KEEP.2.1, (kc _ _ htl).trans KEEP.2.2⟩
 have htl : tb < V1.heap.size := Nat.lt_of_lt_of_le htl sV1
 clear kc
 go_wp2_with fail
 refine hK.out _ _ ?_ (fun hHeld => ?_)
 ·((try dsimp only); exact KEEP)
 clear hK K hHold
 try simp only [Act.put, List.setIfInBounds_toArray, List.set_cons_zero, List.set_cons_succ]
 refine wpAnyH_ready (rs := [14]) (by kernel_rfl) (by simp) ?_
 refine AllReadyH.cons (o := { dst := some 52, op := Op.call { callee := Callee.value (Operand.func 66), args := #[Operand.tmp 41, Operand.tmp 45, Operand.tmp 51], argTypes := #[104, 67, 104] }, type := 104, pos := "tree.go:33", after := #[{ on := 3, ground := Ground.data }, { on := 7, ground := Ground.data }, { on := 13, ground := Ground.data }, { on := 13, ground := Ground.chain }], guard := none }) rfl (fun K hK => ?_) AllReadyH.nil
 have hHold := hHeld
 clear hHeld
 go_simp
 have hcl := balanced_any (HX.out V1 (unhide GV1)).2.1 t1 (HX.out V1 (unhide GV1)).1 (by omega)
 refine hcl.mono ?_
 clear hcl
 rintro e V2 ⟨q2, i2, rfl, hq2, gV2, t2⟩
 have sV2 : V1.heap.size ≤ V2.heap.size := gV2.size
 have GV2 : Hid (Below W.heap.size W V2) := (unhide GV1).trans (gV2.mono (by have := (unhide GV1).size; show W.heap.size ≤ V1.heap.size; omega))
 have kc : ∀ k o, k < V1.heap.size → V2.cell? ⟨k, o, none⟩ = V1.cell? ⟨k, o, none⟩ := fun k o hk => World.cell?_of_block (a := ⟨k, o, none⟩) (w := V1) (gV2.block k hk)
 have KEEP : V2.cell? ⟨tb, 0, none⟩ = some (.pointer (some ⟨xb, 0, none⟩)) ∧ V2.cell? ⟨tb, 1, none⟩ = some (.pointer lp) ∧ V2.cell? ⟨tb, 2, none⟩ = some (.pointer rp) := ⟨(kc _ _ htl).trans KEEP.1, (kc _ _ htl).trans KEEP.2.1, (kc _ _ htl).trans KEEP.2.2⟩
 have htl : tb < V2.heap.size := Nat.lt_of_lt_of_le htl sV2
 clear kc
 go_wp2_with fail
 refine hK.out _ _ ?_ (fun hHeld => ?_)
 ·((try dsimp only); exact KEEP)
 clear hK K hHold
 try simp only [Act.put, List.setIfInBounds_toArray, List.set_cons_zero, List.set_cons_succ]
 refine wpAnyH_take (i := 15) (oi := { dst := some 4, op := Op.assign (Operand.tmp 52), type := 104, pos := "tree.go:33", after := #[{ on := 14, ground := Ground.data }, { on := 14, ground := Ground.chain }, { on := 0, ground := Ground.phase }, { on := 1, ground := Ground.phase }, { on := 2, ground := Ground.phase }, { on := 3, ground := Ground.phase }, { on := 4, ground := Ground.phase }, { on := 5, ground := Ground.phase }, { on := 6, ground := Ground.phase }, { on := 7, ground := Ground.phase }, { on := 8, ground := Ground.phase }, { on := 9, ground := Ground.phase }, { on := 10, ground := Ground.phase }, { on := 11, ground := Ground.phase }, { on := 12, ground := Ground.phase }, { on := 13, ground := Ground.phase }, { on := 14, ground := Ground.phase }], guard := none }) (v := ?_) rfl (by kernel_rfl) (by kernel_rfl) (by kernel_rfl) (fun _ _ _ h => h) (Or.inl ⟨by rfl, ?_⟩) hHeld ?_
 rotate_left
 ·(intro w' hSw; (try dsimp only at hSw); go_simp; try with_reducible rfl)
 try simp only [Act.put, List.setIfInBounds_toArray, List.set_cons_zero, List.set_cons_succ]
 refine wpAnyH_done (by kernel_rfl) ?_ _
 refine NoPanic.normal ?_
 clear hHeld KEEP
 have HF : Hid (W.heap.size ≤ q2 ∧ Below W.heap.size W V2 ∧ TrL V2 (some ⟨q2, 0, none⟩) (Ll ++ (xb, xl) :: Ls) i2) := ⟨by omega, unhide GV2, t2⟩
 clear t1 t2 gV1 gV2 GV0 GV1 GV2 HX HI
 go_wp2_with fail
 all_goals go_ret
 all_goals exact ⟨q2, i2, rfl, HF.out⟩
theorem withL (eb : Nat) (pl : Int) : ∀ (n : Nat) {W : World} {p : Option Addr} {L : List (Nat × Int)} {h : Int}, L.length ≤ n → TrL W p L h → Srt L → (∀ y ∈ L, y.2 ≠ pl) → W.cell? ⟨eb, 0, none⟩ = some (.int .i64 pl) → L.length < 1152921504606846976 → TreeC W 48 #[.pointer p, .pointer (some ⟨eb, 0, none⟩)] (insL L (eb, pl)) := by
 intro n
 have nil : ∀ {W : World}, W.cell? ⟨eb, 0, none⟩ = some (.int .i64 pl) → TreeC W 48 #[.pointer none, .pointer (some ⟨eb, 0, none⟩)] (insL [] (eb, pl)) := fun {W} he => by
  unfold TreeC
  refine (with_nil (some ⟨eb, 0, none⟩) W).mono ?_
  rintro e W' ⟨rfl, rfl⟩
  have hb : Below W.heap.size W (W.alloc (.cells #[.pointer (some ⟨eb, 0, none⟩), .pointer none, .pointer none, .int .i64 1] 131)) := (Below.refl _ W).alloc (Nat.le_refl _) _
  exact ⟨W.heap.size, _, rfl, Nat.le_refl _, hb, (TrL.nil _).node (TrL.nil _) (World.alloc_heap_new W _) ((hb.cell (p := ⟨eb, 0, none⟩) (cell_in he)).trans he)⟩
 induction n with
 | zero =>
  intro W p L h hn ht hs hd he _
  rcases ht.cases with ⟨rfl, rfl, rfl⟩ | ⟨tb, xb, xl, lp, rp, Ll, Lr, hl, hr, _, _, _, _, _, rfl, _⟩
  ·exact nil he
  ·rw [len_cons] at hn; omega
 | succ n ih =>
  intro W p L h hn ht hs hd he hbig
  rcases ht.cases with ⟨rfl, rfl, rfl⟩ | ⟨tb, xb, xl, lp, rp, Ll, Lr, hl, hr, rfl, hb, hx, k1, k2, rfl, rfl⟩
  ·exact nil he
  ·obtain ⟨s1, s2, _, _, _⟩ := srt_node hs
   rw [len_cons] at hn hbig
   have hne : xl ≠ pl := hd (xb, xl) (by simp)
   by_cases hlt : pl < xl
   ·rw [insL_left hs hlt]
    refine with_left hb hx he k1 k2 (by rw [insL_len]; omega) hlt fun V hV => ?_
    exact ih (by omega) (k1.below hV) s1 (fun y hy => hd y (by simp [hy])) ((hV.cell (p := ⟨eb, 0, none⟩) (cell_in he)).trans he) (by omega)
   ·rw [insL_right hs (show xl < pl by omega)]
    refine with_right hb hx he k1 k2 (by rw [insL_len]; omega) hlt fun V hV => ?_
    exact ih (by omega) (k2.below hV) s2 (fun y hy => hd y (by simp [hy])) ((hV.cell (p := ⟨eb, 0, none⟩) (cell_in he)).trans he) (by omega)
end Go.Proofs.YtlbobmebbllifaaGreat
