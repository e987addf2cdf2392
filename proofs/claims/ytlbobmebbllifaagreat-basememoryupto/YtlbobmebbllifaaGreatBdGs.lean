import Derived.Test.YtlbobmebbllifaaGreatBdDs
/- (*base.View).Next. (Written by wip/nextgen.py.) -/
namespace Go.Proofs.YtlbobmebbllifaaGreat
set_option maxHeartbeats 600000
set_option maxRecDepth 100000
open Go.RowKit Go.Shelf Go.Maps
theorem set8_block (W : World) (b : Nat) (x y : TV) {k : Nat} (hk : k ≠ b) : (set8 W b x y).heap[k]? = W.heap[k]? := (set4_other _ b 4 y hk).trans (set4_other W b 0 x hk)
theorem GrB.set8 {X : Nat → Prop} {B : Nat} {A W : World} (h : GrB X B A W) {b : Nat} (hb : B ≤ b) (x y : TV) : GrB X B A (set8 W b x y) := (h.set4 hb 0 x).set4 hb 4 y
theorem VwBlk.set8 {W : World} {vb : Nat} {p q : Option Addr} {last : Int} (h : VwBlk W vb p q last) {b : Nat} (hk : vb ≠ b) (x y : TV) : VwBlk (set8 W b x y) vb p q last := (set8_block W b x y hk).trans h
theorem next_none (vb : Nat) (p q : Option Addr) (last : Int) {L1 L2 : List (Nat × Int)} {h1 h2 : Int} (W : World) (hv : VwBlk W vb p q last) (ht1 : TrL W p L1 h1) (ht2 : TrL W q L2 h2) (hs1 : Srt L1) (hs2 : Srt L2) (hR : earE (nextE L1 last) (nextE L2 last) = none) :
  Calls Tryz.prog 16 #[.pointer (some ⟨vb, 0, none⟩)] W fun e W' => e = .returned (.tuple #[.int .i64 0, clV noTerm noTerm, .bool false]) ∧ GrB (fun k => k = vb) W.heap.size W W' ∧ VwBlk W' vb none none last := by
 have hb1 : Below W.heap.size W (W.alloc (.cells #[.int .i64 0, .int .i64 0, .string ⟨#[]⟩, .slice none 0 0, .int .i64 0, .int .i64 0, .string ⟨#[]⟩, .slice none 0 0] 30)) := (Below.refl _ W).alloc (Nat.le_refl _) _
 have hbz : BoxC (W.alloc (.cells #[.int .i64 0, .int .i64 0, .string ⟨#[]⟩, .slice none 0 0, .int .i64 0, .int .i64 0, .string ⟨#[]⟩, .slice none 0 0] 30)) W.heap.size noTerm noTerm := BoxC.new W noTerm noTerm
 have hvl := hv.lt
 have hst := stepL vb p q last (W.alloc (.cells #[.int .i64 0, .int .i64 0, .string ⟨#[]⟩, .slice none 0 0, .int .i64 0, .int .i64 0, .string ⟨#[]⟩, .slice none 0 0] 30)) ((hb1.block vb hvl).trans hv) (ht1.below hb1) (ht2.below hb1) hs1 hs2
 rw [hR] at hst
 simp only [ptrX, ptrE, Option.map_none] at hst
 have HZ := hide (And.intro hb1 hbz)
 clear hv ht1 ht2 hs1 hs2 hR hb1 hbz
 go_enter Tryz.func16, Tryz.ntmps16
 go_wp2_with fail
 refine hst.mono ?_
 clear hst
 rintro e V2 ⟨rfl, g2, k2⟩
 obtain ⟨hb1, hbz⟩ := unhide HZ
 have hs1 : (W.alloc (.cells #[.int .i64 0, .int .i64 0, .string ⟨#[]⟩, .slice none 0 0, .int .i64 0, .int .i64 0, .string ⟨#[]⟩, .slice none 0 0] 30)).heap.size = W.heap.size + 1 := by simp
 generalize (W.alloc (.cells #[.int .i64 0, .int .i64 0, .string ⟨#[]⟩, .slice none 0 0, .int .i64 0, .int .i64 0, .string ⟨#[]⟩, .slice none 0 0] 30)) = V1 at hb1 hbz hs1 g2
 have hs2 := g2.size
 have hz2 : BoxC V2 W.heap.size noTerm noTerm := (g2.block _ (by omega) (by omega)).trans hbz
 obtain ⟨⟨z0, z1, z2, z3⟩, z4, z5, z6, z7⟩ := hz2.cs
 obtain ⟨y0, y1, y2, y3, y4, y5, y6, y7⟩ := hz2.fs
 have gW : GrB (fun k => k = vb) W.heap.size W V2 := (GrB.of_below hb1).trans (g2.mono (by omega))
 have HF : Hid (GrB (fun k => k = vb) W.heap.size W (set8 V2 W.heap.size noTerm noTerm) ∧ VwBlk (set8 V2 W.heap.size noTerm noTerm) vb none none last ∧ BoxC (set8 V2 W.heap.size noTerm noTerm) W.heap.size noTerm noTerm) := ⟨gW.set8 (Nat.le_refl _) _ _, (k2.2 rfl).set8 (by omega) _ _, boxC_set8 hz2 _ _⟩
 simp only [noTerm] at z0 z1 z2 z3 z4 z5 z6 z7
 clear gW hz2 g2 k2 hb1 hbz HZ
 go_wp2_with fail
 exact bodyPost_ret (v := .tuple #[.int .i64 0, clV noTerm noTerm, .bool false]) (by simp [results, Tryz.results16, go_sem, clV, noTerm, z0, z1, z2, z3, z4, z5, z6, z7]) rfl ⟨rfl, HF.out.1, HF.out.2.1⟩
theorem next_some (vb eb : Nat) (pl : Int) (p q : Option Addr) (last : Int) {L1 L2 : List (Nat × Int)} {h1 h2 : Int} {D : Nat} {S : Nat → Prop} {x y : TV} {h bd : List Nd} (W : World) (hv : VwBlk W vb p q last) (ht1 : TrL W p L1 h1) (ht2 : TrL W q L2 h2) (hs1 : Srt L1) (hs2 : Srt L2) (hR : earE (nextE L1 last) (nextE L2 last) = some (eb, pl)) (hen : EnBlk W eb pl x y) (hpl0 : -9223372036854775808 < pl) (hpl1 : pl ≤ 9223372036854775807)
  (hx : HoldsS D S W x.val h) (hy : HoldsS D S W y.val bd) (hS : ∀ k, S k → k ≠ vb) (oh : h.all okM = true) (ob : bd.all okM = true) (hD : D ≤ 2199023255552 := by omega) :
  Calls Tryz.prog 16 #[.pointer (some ⟨vb, 0, none⟩)] W fun e W' => (∃ x' y' : TV, e = .returned (.tuple #[.int .i64 (max pl (-pl)), clV x' y', .bool true]) ∧ HoldsL (D + 1) (W.heap.size ≤ ·) W' x'.val h ∧ HoldsL (D + 1) (W.heap.size ≤ ·) W' y'.val bd) ∧ GrB (fun k => k = vb) W.heap.size W W' ∧ VwBlk W' vb p q pl := by
 have hb1 : Below W.heap.size W (W.alloc (.cells #[.int .i64 0, .int .i64 0, .string ⟨#[]⟩, .slice none 0 0, .int .i64 0, .int .i64 0, .string ⟨#[]⟩, .slice none 0 0] 30)) := (Below.refl _ W).alloc (Nat.le_refl _) _
 have hbz : BoxC (W.alloc (.cells #[.int .i64 0, .int .i64 0, .string ⟨#[]⟩, .slice none 0 0, .int .i64 0, .int .i64 0, .string ⟨#[]⟩, .slice none 0 0] 30)) W.heap.size noTerm noTerm := BoxC.new W noTerm noTerm
 have hvl := hv.lt
 have hel := hen.lt
 have hne : eb ≠ vb := fun e => by
  subst e
  have e1 : W.heap[eb]? = _ := hv
  have e2 : W.heap[eb]? = _ := hen
  rw [e1] at e2
  simp at e2
 have hst := stepL vb p q last (W.alloc (.cells #[.int .i64 0, .int .i64 0, .string ⟨#[]⟩, .slice none 0 0, .int .i64 0, .int .i64 0, .string ⟨#[]⟩, .slice none 0 0] 30)) ((hb1.block vb hvl).trans hv) (ht1.below hb1) (ht2.below hb1) hs1 hs2
 rw [hR] at hst
 simp only [ptrX, ptrE, Option.map_some] at hst
 have hx1 := hx.below hb1
 have hy1 := hy.below hb1
 have he1 : EnBlk (W.alloc (.cells #[.int .i64 0, .int .i64 0, .string ⟨#[]⟩, .slice none 0 0, .int .i64 0, .int .i64 0, .string ⟨#[]⟩, .slice none 0 0] 30)) eb pl x y := (hb1.block eb hel).trans hen
 have hs0 : (W.alloc (.cells #[.int .i64 0, .int .i64 0, .string ⟨#[]⟩, .slice none 0 0, .int .i64 0, .int .i64 0, .string ⟨#[]⟩, .slice none 0 0] 30)).heap.size = W.heap.size + 1 := by simp
 have HZ := hide (And.intro hb1 (And.intro hbz (And.intro hx1 (And.intro hy1 (And.intro he1 hs0)))))
 clear hv ht1 ht2 hs1 hs2 hR hb1 hbz hx hy hx1 hy1 he1 hs0 hen
 go_enter Tryz.func16, Tryz.ntmps16
 go_wp2_with fail
 refine hst.mono ?_
 clear hst
 rintro e V2 ⟨rfl, g2, k2⟩
 have Q := unhide HZ
 clear HZ
 generalize (W.alloc (.cells #[.int .i64 0, .int .i64 0, .string ⟨#[]⟩, .slice none 0 0, .int .i64 0, .int .i64 0, .string ⟨#[]⟩, .slice none 0 0] 30)) = V1 at Q g2
 obtain ⟨hb1, hbz, hx1, hy1, he1, hs1⟩ := Q
 have hs2 := g2.size
 have hz2 : BoxC V2 W.heap.size noTerm noTerm := (g2.block _ (by omega) (by omega)).trans hbz
 have gW : GrB (fun k => k = vb) W.heap.size W V2 := (GrB.of_below hb1).trans (g2.mono (by omega))
 have he2 : EnBlk V2 eb pl x y := (g2.block _ (by omega) hne).trans he1
 have hx2 : HoldsS D S V2 x.val h := hx1.fromS (fun k hk hl => g2.block k hl (hS k hk)) g2.size
 have hy2 : HoldsS D S V2 y.val bd := hy1.fromS (fun k hk hl => g2.block k hl (hS k hk)) g2.size
 have hv2 : VwBlk V2 vb p q pl := k2.1 (eb, pl) rfl
 have hel2 := he2.lt
 have hid := idAt_any pl V2.drew hpl0 hpl1
 have bd2 : Below V2.heap.size V2 V2.drew := (Below.refl _ V2).drew
 have hcp := copyOfClause_any (W := V2.drew) (hx2.below bd2) (hy2.below bd2) oh ob
 obtain ⟨e0, ⟨e1, e2, e3, e4⟩, e5, e6, e7, e8⟩ := he2.cs
 have KEEP : V2.cell? ⟨eb, 0, none⟩ = some (.int .i64 pl) ∧ V2.cell? ⟨eb, 1, none⟩ = some (.int .i64 x.k) ∧ V2.cell? ⟨eb, 2, none⟩ = some (.int .i64 x.N) ∧ V2.cell? ⟨eb, 3, none⟩ = some (.string x.s) ∧ V2.cell? ⟨eb, 4, none⟩ = some (.slice x.a x.len x.cap) ∧ V2.cell? ⟨eb, 5, none⟩ = some (.int .i64 y.k) ∧ V2.cell? ⟨eb, 6, none⟩ = some (.int .i64 y.N) ∧ V2.cell? ⟨eb, 7, none⟩ = some (.string y.s) ∧ V2.cell? ⟨eb, 8, none⟩ = some (.slice y.a y.len y.cap) := ⟨e0, e1, e2, e3, e4, e5, e6, e7, e8⟩
 have HV := hide (And.intro hz2 (And.intro gW hv2))
 have hs12 : W.heap.size + 1 ≤ V2.heap.size := by omega
 clear hb1 hbz hx1 hy1 he1 hs1 g2 k2 hz2 gW he2 hx2 hy2 hv2 bd2 e0 e1 e2 e3 e4 e5 e6 e7 e8 hs2 hS oh ob
 simp only [clV] at hcp
 go_wp2_with fail
 refine wp_region_noPanic ?_
 refine wp_region_held_drew (S := (fun w' => w'.cell? ⟨eb, 0, none⟩ = some (.int .i64 pl) ∧ w'.cell? ⟨eb, 1, none⟩ = some (.int .i64 x.k) ∧ w'.cell? ⟨eb, 2, none⟩ = some (.int .i64 x.N) ∧ w'.cell? ⟨eb, 3, none⟩ = some (.string x.s) ∧ w'.cell? ⟨eb, 4, none⟩ = some (.slice x.a x.len x.cap) ∧ w'.cell? ⟨eb, 5, none⟩ = some (.int .i64 y.k) ∧ w'.cell? ⟨eb, 6, none⟩ = some (.int .i64 y.N) ∧ w'.cell? ⟨eb, 7, none⟩ = some (.string y.s) ∧ w'.cell? ⟨eb, 8, none⟩ = some (.slice y.a y.len y.cap))) (by kernel_rfl) ?_ (fun hHeld => ?_)
 ·exact KEEP
 refine wpAnyH_take (i := 0) (oi := { dst := some 14, op := Op.move (Operand.tmp 5), type := 67, pos := "look.go:72", after := #[], guard := none }) (v := ?_) rfl (by kernel_rfl) (by kernel_rfl) (by kernel_rfl) (fun _ _ _ h => h) (Or.inl ⟨by rfl, ?_⟩) hHeld ?_
 rotate_left
 ·(intro w' hSw; (try dsimp only at hSw); go_simp; try with_reducible rfl)
 try simp only [Act.put, List.setIfInBounds_toArray, List.set_cons_zero, List.set_cons_succ]
 refine wpAnyH_take (i := 1) (oi := { dst := some 15, op := Op.nilCheck (Operand.tmp 14), type := 0, pos := "look.go:72", after := #[{ on := 0, ground := Ground.data }], guard := none }) (v := ?_) rfl (by kernel_rfl) (by kernel_rfl) (by kernel_rfl) (fun _ _ _ h => h) (Or.inl ⟨by rfl, ?_⟩) hHeld ?_
 rotate_left
 ·(intro w' hSw; (try dsimp only at hSw); go_simp; try with_reducible rfl)
 try simp only [Act.put, List.setIfInBounds_toArray, List.set_cons_zero, List.set_cons_succ]
 refine wpAnyH_take (i := 2) (oi := { dst := some 16, op := Op.fieldAddr 76 (Operand.tmp 15) 0, type := 0, pos := "look.go:72", after := #[{ on := 1, ground := Ground.data }], guard := none }) (v := ?_) rfl (by kernel_rfl) (by kernel_rfl) (by kernel_rfl) (fun _ _ _ h => h) (Or.inl ⟨by rfl, ?_⟩) hHeld ?_
 rotate_left
 ·(intro w' hSw; (try dsimp only at hSw); go_simp; try with_reducible rfl)
 try simp only [Act.put, List.setIfInBounds_toArray, List.set_cons_zero, List.set_cons_succ]
 refine wpAnyH_take (i := 3) (oi := { dst := some 17, op := Op.load 3 (Operand.tmp 16), type := 3, pos := "look.go:72", after := #[{ on := 2, ground := Ground.data }], guard := none }) (v := ?_) rfl (by kernel_rfl) (by kernel_rfl) (by kernel_rfl) (fun _ _ _ h => h) (Or.inl ⟨by rfl, ?_⟩) hHeld ?_
 rotate_left
 ·(intro w' hSw; (try dsimp only at hSw); go_simp; try with_reducible rfl)
 try simp only [Act.put, List.setIfInBounds_toArray, List.set_cons_zero, List.set_cons_succ]
 refine wpAnyH_take (i := 5) (oi := { dst := some 19, op := Op.move (Operand.tmp 5), type := 67, pos := "look.go:72", after := #[], guard := none }) (v := ?_) rfl (by kernel_rfl) (by kernel_rfl) (by kernel_rfl) (fun _ _ _ h => h) (Or.inl ⟨by rfl, ?_⟩) hHeld ?_
 rotate_left
 ·(intro w' hSw; (try dsimp only at hSw); go_simp; try with_reducible rfl)
 try simp only [Act.put, List.setIfInBounds_toArray, List.set_cons_zero, List.set_cons_succ]
 refine wpAnyH_take (i := 6) (oi := { dst := some 20, op := Op.nilCheck (Operand.tmp 19), type := 0, pos := "look.go:72", after := #[{ on := 5, ground := Ground.data }], guard := none }) (v := ?_) rfl (by kernel_rfl) (by kernel_rfl) (by kernel_rfl) (fun _ _ _ h => h) (Or.inl ⟨by rfl, ?_⟩) hHeld ?_
 rotate_left
 ·(intro w' hSw; (try dsimp only at hSw); go_simp; try with_reducible rfl)
 try simp only [Act.put, List.setIfInBounds_toArray, List.set_cons_zero, List.set_cons_succ]
 refine wpAnyH_take (i := 7) (oi := { dst := some 21, op := Op.fieldAddr 76 (Operand.tmp 20) 1, type := 0, pos := "look.go:72", after := #[{ on := 6, ground := Ground.data }], guard := none }) (v := ?_) rfl (by kernel_rfl) (by kernel_rfl) (by kernel_rfl) (fun _ _ _ h => h) (Or.inl ⟨by rfl, ?_⟩) hHeld ?_
 rotate_left
 ·(intro w' hSw; (try dsimp only at hSw); go_simp; try with_reducible rfl)
 try simp only [Act.put, List.setIfInBounds_toArray, List.set_cons_zero, List.set_cons_succ]
 refine wpAnyH_take (i := 8) (oi := { dst := some 22, op := Op.load 30 (Operand.tmp 21), type := 30, pos := "look.go:72", after := #[{ on := 7, ground := Ground.data }], guard := none }) (v := ?_) rfl (by kernel_rfl) (by kernel_rfl) (by kernel_rfl) (fun _ _ _ h => h) (Or.inl ⟨by rfl, ?_⟩) hHeld ?_
 rotate_left
 ·(intro w' hSw; (try dsimp only at hSw); go_simp; try with_reducible rfl)
 try simp only [Act.put, List.setIfInBounds_toArray, List.set_cons_zero, List.set_cons_succ]
 refine wpAnyH_ready (rs := [4]) (by kernel_rfl) (by simp) ?_
 refine AllReadyH.cons (o := { dst := some 18, op := Op.call { callee := Callee.value (Operand.func 39), args := #[Operand.tmp 17], argTypes := #[3] }, type := 3, pos := "look.go:72", after := #[{ on := 3, ground := Ground.data }], guard := none }) rfl (fun K hK => ?_) AllReadyH.nil
 have hHold := hHeld
 clear hHeld
 go_simp
 refine hid.mono ?_
 clear hid
 rintro e V3 ⟨rfl, rfl⟩
 have KEEP : V2.drew.cell? ⟨eb, 0, none⟩ = some (.int .i64 pl) ∧ V2.drew.cell? ⟨eb, 1, none⟩ = some (.int .i64 x.k) ∧ V2.drew.cell? ⟨eb, 2, none⟩ = some (.int .i64 x.N) ∧ V2.drew.cell? ⟨eb, 3, none⟩ = some (.string x.s) ∧ V2.drew.cell? ⟨eb, 4, none⟩ = some (.slice x.a x.len x.cap) ∧ V2.drew.cell? ⟨eb, 5, none⟩ = some (.int .i64 y.k) ∧ V2.drew.cell? ⟨eb, 6, none⟩ = some (.int .i64 y.N) ∧ V2.drew.cell? ⟨eb, 7, none⟩ = some (.string y.s) ∧ V2.drew.cell? ⟨eb, 8, none⟩ = some (.slice y.a y.len y.cap) := KEEP
 go_wp2_with fail
 refine hK.out _ _ ?_ (fun hHeld => ?_)
 ·((try dsimp only); exact KEEP)
 clear hK K hHold
 try simp only [Act.put, List.setIfInBounds_toArray, List.set_cons_zero, List.set_cons_succ]
 refine wpAnyH_ready (rs := [9]) (by kernel_rfl) (by simp) ?_
 refine AllReadyH.cons (o := { dst := some 23, op := Op.call { callee := Callee.value (Operand.func 41), args := #[Operand.tmp 22], argTypes := #[30] }, type := 30, pos := "look.go:72", after := #[{ on := 8, ground := Ground.data }, { on := 4, ground := Ground.chain }], guard := none }) rfl (fun K hK => ?_) AllReadyH.nil
 have hHold := hHeld
 clear hHeld
 go_simp
 refine hcp.mono ?_
 clear hcp
 rintro e V4 ⟨v, rfl, ⟨x4, y4, rfl, q1, q2⟩, g4⟩
 have s4 : V2.heap.size ≤ V4.heap.size := g4.size
 have kc : ∀ o, V4.cell? ⟨eb, o, none⟩ = V2.cell? ⟨eb, o, none⟩ := fun o => World.cell?_of_block (a := ⟨eb, o, none⟩) (w := V2) (g4.block eb hel2)
 have KEEP : V4.cell? ⟨eb, 0, none⟩ = some (.int .i64 pl) ∧ V4.cell? ⟨eb, 1, none⟩ = some (.int .i64 x.k) ∧ V4.cell? ⟨eb, 2, none⟩ = some (.int .i64 x.N) ∧ V4.cell? ⟨eb, 3, none⟩ = some (.string x.s) ∧ V4.cell? ⟨eb, 4, none⟩ = some (.slice x.a x.len x.cap) ∧ V4.cell? ⟨eb, 5, none⟩ = some (.int .i64 y.k) ∧ V4.cell? ⟨eb, 6, none⟩ = some (.int .i64 y.N) ∧ V4.cell? ⟨eb, 7, none⟩ = some (.string y.s) ∧ V4.cell? ⟨eb, 8, none⟩ = some (.slice y.a y.len y.cap) := ⟨(kc 0).trans KEEP.1, (kc 1).trans KEEP.2.1, (kc 2).trans KEEP.2.2.1, (kc 3).trans KEEP.2.2.2.1, (kc 4).trans KEEP.2.2.2.2.1, (kc 5).trans KEEP.2.2.2.2.2.1, (kc 6).trans KEEP.2.2.2.2.2.2.1, (kc 7).trans KEEP.2.2.2.2.2.2.2.1, (kc 8).trans KEEP.2.2.2.2.2.2.2.2⟩
 have hz4 : BoxC V4 W.heap.size noTerm noTerm := (g4.block _ (show W.heap.size < V2.heap.size by omega)).trans (unhide HV).1
 obtain ⟨⟨z0, z1, z2, z3⟩, z4, z5, z6, z7⟩ := hz4.cs
 obtain ⟨y0, y1, y2, y3, y4', y5, y6, y7⟩ := hz4.fs
 simp only [noTerm] at z0 z1 z2 z3 z4 z5 z6 z7
 have HB4 := hide hz4
 clear kc hz4
 dsimp only [clV]
 go_wp2_with fail
 refine hK.out _ _ ?_ (fun hHeld => ?_)
 ·((try dsimp only); exact KEEP)
 clear hK K hHold
 try simp only [Act.put, List.setIfInBounds_toArray, List.set_cons_zero, List.set_cons_succ]
 refine wpAnyH_take (i := 10) (oi := { dst := some 2, op := Op.assign (Operand.tmp 18), type := 3, pos := "look.go:72", after := #[{ on := 4, ground := Ground.data }, { on := 9, ground := Ground.chain }, { on := 0, ground := Ground.phase }, { on := 1, ground := Ground.phase }, { on := 2, ground := Ground.phase }, { on := 3, ground := Ground.phase }, { on := 4, ground := Ground.phase }, { on := 5, ground := Ground.textOnly Departure.lateStores }, { on := 6, ground := Ground.textOnly Departure.lateStores }, { on := 7, ground := Ground.textOnly Departure.lateStores }, { on := 8, ground := Ground.textOnly Departure.lateStores }, { on := 9, ground := Ground.textOnly Departure.lateStoresUnsure }], guard := none }) (v := ?_) rfl (by kernel_rfl) (by kernel_rfl) (by kernel_rfl) (fun _ _ _ h => h) (Or.inl ⟨by rfl, ?_⟩) hHeld ?_
 rotate_left
 ·(intro w' hSw; (try dsimp only at hSw); go_simp; try with_reducible rfl)
 try simp only [Act.put, List.setIfInBounds_toArray, List.set_cons_zero, List.set_cons_succ]
 refine wpAnyH_ready (rs := [11]) (by kernel_rfl) (by simp) ?_
 refine AllReadyH.cons (o := { dst := none, op := Op.store 30 (Operand.tmp 3) (Operand.tmp 23), type := 0, pos := "look.go:72", after := #[{ on := 9, ground := Ground.data }, { on := 10, ground := Ground.chain }, { on := 0, ground := Ground.phase }, { on := 1, ground := Ground.phase }, { on := 2, ground := Ground.phase }, { on := 3, ground := Ground.phase }, { on := 4, ground := Ground.phase }, { on := 5, ground := Ground.phase }, { on := 6, ground := Ground.phase }, { on := 7, ground := Ground.phase }, { on := 8, ground := Ground.phase }, { on := 9, ground := Ground.phase }, { on := 10, ground := Ground.phase }], guard := none }) rfl (fun K hK => ?_) AllReadyH.nil
 have hHold := hHeld
 clear hHeld
 go_simp
 refine hK.out _ _ ?_ (fun hHeld => ?_)
 ·((try dsimp only); exact ⟨(far8n _ W.heap.size _ _ 0 (by omega)).trans KEEP.1, (far8n _ W.heap.size _ _ 1 (by omega)).trans KEEP.2.1, (far8n _ W.heap.size _ _ 2 (by omega)).trans KEEP.2.2.1, (far8n _ W.heap.size _ _ 3 (by omega)).trans KEEP.2.2.2.1, (far8n _ W.heap.size _ _ 4 (by omega)).trans KEEP.2.2.2.2.1, (far8n _ W.heap.size _ _ 5 (by omega)).trans KEEP.2.2.2.2.2.1, (far8n _ W.heap.size _ _ 6 (by omega)).trans KEEP.2.2.2.2.2.2.1, (far8n _ W.heap.size _ _ 7 (by omega)).trans KEEP.2.2.2.2.2.2.2.1, (far8n _ W.heap.size _ _ 8 (by omega)).trans KEEP.2.2.2.2.2.2.2.2⟩)
 clear hK K hHold
 try simp only [Act.put, List.setIfInBounds_toArray, List.set_cons_zero, List.set_cons_succ]
 refine wpAnyH_take (i := 12) (oi := { dst := some 4, op := Op.assign (Operand.const (Value.bool true)), type := 4, pos := "look.go:72", after := #[{ on := 11, ground := Ground.chain }, { on := 0, ground := Ground.phase }, { on := 1, ground := Ground.phase }, { on := 2, ground := Ground.phase }, { on := 3, ground := Ground.phase }, { on := 4, ground := Ground.phase }, { on := 5, ground := Ground.phase }, { on := 6, ground := Ground.phase }, { on := 7, ground := Ground.phase }, { on := 8, ground := Ground.phase }, { on := 9, ground := Ground.phase }, { on := 10, ground := Ground.phase }, { on := 11, ground := Ground.phase }], guard := none }) (v := ?_) rfl (by kernel_rfl) (by kernel_rfl) (by kernel_rfl) (fun _ _ _ h => h) (Or.inl ⟨by rfl, ?_⟩) hHeld ?_
 rotate_left
 ·(intro w' hSw; (try dsimp only at hSw); go_simp; try with_reducible rfl)
 try simp only [Act.put, List.setIfInBounds_toArray, List.set_cons_zero, List.set_cons_succ]
 refine wpAnyH_done (by kernel_rfl) ?_ _
 refine NoPanic.normal ?_
 clear hHeld KEEP
 rw [set8_nestn]
 have HF : Hid (GrB (fun k => k = vb) W.heap.size W (set8 V4 W.heap.size x4 y4) ∧ HoldsL (D + 1) (W.heap.size ≤ ·) (set8 V4 W.heap.size x4 y4) x4.val h ∧ HoldsL (D + 1) (W.heap.size ≤ ·) (set8 V4 W.heap.size x4 y4) y4.val bd ∧ VwBlk (set8 V4 W.heap.size x4 y4) vb p q pl ∧ BoxC (set8 V4 W.heap.size x4 y4) W.heap.size x4 y4) := by
  have hl : ∀ k, V2.drew.heap.size ≤ k → W.heap.size ≤ k := fun k hk => by have : V2.heap.size ≤ k := hk; omega
  have hlt : W.heap.size < V2.drew.heap.size := hs12
  obtain ⟨_, gW, hv2⟩ := unhide HV
  have g24 : GrB (fun k => k = vb) W.heap.size V2 V4 := ⟨g4.os, g4.tape, g4.output, s4, fun k hk _ => g4.block k (show k < V2.heap.size by omega)⟩
  exact ⟨(gW.trans g24).set8 (Nat.le_refl _) _ _, (holdsL_set4 (holdsL_set4 q1 hlt 0 _) hlt 4 _).mono (Nat.le_refl _) hl, (holdsL_set4 (holdsL_set4 q2 hlt 0 _) hlt 4 _).mono (Nat.le_refl _) hl, VwBlk.set8 (show VwBlk V4 vb p q pl from (g4.block _ (show vb < V2.heap.size by omega)).trans hv2) (by omega) _ _, boxC_set8 (unhide HB4) _ _⟩
 obtain ⟨⟨w0, w1, w2, w3⟩, w4, w5, w6, w7⟩ := HF.out.2.2.2.2.cs
 generalize set8 V4 W.heap.size x4 y4 = V5 at HF w0 w1 w2 w3 w4 w5 w6 w7 ⊢
 clear g4 q1 q2 HV HB4 z0 z1 z2 z3 z4 z5 z6 z7 y0 y1 y2 y3 y4' y5 y6 y7
 go_wp2_with fail
 exact bodyPost_ret (v := .tuple #[.int .i64 (max pl (-pl)), clV x4 y4, .bool true]) (by simp [results, Tryz.results16, go_sem, clV, w0, w1, w2, w3, w4, w5, w6, w7]) rfl ⟨⟨x4, y4, rfl, HF.out.2.1, HF.out.2.2.1⟩, HF.out.1, HF.out.2.2.2.1⟩
/- What delete does to a map of pointers; (*base.family).drop. (Written by wip/dropgen.py.) -/
open Classical in
noncomputable def setO (g : Lit → Option Addr) (kl : Lit) (q : Option Addr) : Lit → Option Addr := fun x => if x = kl then q else g x
/- (*base.Base).Remove. (Written by wip/remvgen.py.) -/
/- Blocks of kinds that no operation of base changes; trees are kept with them. -/
def FixK (t : TypeId) : Prop := t = 131 ∨ t = 76
def NoFix (W : World) (k : Nat) : Prop := ∀ (c : Array Value) (t : TypeId) (o : Nat × Nat), W.heap[k]? = some (.cells c t o) → ¬ FixK t
def Fixed (W W' : World) : Prop := W.heap.size ≤ W'.heap.size ∧ ∀ (k : Nat) (c : Array Value) (t : TypeId) (o : Nat × Nat), W.heap[k]? = some (.cells c t o) → FixK t → W'.heap[k]? = W.heap[k]?
theorem GrB.fixed {X : Nat → Prop} {W W' : World} (g : GrB X W.heap.size W W') (hX : ∀ k, X k → NoFix W k) : Fixed W W' :=
 ⟨g.size, fun k c t o hk ht => g.block k (Array.getElem?_eq_some_iff.1 hk).1 (fun hx => hX k hx c t o hk ht)⟩
theorem Below.fixed {W W' : World} (g : Below W.heap.size W W') : Fixed W W' := GrB.fixed (X := fun _ => False) (GrB.of_below g) (fun _ h => h.elim)
theorem MapB.nofix {W : World} {k : Nat} (h : MapB W k) : NoFix W k := fun c t o hk => by
 obtain ⟨es, cl, e⟩ := h
 rw [e] at hk
 cases hk
theorem FmBlk.nofix {W : World} {fb : Nat} {all : Option Addr} {km : Nat} (h : FmBlk W fb all km) : NoFix W fb := fun c t o hk => by
 have h' : W.heap[fb]? = _ := h
 rw [h'] at hk
 cases hk
 unfold FixK
 decide
theorem BsBlk.nofix {W : World} {b : Nat} {laid : Int} {me mf : Nat} (h : BsBlk W b laid me mf) : NoFix W b := fun c t o hk => by
 have h' : W.heap[b]? = _ := h
 rw [h'] at hk
 cases hk
 unfold FixK
 decide
theorem VwBlk.nofix {W : World} {vb : Nat} {p q : Option Addr} {last : Int} (h : VwBlk W vb p q last) : NoFix W vb := fun c t o hk => by
 have h' : W.heap[vb]? = _ := h
 rw [h'] at hk
 cases hk
 unfold FixK
 decide
def EnAll (W : World) (L : List (Nat × Int)) : Prop := ∀ y ∈ L, ∃ hx bx, EnBlk W y.1 y.2 hx bx
theorem EnBlk.fixed {W W' : World} {eb : Nat} {pl : Int} {hx bx : TV} (h : EnBlk W eb pl hx bx) (f : Fixed W W') : EnBlk W' eb pl hx bx := (f.2 eb _ _ _ h (Or.inr rfl)).trans h
theorem EnAll.fixed {W W' : World} {L : List (Nat × Int)} (h : EnAll W L) (f : Fixed W W') : EnAll W' L := fun y hy => by
 obtain ⟨hx, bx, e⟩ := h y hy
 exact ⟨hx, bx, e.fixed f⟩
theorem TrL.fixed {W W' : World} {p : Option Addr} {L : List (Nat × Int)} {h : Int} (ht : TrL W p L h) (he : EnAll W L) (f : Fixed W W') : TrL W' p L h := by
 refine TrL.ind (P := fun p L h => EnAll W L → TrL W' p L h) (fun _ => TrL.nil _) ?_ ht he
 intro tb eb pl lp rp Ll Lr hl hr hb hc _ _ i1 i2 he
 refine (i1 (fun y hy => he y (by simp [hy]))).node (i2 (fun y hy => he y (by simp [hy]))) ((f.2 tb _ _ _ hb (Or.inl rfl)).trans hb) ?_
 obtain ⟨hx, bx, e⟩ := he (eb, pl) (by simp)
 exact (e.fixed f).cs.1
theorem TrL.uniq {W : World} {p : Option Addr} {L L' : List (Nat × Int)} {h h' : Int} (ht : TrL W p L h) (ht' : TrL W p L' h') : L = L' ∧ h = h' := by
 refine TrL.ind (P := fun p L h => ∀ L' h', TrL W p L' h' → L = L' ∧ h = h') ?_ ?_ ht L' h' ht'
 ·intro L' h' k
  rcases k.cases with ⟨_, rfl, rfl⟩ | ⟨tb, xb, xl, lp, rp, Ll, Lr, hl, hr, e, _⟩
  ·exact ⟨rfl, rfl⟩
  ·cases e
 ·intro tb eb pl lp rp Ll Lr hl hr hb hc _ _ i1 i2 L' h' k
  rcases k.cases with ⟨e, _⟩ | ⟨tb', xb, xl, lp', rp', Ll', Lr', hl', hr', e, hb', hx, k1, k2, rfl, rfl⟩
  ·cases e
  ·cases e
   rw [hb] at hb'
   simp at hb'
   obtain ⟨rfl, rfl, rfl, hh⟩ := hb'
   rw [hc] at hx
   simp at hx
   subst hx
   obtain ⟨rfl, rfl⟩ := i1 _ _ k1
   obtain ⟨rfl, rfl⟩ := i2 _ _ k2
   exact ⟨rfl, rfl⟩
theorem insL_mem {L : List (Nat × Int)} {x y : Nat × Int} (h : y ∈ insL L x) : y = x ∨ y ∈ L := by
 unfold insL at h
 simp at h
 rcases h with h | h | h
 ·exact .inr h.1
 ·exact .inl h
 ·exact .inr h.1
end Go.Proofs.YtlbobmebbllifaaGreat
