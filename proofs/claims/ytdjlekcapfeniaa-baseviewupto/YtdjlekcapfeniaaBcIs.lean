import Derived.Test.YtdjlekcapfeniaaBcGs
import Derived.Test.YtdjlekcapfeniaaHss
/- (*base.family).letThrough of no key, (*base.Base).View, (*base.View).step. (Written by wip/lookgen.py.) -/
namespace Go.Proofs.Ytdjlekcapfeniaa
open Go.RowKit Go.Shelf Go.Maps

set_option maxRecDepth 100000 in
set_option maxHeartbeats 1000000 in
theorem letThrough_all (fb km : Nat) (all : Option Addr) (W : World) (hf : FmBlk W fb all km) :
    Calls Try.prog 27 #[.pointer (some ⟨fb, 0, none⟩), keyV 0 0 ⟨#[]⟩ 0] W fun e W' => e = .returned (.agg #[.pointer all, .pointer none]) ∧ Below W.heap.size W W' := by
  have hb2 : Below W.heap.size W ((W.alloc (.cells #[.int .i64 0, .int .i64 0, .string ⟨#[]⟩, .int .i64 0] 78)).alloc (.cells #[.pointer none, .pointer none] 72)) := ((Below.refl _ W).alloc (Nat.le_refl _) _).alloc (by simp) _
  obtain ⟨f0, -⟩ := (show FmBlk ((W.alloc (.cells #[.int .i64 0, .int .i64 0, .string ⟨#[]⟩, .int .i64 0] 78)).alloc (.cells #[.pointer none, .pointer none] 72)) fb all km from (hb2.block fb hf.lt).trans hf).cs
  clear hf hb2
  simp only [keyV]
  go_enter Try.func27, Try.ntmps27
  go_wp2_with fail
  exact bodyPost_ret (v := .agg #[.pointer all, .pointer none]) (by simp [results, Try.results27, go_sem]) rfl ⟨rfl, ((Below.refl _ W).alloc (Nat.le_refl _) _).alloc (by simp) _⟩
/-- A view's three cells. -/
def VwBlk (W : World) (vb : Nat) (p q : Option Addr) (last : Int) : Prop := W.heap[vb]? = some (.cells #[.pointer p, .pointer q, .int .i64 last] 74 (0, 0))
theorem VwBlk.lt {W : World} {vb : Nat} {p q : Option Addr} {last : Int} (h : VwBlk W vb p q last) : vb < W.heap.size := (Array.getElem?_eq_some_iff.1 h).1
theorem VwBlk.cs {W : World} {vb : Nat} {p q : Option Addr} {last : Int} (h : VwBlk W vb p q last) : (W.cell? ⟨vb, 0, none⟩ = some (.pointer p) ∧ W.cell? ⟨vb, 1, none⟩ = some (.pointer q) ∧ W.cell? ⟨vb, 2, none⟩ = some (.int .i64 last)) ∧ W.frozen? ⟨vb, 0, none⟩ = false ∧ W.frozen? ⟨vb, 1, none⟩ = false ∧ W.frozen? ⟨vb, 2, none⟩ = false := by
  have h' : W.heap[vb]? = _ := h
  refine ⟨⟨?_, ?_, ?_⟩, ?_, ?_, ?_⟩ <;> simp [World.cell?, World.frozen?, h']
theorem VwBlk.set {W : World} {vb : Nat} {p q : Option Addr} {last : Int} (h : VwBlk W vb p q last) : (∀ p', VwBlk (W.setCell ⟨vb, 0, none⟩ (.pointer p')) vb p' q last) ∧ (∀ q', VwBlk (W.setCell ⟨vb, 1, none⟩ (.pointer q')) vb p q' last) ∧ ∀ l', VwBlk (W.setCell ⟨vb, 2, none⟩ (.int .i64 l')) vb p q l' := by
  have h' : W.heap[vb]? = _ := h
  obtain ⟨hlt, hk⟩ := Array.getElem?_eq_some_iff.1 h'
  refine ⟨fun p' => ?_, fun q' => ?_, fun l' => ?_⟩
  all_goals
    show (W.heap.modify vb _)[vb]? = _
    rw [Array.getElem?_eq_getElem (by rw [Array.size_modify]; exact hlt), Array.getElem_modify_self, hk]
    rfl
set_option maxRecDepth 100000 in
set_option maxHeartbeats 4000000 in
theorem view_all (b me mf fb km : Nat) (laid : Int) (cf : Nat) (gf : Lit → Option Addr) (all : Option Addr) {n : Nat} (tg : Tm (n + 1)) (W : World) (hb : BsBlk W b laid me mf) (hmf : PM 67 W mf cf gf) (hf : FmBlk W fb all km) (hT : IsT W.heap.size W tg) (hok : okT tg = true) (hcall : (decide (tg.tv.k = 3) || decide (tg.tv.k = 4)) = true) (hkey : keyOfV tg = keyV 0 0 ⟨#[]⟩ 0) (hg : gf (predL tg.tv.s tg.tv.len) = some ⟨fb, 0, none⟩) :
    Calls Try.prog 9 #[.pointer (some ⟨b, 0, none⟩), tg.tv.val] W fun e W' => ∃ vb, e = .returned (.tuple #[.pointer (some ⟨vb, 0, none⟩), .int .i64 0]) ∧ W.heap.size ≤ vb ∧ VwBlk W' vb all none (-9223372036854775808) ∧ Below W.heap.size W W' := by
  have hbx := BoxT.new W tg.tv
  have hb1 : Below W.heap.size W (W.alloc (.cells #[.int .i64 tg.tv.k, .int .i64 tg.tv.N, .string tg.tv.s, .slice tg.tv.a tg.tv.len tg.tv.cap] 24)) := (Below.refl _ W).alloc (Nat.le_refl _) _
  have hck := check_any tg _ ((hT.below hb1).mono hb1.size)
  rw [chk_yes hok] at hck
  have hca := isCallable_any tg.tv
  rw [hcall] at hca
  have hpr := predicateOf_any tg.tv
  have HKO : Hid (∀ V, Below W.heap.size W V → Calls Try.prog 28 #[tg.tv.val] V fun e W' => e = .returned (keyV 0 0 ⟨#[]⟩ 0) ∧ Below V.heap.size V W') := fun V hV => by
    have h := keyOf_any tg V ((hT.below hV).mono hV.size)
    rw [hkey] at h
    exact h
  have hsl : tg.tv.s.size ≤ maxLen := hT.2.2.1
  have hl50 : tg.tv.len ≤ 9223372036854775807 := hT.2.1
  have HPK : Hid (∀ V, Below W.heap.size W V → (Instr.lookup 52 (.map (some mf)) (.agg #[.string tg.tv.s, .int .i64 (tg.tv.len : Int)]) true).run Try.prog V = .ok (.tuple #[.pointer (some ⟨fb, 0, none⟩), .bool true]) V) := fun V hV => by
    have h := (hmf.kept (hV.block mf hmf.lt)).look Try.keyedPred Try.underlying52 (Try.zeroPtr64 _) (pred_key tg.tv.s tg.tv.len hsl hl50)
    rw [hg] at h
    simp only [Option.isSome_some] at h
    exact h
  have HB0 : Hid (∀ V, Below W.heap.size W V → BsBlk V b laid me mf ∧ FmBlk V fb all km) := fun V hV => ⟨(hV.block b hb.lt).trans hb, (hV.block fb hf.lt).trans hf⟩
  have HLB : Hid (b < W.heap.size) := hb.lt
  simp only [TV.val, predV, keyV] at hck hca hpr HKO ⊢
  have HX : Hid (BoxT (W.alloc (.cells #[.int .i64 tg.tv.k, .int .i64 tg.tv.N, .string tg.tv.s, .slice tg.tv.a tg.tv.len tg.tv.cap] 24)) W.heap.size tg.tv ∧ Below W.heap.size W (W.alloc (.cells #[.int .i64 tg.tv.k, .int .i64 tg.tv.N, .string tg.tv.s, .slice tg.tv.a tg.tv.len tg.tv.cap] 24)) ∧ (W.alloc (.cells #[.int .i64 tg.tv.k, .int .i64 tg.tv.N, .string tg.tv.s, .slice tg.tv.a tg.tv.len tg.tv.cap] 24)).heap.size = W.heap.size + 1) := ⟨hbx, hb1, by simp⟩
  clear hb hmf hf hT hok hcall hkey hg hbx hb1 hsl hl50
  go_enter Try.func9, Try.ntmps9
  go_wp2_with fail
  refine hck.mono ?_
  clear hck
  rintro e V1 ⟨rfl, g1⟩
  obtain ⟨hbx, hb1, hs1⟩ := unhide HX
  have s1 := g1.size
  have bx1 : BoxT V1 W.heap.size tg.tv := hbx.below g1 (by omega)
  have gW1 : Below W.heap.size W V1 := hb1.trans (g1.mono (by omega))
  have c0 := bx1.c0
  have c1 := bx1.c1
  have c2 := bx1.c2
  have c3 := bx1.c3
  have H1 := hide (And.intro bx1 gW1)
  clear hbx hb1 bx1 gW1 g1 HX
  go_wp2_with fail
  refine (hca _).mono ?_
  clear hca c0 c1 c2 c3
  rintro e V2 ⟨rfl, g2⟩
  obtain ⟨bx1, gW1⟩ := unhide H1
  have s2 := g2.size
  have bx2 : BoxT V2 W.heap.size tg.tv := bx1.below g2 (by omega)
  have gW2 : Below W.heap.size W V2 := gW1.trans (g2.mono (by omega))
  have b23 : Below V2.heap.size V2 (V2.alloc (.cells #[.pointer none, .pointer none, .int .i64 (-9223372036854775808)] 74)) := (Below.refl _ V2).alloc (Nat.le_refl _) _
  have hv3 : VwBlk (V2.alloc (.cells #[.pointer none, .pointer none, .int .i64 (-9223372036854775808)] 74)) V2.heap.size none none (-9223372036854775808) := World.alloc_heap_new V2 _
  have bx3 : BoxT (V2.alloc (.cells #[.pointer none, .pointer none, .int .i64 (-9223372036854775808)] 74)) W.heap.size tg.tv := bx2.below b23 (by omega)
  have gW3 : Below W.heap.size W (V2.alloc (.cells #[.pointer none, .pointer none, .int .i64 (-9223372036854775808)] 74)) := gW2.trans (b23.mono (by omega))
  have hs3 : (V2.alloc (.cells #[.pointer none, .pointer none, .int .i64 (-9223372036854775808)] 74)).heap.size = V2.heap.size + 1 := by simp
  have H3 := hide (And.intro hv3 (And.intro bx3 (And.intro gW3 hs3)))
  clear bx1 gW1 bx2 gW2 b23 hv3 bx3 gW3 g2 H1 hs3
  go_wp2_with fail
  obtain ⟨V3, hV3⟩ : ∃ V3, V2.alloc (.cells #[.pointer none, .pointer none, .int .i64 (-9223372036854775808)] 74) = V3 := ⟨_, rfl⟩
  have Q3 := unhide H3
  rw [hV3] at Q3
  try rw [hV3]
  clear hV3 H3
  obtain ⟨hv3, bx3, gW3, hs3⟩ := Q3
  have hlb := HLB.out
  have KEEP : V3.cell? ⟨b, 2, none⟩ = some (.map (some mf)) ∧ V3.cell? ⟨W.heap.size, 0, none⟩ = some (.int .i64 tg.tv.k) ∧ V3.cell? ⟨W.heap.size, 1, none⟩ = some (.int .i64 tg.tv.N) ∧ V3.cell? ⟨W.heap.size, 2, none⟩ = some (.string tg.tv.s) ∧ V3.cell? ⟨W.heap.size, 3, none⟩ = some (.slice tg.tv.a tg.tv.len tg.tv.cap) := ⟨(HB0.out V3 gW3).1.cs.2.2.1, bx3.c0, bx3.c1, bx3.c2, bx3.c3⟩
  have H3 := hide (And.intro hv3 (And.intro bx3 gW3))
  clear hv3 bx3 gW3
  refine wp_region_noPanic ?_
  refine wp_region_held_drew (S := (fun w' => w'.cell? ⟨b, 2, none⟩ = some (.map (some mf)) ∧ w'.cell? ⟨W.heap.size, 0, none⟩ = some (.int .i64 tg.tv.k) ∧ w'.cell? ⟨W.heap.size, 1, none⟩ = some (.int .i64 tg.tv.N) ∧ w'.cell? ⟨W.heap.size, 2, none⟩ = some (.string tg.tv.s) ∧ w'.cell? ⟨W.heap.size, 3, none⟩ = some (.slice tg.tv.a tg.tv.len tg.tv.cap))) (by kernel_rfl) ?_ (fun hHeld => ?_)
  · exact KEEP
  refine wpAnyH_take (i := 0) (oi := { dst := some 21, op := Op.move (Operand.tmp 0), type := 27, pos := "look.go:52", after := #[], guard := none }) (v := ?_) rfl (by kernel_rfl) (by kernel_rfl) (by kernel_rfl) (fun _ _ _ h => h) (Or.inl ⟨by rfl, ?_⟩) hHeld ?_
  rotate_left
  · (intro w' hSw; (try dsimp only at hSw); go_simp; try with_reducible rfl)
  try simp only [Act.put, List.setIfInBounds_toArray, List.set_cons_zero, List.set_cons_succ]
  refine wpAnyH_take (i := 1) (oi := { dst := some 22, op := Op.nilCheck (Operand.tmp 21), type := 0, pos := "look.go:52", after := #[{ on := 0, ground := Ground.data }], guard := none }) (v := ?_) rfl (by kernel_rfl) (by kernel_rfl) (by kernel_rfl) (fun _ _ _ h => h) (Or.inl ⟨by rfl, ?_⟩) hHeld ?_
  rotate_left
  · (intro w' hSw; (try dsimp only at hSw); go_simp; try with_reducible rfl)
  try simp only [Act.put, List.setIfInBounds_toArray, List.set_cons_zero, List.set_cons_succ]
  refine wpAnyH_take (i := 2) (oi := { dst := some 23, op := Op.fieldAddr 54 (Operand.tmp 22) 2, type := 0, pos := "look.go:52", after := #[{ on := 1, ground := Ground.data }], guard := none }) (v := ?_) rfl (by kernel_rfl) (by kernel_rfl) (by kernel_rfl) (fun _ _ _ h => h) (Or.inl ⟨by rfl, ?_⟩) hHeld ?_
  rotate_left
  · (intro w' hSw; (try dsimp only at hSw); go_simp; try with_reducible rfl)
  try simp only [Act.put, List.setIfInBounds_toArray, List.set_cons_zero, List.set_cons_succ]
  refine wpAnyH_take (i := 3) (oi := { dst := some 24, op := Op.load 52 (Operand.tmp 23), type := 52, pos := "look.go:52", after := #[{ on := 2, ground := Ground.data }], guard := none }) (v := ?_) rfl (by kernel_rfl) (by kernel_rfl) (by kernel_rfl) (fun _ _ _ h => h) (Or.inl ⟨by rfl, ?_⟩) hHeld ?_
  rotate_left
  · (intro w' hSw; (try dsimp only at hSw); go_simp; try with_reducible rfl)
  try simp only [Act.put, List.setIfInBounds_toArray, List.set_cons_zero, List.set_cons_succ]
  refine wpAnyH_take (i := 4) (oi := { dst := some 25, op := Op.load 24 (Operand.tmp 3), type := 24, pos := "look.go:52", after := #[], guard := none }) (v := ?_) rfl (by kernel_rfl) (by kernel_rfl) (by kernel_rfl) (fun _ _ _ h => h) (Or.inl ⟨by rfl, ?_⟩) hHeld ?_
  rotate_left
  · (intro w' hSw; (try dsimp only at hSw); go_simp; try with_reducible rfl)
  try simp only [Act.put, List.setIfInBounds_toArray, List.set_cons_zero, List.set_cons_succ]
  refine wpAnyH_ready (rs := [5]) (by kernel_rfl) (by simp) ?_
  refine AllReadyH.cons (o := { dst := some 26, op := Op.call { callee := Callee.value (Operand.func 24), args := #[Operand.tmp 25], argTypes := #[24] }, type := 67, pos := "look.go:52", after := #[{ on := 4, ground := Ground.data }], guard := none }) rfl (fun K hK => ?_) AllReadyH.nil
  have hHold := hHeld
  clear hHeld
  go_simp
  refine (hpr _).mono ?_
  rintro e V4 ⟨rfl, g4⟩
  have s4 : V3.heap.size ≤ V4.heap.size := g4.size
  have kc : ∀ k o, k < V3.heap.size → V4.cell? ⟨k, o, none⟩ = V3.cell? ⟨k, o, none⟩ := fun k o hk => World.cell?_of_block (a := ⟨k, o, none⟩) (w := V3) (g4.block k hk)
  have KEEP : V4.cell? ⟨b, 2, none⟩ = some (.map (some mf)) ∧ V4.cell? ⟨W.heap.size, 0, none⟩ = some (.int .i64 tg.tv.k) ∧ V4.cell? ⟨W.heap.size, 1, none⟩ = some (.int .i64 tg.tv.N) ∧ V4.cell? ⟨W.heap.size, 2, none⟩ = some (.string tg.tv.s) ∧ V4.cell? ⟨W.heap.size, 3, none⟩ = some (.slice tg.tv.a tg.tv.len tg.tv.cap) := ⟨(kc _ _ (by omega)).trans KEEP.1, (kc _ _ (by omega)).trans KEEP.2.1, (kc _ _ (by omega)).trans KEEP.2.2.1, (kc _ _ (by omega)).trans KEEP.2.2.2.1, (kc _ _ (by omega)).trans KEEP.2.2.2.2⟩
  have gW4 : Below W.heap.size W V4 := (unhide H3).2.2.drew.trans (g4.mono (by show W.heap.size ≤ V3.heap.size; omega))
  have hlk := HPK.out V4 gW4
  clear kc
  go_wp2_with fail
  refine hK.out _ _ ?_ (fun hHeld => ?_)
  · ((try dsimp only); exact KEEP)
  clear hK K hHold
  try simp only [Act.put, List.setIfInBounds_toArray, List.set_cons_zero, List.set_cons_succ]
  refine wpAnyH_ready (rs := [6]) (by kernel_rfl) (by simp) ?_
  refine AllReadyH.cons (o := { dst := some 27, op := Op.lookup 52 (Operand.tmp 24) (Operand.tmp 26) true, type := 75, pos := "look.go:52", after := #[{ on := 3, ground := Ground.data }, { on := 5, ground := Ground.data }], guard := none }) rfl (fun K hK => ?_) AllReadyH.nil
  have hHold := hHeld
  clear hHeld
  go_simp
  refine hK.out _ _ ?_ (fun hHeld => ?_)
  · ((try dsimp only); exact KEEP)
  clear hK K hHold
  try simp only [Act.put, List.setIfInBounds_toArray, List.set_cons_zero, List.set_cons_succ]
  refine wpAnyH_take (i := 7) (oi := { dst := some 20, op := Op.move (Operand.tmp 27), type := 75, pos := "look.go:52", after := #[{ on := 6, ground := Ground.data }], guard := none }) (v := ?_) rfl (by kernel_rfl) (by kernel_rfl) (by kernel_rfl) (fun _ _ _ h => h) (Or.inl ⟨by rfl, ?_⟩) hHeld ?_
  rotate_left
  · (intro w' hSw; (try dsimp only at hSw); go_simp; try with_reducible rfl)
  try simp only [Act.put, List.setIfInBounds_toArray, List.set_cons_zero, List.set_cons_succ]
  refine wpAnyH_take (i := 8) (oi := { dst := some 28, op := Op.extract (Operand.tmp 20) 0, type := 64, pos := "look.go:52", after := #[{ on := 7, ground := Ground.data }], guard := none }) (v := ?_) rfl (by kernel_rfl) (by kernel_rfl) (by kernel_rfl) (fun _ _ _ h => h) (Or.inl ⟨by rfl, ?_⟩) hHeld ?_
  rotate_left
  · (intro w' hSw; (try dsimp only at hSw); go_simp; try with_reducible rfl)
  try simp only [Act.put, List.setIfInBounds_toArray, List.set_cons_zero, List.set_cons_succ]
  refine wpAnyH_take (i := 9) (oi := { dst := some 29, op := Op.extract (Operand.tmp 20) 1, type := 4, pos := "look.go:52", after := #[{ on := 7, ground := Ground.data }, { on := 10, ground := Ground.gcOnly Departure.lateStores }], guard := none }) (v := ?_) rfl (by kernel_rfl) (by kernel_rfl) (by kernel_rfl) (fun _ _ _ h => h) (Or.inl ⟨by rfl, ?_⟩) hHeld ?_
  rotate_left
  · (intro w' hSw; (try dsimp only at hSw); go_simp; try with_reducible rfl)
  try simp only [Act.put, List.setIfInBounds_toArray, List.set_cons_zero, List.set_cons_succ]
  refine wpAnyH_take (i := 10) (oi := { dst := some 8, op := Op.assign (Operand.tmp 28), type := 64, pos := "look.go:52", after := #[{ on := 8, ground := Ground.data }, { on := 5, ground := Ground.chain }, { on := 0, ground := Ground.phase }, { on := 1, ground := Ground.phase }, { on := 2, ground := Ground.phase }, { on := 3, ground := Ground.phase }, { on := 4, ground := Ground.phase }, { on := 5, ground := Ground.phase }, { on := 6, ground := Ground.phase }, { on := 7, ground := Ground.phase }, { on := 8, ground := Ground.phase }, { on := 9, ground := Ground.textOnly Departure.lateStores }], guard := none }) (v := ?_) rfl (by kernel_rfl) (by kernel_rfl) (by kernel_rfl) (fun _ _ _ h => h) (Or.inl ⟨by rfl, ?_⟩) hHeld ?_
  rotate_left
  · (intro w' hSw; (try dsimp only at hSw); go_simp; try with_reducible rfl)
  try simp only [Act.put, List.setIfInBounds_toArray, List.set_cons_zero, List.set_cons_succ]
  refine wpAnyH_take (i := 11) (oi := { dst := some 9, op := Op.assign (Operand.tmp 29), type := 4, pos := "look.go:52", after := #[{ on := 9, ground := Ground.data }, { on := 10, ground := Ground.chain }, { on := 0, ground := Ground.phase }, { on := 1, ground := Ground.phase }, { on := 2, ground := Ground.phase }, { on := 3, ground := Ground.phase }, { on := 4, ground := Ground.phase }, { on := 5, ground := Ground.phase }, { on := 6, ground := Ground.phase }, { on := 7, ground := Ground.phase }, { on := 8, ground := Ground.phase }, { on := 9, ground := Ground.phase }, { on := 10, ground := Ground.phase }], guard := none }) (v := ?_) rfl (by kernel_rfl) (by kernel_rfl) (by kernel_rfl) (fun _ _ _ h => h) (Or.inl ⟨by rfl, ?_⟩) hHeld ?_
  rotate_left
  · (intro w' hSw; (try dsimp only at hSw); go_simp; try with_reducible rfl)
  try simp only [Act.put, List.setIfInBounds_toArray, List.set_cons_zero, List.set_cons_succ]
  refine wpAnyH_done (by kernel_rfl) ?_ _
  refine NoPanic.normal ?_
  clear hHeld hlk hpr
  have bx4 : BoxT V4 W.heap.size tg.tv := (g4.block W.heap.size (by show W.heap.size < V3.heap.size; omega)).trans (unhide H3).2.1
  have hv4 : VwBlk V4 V2.heap.size none none (-9223372036854775808) := (g4.block V2.heap.size (by show V2.heap.size < V3.heap.size; omega)).trans (unhide H3).1
  have c0 := bx4.c0
  have c1 := bx4.c1
  have c2 := bx4.c2
  have c3 := bx4.c3
  have hko := HKO.out V4 gW4
  have H4 := hide (And.intro hv4 gW4)
  clear KEEP g4 bx4 hv4 gW4 H3 HKO
  go_wp2_with fail
  refine hko.mono ?_
  clear hko c0 c1 c2 c3
  rintro e V5 ⟨rfl, g5⟩
  obtain ⟨hv4, gW4⟩ := unhide H4
  have s5 := g5.size
  have gW5 : Below W.heap.size W V5 := gW4.trans (g5.mono (by omega))
  have hv5 : VwBlk V5 V2.heap.size none none (-9223372036854775808) := (g5.block _ (by omega)).trans hv4
  have hlt := letThrough_all fb km all V5 (HB0.out V5 gW5).2
  simp only [keyV] at hlt
  have H5 := hide (And.intro hv5 gW5)
  clear hv4 gW4 gW5 hv5 g5 H4
  go_wp2_with fail
  refine hlt.mono ?_
  clear hlt
  rintro e V6 ⟨rfl, g6⟩
  obtain ⟨hv5, gW5⟩ := unhide H5
  have s6 := g6.size
  have gW6 : Below W.heap.size W V6 := gW5.trans (g6.mono (by omega))
  have hv6 : VwBlk V6 V2.heap.size none none (-9223372036854775808) := (g6.block _ (by omega)).trans hv5
  obtain ⟨⟨v0, v1, v2⟩, f0, f1, f2⟩ := hv6.cs
  have hv7 := ((hv6.set.1 all).set).2.1 none
  have HF : Hid (W.heap.size ≤ V2.heap.size ∧ VwBlk ((V6.setCell ⟨V2.heap.size, 0, none⟩ (.pointer all)).setCell ⟨V2.heap.size, 1, none⟩ (.pointer none)) V2.heap.size all none (-9223372036854775808) ∧ Below W.heap.size W ((V6.setCell ⟨V2.heap.size, 0, none⟩ (.pointer all)).setCell ⟨V2.heap.size, 1, none⟩ (.pointer none))) := ⟨by omega, hv7, (gW6.setCell (p := ⟨V2.heap.size, 0, none⟩) (by show W.heap.size ≤ V2.heap.size; omega) _).setCell (p := ⟨V2.heap.size, 1, none⟩) (by show W.heap.size ≤ V2.heap.size; omega) _⟩
  clear hv5 gW5 gW6 hv6 hv7 g6 H5
  go_wp2_with fail
  exact bodyPost_ret (v := .tuple #[.pointer (some ⟨V2.heap.size, 0, none⟩), .int .i64 0]) (by simp [results, Try.results9, go_sem]) rfl ⟨_, rfl, HF.out.1, HF.out.2.1, HF.out.2.2⟩
/-- What a view's step leaves of it. -/
def StepSays (R : Option Nat) (W W' : World) (vb : Nat) (p : Option Addr) (last : Int) : Prop := (∀ eb, R = some eb → ∀ pl, W.cell? ⟨eb, 0, none⟩ = some (.int .i64 pl) → VwBlk W' vb p none pl) ∧ (R = none → VwBlk W' vb none none last)
theorem TrIs.below {A B : World} (hb : Below A.heap.size A B) : ∀ {n : Nat} {t : Tr n} {p : Option Addr}, TrIs A t p → TrIs B t p := by
  intro n
  induction n with
  | zero => intro t p h; exact h
  | succ n ih =>
    intro t p h
    match t, h with
    | none, h => exact h
    | some (tb, eb, pl, ht, l, r), h =>
      obtain ⟨h1, lp, rp, hblk, hc, hl, hr⟩ := h
      have hlt := (Array.getElem?_eq_some_iff.1 hblk).1
      have hel : eb < A.heap.size := by
        by_cases hlt' : eb < A.heap.size
        · exact hlt'
        · have : A.heap[eb]? = none := Array.getElem?_eq_none (by omega)
          simp [World.cell?, this] at hc
      exact ⟨h1, lp, rp, (hb.block tb hlt).trans hblk, (hb.cell (p := ⟨eb, 0, none⟩) hel).trans hc, ih hl, ih hr⟩
set_option maxRecDepth 100000 in
set_option maxHeartbeats 4000000 in
theorem step_one (vb : Nat) (p : Option Addr) (last : Int) {n : Nat} (t : Tr n) (W : World) (hv : VwBlk W vb p none last) (ht : TrIs W t p) (hpl : ∀ eb, afterT t last none = some eb → ∃ pl, W.cell? ⟨eb, 0, none⟩ = some (.int .i64 pl) ∧ eb < W.heap.size ∧ eb ≠ vb) :
    Calls Try.prog 30 #[.pointer (some ⟨vb, 0, none⟩)] W fun e W' => e = .returned (ptrE (afterT t last none)) ∧ GrB (fun k => k = vb) W.heap.size W W' ∧ StepSays (afterT t last none) W W' vb p last := by
  have HA : Hid (∀ V, Below W.heap.size W V → Calls Try.prog 43 #[.pointer p, .int .i64 last] V fun e W' => e = .returned (ptrE (afterT t last none)) ∧ Below V.heap.size V W') := fun V hV => after_any t p last V (ht.below hV)
  have HN : Hid (∀ V, Calls Try.prog 43 #[.pointer none, .int .i64 last] V fun e W' => e = .returned (ptrE none) ∧ Below V.heap.size V W') := fun V => after_any (n := 0) () none last V rfl
  have HE : Hid (∀ V, Calls Try.prog 42 #[ptrE (afterT t last none), ptrE none] V fun e W' => e = .returned (ptrE (afterT t last none)) ∧ Below V.heap.size V W') := fun V => earlier_left _ V
  have hvl := hv.lt
  generalize afterT t last none = R at *
  have KEEP : W.cell? ⟨vb, 0, none⟩ = some (.pointer p) ∧ W.cell? ⟨vb, 1, none⟩ = some (.pointer none) ∧ W.cell? ⟨vb, 2, none⟩ = some (.int .i64 last) := hv.cs.1
  have hca := HA.out W.drew (Below.refl _ W).drew
  have HV := hide hv
  clear hv ht HA
  go_enter Try.func30, Try.ntmps30
  go_wp2_with fail
  refine wp_region_noPanic ?_
  refine wp_region_held_drew (S := (fun w' => w'.cell? ⟨vb, 0, none⟩ = some (.pointer p) ∧ w'.cell? ⟨vb, 1, none⟩ = some (.pointer none) ∧ w'.cell? ⟨vb, 2, none⟩ = some (.int .i64 last))) (by kernel_rfl) ?_ (fun hHeld => ?_)
  · exact KEEP
  refine wpAnyH_take (i := 0) (oi := { dst := some 4, op := Op.move (Operand.tmp 0), type := 36, pos := "look.go:73", after := #[], guard := none }) (v := ?_) rfl (by kernel_rfl) (by kernel_rfl) (by kernel_rfl) (fun _ _ _ h => h) (Or.inl ⟨by rfl, ?_⟩) hHeld ?_
  rotate_left
  · (intro w' hSw; (try dsimp only at hSw); go_simp; try with_reducible rfl)
  try simp only [Act.put, List.setIfInBounds_toArray, List.set_cons_zero, List.set_cons_succ]
  refine wpAnyH_take (i := 1) (oi := { dst := some 5, op := Op.nilCheck (Operand.tmp 4), type := 0, pos := "look.go:73", after := #[{ on := 0, ground := Ground.data }], guard := none }) (v := ?_) rfl (by kernel_rfl) (by kernel_rfl) (by kernel_rfl) (fun _ _ _ h => h) (Or.inl ⟨by rfl, ?_⟩) hHeld ?_
  rotate_left
  · (intro w' hSw; (try dsimp only at hSw); go_simp; try with_reducible rfl)
  try simp only [Act.put, List.setIfInBounds_toArray, List.set_cons_zero, List.set_cons_succ]
  refine wpAnyH_take (i := 2) (oi := { dst := some 6, op := Op.fieldAddr 74 (Operand.tmp 5) 0, type := 0, pos := "look.go:73", after := #[{ on := 1, ground := Ground.data }], guard := none }) (v := ?_) rfl (by kernel_rfl) (by kernel_rfl) (by kernel_rfl) (fun _ _ _ h => h) (Or.inl ⟨by rfl, ?_⟩) hHeld ?_
  rotate_left
  · (intro w' hSw; (try dsimp only at hSw); go_simp; try with_reducible rfl)
  try simp only [Act.put, List.setIfInBounds_toArray, List.set_cons_zero, List.set_cons_succ]
  refine wpAnyH_take (i := 3) (oi := { dst := some 7, op := Op.indexAddr 72 (Operand.tmp 6) (Operand.const (Value.int IntKind.i64 0)), type := 0, pos := "look.go:73", after := #[{ on := 2, ground := Ground.data }], guard := none }) (v := ?_) rfl (by kernel_rfl) (by kernel_rfl) (by kernel_rfl) (fun _ _ _ h => h) (Or.inl ⟨by rfl, ?_⟩) hHeld ?_
  rotate_left
  · (intro w' hSw; (try dsimp only at hSw); go_simp; try with_reducible rfl)
  try simp only [Act.put, List.setIfInBounds_toArray, List.set_cons_zero, List.set_cons_succ]
  refine wpAnyH_take (i := 4) (oi := { dst := some 8, op := Op.load 71 (Operand.tmp 7), type := 71, pos := "look.go:73", after := #[{ on := 3, ground := Ground.data }], guard := none }) (v := ?_) rfl (by kernel_rfl) (by kernel_rfl) (by kernel_rfl) (fun _ _ _ h => h) (Or.inl ⟨by rfl, ?_⟩) hHeld ?_
  rotate_left
  · (intro w' hSw; (try dsimp only at hSw); go_simp; try with_reducible rfl)
  try simp only [Act.put, List.setIfInBounds_toArray, List.set_cons_zero, List.set_cons_succ]
  refine wpAnyH_take (i := 5) (oi := { dst := some 9, op := Op.move (Operand.tmp 0), type := 36, pos := "look.go:73", after := #[], guard := none }) (v := ?_) rfl (by kernel_rfl) (by kernel_rfl) (by kernel_rfl) (fun _ _ _ h => h) (Or.inl ⟨by rfl, ?_⟩) hHeld ?_
  rotate_left
  · (intro w' hSw; (try dsimp only at hSw); go_simp; try with_reducible rfl)
  try simp only [Act.put, List.setIfInBounds_toArray, List.set_cons_zero, List.set_cons_succ]
  refine wpAnyH_take (i := 6) (oi := { dst := some 10, op := Op.nilCheck (Operand.tmp 9), type := 0, pos := "look.go:73", after := #[{ on := 5, ground := Ground.data }], guard := none }) (v := ?_) rfl (by kernel_rfl) (by kernel_rfl) (by kernel_rfl) (fun _ _ _ h => h) (Or.inl ⟨by rfl, ?_⟩) hHeld ?_
  rotate_left
  · (intro w' hSw; (try dsimp only at hSw); go_simp; try with_reducible rfl)
  try simp only [Act.put, List.setIfInBounds_toArray, List.set_cons_zero, List.set_cons_succ]
  refine wpAnyH_take (i := 7) (oi := { dst := some 11, op := Op.fieldAddr 74 (Operand.tmp 10) 1, type := 0, pos := "look.go:73", after := #[{ on := 6, ground := Ground.data }], guard := none }) (v := ?_) rfl (by kernel_rfl) (by kernel_rfl) (by kernel_rfl) (fun _ _ _ h => h) (Or.inl ⟨by rfl, ?_⟩) hHeld ?_
  rotate_left
  · (intro w' hSw; (try dsimp only at hSw); go_simp; try with_reducible rfl)
  try simp only [Act.put, List.setIfInBounds_toArray, List.set_cons_zero, List.set_cons_succ]
  refine wpAnyH_take (i := 8) (oi := { dst := some 12, op := Op.load 3 (Operand.tmp 11), type := 3, pos := "look.go:73", after := #[{ on := 7, ground := Ground.data }], guard := none }) (v := ?_) rfl (by kernel_rfl) (by kernel_rfl) (by kernel_rfl) (fun _ _ _ h => h) (Or.inl ⟨by rfl, ?_⟩) hHeld ?_
  rotate_left
  · (intro w' hSw; (try dsimp only at hSw); go_simp; try with_reducible rfl)
  try simp only [Act.put, List.setIfInBounds_toArray, List.set_cons_zero, List.set_cons_succ]
  refine wpAnyH_take (i := 10) (oi := { dst := some 14, op := Op.move (Operand.tmp 0), type := 36, pos := "look.go:73", after := #[], guard := none }) (v := ?_) rfl (by kernel_rfl) (by kernel_rfl) (by kernel_rfl) (fun _ _ _ h => h) (Or.inl ⟨by rfl, ?_⟩) hHeld ?_
  rotate_left
  · (intro w' hSw; (try dsimp only at hSw); go_simp; try with_reducible rfl)
  try simp only [Act.put, List.setIfInBounds_toArray, List.set_cons_zero, List.set_cons_succ]
  refine wpAnyH_take (i := 11) (oi := { dst := some 15, op := Op.nilCheck (Operand.tmp 14), type := 0, pos := "look.go:73", after := #[{ on := 10, ground := Ground.data }], guard := none }) (v := ?_) rfl (by kernel_rfl) (by kernel_rfl) (by kernel_rfl) (fun _ _ _ h => h) (Or.inl ⟨by rfl, ?_⟩) hHeld ?_
  rotate_left
  · (intro w' hSw; (try dsimp only at hSw); go_simp; try with_reducible rfl)
  try simp only [Act.put, List.setIfInBounds_toArray, List.set_cons_zero, List.set_cons_succ]
  refine wpAnyH_take (i := 12) (oi := { dst := some 16, op := Op.fieldAddr 74 (Operand.tmp 15) 0, type := 0, pos := "look.go:73", after := #[{ on := 11, ground := Ground.data }], guard := none }) (v := ?_) rfl (by kernel_rfl) (by kernel_rfl) (by kernel_rfl) (fun _ _ _ h => h) (Or.inl ⟨by rfl, ?_⟩) hHeld ?_
  rotate_left
  · (intro w' hSw; (try dsimp only at hSw); go_simp; try with_reducible rfl)
  try simp only [Act.put, List.setIfInBounds_toArray, List.set_cons_zero, List.set_cons_succ]
  refine wpAnyH_take (i := 13) (oi := { dst := some 17, op := Op.indexAddr 72 (Operand.tmp 16) (Operand.const (Value.int IntKind.i64 1)), type := 0, pos := "look.go:73", after := #[{ on := 12, ground := Ground.data }], guard := none }) (v := ?_) rfl (by kernel_rfl) (by kernel_rfl) (by kernel_rfl) (fun _ _ _ h => h) (Or.inl ⟨by rfl, ?_⟩) hHeld ?_
  rotate_left
  · (intro w' hSw; (try dsimp only at hSw); go_simp; try with_reducible rfl)
  try simp only [Act.put, List.setIfInBounds_toArray, List.set_cons_zero, List.set_cons_succ]
  refine wpAnyH_take (i := 14) (oi := { dst := some 18, op := Op.load 71 (Operand.tmp 17), type := 71, pos := "look.go:73", after := #[{ on := 13, ground := Ground.data }], guard := none }) (v := ?_) rfl (by kernel_rfl) (by kernel_rfl) (by kernel_rfl) (fun _ _ _ h => h) (Or.inl ⟨by rfl, ?_⟩) hHeld ?_
  rotate_left
  · (intro w' hSw; (try dsimp only at hSw); go_simp; try with_reducible rfl)
  try simp only [Act.put, List.setIfInBounds_toArray, List.set_cons_zero, List.set_cons_succ]
  refine wpAnyH_take (i := 15) (oi := { dst := some 19, op := Op.move (Operand.tmp 0), type := 36, pos := "look.go:73", after := #[], guard := none }) (v := ?_) rfl (by kernel_rfl) (by kernel_rfl) (by kernel_rfl) (fun _ _ _ h => h) (Or.inl ⟨by rfl, ?_⟩) hHeld ?_
  rotate_left
  · (intro w' hSw; (try dsimp only at hSw); go_simp; try with_reducible rfl)
  try simp only [Act.put, List.setIfInBounds_toArray, List.set_cons_zero, List.set_cons_succ]
  refine wpAnyH_take (i := 16) (oi := { dst := some 20, op := Op.nilCheck (Operand.tmp 19), type := 0, pos := "look.go:73", after := #[{ on := 15, ground := Ground.data }], guard := none }) (v := ?_) rfl (by kernel_rfl) (by kernel_rfl) (by kernel_rfl) (fun _ _ _ h => h) (Or.inl ⟨by rfl, ?_⟩) hHeld ?_
  rotate_left
  · (intro w' hSw; (try dsimp only at hSw); go_simp; try with_reducible rfl)
  try simp only [Act.put, List.setIfInBounds_toArray, List.set_cons_zero, List.set_cons_succ]
  refine wpAnyH_take (i := 17) (oi := { dst := some 21, op := Op.fieldAddr 74 (Operand.tmp 20) 1, type := 0, pos := "look.go:73", after := #[{ on := 16, ground := Ground.data }], guard := none }) (v := ?_) rfl (by kernel_rfl) (by kernel_rfl) (by kernel_rfl) (fun _ _ _ h => h) (Or.inl ⟨by rfl, ?_⟩) hHeld ?_
  rotate_left
  · (intro w' hSw; (try dsimp only at hSw); go_simp; try with_reducible rfl)
  try simp only [Act.put, List.setIfInBounds_toArray, List.set_cons_zero, List.set_cons_succ]
  refine wpAnyH_take (i := 18) (oi := { dst := some 22, op := Op.load 3 (Operand.tmp 21), type := 3, pos := "look.go:73", after := #[{ on := 17, ground := Ground.data }], guard := none }) (v := ?_) rfl (by kernel_rfl) (by kernel_rfl) (by kernel_rfl) (fun _ _ _ h => h) (Or.inl ⟨by rfl, ?_⟩) hHeld ?_
  rotate_left
  · (intro w' hSw; (try dsimp only at hSw); go_simp; try with_reducible rfl)
  try simp only [Act.put, List.setIfInBounds_toArray, List.set_cons_zero, List.set_cons_succ]
  refine wpAnyH_ready (rs := [9]) (by kernel_rfl) (by simp) ?_
  refine AllReadyH.cons (o := { dst := some 13, op := Op.call { callee := Callee.value (Operand.func 43), args := #[Operand.tmp 8, Operand.tmp 12], argTypes := #[71, 3] }, type := 61, pos := "look.go:73", after := #[{ on := 4, ground := Ground.data }, { on := 8, ground := Ground.data }], guard := none }) rfl (fun K hK => ?_) AllReadyH.nil
  have hHold := hHeld
  clear hHeld
  go_simp
  refine (hca).mono ?_
  rintro e V1 ⟨rfl, gV1⟩
  have sV1 : W.heap.size ≤ V1.heap.size := gV1.size
  have kc : ∀ o, V1.cell? ⟨vb, o, none⟩ = W.cell? ⟨vb, o, none⟩ := fun o => World.cell?_of_block (a := ⟨vb, o, none⟩) (w := W) (gV1.block vb (by show vb < W.heap.size; omega))
  have KEEP : V1.cell? ⟨vb, 0, none⟩ = some (.pointer p) ∧ V1.cell? ⟨vb, 1, none⟩ = some (.pointer none) ∧ V1.cell? ⟨vb, 2, none⟩ = some (.int .i64 last) := ⟨(kc _).trans KEEP.1, (kc _).trans KEEP.2.1, (kc _).trans KEEP.2.2⟩
  clear kc
  go_wp2_with fail
  refine hK.out _ _ ?_ (fun hHeld => ?_)
  · ((try dsimp only); exact KEEP)
  clear hK K hHold
  try simp only [Act.put, List.setIfInBounds_toArray, List.set_cons_zero, List.set_cons_succ]
  refine wpAnyH_ready (rs := [19]) (by kernel_rfl) (by simp) ?_
  refine AllReadyH.cons (o := { dst := some 23, op := Op.call { callee := Callee.value (Operand.func 43), args := #[Operand.tmp 18, Operand.tmp 22], argTypes := #[71, 3] }, type := 61, pos := "look.go:73", after := #[{ on := 14, ground := Ground.data }, { on := 18, ground := Ground.data }, { on := 9, ground := Ground.chain }], guard := none }) rfl (fun K hK => ?_) AllReadyH.nil
  have hHold := hHeld
  clear hHeld
  go_simp
  refine (HN.out V1).mono ?_
  rintro e V2 ⟨rfl, gV2⟩
  have sV2 : V1.heap.size ≤ V2.heap.size := gV2.size
  have kc : ∀ o, V2.cell? ⟨vb, o, none⟩ = V1.cell? ⟨vb, o, none⟩ := fun o => World.cell?_of_block (a := ⟨vb, o, none⟩) (w := V1) (gV2.block vb (by show vb < V1.heap.size; omega))
  have KEEP : V2.cell? ⟨vb, 0, none⟩ = some (.pointer p) ∧ V2.cell? ⟨vb, 1, none⟩ = some (.pointer none) ∧ V2.cell? ⟨vb, 2, none⟩ = some (.int .i64 last) := ⟨(kc _).trans KEEP.1, (kc _).trans KEEP.2.1, (kc _).trans KEEP.2.2⟩
  clear kc
  go_wp2_with fail
  refine hK.out _ _ ?_ (fun hHeld => ?_)
  · ((try dsimp only); exact KEEP)
  clear hK K hHold
  try simp only [Act.put, List.setIfInBounds_toArray, List.set_cons_zero, List.set_cons_succ]
  refine wpAnyH_ready (rs := [20]) (by kernel_rfl) (by simp) ?_
  refine AllReadyH.cons (o := { dst := some 24, op := Op.call { callee := Callee.value (Operand.func 42), args := #[Operand.tmp 13, Operand.tmp 23], argTypes := #[61, 61] }, type := 61, pos := "look.go:73", after := #[{ on := 9, ground := Ground.data }, { on := 19, ground := Ground.data }, { on := 19, ground := Ground.chain }], guard := none }) rfl (fun K hK => ?_) AllReadyH.nil
  have hHold := hHeld
  clear hHeld
  go_simp
  refine (HE.out V2).mono ?_
  rintro e V3 ⟨rfl, gV3⟩
  have sV3 : V2.heap.size ≤ V3.heap.size := gV3.size
  have kc : ∀ o, V3.cell? ⟨vb, o, none⟩ = V2.cell? ⟨vb, o, none⟩ := fun o => World.cell?_of_block (a := ⟨vb, o, none⟩) (w := V2) (gV3.block vb (by show vb < V2.heap.size; omega))
  have KEEP : V3.cell? ⟨vb, 0, none⟩ = some (.pointer p) ∧ V3.cell? ⟨vb, 1, none⟩ = some (.pointer none) ∧ V3.cell? ⟨vb, 2, none⟩ = some (.int .i64 last) := ⟨(kc _).trans KEEP.1, (kc _).trans KEEP.2.1, (kc _).trans KEEP.2.2⟩
  clear kc
  go_wp2_with fail
  refine hK.out _ _ ?_ (fun hHeld => ?_)
  · ((try dsimp only); exact KEEP)
  clear hK K hHold
  try simp only [Act.put, List.setIfInBounds_toArray, List.set_cons_zero, List.set_cons_succ]
  refine wpAnyH_take (i := 21) (oi := { dst := some 3, op := Op.assign (Operand.tmp 24), type := 61, pos := "look.go:73", after := #[{ on := 20, ground := Ground.data }, { on := 20, ground := Ground.chain }, { on := 0, ground := Ground.phase }, { on := 1, ground := Ground.phase }, { on := 2, ground := Ground.phase }, { on := 3, ground := Ground.phase }, { on := 4, ground := Ground.phase }, { on := 5, ground := Ground.phase }, { on := 6, ground := Ground.phase }, { on := 7, ground := Ground.phase }, { on := 8, ground := Ground.phase }, { on := 9, ground := Ground.phase }, { on := 10, ground := Ground.phase }, { on := 11, ground := Ground.phase }, { on := 12, ground := Ground.phase }, { on := 13, ground := Ground.phase }, { on := 14, ground := Ground.phase }, { on := 15, ground := Ground.phase }, { on := 16, ground := Ground.phase }, { on := 17, ground := Ground.phase }, { on := 18, ground := Ground.phase }, { on := 19, ground := Ground.phase }, { on := 20, ground := Ground.phase }], guard := none }) (v := ?_) rfl (by kernel_rfl) (by kernel_rfl) (by kernel_rfl) (fun _ _ _ h => h) (Or.inl ⟨by rfl, ?_⟩) hHeld ?_
  rotate_left
  · (intro w' hSw; (try dsimp only at hSw); go_simp; try with_reducible rfl)
  try simp only [Act.put, List.setIfInBounds_toArray, List.set_cons_zero, List.set_cons_succ]
  refine wpAnyH_done (by kernel_rfl) ?_ _
  refine NoPanic.normal ?_
  clear hHeld hca HN HE
  have g1' : Below W.heap.size W.drew V1 := gV1
  have gW3 : Below W.heap.size W V3 := ((Below.refl _ W).drew.trans g1').trans ((gV2.mono (by omega)).trans (gV3.mono (by omega)))
  clear g1'
  have hv3 : VwBlk V3 vb p none last := (gW3.block vb hvl).trans (unhide HV)
  obtain ⟨⟨v0, v1, v2⟩, f0, f1, f2⟩ := hv3.cs
  cases R with
  | none =>
    have hv4 := ((hv3.set.1 none).set).2.1 none
    have HF : Hid (GrB (fun k => k = vb) W.heap.size W ((V3.setCell ⟨vb, 0, none⟩ (.pointer none)).setCell ⟨vb, 1, none⟩ (.pointer none)) ∧ VwBlk ((V3.setCell ⟨vb, 0, none⟩ (.pointer none)).setCell ⟨vb, 1, none⟩ (.pointer none)) vb none none last) := ⟨⟨gW3.os, gW3.tape, gW3.output, by have := gW3.size; simpa using this, fun k hk hx => (Below.heap_setCell _ _ _ _ (by simpa using hx)).trans ((Below.heap_setCell _ _ _ _ (by simpa using hx)).trans (gW3.block k hk))⟩, hv4⟩
    clear gW3 hv3 hv4 KEEP HV gV1 gV2 gV3 hpl
    simp only [ptrE, Option.map_none]
    go_wp2_with fail
    all_goals go_ret
    all_goals exact ⟨rfl, HF.out.1, (fun eb h => by cases h), (fun _ => HF.out.2)⟩
  | some eb =>
    obtain ⟨pl, hpc, hel, hne⟩ := hpl eb rfl
    have hp3 : V3.cell? ⟨eb, 0, none⟩ = some (.int .i64 pl) := (gW3.cell (p := ⟨eb, 0, none⟩) hel).trans hpc
    have hv4 := hv3.set.2.2 pl
    have HF : Hid (GrB (fun k => k = vb) W.heap.size W (V3.setCell ⟨vb, 2, none⟩ (.int .i64 pl)) ∧ VwBlk (V3.setCell ⟨vb, 2, none⟩ (.int .i64 pl)) vb p none pl ∧ W.cell? ⟨eb, 0, none⟩ = some (.int .i64 pl)) := ⟨⟨gW3.os, gW3.tape, gW3.output, by have := gW3.size; simpa using this, fun k hk hx => (Below.heap_setCell _ _ _ _ (by simpa using hx)).trans (gW3.block k hk)⟩, hv4, hpc⟩
    clear gW3 hv3 hv4 KEEP HV gV1 gV2 gV3 hpl hpc
    simp only [ptrE, Option.map_some]
    go_wp2_with fail
    all_goals go_ret
    all_goals exact ⟨rfl, HF.out.1, (fun eb' h pl' hp' => by cases h; rw [HF.out.2.2] at hp'; cases hp'; exact HF.out.2.1), (fun h => by cases h)⟩
end Go.Proofs.Ytdjlekcapfeniaa


/- (*base.Base).Look, of a goal with no key, over a tree of one entry. -/
namespace Go.Proofs.Ytdjlekcapfeniaa
open Go.RowKit Go.Shelf Go.Maps

theorem oneT_is {eb lo q : Nat} {W : World} {pl : Int} (h : OneT eb lo q W) (hp : W.cell? ⟨eb, 0, none⟩ = some (.int .i64 pl)) : TrIs W (nodeT (n := 0) q eb pl 1 () ()) (some ⟨q, 0, none⟩) := ⟨rfl, none, none, h.2, hp, rfl, rfl⟩
theorem oneT_after (q eb : Nat) (pl h p : Int) : afterT (nodeT (n := 0) q eb pl h () ()) p none = if p < pl then some eb else none := rfl
theorem Try.infoI : (Try.prog.info? 3).map (fun i => (i.zero, i.size, i.bytes)) = some (some (.int .i64 0), 1, 8) := by kernel_rfl
theorem one_newI {W : World} {N : Int} : ∀ j u, ([.int .i64 N] : List Value)[j]? = some u → (W.alloc (.cells #[.int .i64 N] 3)).cell? ((⟨W.heap.size, 0, none⟩ : Addr).add j) = some u := by
  intro j u hj
  match j, hj with
  | 0, hj =>
    have hb := World.alloc_heap_new W (.cells #[.int .i64 N] 3)
    simp at hj
    subst hj
    show World.cell? _ ⟨W.heap.size, 0, none⟩ = _
    simp only [World.cell?]
    rw [hb]
    rfl
  | k + 1, hj => simp at hj
theorem one_oneI {N : Int} : ∀ u ∈ ([.int .i64 N] : List Value), u.oneCell' = true := by
  intro u hu
  simp at hu
  subst hu
  rfl
theorem row_slice {W : World} {base sz n : Nat} {e : TypeId} {v : Value} {xs : List Value} (h : W.ownsRow base e sz v n xs) : ∃ a cap, v = .slice a n cap := by
  obtain ⟨_, h⟩ := h
  rcases h with ⟨hv, hn⟩ | ⟨_, cap, _, hv, _⟩
  · exact ⟨none, 0, by rw [hv, hn]⟩
  · exact ⟨_, cap, hv⟩
set_option maxRecDepth 100000 in
set_option maxHeartbeats 4000000 in
theorem look_one (b me mf fb km eb q : Nat) (laid pl : Int) (lo : Nat) (cf : Nat) (gf : Lit → Option Addr) {n : Nat} (tg : Tm (n + 1)) (W : World) (hb : BsBlk W b laid me mf) (hmf : PM 67 W mf cf gf) (hf : FmBlk W fb (some ⟨q, 0, none⟩) km) (hq : OneT eb lo q W) (hpl : W.cell? ⟨eb, 0, none⟩ = some (.int .i64 pl)) (hp0 : -9223372036854775808 < pl) (hp1 : pl ≤ 9223372036854775807) (hT : IsT W.heap.size W tg) (hok : okT tg = true) (hcall : (decide (tg.tv.k = 3) || decide (tg.tv.k = 4)) = true) (hkey : keyOfV tg = keyV 0 0 ⟨#[]⟩ 0) (hg : gf (predL tg.tv.s tg.tv.len) = some ⟨fb, 0, none⟩) :
    Calls Try.prog 16 #[.pointer (some ⟨b, 0, none⟩), tg.tv.val] W fun e W' => (∃ a cap, e = .returned (.tuple #[.slice a 1 cap, .int .i64 0])) ∧ Below W.heap.size W W' := by
  have hel : eb < W.heap.size := by
    by_cases h : eb < W.heap.size
    · exact h
    · have : W.heap[eb]? = none := Array.getElem?_eq_none (by omega)
      simp [World.cell?, this] at hpl
  have hql : q < W.heap.size := (Array.getElem?_eq_some_iff.1 hq.2).1
  have hb1 : Below W.heap.size W (W.alloc (.cells #[.int .i64 tg.tv.k, .int .i64 tg.tv.N, .string tg.tv.s, .slice tg.tv.a tg.tv.len tg.tv.cap] 24)) := (Below.refl _ W).alloc (Nat.le_refl _) _
  have hvw := view_all b me mf fb km laid cf gf (some ⟨q, 0, none⟩) tg _ ((hb1.block b hb.lt).trans hb) (hmf.kept (hb1.block mf hmf.lt)) ((hb1.block fb hf.lt).trans hf) ((hT.below hb1).mono hb1.size) hok hcall hkey hg
  have HST : Hid (∀ (V : World) (vb : Nat) (last : Int), Below W.heap.size W V → W.heap.size ≤ vb → VwBlk V vb (some ⟨q, 0, none⟩) none last → Calls Try.prog 30 #[.pointer (some ⟨vb, 0, none⟩)] V fun e W' => e = .returned (ptrE (if last < pl then some eb else none)) ∧ GrB (fun k => k = vb) V.heap.size V W' ∧ StepSays (if last < pl then some eb else none) V W' vb (some ⟨q, 0, none⟩) last) := fun V vb last hV hvb hvw => by
    have hp' : V.cell? ⟨eb, 0, none⟩ = some (.int .i64 pl) := (hV.cell (p := ⟨eb, 0, none⟩) hel).trans hpl
    have hq' : OneT eb lo q V := ⟨hq.1, (hV.block q hql).trans hq.2⟩
    have h := step_one vb (some ⟨q, 0, none⟩) last (nodeT (n := 0) q eb pl 1 () ()) V hvw (oneT_is hq' hp') (fun eb' he => by
      rw [oneT_after] at he
      split at he
      · cases he
        exact ⟨pl, hp', by have := hV.size; omega, by omega⟩
      · cases he)
    rw [oneT_after] at h
    exact h
  have hia := fun V => idAt_any pl V hp0 hp1
  have HPL : Hid (∀ V, Below W.heap.size W V → V.cell? ⟨eb, 0, none⟩ = some (.int .i64 pl)) := fun V hV => (hV.cell (p := ⟨eb, 0, none⟩) hel).trans hpl
  have hs1 : (W.alloc (.cells #[.int .i64 tg.tv.k, .int .i64 tg.tv.N, .string tg.tv.s, .slice tg.tv.a tg.tv.len tg.tv.cap] 24)).heap.size = W.heap.size + 1 := by simp
  have H1 := hide (And.intro hb1 hs1)
  obtain ⟨i0, hi, hz0, hz1, hz2⟩ := info_parts Try.infoI
  have hmin : (-9223372036854775808 : Int) < pl := hp0
  clear hb hmf hf hq hpl hT hok hcall hkey hg hb1 hs1
  simp only [TV.val] at hvw ⊢
  go_enter Try.func16, Try.ntmps16
  go_wp2_with fail
  refine hvw.mono ?_
  clear hvw
  rintro e V1 ⟨vb, rfl, hvb, hv1, g1⟩
  obtain ⟨hb1, hs1⟩ := unhide H1
  have gW1 : Below W.heap.size W V1 := hb1.trans (g1.mono (by omega))
  have hst := HST.out V1 vb (-9223372036854775808) gW1 (by omega) hv1
  rw [if_pos hmin] at hst
  have hvl := hv1.lt
  have s1 := g1.size
  have HW1 := hide gW1
  have hvW : W.heap.size ≤ vb := by omega
  clear hb1 hv1 g1 gW1 H1
  simp only [ptrE, Option.map_some] at hst
  go_wp2_with fail
  refine hst.mono ?_
  clear hst
  rintro e V2 ⟨rfl, g2, hs2, -⟩
  have hv2 := hs2 eb rfl pl (HPL.out V1 (unhide HW1))
  have gW2 : Below W.heap.size W V2 := (unhide HW1).trans (g2.below (n₀ := W.heap.size) (fun k hk => by rw [hk]; exact hvW) (by omega))
  clear hs2 g2 hmin hvl s1
  go_wp2_with fail
  go_loopw [8, 9] (fun l e wr => (l = .slice none 0 0 ∧ e = .pointer (some ⟨eb, 0, none⟩) ∧ Below W.heap.size W wr ∧ VwBlk wr vb (some ⟨q, 0, none⟩) none pl) ∨ ((∃ a cap, l = .slice a 1 cap) ∧ e = .pointer none ∧ Below W.heap.size W wr)) (fun _ e _ => match e with | .pointer (some _) => 1 | _ => 0)
  case atStart => exact .inl ⟨rfl, rfl, gW2, hv2⟩
  case round =>
    rcases hrel with ⟨rfl, rfl, hb, hv⟩ | ⟨⟨a, cap, rfl⟩, rfl, hb⟩
    · have hpc := HPL.out wr hb
      have hstp := fun (V : World) (hV : Below W.heap.size W V) (hvw : VwBlk V vb (some ⟨q, 0, none⟩) none pl) => HST.out V vb pl hV hvW hvw
      rw [if_neg (by omega)] at hstp
      have hown : (wr.alloc (.cells #[.int .i64 (max pl (-pl))] 3)).ownsRow wr.heap.size 3 1 (.slice none 0 0) 0 [] := ⟨rfl, .inl ⟨rfl, rfl⟩⟩
      have HK := hide (And.intro hb hv)
      have HSTP := hide hstp
      clear hb hv hstp hv2 gW2
      go_wp2_with fail
      refine (hia _).mono ?_
      clear hia
      rintro e W3 ⟨rfl, rfl⟩
      go_wp2_with (at_builtin; go_must (refine wpList_append_own_at _ rfl _ _ 25 rfl W3.heap.size 3 i0 _ 1 8 Try.underlying25 hi hz0 hz1 hz2 rfl (by decide) (.slice none 0 0) 0 [] rfl hown ⟨W3.heap.size, 0, none⟩ 1 1 [.int .i64 (max pl (-pl))] rfl rfl one_newI one_oneI (by unfold maxLen; omega) (by omega) (by simp) ?_; intro v' w1 hown' hgrow hnil hbk))
      obtain ⟨a', cap', rfl⟩ : ∃ a cap, v' = .slice a 1 cap := row_slice hown'
      obtain ⟨hb, hv⟩ := unhide HK
      have hvl := hv.lt
      have gs := hgrow.size
      rw [World.size_alloc] at gs
      have g13 : Below W3.heap.size W3 w1 := ⟨hgrow.os, hgrow.tape, hgrow.output, by omega, fun k hk => (hgrow.block k (by simp; omega) (by simp [Value.ownBlock])).trans (Below.heap_alloc _ _ _ hk)⟩
      have gW4 : Below W.heap.size W w1 := hb.trans (g13.mono hb.size)
      have hv4 : VwBlk w1 vb (some ⟨q, 0, none⟩) none pl := (g13.block vb hvl).trans hv
      have hs4 := (unhide HSTP) w1 gW4 hv4
      have HG := hide gW4
      have hws := gW4.size
      clear hb hv hvl gs g13 gW4 hv4 HK HSTP hown' hgrow hnil hbk hown
      simp only [ptrE, Option.map_none] at hs4
      refine hs4.mono ?_
      clear hs4
      rintro e V5 ⟨rfl, g5, -⟩
      have HG5 : Hid (Below W.heap.size W V5) := (unhide HG).trans (g5.below (n₀ := W.heap.size) (fun k hk => by rw [hk]; exact hvW) hws)
      clear g5 HG hws
      go_wp2_with fail
      go_roundw
      case rel => exact .inr ⟨⟨_, _, rfl⟩, rfl, unhide HG5⟩
      case measure => simp
    · clear hv2 gW2 HST HPL hia
      have HB := hide hb
      clear hb
      go_wp2_with fail
      exact bodyPost_ret (v := .tuple #[.slice a 1 cap, .int .i64 0]) (by simp [results, Try.results16, go_sem]) rfl ⟨⟨a, cap, rfl⟩, unhide HB⟩
end Go.Proofs.Ytdjlekcapfeniaa

