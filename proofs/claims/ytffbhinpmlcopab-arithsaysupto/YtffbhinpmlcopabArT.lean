import Derived.Test.YtffbhinpmlcopabArG
import Derived.Deep.RegionHeld3
/- hornref.Missing. -/
namespace Go.Proofs.Ytffbhinpmlcopab
open Go.RowKit Go.Shelf

set_option maxRecDepth 100000 in
set_option maxHeartbeats 4000000 in
theorem rmissing_any (x : TV) (hs : x.s.size ≤ 9223372036854775807) (w : World) :
    Calls Try.prog 35 #[.string ⟨#[110, 111, 116, 95, 101, 118, 97, 108, 117, 97, 98, 108, 101]⟩, x.val] w fun e W' => ∃ y : TV, e = .returned y.val ∧ Below w.heap.size w W' ∧ HoldsT 3 w.heap.size W' y.val (notC x.s.toList x.len) := by
  have ha := ratom_any x.s
  have hi := rinteger_any (x.len : Int)
  have hc := rcompound_any
  simp only [atomV, intV, compV, TV.val] at ha hi hc ⊢
  have HA : Hid _ := ha
  have HI : Hid _ := hi
  have HC : Hid _ := hc
  clear ha hi hc
  obtain ⟨W0, hW0, hb0, hs0, bT, hz⟩ := box_zero w x
  have c2 := bT.c2
  have c3 := bT.c3
  go_enter Try.func35, Try.ntmps35
  go_wp2_with fail
  try rw [hW0]
  clear hW0
  have LK : w.heap.size < W0.heap.size := by omega
  have LZ : w.heap.size + 1 < W0.heap.size := by omega
  have HZK : Hid _ := hz
  have KEEP : W0.cell? ⟨w.heap.size, 2, none⟩ = some (.string x.s) ∧ W0.cell? ⟨w.heap.size, 3, none⟩ = some (.slice x.a x.len x.cap) := ⟨c2, c3⟩
  refine wp_region_noPanic ?_
  refine wp_region_held_drew (S := (fun w' => w'.cell? ⟨w.heap.size, 2, none⟩ = some (.string x.s) ∧ w'.cell? ⟨w.heap.size, 3, none⟩ = some (.slice x.a x.len x.cap))) (by kernel_rfl) ?_ (fun hHeld => ?_)
  · (first | exact KEEP | exact ⟨(bcell ((Below.refl _ _).alloc (Nat.le_refl _) _) _ _ LK).trans KEEP.1, (bcell ((Below.refl _ _).alloc (Nat.le_refl _) _) _ _ LK).trans KEEP.2⟩ | go_keep)
  refine wpAnyH_take (i := 0) (oi := { dst := some 5, op := Op.move (Operand.tmp 0), type := 9, pos := "arith.go:12", after := #[], guard := none }) (v := ?_) rfl (by kernel_rfl) (by kernel_rfl) (by kernel_rfl) (fun _ _ _ h => h) (Or.inl ⟨by rfl, ?_⟩) hHeld ?_
  rotate_left
  · (intro w' hSw; (try dsimp only at hSw); go_simp; try with_reducible rfl)
  try simp only [Act.put, List.setIfInBounds_toArray, List.set_cons_zero, List.set_cons_succ]
  refine wpAnyH_take (i := 1) (oi := { dst := some 6, op := Op.fieldAddr 24 (Operand.tmp 3) 2, type := 0, pos := "arith.go:12", after := #[], guard := none }) (v := ?_) rfl (by kernel_rfl) (by kernel_rfl) (by kernel_rfl) (fun _ _ _ h => h) (Or.inl ⟨by rfl, ?_⟩) hHeld ?_
  rotate_left
  · (intro w' hSw; (try dsimp only at hSw); go_simp; try with_reducible rfl)
  try simp only [Act.put, List.setIfInBounds_toArray, List.set_cons_zero, List.set_cons_succ]
  refine wpAnyH_take (i := 2) (oi := { dst := some 7, op := Op.load 9 (Operand.tmp 6), type := 9, pos := "arith.go:12", after := #[{ on := 1, ground := Ground.data }], guard := none }) (v := ?_) rfl (by kernel_rfl) (by kernel_rfl) (by kernel_rfl) (fun _ _ _ h => h) (Or.inl ⟨by rfl, ?_⟩) hHeld ?_
  rotate_left
  · (intro w' hSw; (try dsimp only at hSw); go_simp; try with_reducible rfl)
  try simp only [Act.put, List.setIfInBounds_toArray, List.set_cons_zero, List.set_cons_succ]
  refine wpAnyH_take (i := 4) (oi := { dst := some 9, op := Op.fieldAddr 24 (Operand.tmp 3) 3, type := 0, pos := "arith.go:12", after := #[], guard := none }) (v := ?_) rfl (by kernel_rfl) (by kernel_rfl) (by kernel_rfl) (fun _ _ _ h => h) (Or.inl ⟨by rfl, ?_⟩) hHeld ?_
  rotate_left
  · (intro w' hSw; (try dsimp only at hSw); go_simp; try with_reducible rfl)
  try simp only [Act.put, List.setIfInBounds_toArray, List.set_cons_zero, List.set_cons_succ]
  refine wpAnyH_take (i := 5) (oi := { dst := some 10, op := Op.load 22 (Operand.tmp 9), type := 22, pos := "arith.go:12", after := #[{ on := 4, ground := Ground.data }], guard := none }) (v := ?_) rfl (by kernel_rfl) (by kernel_rfl) (by kernel_rfl) (fun _ _ _ h => h) (Or.inl ⟨by rfl, ?_⟩) hHeld ?_
  rotate_left
  · (intro w' hSw; (try dsimp only at hSw); go_simp; try with_reducible rfl)
  try simp only [Act.put, List.setIfInBounds_toArray, List.set_cons_zero, List.set_cons_succ]
  refine wpAnyH_take (i := 6) (oi := { dst := some 11, op := Op.call { callee := Callee.builtin Builtin.len, args := #[Operand.tmp 10], argTypes := #[22] }, type := 3, pos := "arith.go:12", after := #[{ on := 5, ground := Ground.data }], guard := none }) (v := ?_) rfl (by kernel_rfl) (by kernel_rfl) (by kernel_rfl) (fun _ _ _ h => h) (Or.inl ⟨by rfl, ?_⟩) hHeld ?_
  rotate_left
  · (intro w' hSw; (try dsimp only at hSw); go_simp; try with_reducible rfl)
  try simp only [Act.put, List.setIfInBounds_toArray, List.set_cons_zero, List.set_cons_succ]
  refine wpAnyH_ready (rs := [3]) (by kernel_rfl) (by simp) ?_
  refine AllReadyH.cons (o := { dst := some 8, op := Op.call { callee := Callee.value (Operand.func 33), args := #[Operand.tmp 7], argTypes := #[9] }, type := 24, pos := "arith.go:12", after := #[{ on := 2, ground := Ground.data }], guard := none }) rfl (fun K hK => ?_) AllReadyH.nil
  have hHold := hHeld
  clear hHeld
  go_simp
  refine (HA.out _).mono ?_
  rintro e W1 ⟨rfl, hbW1⟩
  have gW1 : Below W0.heap.size W0 W1 := ((Below.refl _ W0).drew).trans hbW1
  have KEEP : W1.cell? ⟨w.heap.size, 2, none⟩ = some (.string x.s) ∧ W1.cell? ⟨w.heap.size, 3, none⟩ = some (.slice x.a x.len x.cap) := ⟨(bcell gW1 w.heap.size 2 LK).trans KEEP.1, (bcell gW1 w.heap.size 3 LK).trans KEEP.2⟩
  have LK : w.heap.size < W1.heap.size := (by have := gW1.size; omega)
  have HZK : Hid _ := (gW1.block (w.heap.size + 1) LZ).trans HZK.out
  have LZ : w.heap.size + 1 < W1.heap.size := (by have := gW1.size; omega)
  go_wp2_with fail
  refine hK.out _ _ ?_ (fun hHeld => ?_)
  · ((try dsimp only); (first | exact KEEP | exact ⟨(bcell ((Below.refl _ _).alloc (Nat.le_refl _) _) _ _ LK).trans KEEP.1, (bcell ((Below.refl _ _).alloc (Nat.le_refl _) _) _ _ LK).trans KEEP.2⟩ | go_keep))
  clear hK K hHold
  try simp only [Act.put, List.setIfInBounds_toArray, List.set_cons_zero, List.set_cons_succ]
  refine wpAnyH_ready (rs := [7]) (by kernel_rfl) (by simp) ?_
  refine AllReadyH.cons (o := { dst := some 12, op := Op.call { callee := Callee.value (Operand.func 32), args := #[Operand.tmp 11], argTypes := #[2] }, type := 24, pos := "arith.go:12", after := #[{ on := 6, ground := Ground.data }, { on := 3, ground := Ground.chain }], guard := none }) rfl (fun K hK => ?_) AllReadyH.nil
  have hHold := hHeld
  clear hHeld
  go_simp
  refine (HI.out _).mono ?_
  rintro e W2 ⟨rfl, hbW2⟩
  have gW2 := hbW2
  have KEEP : W2.cell? ⟨w.heap.size, 2, none⟩ = some (.string x.s) ∧ W2.cell? ⟨w.heap.size, 3, none⟩ = some (.slice x.a x.len x.cap) := ⟨(bcell gW2 w.heap.size 2 LK).trans KEEP.1, (bcell gW2 w.heap.size 3 LK).trans KEEP.2⟩
  have LK : w.heap.size < W2.heap.size := (by have := gW2.size; omega)
  have HZK : Hid _ := (gW2.block (w.heap.size + 1) LZ).trans HZK.out
  have LZ : w.heap.size + 1 < W2.heap.size := (by have := gW2.size; omega)
  go_wp2_with fail
  refine hK.out _ _ ?_ (fun hHeld => ?_)
  · ((try dsimp only); (first | exact KEEP | exact ⟨(bcell ((Below.refl _ _).alloc (Nat.le_refl _) _) _ _ LK).trans KEEP.1, (bcell ((Below.refl _ _).alloc (Nat.le_refl _) _) _ _ LK).trans KEEP.2⟩ | go_keep))
  clear hK K hHold
  try simp only [Act.put, List.setIfInBounds_toArray, List.set_cons_zero, List.set_cons_succ]
  refine wpAnyH_ready (rs := [8]) (by kernel_rfl) (by simp) ?_
  refine AllReadyH.cons (o := { dst := some 13, op := Op.buildSlice 22 2 #[(0, Operand.tmp 8), (1, Operand.tmp 12)], type := 22, pos := "arith.go:12", after := #[{ on := 3, ground := Ground.data }, { on := 7, ground := Ground.data }], guard := none }) rfl (fun K hK => ?_) AllReadyH.nil
  have hHold := hHeld
  clear hHeld
  go_simp
  refine hK.out _ _ ?_ (fun hHeld => ?_)
  · ((try dsimp only); (first | exact KEEP | exact ⟨(bcell ((Below.refl _ _).alloc (Nat.le_refl _) _) _ _ LK).trans KEEP.1, (bcell ((Below.refl _ _).alloc (Nat.le_refl _) _) _ _ LK).trans KEEP.2⟩ | go_keep))
  clear hK K hHold
  try simp only [Act.put, List.setIfInBounds_toArray, List.set_cons_zero, List.set_cons_succ]
  refine wpAnyH_ready (rs := [9]) (by kernel_rfl) (by simp) ?_
  refine AllReadyH.cons (o := { dst := some 14, op := Op.call { callee := Callee.value (Operand.func 39), args := #[Operand.const (Value.string { data := #[47] }), Operand.tmp 13], argTypes := #[9, 22] }, type := 24, pos := "arith.go:12", after := #[{ on := 8, ground := Ground.data }, { on := 7, ground := Ground.chain }], guard := none }) rfl (fun K hK => ?_) AllReadyH.nil
  have hHold := hHeld
  clear hHeld
  go_simp
  refine (HC.out ⟨#[47]⟩ _ _ _ _).mono ?_
  rintro e W3 ⟨rfl, hbW3⟩
  have gW3 : Below W2.heap.size W2 W3 := ((Below.refl _ W2).alloc (Nat.le_refl _) _).trans (hbW3.mono (by simp))
  have KEEP : W3.cell? ⟨w.heap.size, 2, none⟩ = some (.string x.s) ∧ W3.cell? ⟨w.heap.size, 3, none⟩ = some (.slice x.a x.len x.cap) := ⟨(bcell gW3 w.heap.size 2 LK).trans KEEP.1, (bcell gW3 w.heap.size 3 LK).trans KEEP.2⟩
  have LK : w.heap.size < W3.heap.size := (by have := gW3.size; omega)
  have HZK : Hid _ := (gW3.block (w.heap.size + 1) LZ).trans HZK.out
  have LZ : w.heap.size + 1 < W3.heap.size := (by have := gW3.size; omega)
  go_wp2_with fail
  refine hK.out _ _ ?_ (fun hHeld => ?_)
  · ((try dsimp only); (first | exact KEEP | exact ⟨(bcell ((Below.refl _ _).alloc (Nat.le_refl _) _) _ _ LK).trans KEEP.1, (bcell ((Below.refl _ _).alloc (Nat.le_refl _) _) _ _ LK).trans KEEP.2⟩ | go_keep))
  clear hK K hHold
  try simp only [Act.put, List.setIfInBounds_toArray, List.set_cons_zero, List.set_cons_succ]
  refine wpAnyH_ready (rs := [10]) (by kernel_rfl) (by simp) ?_
  refine AllReadyH.cons (o := { dst := some 15, op := Op.buildSlice 22 1 #[(0, Operand.tmp 14)], type := 22, pos := "arith.go:12", after := #[{ on := 9, ground := Ground.data }], guard := none }) rfl (fun K hK => ?_) AllReadyH.nil
  have hHold := hHeld
  clear hHeld
  go_simp
  refine hK.out _ _ ?_ (fun hHeld => ?_)
  · ((try dsimp only); (first | exact KEEP | exact ⟨(bcell ((Below.refl _ _).alloc (Nat.le_refl _) _) _ _ LK).trans KEEP.1, (bcell ((Below.refl _ _).alloc (Nat.le_refl _) _) _ _ LK).trans KEEP.2⟩ | go_keep))
  clear hK K hHold
  try simp only [Act.put, List.setIfInBounds_toArray, List.set_cons_zero, List.set_cons_succ]
  refine wpAnyH_ready (rs := [11]) (by kernel_rfl) (by simp) ?_
  refine AllReadyH.cons (o := { dst := some 16, op := Op.call { callee := Callee.value (Operand.func 39), args := #[Operand.tmp 5, Operand.tmp 15], argTypes := #[9, 22] }, type := 24, pos := "arith.go:12", after := #[{ on := 0, ground := Ground.data }, { on := 10, ground := Ground.data }, { on := 9, ground := Ground.chain }], guard := none }) rfl (fun K hK => ?_) AllReadyH.nil
  have hHold := hHeld
  clear hHeld
  go_simp
  refine (HC.out ⟨#[110, 111, 116, 95, 101, 118, 97, 108, 117, 97, 98, 108, 101]⟩ _ _ _ _).mono ?_
  rintro e W4 ⟨rfl, hbW4⟩
  have gW4 : Below W3.heap.size W3 W4 := ((Below.refl _ W3).alloc (Nat.le_refl _) _).trans (hbW4.mono (by simp))
  have KEEP : W4.cell? ⟨w.heap.size, 2, none⟩ = some (.string x.s) ∧ W4.cell? ⟨w.heap.size, 3, none⟩ = some (.slice x.a x.len x.cap) := ⟨(bcell gW4 w.heap.size 2 LK).trans KEEP.1, (bcell gW4 w.heap.size 3 LK).trans KEEP.2⟩
  have LK : w.heap.size < W4.heap.size := (by have := gW4.size; omega)
  have HZK : Hid _ := (gW4.block (w.heap.size + 1) LZ).trans HZK.out
  have LZ : w.heap.size + 1 < W4.heap.size := (by have := gW4.size; omega)
  obtain ⟨⟨z0, z1, z2, z3⟩, y0, y1, y2, y3⟩ := zbox_kept HZK.out
  go_wp2_with fail
  refine hK.out _ _ ?_ (fun hHeld => ?_)
  · ((try dsimp only); (first | exact KEEP | exact ⟨(bcell ((Below.refl _ _).alloc (Nat.le_refl _) _) _ _ LK).trans KEEP.1, (bcell ((Below.refl _ _).alloc (Nat.le_refl _) _) _ _ LK).trans KEEP.2⟩ | go_keep))
  clear hK K hHold
  try simp only [Act.put, List.setIfInBounds_toArray, List.set_cons_zero, List.set_cons_succ]
  refine wpAnyH_ready (rs := [12]) (by kernel_rfl) (by simp) ?_
  refine AllReadyH.cons (o := { dst := none, op := Op.store 24 (Operand.tmp 4) (Operand.tmp 16), type := 0, pos := "arith.go:12", after := #[{ on := 11, ground := Ground.data }, { on := 11, ground := Ground.chain }, { on := 0, ground := Ground.phase }, { on := 1, ground := Ground.phase }, { on := 2, ground := Ground.phase }, { on := 3, ground := Ground.phase }, { on := 4, ground := Ground.phase }, { on := 5, ground := Ground.phase }, { on := 6, ground := Ground.phase }, { on := 7, ground := Ground.phase }, { on := 8, ground := Ground.phase }, { on := 9, ground := Ground.phase }, { on := 10, ground := Ground.phase }, { on := 11, ground := Ground.phase }], guard := none }) rfl (fun K hK => ?_) AllReadyH.nil
  have hHold := hHeld
  clear hHeld
  go_simp
  refine hK.out _ _ ?_ (fun hHeld => ?_)
  · ((try dsimp only); (refine ⟨?_, ?_⟩ <;> (rw [World.cell?_setCell_other _ _ _ _ (by simp), World.cell?_setCell_other _ _ _ _ (by simp), World.cell?_setCell_other _ _ _ _ (by simp), World.cell?_setCell_other _ _ _ _ (by simp)]; first | exact KEEP.1 | exact KEEP.2)))
  clear hK K hHold
  try simp only [Act.put, List.setIfInBounds_toArray, List.set_cons_zero, List.set_cons_succ]
  refine wpAnyH_done (by kernel_rfl) ?_ _
  refine NoPanic.normal ?_
  clear hHeld
  have hn1 := World.alloc_heap_new W2 (.cells #[.int .i64 3, .int .i64 0, .string x.s, .slice none 0 0, .int .i64 2, .int .i64 (x.len : Int), .string ⟨#[]⟩, .slice none 0 0] 24)
  have hn2 := World.alloc_heap_new W3 (.cells #[.int .i64 4, .int .i64 0, .string ⟨#[47]⟩, .slice (some ⟨W2.heap.size, 0, none⟩) 2 2] 24)
  have s1 := gW1.size
  have s2 := gW2.size
  have s3 := hbW3.size
  have s4 := hbW4.size
  simp only [World.size_alloc] at s3 s4
  have b24 : Below (W2.heap.size + 1) (W2.alloc (.cells #[.int .i64 3, .int .i64 0, .string x.s, .slice none 0 0, .int .i64 2, .int .i64 (x.len : Int), .string ⟨#[]⟩, .slice none 0 0] 24)) W4 :=
    ((hbW3.mono (by simp)).trans (((Below.refl _ W3).alloc (Nat.le_refl _) _).mono (by omega))).trans (hbW4.mono (by simp; omega))
  have hc1 : W4.heap[W2.heap.size]? = _ := (b24.block _ (by omega)).trans hn1
  have hc2 : W4.heap[W3.heap.size]? = _ := (hbW4.block _ (by simp)).trans hn2
  have hw4 : Below w.heap.size w W4 := (((hb0.trans (gW1.mono (by omega))).trans (gW2.mono (by omega))).trans (gW3.mono (by omega))).trans (gW4.mono (by omega))
  have h2 := holds_two (lo := w.heap.size + 2) (atom_holds x.s hs _ W4) (int_holds (x.len : Int) _ W4) (by omega) hc1 ⟨#[47]⟩ (by show (1 : Nat) ≤ _; omega) rfl rfl
  have h3 := holds_one h2 (by omega) hc2 ⟨#[110, 111, 116, 95, 101, 118, 97, 108, 117, 97, 98, 108, 101]⟩ (by show (13 : Nat) ≤ _; omega) (fun t e1 e2 e3 => by rw [blks_two e2 (by rw [e1]; rfl) (by rw [e1]; rfl) (by rw [e3]; rfl)]; simp; omega)
  rw [slashL, notL] at h3
  have HF : Hid (Below w.heap.size w (set4 W4 (w.heap.size + 1) 0 (compV ⟨#[110, 111, 116, 95, 101, 118, 97, 108, 117, 97, 98, 108, 101]⟩ (some ⟨W3.heap.size, 0, none⟩) 1 1)) ∧ HoldsT 3 w.heap.size (set4 W4 (w.heap.size + 1) 0 (compV ⟨#[110, 111, 116, 95, 101, 118, 97, 108, 117, 97, 98, 108, 101]⟩ (some ⟨W3.heap.size, 0, none⟩) 1 1)) (compV ⟨#[110, 111, 116, 95, 101, 118, 97, 108, 117, 97, 98, 108, 101]⟩ (some ⟨W3.heap.size, 0, none⟩) 1 1).val (notC x.s.toList x.len)) :=
    ⟨set4_below hw4 (by omega) 0 _, (holds_set4 h3 (by omega) 0 _).mono (Nat.le_refl _) (by omega)⟩
  clear h2 h3 hc1 hc2 hn1 hn2 b24 hbW1 hbW2 hbW3 hbW4 gW1 gW2 gW3 gW4 hw4 KEEP hb0 bT hz
  go_wp2_with fail
  exact bodyPost_ret (v := (compV ⟨#[110, 111, 116, 95, 101, 118, 97, 108, 117, 97, 98, 108, 101]⟩ (some ⟨W3.heap.size, 0, none⟩) 1 1).val) (by simp [results, Try.results35, go_sem, TV.val, compV, z0, z1, z2, z3]) rfl ⟨compV ⟨#[110, 111, 116, 95, 101, 118, 97, 108, 117, 97, 98, 108, 101]⟩ (some ⟨W3.heap.size, 0, none⟩) 1 1, rfl, HF.out⟩
end Go.Proofs.Ytffbhinpmlcopab

