import Derived.Test.YtojefplapklbmaaGreatDoorMrds
import Derived.Laws.AppendOwnNone
/- The contracts of hornkeep.roomy at binds and at numbers. (Written by wip/roomgen6.py.) -/
namespace Go.Proofs.YtojefplapklbmaaGreatDoor
open Go.RowKit Go.Shelf Go.Maps

/-- A row of the call's own with marks behind it. -/
structure RoomyK (T : TypeId) (k : Nat) (ms : List Value) (base : Nat) (W : World) (v : Value) (n : Nat) (ys : List Value) : Prop where
  ex : ∃ g cap cur, v = .slice (some ⟨g, 0, none⟩) n cap ∧ base ≤ g ∧ W.heap[g]? = some (Obj.cells cur T (0, 0)) ∧ cur.size = cap * k ∧ n + 3 ≤ cap ∧ cur.toList.take ((n + 3) * k) = ys ++ ms
def m3 : List Value := [.int .i64 (-7), .int .i64 (-7), .int .i64 (-7)]
theorem m3_new (W : World) : ∀ j u, m3[j]? = some u → (W.alloc (.cells #[.int .i64 (-7), .int .i64 (-7), .int .i64 (-7)] 3)).cell? ((⟨W.heap.size, 0, none⟩ : Addr).add j) = some u := by
  intro j u hj
  rw [addr_add, Nat.zero_add]
  have hl := (List.getElem?_eq_some_iff.1 hj).1
  have hm : m3.length = 3 := rfl
  rw [hm] at hl
  have : j = 0 ∨ j = 1 ∨ j = 2 := by omega
  rcases this with rfl | rfl | rfl <;> (simp [m3] at hj; subst hj; simp)
theorem m3_one : ∀ u ∈ m3, u.oneCell' = true := by
  intro u hu
  simp [m3] at hu
  subst hu
  rfl
theorem Tryz.info_int : (Tryz.prog.info? 3).map (fun i => (i.zero, i.size, i.bytes)) = some (some (.int .i64 0), 1, 8) := by kernel_rfl
theorem make_roomB (n : Nat) (h : n ≤ 100000000) (w : World) : (Instr.makeSlice 32 (.int .i64 0) (.int .i64 ((n : Int) + 3))).run Tryz.prog w = .ok (.slice (some ⟨w.heap.size, 0, none⟩) 0 (n + 3)) (w.alloc (.cells (madeCells #[.int .i64 0, .int .i64 0, .int .i64 0, .string ⟨#[]⟩, .slice none 0 0] ((n + 3) * 5)) 82)) := by
  obtain ⟨i0, hi, hz0, hz1, hz2⟩ := info_parts Tryz.info_bind
  have hr := run_make (P := Tryz.prog) w 32 82 i0 _ Tryz.underlying32 hi hz0 .i64 .i64 0 ((n : Int) + 3) (by omega) (by omega) (by rw [hz2]; omega) (by omega)
  rw [hz1, show ((n : Int) + 3).toNat = n + 3 by omega] at hr
  simpa [Value.cells] using hr
theorem make_roomI (n : Nat) (h : n ≤ 100000000) (w : World) : (Instr.makeSlice 25 (.int .i64 0) (.int .i64 ((n : Int) + 3))).run Tryz.prog w = .ok (.slice (some ⟨w.heap.size, 0, none⟩) 0 (n + 3)) (w.alloc (.cells (madeCells #[.int .i64 0] ((n + 3) * 1)) 3)) := by
  obtain ⟨i0, hi, hz0, hz1, hz2⟩ := info_parts Tryz.info_int
  have hr := run_make (P := Tryz.prog) w 25 3 i0 _ Tryz.underlying25 hi hz0 .i64 .i64 0 ((n : Int) + 3) (by omega) (by omega) (by rw [hz2]; omega) (by omega)
  rw [hz1, show ((n : Int) + 3).toNat = n + 3 by omega] at hr
  simpa [Value.cells] using hr
set_option maxRecDepth 100000 in
set_option maxHeartbeats 1000000 in
theorem roomyB_any (b off n c : Nat) (ys : List Value) (w : World) (hn : n ≤ 4194304) (hl : ys.length = n * 5) (hcell : ∀ j u, ys[j]? = some u → w.cell? ((⟨b, off, none⟩ : Addr).add j) = some u) (hone : ∀ u ∈ ys, u.oneCell' = true) (hb : ys ≠ [] → b < w.heap.size) :
    Calls Tryz.prog 55 #[.slice (some ⟨b, off, none⟩) n c, .agg #[.int .i64 (-7), .int .i64 9, .int .i64 (-77), .string ⟨#[115, 112, 111, 105, 108, 116]⟩, .slice none 0 0]] w fun e W' => ∃ v, e = .returned v ∧ Below w.heap.size w W' ∧ RoomyK 82 5 m15 w.heap.size W' v n ys := by
  obtain ⟨i0, hi, hz0, hz1, hz2⟩ := info_parts Tryz.info_bind
  obtain ⟨W1, hW1⟩ : ∃ W1, W1 = w.alloc (.cells #[.int .i64 (-7), .int .i64 9, .int .i64 (-77), .string ⟨#[115, 112, 111, 105, 108, 116]⟩, .slice none 0 0] 82) := ⟨_, rfl⟩
  have hB1 : Below w.heap.size w W1 := by rw [hW1]; exact (Below.refl _ w).alloc (Nat.le_refl _) _
  have hbx1 : MkB W1 w.heap.size := by rw [hW1]; exact World.alloc_heap_new w _
  have hmk := make_roomB n (by omega) W1
  obtain ⟨W2, hW2⟩ : ∃ W2, W2 = W1.alloc (.cells (madeCells #[.int .i64 0, .int .i64 0, .int .i64 0, .string ⟨#[]⟩, .slice none 0 0] ((n + 3) * 5)) 82) := ⟨_, rfl⟩
  rw [← hW2] at hmk
  have hB2 : Below W1.heap.size W1 W2 := by rw [hW2]; exact (Below.refl _ W1).alloc (Nat.le_refl _) _
  have hown2 : W2.ownsRow (w.heap.size + 1) 82 5 (.slice (some ⟨W1.heap.size, 0, none⟩) 0 (n + 3)) 0 [] :=
    ⟨rfl, .inr ⟨W1.heap.size, n + 3, _, rfl, by rw [hW1]; simp, by rw [hW2]; exact heap_alloc_new W1 _, Nat.zero_le _, by unfold maxLen; omega, size_madeCells _ _, by simp⟩⟩
  have hbx2 : MkB W2 w.heap.size := (hB2.block _ (Array.getElem?_eq_some_iff.1 hbx1).1).trans hbx1
  have hB12 : Below w.heap.size w W2 := hB1.trans (hB2.mono hB1.size)
  have hcell2 : ∀ j u, ys[j]? = some u → W2.cell? ((⟨b, off, none⟩ : Addr).add j) = some u := fun j u hj => by
    have := hcell j u hj
    rw [addr_add] at this ⊢
    exact (hB12.cell (p := ⟨b, _, none⟩) (hb (by rintro rfl; simp at hj))).trans this
  have hz : W1.heap.size = w.heap.size + 1 := by rw [hW1]; simp
  have hz2' : W2.heap.size = W1.heap.size + 1 := by rw [hW2]; simp
  rw [hz] at hmk hown2 hz2'
  rw [hW1] at hmk
  have HI := hide hi
  have HZ0 := hide hz0
  have HZ1 := hide hz1
  have HZ2 := hide hz2
  have HO := hide hown2
  have HB := hide hB12
  have HX := hide hbx2
  have HC := hide hcell2
  have HONE := hide hone
  have HL := hide hl
  have HSZ := hide (show w.heap.size + 1 + 1 ≤ W2.heap.size by omega)
  clear hi hz0 hz1 hz2 hown2 hB12 hW1 hW2 hB1 hB2 hz hz2' hbx1 hbx2 hcell2 hcell hone hl
  go_enter Tryz.func55, Tryz.ntmps55
  have hnn : (n : Int) ≤ 4194304 := by omega
  go_wp2_with (first | (at_builtin; refine wpList_append_own_at _ rfl _ _ 32 rfl (w.heap.size + 1) 82 i0 _ 5 64 Tryz.underlying32 (unhide HI) (unhide HZ0) (unhide HZ1) (unhide HZ2) rfl (by decide) (.slice (some ⟨w.heap.size + 1, 0, none⟩) 0 (n + 3)) 0 [] rfl (unhide HO) ⟨b, off, none⟩ n c ys rfl (unhide HL) (unhide HC) (unhide HONE) (by unfold maxLen; omega) (by omega) (by have := unhide HSZ; omega) ?_; intro v3 W3 hown3 hgrow3 hnil3 hbk3; have hbx3 : MkB W3 w.heap.size := (hgrow3.block w.heap.size (by have := unhide HSZ; omega) (by simp [Value.ownBlock])).trans (unhide HX); obtain ⟨c0, c1, c2, c3, c4⟩ := hbx3.cells; have HO3 := hide hown3; have hsz3 : w.heap.size + 1 + 1 ≤ W3.heap.size := Nat.le_trans (unhide HSZ) hgrow3.size; have hb3 : Below w.heap.size w W3 := (unhide HB).grown hgrow3 (by have := unhide HSZ; omega) (fun k hk => by simp [Value.ownBlock] at hk; omega); have HN3 := hide (m15_new W3); clear hgrow3 hown3 hbx3; clear hnil3 hbk3 hmk) | (at_builtin; go_must (refine wpList_append_own_at _ rfl _ _ 32 rfl (w.heap.size + 1) 82 i0 _ 5 64 Tryz.underlying32 (unhide HI) (unhide HZ0) (unhide HZ1) (unhide HZ2) rfl (by decide) v3 (0 + n) ([] ++ ys) rfl (World.ownsRow.alloc (unhide HO3) _) ⟨W3.heap.size, 0, none⟩ 3 3 m15 rfl rfl (unhide HN3) m15_one (by unfold maxLen; omega) (by omega) (by simp; omega) ?_; intro v4 W4 hown4 hgrow4 hnil4 hbk4; obtain ⟨g, cap, cur, hv4, hg1, hg2, hg3, hg4, hg5, hg6⟩ := hown4.2.resolve_left (fun h => by omega); subst hv4; have hb4 : Below w.heap.size w W4 := (hb3.alloc (by omega) _).grown hgrow4 (by simp; omega) (fun k hk => by have := ((unhide HO3).lt k hk).1; omega); have hroomy : RoomyK 82 5 m15 w.heap.size W4 (.slice (some ⟨g, 0, none⟩) n cap) n ys := ⟨⟨g, cap, cur, rfl, by omega, hg2, hg5, by omega, by simpa using hg6⟩⟩; have hle : n ≤ cap := (by omega); have HF := hide (And.intro hb4 hroomy); clear hb4 hroomy hown4 hgrow4 hnil4 hbk4 hg1 hg2 hg3 hg4 hg5 hg6)))
  go_ret
  exact ⟨_, rfl, (unhide HF).1, (unhide HF).2⟩
set_option maxRecDepth 100000 in
set_option maxHeartbeats 1000000 in
theorem roomyI_any (b off n c : Nat) (ys : List Value) (w : World) (hn : n ≤ 4194304) (hl : ys.length = n * 1) (hcell : ∀ j u, ys[j]? = some u → w.cell? ((⟨b, off, none⟩ : Addr).add j) = some u) (hone : ∀ u ∈ ys, u.oneCell' = true) (hb : ys ≠ [] → b < w.heap.size) :
    Calls Tryz.prog 12 #[.slice (some ⟨b, off, none⟩) n c, .int .i64 (-7)] w fun e W' => ∃ v, e = .returned v ∧ Below w.heap.size w W' ∧ RoomyK 3 1 m3 w.heap.size W' v n ys := by
  obtain ⟨i0, hi, hz0, hz1, hz2⟩ := info_parts Tryz.info_int
  obtain ⟨W1, hW1⟩ : ∃ W1, W1 = w := ⟨_, rfl⟩
  have hB1 : Below w.heap.size w W1 := by rw [hW1]; exact Below.refl _ w
  have hmk := make_roomI n (by omega) W1
  obtain ⟨W2, hW2⟩ : ∃ W2, W2 = W1.alloc (.cells (madeCells #[.int .i64 0] ((n + 3) * 1)) 3) := ⟨_, rfl⟩
  rw [← hW2] at hmk
  have hB2 : Below W1.heap.size W1 W2 := by rw [hW2]; exact (Below.refl _ W1).alloc (Nat.le_refl _) _
  have hown2 : W2.ownsRow w.heap.size 3 1 (.slice (some ⟨W1.heap.size, 0, none⟩) 0 (n + 3)) 0 [] :=
    ⟨rfl, .inr ⟨W1.heap.size, n + 3, _, rfl, by rw [hW1]; simp, by rw [hW2]; exact heap_alloc_new W1 _, Nat.zero_le _, by unfold maxLen; omega, size_madeCells _ _, by simp⟩⟩
  have hB12 : Below w.heap.size w W2 := hB1.trans (hB2.mono hB1.size)
  have hcell2 : ∀ j u, ys[j]? = some u → W2.cell? ((⟨b, off, none⟩ : Addr).add j) = some u := fun j u hj => by
    have := hcell j u hj
    rw [addr_add] at this ⊢
    exact (hB12.cell (p := ⟨b, _, none⟩) (hb (by rintro rfl; simp at hj))).trans this
  have hz : W1.heap.size = w.heap.size := by rw [hW1]
  have hz2' : W2.heap.size = W1.heap.size + 1 := by rw [hW2]; simp
  rw [hz] at hmk hown2 hz2'
  rw [hW1] at hmk
  have HI := hide hi
  have HZ0 := hide hz0
  have HZ1 := hide hz1
  have HZ2 := hide hz2
  have HO := hide hown2
  have HB := hide hB12
  have HC := hide hcell2
  have HONE := hide hone
  have HL := hide hl
  have HSZ := hide (show w.heap.size + 1 ≤ W2.heap.size by omega)
  clear hi hz0 hz1 hz2 hown2 hB12 hW1 hW2 hB1 hB2 hz hz2' hcell2 hcell hone hl
  go_enter Tryz.func12, Tryz.ntmps12
  have hnn : (n : Int) ≤ 4194304 := by omega
  go_wp2_with (first | (at_builtin; refine wpList_append_own_at _ rfl _ _ 25 rfl w.heap.size 3 i0 _ 1 8 Tryz.underlying25 (unhide HI) (unhide HZ0) (unhide HZ1) (unhide HZ2) rfl (by decide) (.slice (some ⟨w.heap.size, 0, none⟩) 0 (n + 3)) 0 [] rfl (unhide HO) ⟨b, off, none⟩ n c ys rfl (unhide HL) (unhide HC) (unhide HONE) (by unfold maxLen; omega) (by omega) (by have := unhide HSZ; omega) ?_; intro v3 W3 hown3 hgrow3 hnil3 hbk3; have HO3 := hide hown3; have hsz3 : w.heap.size + 1 ≤ W3.heap.size := Nat.le_trans (unhide HSZ) hgrow3.size; have hb3 : Below w.heap.size w W3 := (unhide HB).grown hgrow3 (by have := unhide HSZ; omega) (fun k hk => by simp [Value.ownBlock] at hk; omega); have HN3 := hide (m3_new W3); clear hgrow3 hown3; clear hnil3 hbk3 hmk) | (at_builtin; go_must (refine wpList_append_own_at _ rfl _ _ 25 rfl w.heap.size 3 i0 _ 1 8 Tryz.underlying25 (unhide HI) (unhide HZ0) (unhide HZ1) (unhide HZ2) rfl (by decide) v3 (0 + n) ([] ++ ys) rfl (World.ownsRow.alloc (unhide HO3) _) ⟨W3.heap.size, 0, none⟩ 3 3 m3 rfl rfl (unhide HN3) m3_one (by unfold maxLen; omega) (by omega) (by simp; omega) ?_; intro v4 W4 hown4 hgrow4 hnil4 hbk4; obtain ⟨g, cap, cur, hv4, hg1, hg2, hg3, hg4, hg5, hg6⟩ := hown4.2.resolve_left (fun h => by omega); subst hv4; have hb4 : Below w.heap.size w W4 := (hb3.alloc (by omega) _).grown hgrow4 (by simp; omega) (fun k hk => by have := ((unhide HO3).lt k hk).1; omega); have hroomy : RoomyK 3 1 m3 w.heap.size W4 (.slice (some ⟨g, 0, none⟩) n cap) n ys := ⟨⟨g, cap, cur, rfl, by omega, hg2, hg5, by omega, by simpa using hg6⟩⟩; have hle : n ≤ cap := (by omega); have HF := hide (And.intro hb4 hroomy); clear hb4 hroomy hown4 hgrow4 hnil4 hbk4 hg1 hg2 hg3 hg4 hg5 hg6)))
  go_ret
  exact ⟨_, rfl, (unhide HF).1, (unhide HF).2⟩
set_option maxRecDepth 100000 in
set_option maxHeartbeats 1000000 in
theorem roomyB_nil (w : World) :
    Calls Tryz.prog 55 #[.slice none 0 0, .agg #[.int .i64 (-7), .int .i64 9, .int .i64 (-77), .string ⟨#[115, 112, 111, 105, 108, 116]⟩, .slice none 0 0]] w fun e W' => ∃ v, e = .returned v ∧ Below w.heap.size w W' ∧ RoomyK 82 5 m15 w.heap.size W' v 0 [] := by
  obtain ⟨i0, hi, hz0, hz1, hz2⟩ := info_parts Tryz.info_bind
  obtain ⟨W1, hW1⟩ : ∃ W1, W1 = w.alloc (.cells #[.int .i64 (-7), .int .i64 9, .int .i64 (-77), .string ⟨#[115, 112, 111, 105, 108, 116]⟩, .slice none 0 0] 82) := ⟨_, rfl⟩
  have hB1 : Below w.heap.size w W1 := by rw [hW1]; exact (Below.refl _ w).alloc (Nat.le_refl _) _
  have hbx1 : MkB W1 w.heap.size := by rw [hW1]; exact World.alloc_heap_new w _
  have hmk : (Instr.makeSlice 32 (.int .i64 0) (.int .i64 3)).run Tryz.prog W1 = .ok (.slice (some ⟨W1.heap.size, 0, none⟩) 0 3) (W1.alloc (.cells (madeCells #[.int .i64 0, .int .i64 0, .int .i64 0, .string ⟨#[]⟩, .slice none 0 0] (3 * 5)) 82)) := make_roomB 0 (by omega) W1
  obtain ⟨W2, hW2⟩ : ∃ W2, W2 = W1.alloc (.cells (madeCells #[.int .i64 0, .int .i64 0, .int .i64 0, .string ⟨#[]⟩, .slice none 0 0] ((3) * 5)) 82) := ⟨_, rfl⟩
  rw [← hW2] at hmk
  have hB2 : Below W1.heap.size W1 W2 := by rw [hW2]; exact (Below.refl _ W1).alloc (Nat.le_refl _) _
  have hown2 : W2.ownsRow (w.heap.size + 1) 82 5 (.slice (some ⟨W1.heap.size, 0, none⟩) 0 (3)) 0 [] :=
    ⟨rfl, .inr ⟨W1.heap.size, 3, _, rfl, by rw [hW1]; simp, by rw [hW2]; exact heap_alloc_new W1 _, Nat.zero_le _, by unfold maxLen; omega, size_madeCells _ _, by simp⟩⟩
  have hbx2 : MkB W2 w.heap.size := (hB2.block _ (Array.getElem?_eq_some_iff.1 hbx1).1).trans hbx1
  have hB12 : Below w.heap.size w W2 := hB1.trans (hB2.mono hB1.size)
  have hz : W1.heap.size = w.heap.size + 1 := by rw [hW1]; simp
  have hz2' : W2.heap.size = W1.heap.size + 1 := by rw [hW2]; simp
  rw [hz] at hmk hown2 hz2'
  rw [hW1] at hmk
  have HI := hide hi
  have HZ0 := hide hz0
  have HZ1 := hide hz1
  have HZ2 := hide hz2
  have HO := hide hown2
  have HB := hide hB12
  have HX := hide hbx2
  have HSZ := hide (show w.heap.size + 1 + 1 ≤ W2.heap.size by omega)
  clear hi hz0 hz1 hz2 hown2 hB12 hW1 hW2 hB1 hB2 hz hz2' hbx1 hbx2
  go_enter Tryz.func55, Tryz.ntmps55
  go_wp2_with (first | (at_builtin; refine wpList_append_own_none rfl _ _ 32 rfl (w.heap.size + 1) 82 i0 5 Tryz.underlying32 (unhide HI) (.slice (some ⟨w.heap.size + 1, 0, none⟩) 0 (3)) 0 [] rfl (unhide HO) rfl ?_; obtain ⟨c0, c1, c2, c3, c4⟩ := (unhide HX).cells; have HN3 := hide (m15_new W2); have hsz3 := unhide HSZ; have hb3 := unhide HB; clear hmk) | (at_builtin; go_must (refine wpList_append_own_at _ rfl _ _ 32 rfl (w.heap.size + 1) 82 i0 _ 5 64 Tryz.underlying32 (unhide HI) (unhide HZ0) (unhide HZ1) (unhide HZ2) rfl (by decide) (.slice (some ⟨w.heap.size + 1, 0, none⟩) 0 (3)) 0 [] rfl (World.ownsRow.alloc (unhide HO) _) ⟨W2.heap.size, 0, none⟩ 3 3 m15 rfl rfl (unhide HN3) m15_one (by unfold maxLen; omega) (by omega) (by simp; omega) ?_; intro v4 W4 hown4 hgrow4 hnil4 hbk4; obtain ⟨g, cap, cur, hv4, hg1, hg2, hg3, hg4, hg5, hg6⟩ := hown4.2.resolve_left (fun h => by omega); subst hv4; have hb4 : Below w.heap.size w W4 := (hb3.alloc (by omega) _).grown hgrow4 (by simp; omega) (fun k hk => by have := ((unhide HO).lt k hk).1; omega); have hroomy : RoomyK 82 5 m15 w.heap.size W4 (.slice (some ⟨g, 0, none⟩) 0 cap) 0 [] := ⟨⟨g, cap, cur, rfl, by omega, hg2, hg5, by omega, by simpa using hg6⟩⟩; have hle : 0 ≤ cap := (by omega); have HF := hide (And.intro hb4 hroomy); clear hb4 hroomy hown4 hgrow4 hnil4 hbk4 hg1 hg2 hg3 hg4 hg5 hg6)))
  go_ret
  exact ⟨_, rfl, (unhide HF).1, (unhide HF).2⟩
set_option maxRecDepth 100000 in
set_option maxHeartbeats 1000000 in
theorem roomyI_nil (w : World) :
    Calls Tryz.prog 12 #[.slice none 0 0, .int .i64 (-7)] w fun e W' => ∃ v, e = .returned v ∧ Below w.heap.size w W' ∧ RoomyK 3 1 m3 w.heap.size W' v 0 [] := by
  obtain ⟨i0, hi, hz0, hz1, hz2⟩ := info_parts Tryz.info_int
  obtain ⟨W1, hW1⟩ : ∃ W1, W1 = w := ⟨_, rfl⟩
  have hB1 : Below w.heap.size w W1 := by rw [hW1]; exact Below.refl _ w
  have hmk : (Instr.makeSlice 25 (.int .i64 0) (.int .i64 3)).run Tryz.prog W1 = .ok (.slice (some ⟨W1.heap.size, 0, none⟩) 0 3) (W1.alloc (.cells (madeCells #[.int .i64 0] (3 * 1)) 3)) := make_roomI 0 (by omega) W1
  obtain ⟨W2, hW2⟩ : ∃ W2, W2 = W1.alloc (.cells (madeCells #[.int .i64 0] ((3) * 1)) 3) := ⟨_, rfl⟩
  rw [← hW2] at hmk
  have hB2 : Below W1.heap.size W1 W2 := by rw [hW2]; exact (Below.refl _ W1).alloc (Nat.le_refl _) _
  have hown2 : W2.ownsRow w.heap.size 3 1 (.slice (some ⟨W1.heap.size, 0, none⟩) 0 (3)) 0 [] :=
    ⟨rfl, .inr ⟨W1.heap.size, 3, _, rfl, by rw [hW1]; simp, by rw [hW2]; exact heap_alloc_new W1 _, Nat.zero_le _, by unfold maxLen; omega, size_madeCells _ _, by simp⟩⟩
  have hB12 : Below w.heap.size w W2 := hB1.trans (hB2.mono hB1.size)
  have hz : W1.heap.size = w.heap.size := by rw [hW1]
  have hz2' : W2.heap.size = W1.heap.size + 1 := by rw [hW2]; simp
  rw [hz] at hmk hown2 hz2'
  rw [hW1] at hmk
  have HI := hide hi
  have HZ0 := hide hz0
  have HZ1 := hide hz1
  have HZ2 := hide hz2
  have HO := hide hown2
  have HB := hide hB12
  have HSZ := hide (show w.heap.size + 1 ≤ W2.heap.size by omega)
  clear hi hz0 hz1 hz2 hown2 hB12 hW1 hW2 hB1 hB2 hz hz2'
  go_enter Tryz.func12, Tryz.ntmps12
  go_wp2_with (first | (at_builtin; refine wpList_append_own_none rfl _ _ 25 rfl w.heap.size 3 i0 1 Tryz.underlying25 (unhide HI) (.slice (some ⟨w.heap.size, 0, none⟩) 0 (3)) 0 [] rfl (unhide HO) rfl ?_; have HN3 := hide (m3_new W2); have hsz3 := unhide HSZ; have hb3 := unhide HB; clear hmk) | (at_builtin; go_must (refine wpList_append_own_at _ rfl _ _ 25 rfl w.heap.size 3 i0 _ 1 8 Tryz.underlying25 (unhide HI) (unhide HZ0) (unhide HZ1) (unhide HZ2) rfl (by decide) (.slice (some ⟨w.heap.size, 0, none⟩) 0 (3)) 0 [] rfl (World.ownsRow.alloc (unhide HO) _) ⟨W2.heap.size, 0, none⟩ 3 3 m3 rfl rfl (unhide HN3) m3_one (by unfold maxLen; omega) (by omega) (by simp; omega) ?_; intro v4 W4 hown4 hgrow4 hnil4 hbk4; obtain ⟨g, cap, cur, hv4, hg1, hg2, hg3, hg4, hg5, hg6⟩ := hown4.2.resolve_left (fun h => by omega); subst hv4; have hb4 : Below w.heap.size w W4 := (hb3.alloc (by omega) _).grown hgrow4 (by simp; omega) (fun k hk => by have := ((unhide HO).lt k hk).1; omega); have hroomy : RoomyK 3 1 m3 w.heap.size W4 (.slice (some ⟨g, 0, none⟩) 0 cap) 0 [] := ⟨⟨g, cap, cur, rfl, by omega, hg2, hg5, by omega, by simpa using hg6⟩⟩; have hle : 0 ≤ cap := (by omega); have HF := hide (And.intro hb4 hroomy); clear hb4 hroomy hown4 hgrow4 hnil4 hbk4 hg1 hg2 hg3 hg4 hg5 hg6)))
  go_ret
  exact ⟨_, rfl, (unhide HF).1, (unhide HF).2⟩
end Go.Proofs.YtojefplapklbmaaGreatDoor

