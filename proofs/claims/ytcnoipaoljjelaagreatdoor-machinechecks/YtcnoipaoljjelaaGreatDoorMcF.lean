import Derived.Test.YtcnoipaoljjelaaGreatDoorMcC
/- What a constant of an instruction may be: machine.isCon, hornref.con. (Written by wip/mfgen.py.) -/
namespace Go.Proofs.YtcnoipaoljjelaaGreatDoor
open Go.RowKit Go.Shelf Go.Maps

theorem hide {p : Prop} (h : p) : Hid p := h
theorem unhide {p : Prop} (h : Hid p) : p := h
theorem bcell {W w1 : World} (hb : Below W.heap.size W w1) : ∀ b o, b < W.heap.size → w1.cell? ⟨b, o, none⟩ = W.cell? ⟨b, o, none⟩ := fun b o h => hb.cell (p := ⟨b, o, none⟩) h
def conB (k : Int) (x : KV) : Bool :=
  if k = 5 then ((x.k == 2) && (x.s.toList == [])) || ((x.k == 3) && ((x.n == 0) && decide ((x.s.size : Int) ≤ 100)))
  else if k = 6 then predB x && decide (0 < x.n) else if k = 7 then predB x else if k = 8 then predB x && allB x.s.toList x.n
  else (x.k == 0) && ((x.s.toList == []) && (x.n == 0))
set_option maxRecDepth 100000 in
set_option maxHeartbeats 4000000 in
theorem con_5 (x : KV) (w : World) : Calls Tryz.prog 24 #[.int .i64 5, x.val] w fun e w' => e = .returned (.bool (conB 5 x)) ∧ Below w.heap.size w w' := by
  obtain ⟨k, s, n⟩ := x
  simp only [KV.val]
  have hb1 : Below w.heap.size w (w.alloc (.cells #[.int .i64 k, .string s, .int .i64 n] 35)) := (Below.refl _ w).alloc (Nat.le_refl _) _
  have HB := hide hb1
  clear hb1
  go_enter Tryz.func24, Tryz.ntmps24
  go_wp2
  all_goals go_ret
  all_goals refine ⟨?_, (Below.refl _ w).alloc (Nat.le_refl _) _⟩
  all_goals first | (simp_all [conB]; done) | (simp_all [conB]; omega)
set_option maxRecDepth 100000 in
set_option maxHeartbeats 4000000 in
theorem con_6 (x : KV) (w : World) : Calls Tryz.prog 24 #[.int .i64 6, x.val] w fun e w' => e = .returned (.bool (conB 6 x)) ∧ Below w.heap.size w w' := by
  have hb1 : Below w.heap.size w (w.alloc (.cells #[.int .i64 x.k, .string x.s, .int .i64 x.n] 35)) := (Below.refl _ w).alloc (Nat.le_refl _) _
  have hp := pred_any x (w.alloc (.cells #[.int .i64 x.k, .string x.s, .int .i64 x.n] 35))
  have e : conB 6 x = (predB x && decide (0 < x.n)) := by simp [conB]
  rw [e]
  obtain ⟨q, hq⟩ : ∃ q, predB x = q := ⟨_, rfl⟩
  rw [hq] at hp ⊢
  clear e hq
  have HB := hide hb1
  clear hb1
  have c2 : (w.alloc (.cells #[.int .i64 x.k, .string x.s, .int .i64 x.n] 35)).cell? ⟨w.heap.size, 2, none⟩ = some (.int .i64 x.n) := by have hb := World.alloc_heap_new w (.cells #[.int .i64 x.k, .string x.s, .int .i64 x.n] 35); simp only [World.cell?, hb]; rfl
  have c1 : (w.alloc (.cells #[.int .i64 x.k, .string x.s, .int .i64 x.n] 35)).cell? ⟨w.heap.size, 1, none⟩ = some (.string x.s) := by have hb := World.alloc_heap_new w (.cells #[.int .i64 x.k, .string x.s, .int .i64 x.n] 35); simp only [World.cell?, hb]; rfl
  have hl : w.heap.size < (w.alloc (.cells #[.int .i64 x.k, .string x.s, .int .i64 x.n] 35)).heap.size := by simp
  have HC1 := hide c1
  have HC2 := hide c2
  have HL := hide hl
  clear c1 c2 hl
  simp only [KV.val] at hp ⊢
  go_enter Tryz.func24, Tryz.ntmps24
  go_wp2_with fail
  obtain ⟨W1, hW1⟩ : ∃ W1, w.alloc (.cells #[.int .i64 x.k, .string x.s, .int .i64 x.n] 35) = W1 := ⟨_, rfl⟩
  rw [hW1] at HB HC1 HC2 HL hp ⊢
  clear hW1
  refine Calls.mono hp ?_
  clear hp
  rintro e W2 ⟨rfl, hb2⟩
  have hB2 := hide ((unhide HB).trans (hb2.mono (unhide HB).size))
  have d1 := (hb2.cell (p := ⟨w.heap.size, 1, none⟩) (unhide HL)).trans (unhide HC1)
  have d2 := (hb2.cell (p := ⟨w.heap.size, 2, none⟩) (unhide HL)).trans (unhide HC2)
  clear hb2
  cases q
  all_goals go_wp2_with fail
  all_goals go_ret
  all_goals refine ⟨?_, unhide hB2⟩
  all_goals first | rfl | (simp_all; done) | (simp_all; omega)
set_option maxRecDepth 100000 in
set_option maxHeartbeats 4000000 in
theorem con_7 (x : KV) (w : World) : Calls Tryz.prog 24 #[.int .i64 7, x.val] w fun e w' => e = .returned (.bool (conB 7 x)) ∧ Below w.heap.size w w' := by
  have hb1 : Below w.heap.size w (w.alloc (.cells #[.int .i64 x.k, .string x.s, .int .i64 x.n] 35)) := (Below.refl _ w).alloc (Nat.le_refl _) _
  have hp := pred_any x (w.alloc (.cells #[.int .i64 x.k, .string x.s, .int .i64 x.n] 35))
  have e : conB 7 x = predB x := by simp [conB]
  rw [e]
  obtain ⟨q, hq⟩ : ∃ q, predB x = q := ⟨_, rfl⟩
  rw [hq] at hp ⊢
  clear e hq
  have HB := hide hb1
  clear hb1
  have c2 : (w.alloc (.cells #[.int .i64 x.k, .string x.s, .int .i64 x.n] 35)).cell? ⟨w.heap.size, 2, none⟩ = some (.int .i64 x.n) := by have hb := World.alloc_heap_new w (.cells #[.int .i64 x.k, .string x.s, .int .i64 x.n] 35); simp only [World.cell?, hb]; rfl
  have c1 : (w.alloc (.cells #[.int .i64 x.k, .string x.s, .int .i64 x.n] 35)).cell? ⟨w.heap.size, 1, none⟩ = some (.string x.s) := by have hb := World.alloc_heap_new w (.cells #[.int .i64 x.k, .string x.s, .int .i64 x.n] 35); simp only [World.cell?, hb]; rfl
  have hl : w.heap.size < (w.alloc (.cells #[.int .i64 x.k, .string x.s, .int .i64 x.n] 35)).heap.size := by simp
  have HC1 := hide c1
  have HC2 := hide c2
  have HL := hide hl
  clear c1 c2 hl
  simp only [KV.val] at hp ⊢
  go_enter Tryz.func24, Tryz.ntmps24
  go_wp2_with fail
  obtain ⟨W1, hW1⟩ : ∃ W1, w.alloc (.cells #[.int .i64 x.k, .string x.s, .int .i64 x.n] 35) = W1 := ⟨_, rfl⟩
  rw [hW1] at HB HC1 HC2 HL hp ⊢
  clear hW1
  refine Calls.mono hp ?_
  clear hp
  rintro e W2 ⟨rfl, hb2⟩
  have hB2 := hide ((unhide HB).trans (hb2.mono (unhide HB).size))
  have d1 := (hb2.cell (p := ⟨w.heap.size, 1, none⟩) (unhide HL)).trans (unhide HC1)
  have d2 := (hb2.cell (p := ⟨w.heap.size, 2, none⟩) (unhide HL)).trans (unhide HC2)
  clear hb2
  go_wp2_with fail
  go_ret
  exact ⟨rfl, unhide hB2⟩
set_option maxRecDepth 100000 in
set_option maxHeartbeats 4000000 in
theorem con_8 (x : KV) (w : World) : Calls Tryz.prog 24 #[.int .i64 8, x.val] w fun e w' => e = .returned (.bool (conB 8 x)) ∧ Below w.heap.size w w' := by
  have hb1 : Below w.heap.size w (w.alloc (.cells #[.int .i64 x.k, .string x.s, .int .i64 x.n] 35)) := (Below.refl _ w).alloc (Nat.le_refl _) _
  have hp := pred_any x (w.alloc (.cells #[.int .i64 x.k, .string x.s, .int .i64 x.n] 35))
  have e : conB 8 x = (predB x && allB x.s.toList x.n) := by simp [conB]
  rw [e]
  obtain ⟨q, hq⟩ : ∃ q, predB x = q := ⟨_, rfl⟩
  rw [hq] at hp ⊢
  clear e hq
  have HB := hide hb1
  clear hb1
  have c2 : (w.alloc (.cells #[.int .i64 x.k, .string x.s, .int .i64 x.n] 35)).cell? ⟨w.heap.size, 2, none⟩ = some (.int .i64 x.n) := by have hb := World.alloc_heap_new w (.cells #[.int .i64 x.k, .string x.s, .int .i64 x.n] 35); simp only [World.cell?, hb]; rfl
  have c1 : (w.alloc (.cells #[.int .i64 x.k, .string x.s, .int .i64 x.n] 35)).cell? ⟨w.heap.size, 1, none⟩ = some (.string x.s) := by have hb := World.alloc_heap_new w (.cells #[.int .i64 x.k, .string x.s, .int .i64 x.n] 35); simp only [World.cell?, hb]; rfl
  have hl : w.heap.size < (w.alloc (.cells #[.int .i64 x.k, .string x.s, .int .i64 x.n] 35)).heap.size := by simp
  have HC1 := hide c1
  have HC2 := hide c2
  have HL := hide hl
  clear c1 c2 hl
  simp only [KV.val] at hp ⊢
  go_enter Tryz.func24, Tryz.ntmps24
  go_wp2_with fail
  obtain ⟨W1, hW1⟩ : ∃ W1, w.alloc (.cells #[.int .i64 x.k, .string x.s, .int .i64 x.n] 35) = W1 := ⟨_, rfl⟩
  rw [hW1] at HB HC1 HC2 HL hp ⊢
  clear hW1
  refine Calls.mono hp ?_
  clear hp
  rintro e W2 ⟨rfl, hb2⟩
  have hB2 := hide ((unhide HB).trans (hb2.mono (unhide HB).size))
  have d1 := (hb2.cell (p := ⟨w.heap.size, 1, none⟩) (unhide HL)).trans (unhide HC1)
  have d2 := (hb2.cell (p := ⟨w.heap.size, 2, none⟩) (unhide HL)).trans (unhide HC2)
  clear hb2
  cases q with
  | false =>
    go_wp2_with fail
    go_ret
    exact ⟨rfl, unhide hB2⟩
  | true =>
    have ha := allowed_any x.s x.n W2
    go_wp2_with fail
    refine ha.mono ?_
    rintro e W3 ⟨rfl, hb3⟩
    go_wp2_with fail
    go_ret
    exact ⟨rfl, (unhide hB2).trans (hb3.mono (unhide hB2).size)⟩
set_option maxRecDepth 100000 in
set_option maxHeartbeats 4000000 in
theorem con_other (k : Int) (x : KV) (w : World) (h5 : (k == 5) = false) (h6 : (k == 6) = false) (h7 : (k == 7) = false) (h8 : (k == 8) = false) : Calls Tryz.prog 24 #[.int .i64 k, x.val] w fun e w' => e = .returned (.bool (conB k x)) ∧ Below w.heap.size w w' := by
  have e : conB k x = ((x.k == 0) && ((x.s.toList == []) && (x.n == 0))) := by
    have g5 : k ≠ 5 := by simpa using h5
    have g6 : k ≠ 6 := by simpa using h6
    have g7 : k ≠ 7 := by simpa using h7
    have g8 : k ≠ 8 := by simpa using h8
    simp [conB, g5, g6, g7, g8]
  rw [e]
  clear e
  obtain ⟨xk, xs, xn⟩ := x
  simp only [KV.val]
  go_enter Tryz.func24, Tryz.ntmps24
  go_wp2_with fail
  all_goals go_ret
  all_goals refine ⟨?_, (Below.refl _ w).alloc (Nat.le_refl _) _⟩
  all_goals first | rfl | (simp_all; done) | (simp_all; omega)
theorem con_any (k : Int) (x : KV) (w : World) : Calls Tryz.prog 24 #[.int .i64 k, x.val] w fun e w' => e = .returned (.bool (conB k x)) ∧ Below w.heap.size w w' := by
  by_cases h5 : k = 5
  · subst h5; exact con_5 x w
  by_cases h6 : k = 6
  · subst h6; exact con_6 x w
  by_cases h7 : k = 7
  · subst h7; exact con_7 x w
  by_cases h8 : k = 8
  · subst h8; exact con_8 x w
  exact con_other k x w (by simpa using h5) (by simpa using h6) (by simpa using h7) (by simpa using h8)
/-- What hornref's letters stand for. -/
def kc (c : Int) : Int := if c = 107 then 5 else if c = 99 then 6 else if c = 113 then 7 else if c = 98 then 8 else 0
set_option maxRecDepth 100000 in
set_option maxHeartbeats 4000000 in
theorem rcon_107 (x : KV) (w : World) : Calls Tryz.prog 17 #[x.val, .int .u8 107] w fun e w' => e = .returned (.bool (conB 5 x)) ∧ Below w.heap.size w w' := by
  obtain ⟨k, s, n⟩ := x
  simp only [KV.val]
  rcases (by omega : k = 2 ∨ k = 3 ∨ k = 4 ∨ (k ≠ 2 ∧ k ≠ 3 ∧ k ≠ 4)) with rfl | rfl | rfl | ⟨h2, h3, h4⟩
  · go_enter Tryz.func17, Tryz.ntmps17
    go_wp2
    all_goals go_ret
    all_goals refine ⟨?_, (Below.refl _ w).alloc (Nat.le_refl _) _⟩
    all_goals first | (simp_all [conB]; done) | (simp_all [conB, predB]; done) | (simp_all [conB, predB]; omega)
  · go_enter Tryz.func17, Tryz.ntmps17
    go_wp2
    all_goals go_ret
    all_goals refine ⟨?_, (Below.refl _ w).alloc (Nat.le_refl _) _⟩
    all_goals first | (simp_all [conB]; done) | (simp_all [conB, predB]; done) | (simp_all [conB, predB]; omega)
  · go_enter Tryz.func17, Tryz.ntmps17
    go_wp2
    all_goals go_ret
    all_goals refine ⟨?_, (Below.refl _ w).alloc (Nat.le_refl _) _⟩
    all_goals first | (simp_all [conB]; done) | (simp_all [conB, predB]; done) | (simp_all [conB, predB]; omega)
  · have e2 : (k == 2) = false := by simpa using h2
    have e3 : (k == 3) = false := by simpa using h3
    have e4 : (k == 4) = false := by simpa using h4
    clear h2 h3 h4
    go_enter Tryz.func17, Tryz.ntmps17
    go_wp2
    all_goals go_ret
    all_goals refine ⟨?_, (Below.refl _ w).alloc (Nat.le_refl _) _⟩
    all_goals first | (simp_all [conB]; done) | (simp_all [conB, predB]; done) | (simp_all [conB, predB]; omega)
set_option maxRecDepth 100000 in
set_option maxHeartbeats 4000000 in
theorem rcon_99 (x : KV) (w : World) : Calls Tryz.prog 17 #[x.val, .int .u8 99] w fun e w' => e = .returned (.bool (conB 6 x)) ∧ Below w.heap.size w w' := by
  obtain ⟨k, s, n⟩ := x
  simp only [KV.val]
  rcases (by omega : k = 2 ∨ k = 3 ∨ k = 4 ∨ (k ≠ 2 ∧ k ≠ 3 ∧ k ≠ 4)) with rfl | rfl | rfl | ⟨h2, h3, h4⟩
  · go_enter Tryz.func17, Tryz.ntmps17
    go_wp2
    all_goals go_ret
    all_goals refine ⟨?_, (Below.refl _ w).alloc (Nat.le_refl _) _⟩
    all_goals first | (simp_all [conB]; done) | (simp_all [conB, predB]; done) | (simp_all [conB, predB]; omega)
  · go_enter Tryz.func17, Tryz.ntmps17
    go_wp2
    all_goals go_ret
    all_goals refine ⟨?_, (Below.refl _ w).alloc (Nat.le_refl _) _⟩
    all_goals first | (simp_all [conB]; done) | (simp_all [conB, predB]; done) | (simp_all [conB, predB]; omega)
  · go_enter Tryz.func17, Tryz.ntmps17
    go_wp2
    all_goals go_ret
    all_goals refine ⟨?_, (Below.refl _ w).alloc (Nat.le_refl _) _⟩
    all_goals first | (simp_all [conB]; done) | (simp_all [conB, predB]; done) | (simp_all [conB, predB]; omega)
  · have e2 : (k == 2) = false := by simpa using h2
    have e3 : (k == 3) = false := by simpa using h3
    have e4 : (k == 4) = false := by simpa using h4
    clear h2 h3 h4
    go_enter Tryz.func17, Tryz.ntmps17
    go_wp2
    all_goals go_ret
    all_goals refine ⟨?_, (Below.refl _ w).alloc (Nat.le_refl _) _⟩
    all_goals first | (simp_all [conB]; done) | (simp_all [conB, predB]; done) | (simp_all [conB, predB]; omega)
set_option maxRecDepth 100000 in
set_option maxHeartbeats 4000000 in
theorem rcon_113 (x : KV) (w : World) : Calls Tryz.prog 17 #[x.val, .int .u8 113] w fun e w' => e = .returned (.bool (conB 7 x)) ∧ Below w.heap.size w w' := by
  obtain ⟨k, s, n⟩ := x
  simp only [KV.val]
  rcases (by omega : k = 2 ∨ k = 3 ∨ k = 4 ∨ (k ≠ 2 ∧ k ≠ 3 ∧ k ≠ 4)) with rfl | rfl | rfl | ⟨h2, h3, h4⟩
  · go_enter Tryz.func17, Tryz.ntmps17
    go_wp2
    all_goals go_ret
    all_goals refine ⟨?_, (Below.refl _ w).alloc (Nat.le_refl _) _⟩
    all_goals first | (simp_all [conB]; done) | (simp_all [conB, predB]; done) | (simp_all [conB, predB]; omega)
  · go_enter Tryz.func17, Tryz.ntmps17
    go_wp2
    all_goals go_ret
    all_goals refine ⟨?_, (Below.refl _ w).alloc (Nat.le_refl _) _⟩
    all_goals first | (simp_all [conB]; done) | (simp_all [conB, predB]; done) | (simp_all [conB, predB]; omega)
  · go_enter Tryz.func17, Tryz.ntmps17
    go_wp2
    all_goals go_ret
    all_goals refine ⟨?_, (Below.refl _ w).alloc (Nat.le_refl _) _⟩
    all_goals first | (simp_all [conB]; done) | (simp_all [conB, predB]; done) | (simp_all [conB, predB]; omega)
  · have e2 : (k == 2) = false := by simpa using h2
    have e3 : (k == 3) = false := by simpa using h3
    have e4 : (k == 4) = false := by simpa using h4
    clear h2 h3 h4
    go_enter Tryz.func17, Tryz.ntmps17
    go_wp2
    all_goals go_ret
    all_goals refine ⟨?_, (Below.refl _ w).alloc (Nat.le_refl _) _⟩
    all_goals first | (simp_all [conB]; done) | (simp_all [conB, predB]; done) | (simp_all [conB, predB]; omega)
set_option maxRecDepth 100000 in
set_option maxHeartbeats 4000000 in
theorem rcon_98 (x : KV) (m : Int) (w : World) (hm : w.cell? ⟨splitLay_ren.g 1, 0, none⟩ = some (.int .i64 m)) (hm0 : splitLay_ren.g 1 < w.heap.size) : Calls Tryz.prog 17 #[x.val, .int .u8 98] w fun e w' => e = .returned (.bool (conB 8 x)) ∧ Below w.heap.size w w' := by
  obtain ⟨k, s, n⟩ := x
  have hb1 : Below w.heap.size w (w.alloc (.cells #[.int .i64 k, .string s, .int .i64 n] 35)) := (Below.refl _ w).alloc (Nat.le_refl _) _
  have hal := rallowed_any s n m (w.alloc (.cells #[.int .i64 k, .string s, .int .i64 n] 35)) ((hb1.cell (p := ⟨splitLay_ren.g 1, 0, none⟩) hm0).trans hm) (by have := hb1.size; omega)
  rw [all_same] at hal
  clear hb1 hm hm0
  simp only [KV.val]
  rcases (by omega : k = 2 ∨ k = 3 ∨ k = 4 ∨ (k ≠ 2 ∧ k ≠ 3 ∧ k ≠ 4)) with rfl | rfl | rfl | ⟨h2, h3, h4⟩
  · obtain ⟨q, hq⟩ : ∃ q, allB s.toList n = q := ⟨_, rfl⟩
    rw [hq] at hal
    go_enter Tryz.func17, Tryz.ntmps17
    go_wp2_with (go_at_call 7; refine Calls.mono hal ?_; rintro e w' ⟨rfl, hb2⟩)
    all_goals go_ret
    all_goals clear hal
    all_goals first | refine ⟨?_, (Below.refl _ w).alloc (Nat.le_refl _) _⟩ | refine ⟨?_, ((Below.refl _ w).alloc (Nat.le_refl _) _).trans (hb2.mono (by simp))⟩
    all_goals first | (simp_all [conB]; done) | (simp_all [conB, predB]; done) | (simp_all [conB, predB]; omega)
  · obtain ⟨q, hq⟩ : ∃ q, allB s.toList n = q := ⟨_, rfl⟩
    rw [hq] at hal
    go_enter Tryz.func17, Tryz.ntmps17
    go_wp2_with (go_at_call 7; refine Calls.mono hal ?_; rintro e w' ⟨rfl, hb2⟩)
    all_goals go_ret
    all_goals clear hal
    all_goals first | refine ⟨?_, (Below.refl _ w).alloc (Nat.le_refl _) _⟩ | refine ⟨?_, ((Below.refl _ w).alloc (Nat.le_refl _) _).trans (hb2.mono (by simp))⟩
    all_goals first | (simp_all [conB]; done) | (simp_all [conB, predB]; done) | (simp_all [conB, predB]; omega)
  · obtain ⟨q, hq⟩ : ∃ q, allB s.toList n = q := ⟨_, rfl⟩
    rw [hq] at hal
    go_enter Tryz.func17, Tryz.ntmps17
    go_wp2_with (go_at_call 7; refine Calls.mono hal ?_; rintro e w' ⟨rfl, hb2⟩)
    all_goals go_ret
    all_goals clear hal
    all_goals first | refine ⟨?_, (Below.refl _ w).alloc (Nat.le_refl _) _⟩ | refine ⟨?_, ((Below.refl _ w).alloc (Nat.le_refl _) _).trans (hb2.mono (by simp))⟩
    all_goals first | (simp_all [conB]; done) | (simp_all [conB, predB]; done) | (simp_all [conB, predB]; omega)
  · have e2 : (k == 2) = false := by simpa using h2
    have e3 : (k == 3) = false := by simpa using h3
    have e4 : (k == 4) = false := by simpa using h4
    clear h2 h3 h4
    obtain ⟨q, hq⟩ : ∃ q, allB s.toList n = q := ⟨_, rfl⟩
    rw [hq] at hal
    go_enter Tryz.func17, Tryz.ntmps17
    go_wp2_with (go_at_call 7; refine Calls.mono hal ?_; rintro e w' ⟨rfl, hb2⟩)
    all_goals go_ret
    all_goals clear hal
    all_goals first | refine ⟨?_, (Below.refl _ w).alloc (Nat.le_refl _) _⟩ | refine ⟨?_, ((Below.refl _ w).alloc (Nat.le_refl _) _).trans (hb2.mono (by simp))⟩
    all_goals first | (simp_all [conB]; done) | (simp_all [conB, predB]; done) | (simp_all [conB, predB]; omega)
set_option maxRecDepth 100000 in
set_option maxHeartbeats 4000000 in
theorem rcon_other (c : Int) (x : KV) (w : World) (g1 : (c == 107) = false) (g2 : (c == 99) = false) (g3 : (c == 113) = false) (g4 : (c == 98) = false) : Calls Tryz.prog 17 #[x.val, .int .u8 c] w fun e w' => e = .returned (.bool (conB 0 x)) ∧ Below w.heap.size w w' := by
  obtain ⟨k, s, n⟩ := x
  simp only [KV.val]
  rcases (by omega : k = 2 ∨ k = 3 ∨ k = 4 ∨ (k ≠ 2 ∧ k ≠ 3 ∧ k ≠ 4)) with rfl | rfl | rfl | ⟨h2, h3, h4⟩
  · go_enter Tryz.func17, Tryz.ntmps17
    go_wp2
    all_goals go_ret
    all_goals refine ⟨?_, (Below.refl _ w).alloc (Nat.le_refl _) _⟩
    all_goals first | (simp_all [conB]; done) | (simp_all [conB, predB]; done) | (simp_all [conB, predB]; omega)
  · go_enter Tryz.func17, Tryz.ntmps17
    go_wp2
    all_goals go_ret
    all_goals refine ⟨?_, (Below.refl _ w).alloc (Nat.le_refl _) _⟩
    all_goals first | (simp_all [conB]; done) | (simp_all [conB, predB]; done) | (simp_all [conB, predB]; omega)
  · go_enter Tryz.func17, Tryz.ntmps17
    go_wp2
    all_goals go_ret
    all_goals refine ⟨?_, (Below.refl _ w).alloc (Nat.le_refl _) _⟩
    all_goals first | (simp_all [conB]; done) | (simp_all [conB, predB]; done) | (simp_all [conB, predB]; omega)
  · have e2 : (k == 2) = false := by simpa using h2
    have e3 : (k == 3) = false := by simpa using h3
    have e4 : (k == 4) = false := by simpa using h4
    clear h2 h3 h4
    go_enter Tryz.func17, Tryz.ntmps17
    go_wp2
    all_goals go_ret
    all_goals refine ⟨?_, (Below.refl _ w).alloc (Nat.le_refl _) _⟩
    all_goals first | (simp_all [conB]; done) | (simp_all [conB, predB]; done) | (simp_all [conB, predB]; omega)
theorem rcon_any (c : Int) (x : KV) (m : Int) (w : World) (hm : w.cell? ⟨splitLay_ren.g 1, 0, none⟩ = some (.int .i64 m)) (hm0 : splitLay_ren.g 1 < w.heap.size) : Calls Tryz.prog 17 #[x.val, .int .u8 c] w fun e w' => e = .returned (.bool (conB (kc c) x)) ∧ Below w.heap.size w w' := by
  unfold kc
  split
  · rename_i h; subst h; exact rcon_107 x w
  · split
    · rename_i h; subst h; exact rcon_99 x w
    · split
      · rename_i h; subst h; exact rcon_113 x w
      · split
        · rename_i h; subst h; exact rcon_98 x m w hm hm0
        · rename_i h1 h2 h3 h4
          exact rcon_other c x w (by simpa using h1) (by simpa using h2) (by simpa using h3) (by simpa using h4)
end Go.Proofs.YtcnoipaoljjelaaGreatDoor

