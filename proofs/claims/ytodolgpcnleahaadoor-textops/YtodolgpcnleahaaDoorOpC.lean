import Derived.Test.YtodolgpcnleahaaDoorOpB
import Derived.Deep.RegionHeld3
/- The contract of operators.add. -/
namespace Go.Proofs.YtodolgpcnleahaaDoor
open Go.RowKit Go.Shelf Go.Maps

/-- All but two blocks is as it was. -/
structure Kt (bi bp : Nat) (A B : World) : Prop where
  os : B.os = A.os
  tape : B.tape = A.tape
  output : B.output = A.output
  size : A.heap.size ≤ B.heap.size
  block : ∀ k, k < A.heap.size → k ≠ bi → k ≠ bp → B.heap[k]? = A.heap[k]?
theorem Kt.refl (bi bp : Nat) (A : World) : Kt bi bp A A := ⟨rfl, rfl, rfl, Nat.le_refl _, fun _ _ _ _ => rfl⟩
theorem Kt.trans {bi bp : Nat} {A B C : World} (h : Kt bi bp A B) (k : Kt bi bp B C) : Kt bi bp A C :=
  ⟨k.os.trans h.os, k.tape.trans h.tape, k.output.trans h.output, Nat.le_trans h.size k.size, fun i hi h1 h2 => (k.block i (Nat.lt_of_lt_of_le hi h.size) h1 h2).trans (h.block i hi h1 h2)⟩
theorem Kt.of_below {bi bp : Nat} {A B : World} (h : Below A.heap.size A B) : Kt bi bp A B := ⟨h.os, h.tape, h.output, h.size, fun k hk _ _ => h.block k hk⟩
theorem Kt.of_left {bi bp : Nat} {A B : World} (h : A.grownBy B (some bi)) : Kt bi bp A B := ⟨h.os, h.tape, h.output, h.size, fun k hk h1 _ => h.block k hk (by simp; exact h1)⟩
theorem Kt.of_right {bi bp : Nat} {A B : World} (h : A.grownBy B (some bp)) : Kt bi bp A B := ⟨h.os, h.tape, h.output, h.size, fun k hk _ h1 => h.block k hk (by simp; exact h1)⟩
theorem Kt.cell {bi bp : Nat} {A B : World} (h : Kt bi bp A B) {k o : Nat} (hk : k < A.heap.size) (h1 : k ≠ bi) (h2 : k ≠ bp) : B.cell? ⟨k, o, none⟩ = A.cell? ⟨k, o, none⟩ := World.cell?_of_block (a := ⟨k, o, none⟩) (h.block k hk h1 h2)

def within (c : Names) (s : ByteArray) : Prop := ∃ q ∈ c, q.1 = s.data.toList
open Classical in
/-- What add makes of the names so far. -/
noncomputable def addN (c : Names × Names) (x : OV) : Option (Names × Names) :=
  if mayB x.name = true ∧ 1 ≤ x.prio ∧ x.prio ≤ 1200 then
    if x.type = 1 ∨ x.type = 2 ∨ x.type = 3 then if within c.1 x.name then none else some (c.1 ++ [(x.name.data.toList, prioOf x.type x.prio)], c.2)
    else if x.type = 4 ∨ x.type = 5 then if within c.2 x.name then none else some (c.1, c.2 ++ [(x.name.data.toList, prioOf x.type x.prio)])
    else none
  else none
def AddSays (bi bp : Nat) (w : World) (r : Option (Names × Names)) (e : Ending) (W' : World) : Prop :=
  Kt bi bp w W' ∧ match r with
  | none => e = .returned (.bool false)
  | some d => e = .returned (.bool true) ∧ OpT W' bi d.1 ∧ OpT W' bp d.2

theorem cell_mid (w : World) (a d : Obj) (cs : Array Value) (T : TypeId) (o : Nat) (v : Value) (h : cs[o]? = some v) : (((w.alloc a).alloc (.cells cs T)).alloc d).cell? ⟨w.heap.size + 1, o, none⟩ = some v := by
  rw [((Below.refl _ ((w.alloc a).alloc (.cells cs T))).alloc (Nat.le_refl _) d).cell (p := ⟨w.heap.size + 1, o, none⟩) (by simp)]
  have e : w.heap.size + 1 = (w.alloc a).heap.size := by simp
  rw [e]
  simp [h]
theorem mayB_size {s : ByteArray} (h : mayB s = true) : s.size ≤ 100 := by simp [mayB] at h; omega
theorem le1200 {p : Int} (h : ¬ p ≤ 1200) : decide (1200 < p) = true := by simp; omega

set_option maxRecDepth 100000 in
set_option maxHeartbeats 1000000 in
theorem add_bad (bi bp : Nat) (x : OV) (w : World) (h : ¬ (mayB x.name = true ∧ 1 ≤ x.prio ∧ x.prio ≤ 1200)) :
    Calls Tryd.prog 14 #[.agg #[.map (some bi), .map (some bp)], x.val] w (AddSays bi bp w none) := by
  obtain ⟨s, p, t⟩ := x
  simp only [OV.val] at *
  have hmay := fun W => may_any s W
  have hfin : ∀ W', Below w.heap.size w W' → AddSays bi bp w none (.returned (.bool false)) W' := fun W' h => ⟨Kt.of_below h, rfl⟩
  have HF := hd hfin
  clear hfin
  cases hm : mayB s with
  | false =>
    rw [hm] at hmay
    clear h hm
    go_enter Tryd.func14, Tryd.ntmps14
    go_wp2_with (go_at_call 18; refine (hmay _).mono ?_; clear hmay; rintro e W2 ⟨rfl, rfl⟩)
    go_ret
    exact uh HF _ (((Below.refl _ w).alloc (Nat.le_refl _) _).alloc (by simp) _)
  | true =>
    rw [hm] at hmay
    by_cases h1 : 1 ≤ p
    · have g1 : decide (p < 1) = false := by simp; omega
      have g2 : decide (1200 < p) = true := by simp; exact Int.not_le.1 fun h2 => h ⟨hm, h1, h2⟩
      clear h hm
      go_enter Tryd.func14, Tryd.ntmps14
      go_wp2_with (go_at_call 18; refine (hmay _).mono ?_; clear hmay; rintro e W2 ⟨rfl, rfl⟩)
      go_ret
      exact uh HF _ (((Below.refl _ w).alloc (Nat.le_refl _) _).alloc (by simp) _)
    · have g1 : decide (p < 1) = true := by simp; omega
      clear h hm
      go_enter Tryd.func14, Tryd.ntmps14
      go_wp2_with (go_at_call 18; refine (hmay _).mono ?_; clear hmay; rintro e W2 ⟨rfl, rfl⟩)
      go_ret
      exact uh HF _ (((Below.refl _ w).alloc (Nat.le_refl _) _).alloc (by simp) _)

set_option maxRecDepth 100000 in
set_option maxHeartbeats 1000000 in
theorem add_in_twice (bi bp : Nat) (c : Names × Names) (x : OV) (w : World) (hi : OpT w bi c.1) (hm : mayB x.name = true) (h1 : 1 ≤ x.prio) (h2 : x.prio ≤ 1200) (ht : x.type = 1 ∨ x.type = 2 ∨ x.type = 3) (hq : within c.1 x.name) :
    Calls Tryd.prog 14 #[.agg #[.map (some bi), .map (some bp)], x.val] w (AddSays bi bp w none) := by
  obtain ⟨s, p, t⟩ := x
  simp only [OV.val] at *
  have hmay := fun W => may_any s W
  rw [hm] at hmay
  have g1 : decide (p < 1) = false := by simp; omega
  have g2 : decide (1200 < p) = false := by simp; omega
  have hsz := mayB_size hm
  have hfin : ∀ W', Below w.heap.size w W' → AddSays bi bp w none (.returned (.bool false)) W' := fun W' h => ⟨Kt.of_below h, rfl⟩
  have HF := hd hfin
  clear hfin
  obtain ⟨q, hq1, hq2⟩ := hq
  have hlk := fun W (hb : Below w.heap.size w W) => (hi.below hb).look hsz hq1 hq2
  have hB := ((Below.refl _ w).alloc (Nat.le_refl _) (.cells #[.map (some bi), .map (some bp)] 37)).alloc (by simp) (.cells #[.string s, .int .i64 p, .int .i64 t] 27)
  have hl := hlk _ hB
  obtain ⟨⟨q1, q2⟩, q3⟩ : ∃ y : PV × List UInt8, q = (y.2, y.1) := ⟨(q.2, q.1), rfl⟩
  obtain ⟨z1, z2, z3⟩ := q1
  rw [q3] at hl
  simp only [PV.val] at hl
  clear hm h1 h2 hsz hlk hq1 hq2 hi q3
  rcases ht with rfl | rfl | rfl
  all_goals
    go_enter Tryd.func14, Tryd.ntmps14
    go_wp2_with (go_at_call 18; refine (hmay _).mono ?_; clear hmay; rintro e W2 ⟨rfl, rfl⟩)
    go_ret
    exact uh HF _ (hB.alloc (by simp; omega) _)

set_option maxRecDepth 100000 in
set_option maxHeartbeats 1000000 in
theorem add_in_new (bi bp : Nat) (c : Names × Names) (x : OV) (w : World) (hi : OpT w bi c.1) (hp : OpT w bp c.2) (hne : bi ≠ bp) (hlen : c.1.length < 200) (hm : mayB x.name = true) (h1 : 1 ≤ x.prio) (h2 : x.prio ≤ 1200) (ht : x.type = 1 ∨ x.type = 2 ∨ x.type = 3) (hq : ¬ within c.1 x.name) :
    Calls Tryd.prog 14 #[.agg #[.map (some bi), .map (some bp)], x.val] w (AddSays bi bp w (some (c.1 ++ [(x.name.data.toList, prioOf x.type x.prio)], c.2))) := by
  obtain ⟨s, p, t⟩ := x
  simp only [OV.val] at *
  have hmay := fun W => may_any s W
  rw [hm] at hmay
  have g1 : decide (p < 1) = false := by simp; omega
  have g2 : decide (1200 < p) = false := by simp; omega
  have hsz := mayB_size hm
  have hput : ∀ W, Below w.heap.size w W → ∃ W', (Instr.mapUpdate 35 (.map (some bi)) (.string s) (prioOf t p).val).run Tryd.prog W = .ok () W' ∧ (∀ k o, w.heap.size ≤ k → k < W.heap.size → W'.cell? ⟨k, o, none⟩ = W.cell? ⟨k, o, none⟩) ∧ AddSays bi bp w (some (c.1 ++ [(s.data.toList, prioOf t p)], c.2)) (.returned (.bool true)) W' := fun W hb => by
    obtain ⟨W5, hr, hT5, hg5⟩ := (hi.below hb).put hlen hsz hq (prioOf t p)
    have h := hp.below hb
    have hlt := hi.lt
    exact ⟨W5, hr, fun k o hk1 hk2 => World.cell?_of_block (a := ⟨k, o, none⟩) (hg5.block k hk2 (by simp; omega)), (Kt.of_below hb).trans (Kt.of_left hg5), rfl, ⟨hT5, h.grown hg5 (by simp; omega)⟩⟩
  have hlk := fun W (hb : Below w.heap.size w W) => (hi.below hb).miss hsz hq
  have hB := ((Below.refl _ w).alloc (Nat.le_refl _) (.cells #[.map (some bi), .map (some bp)] 37)).alloc (by simp) (.cells #[.string s, .int .i64 p, .int .i64 t] 27)
  have hl := hlk _ hB
  simp only [PV.val, zeroP] at hl
  have hprio := fun W => prio_any t p W h1 h2
  obtain ⟨W3, hW3⟩ : ∃ W3, W3 = (((w.alloc (.cells #[.map (some bi), .map (some bp)] 37)).alloc (.cells #[.string s, .int .i64 p, .int .i64 t] 27)).alloc (.cells #[.int .i64 0, .int .i64 0, .int .i64 0] 48)) := ⟨_, rfl⟩
  have hB3 : Below w.heap.size w W3 := by rw [hW3]; exact hB.alloc (by simp; omega) _
  have c0 : W3.cell? ⟨w.heap.size + 1, 0, none⟩ = some (.string s) := by rw [hW3]; exact cell_mid _ _ _ _ _ _ _ rfl
  have c1 : W3.cell? ⟨w.heap.size + 1, 1, none⟩ = some (.int .i64 p) := by rw [hW3]; exact cell_mid _ _ _ _ _ _ _ rfl
  have c2 : W3.cell? ⟨w.heap.size + 1, 2, none⟩ = some (.int .i64 t) := by rw [hW3]; exact cell_mid _ _ _ _ _ _ _ rfl
  have hsz3 : w.heap.size + 1 < W3.heap.size := by rw [hW3]; simp
  have HW3 := hd hW3
  clear hW3
  have HPUT := hd hput
  clear hm h1 h2 hsz hlk hi hp hput hq hne hlen
  rcases ht with rfl | rfl | rfl
  · go_enter Tryd.func14, Tryd.ntmps14
    go_wp2_with (go_at_call 18; refine (hmay _).mono ?_; clear hmay; rintro e W2 ⟨rfl, rfl⟩)
    rw [← uh HW3]
    clear HW3 hB hl
    go_region_held3 (fun w' => w'.cell? ⟨w.heap.size + 1, 0, none⟩ = some (.string s) ∧ w'.cell? ⟨w.heap.size + 1, 1, none⟩ = some (.int .i64 p) ∧ w'.cell? ⟨w.heap.size + 1, 2, none⟩ = some (.int .i64 1)) (go_keep) ((go_at_call 19; refine (hprio _).mono ?_; clear hprio; rintro e W4 ⟨rfl, hb4⟩; have d0 := (hb4.cell (p := ⟨w.heap.size + 1, 0, none⟩) hsz3).trans c0; have d1 := (hb4.cell (p := ⟨w.heap.size + 1, 1, none⟩) hsz3).trans c1; have d2 := (hb4.cell (p := ⟨w.heap.size + 1, 2, none⟩) hsz3).trans c2; obtain ⟨W5, hr, hk5, hfin⟩ := uh HPUT W4 (hB3.drew.trans (hb4.mono hB3.size)); have hs4 : w.heap.size + 1 < W4.heap.size := Nat.lt_of_lt_of_le hsz3 hb4.size; have e0 := (hk5 _ 0 (Nat.le_succ _) hs4).trans d0; have e1 := (hk5 _ 1 (Nat.le_succ _) hs4).trans d1; have e2 := (hk5 _ 2 (Nat.le_succ _) hs4).trans d2; clear hk5))
    have HFIN := hd hfin
    clear hfin hr
    go_wp2_with fail
    go_ret
    exact uh HFIN
  · go_enter Tryd.func14, Tryd.ntmps14
    go_wp2_with (go_at_call 18; refine (hmay _).mono ?_; clear hmay; rintro e W2 ⟨rfl, rfl⟩)
    rw [← uh HW3]
    clear HW3 hB hl
    go_region_held3 (fun w' => w'.cell? ⟨w.heap.size + 1, 0, none⟩ = some (.string s) ∧ w'.cell? ⟨w.heap.size + 1, 1, none⟩ = some (.int .i64 p) ∧ w'.cell? ⟨w.heap.size + 1, 2, none⟩ = some (.int .i64 2)) (go_keep) ((go_at_call 19; refine (hprio _).mono ?_; clear hprio; rintro e W4 ⟨rfl, hb4⟩; have d0 := (hb4.cell (p := ⟨w.heap.size + 1, 0, none⟩) hsz3).trans c0; have d1 := (hb4.cell (p := ⟨w.heap.size + 1, 1, none⟩) hsz3).trans c1; have d2 := (hb4.cell (p := ⟨w.heap.size + 1, 2, none⟩) hsz3).trans c2; obtain ⟨W5, hr, hk5, hfin⟩ := uh HPUT W4 (hB3.drew.trans (hb4.mono hB3.size)); have hs4 : w.heap.size + 1 < W4.heap.size := Nat.lt_of_lt_of_le hsz3 hb4.size; have e0 := (hk5 _ 0 (Nat.le_succ _) hs4).trans d0; have e1 := (hk5 _ 1 (Nat.le_succ _) hs4).trans d1; have e2 := (hk5 _ 2 (Nat.le_succ _) hs4).trans d2; clear hk5))
    have HFIN := hd hfin
    clear hfin hr
    go_wp2_with fail
    go_ret
    exact uh HFIN
  · go_enter Tryd.func14, Tryd.ntmps14
    go_wp2_with (go_at_call 18; refine (hmay _).mono ?_; clear hmay; rintro e W2 ⟨rfl, rfl⟩)
    rw [← uh HW3]
    clear HW3 hB hl
    go_region_held3 (fun w' => w'.cell? ⟨w.heap.size + 1, 0, none⟩ = some (.string s) ∧ w'.cell? ⟨w.heap.size + 1, 1, none⟩ = some (.int .i64 p) ∧ w'.cell? ⟨w.heap.size + 1, 2, none⟩ = some (.int .i64 3)) (go_keep) ((go_at_call 19; refine (hprio _).mono ?_; clear hprio; rintro e W4 ⟨rfl, hb4⟩; have d0 := (hb4.cell (p := ⟨w.heap.size + 1, 0, none⟩) hsz3).trans c0; have d1 := (hb4.cell (p := ⟨w.heap.size + 1, 1, none⟩) hsz3).trans c1; have d2 := (hb4.cell (p := ⟨w.heap.size + 1, 2, none⟩) hsz3).trans c2; obtain ⟨W5, hr, hk5, hfin⟩ := uh HPUT W4 (hB3.drew.trans (hb4.mono hB3.size)); have hs4 : w.heap.size + 1 < W4.heap.size := Nat.lt_of_lt_of_le hsz3 hb4.size; have e0 := (hk5 _ 0 (Nat.le_succ _) hs4).trans d0; have e1 := (hk5 _ 1 (Nat.le_succ _) hs4).trans d1; have e2 := (hk5 _ 2 (Nat.le_succ _) hs4).trans d2; clear hk5))
    have HFIN := hd hfin
    clear hfin hr
    go_wp2_with fail
    go_ret
    exact uh HFIN

set_option maxRecDepth 100000 in
set_option maxHeartbeats 1000000 in
theorem add_pre_twice (bi bp : Nat) (c : Names × Names) (x : OV) (w : World) (hp : OpT w bp c.2) (hm : mayB x.name = true) (h1 : 1 ≤ x.prio) (h2 : x.prio ≤ 1200) (ht : x.type = 4 ∨ x.type = 5) (hq : within c.2 x.name) :
    Calls Tryd.prog 14 #[.agg #[.map (some bi), .map (some bp)], x.val] w (AddSays bi bp w none) := by
  obtain ⟨s, p, t⟩ := x
  simp only [OV.val] at *
  have hmay := fun W => may_any s W
  rw [hm] at hmay
  have g1 : decide (p < 1) = false := by simp; omega
  have g2 : decide (1200 < p) = false := by simp; omega
  have hsz := mayB_size hm
  have hfin : ∀ W', Below w.heap.size w W' → AddSays bi bp w none (.returned (.bool false)) W' := fun W' h => ⟨Kt.of_below h, rfl⟩
  have HF := hd hfin
  clear hfin
  obtain ⟨q, hq1, hq2⟩ := hq
  have hlk := fun W (hb : Below w.heap.size w W) => (hp.below hb).look hsz hq1 hq2
  have hB := ((Below.refl _ w).alloc (Nat.le_refl _) (.cells #[.map (some bi), .map (some bp)] 37)).alloc (by simp) (.cells #[.string s, .int .i64 p, .int .i64 t] 27)
  have hl := hlk _ hB
  obtain ⟨⟨q1, q2⟩, q3⟩ : ∃ y : PV × List UInt8, q = (y.2, y.1) := ⟨(q.2, q.1), rfl⟩
  obtain ⟨z1, z2, z3⟩ := q1
  rw [q3] at hl
  simp only [PV.val] at hl
  clear hm h1 h2 hsz hlk hq1 hq2 hp q3
  rcases ht with rfl | rfl
  all_goals
    go_enter Tryd.func14, Tryd.ntmps14
    go_wp2_with (go_at_call 18; refine (hmay _).mono ?_; clear hmay; rintro e W2 ⟨rfl, rfl⟩)
    go_ret
    exact uh HF _ (hB.alloc (by simp; omega) _)

set_option maxRecDepth 100000 in
set_option maxHeartbeats 1000000 in
theorem add_pre_new (bi bp : Nat) (c : Names × Names) (x : OV) (w : World) (hi : OpT w bi c.1) (hp : OpT w bp c.2) (hne : bi ≠ bp) (hlen : c.2.length < 200) (hm : mayB x.name = true) (h1 : 1 ≤ x.prio) (h2 : x.prio ≤ 1200) (ht : x.type = 4 ∨ x.type = 5) (hq : ¬ within c.2 x.name) :
    Calls Tryd.prog 14 #[.agg #[.map (some bi), .map (some bp)], x.val] w (AddSays bi bp w (some (c.1, c.2 ++ [(x.name.data.toList, prioOf x.type x.prio)]))) := by
  obtain ⟨s, p, t⟩ := x
  simp only [OV.val] at *
  have hmay := fun W => may_any s W
  rw [hm] at hmay
  have g1 : decide (p < 1) = false := by simp; omega
  have g2 : decide (1200 < p) = false := by simp; omega
  have hsz := mayB_size hm
  have hput : ∀ W, Below w.heap.size w W → ∃ W', (Instr.mapUpdate 35 (.map (some bp)) (.string s) (prioOf t p).val).run Tryd.prog W = .ok () W' ∧ (∀ k o, w.heap.size ≤ k → k < W.heap.size → W'.cell? ⟨k, o, none⟩ = W.cell? ⟨k, o, none⟩) ∧ AddSays bi bp w (some (c.1, c.2 ++ [(s.data.toList, prioOf t p)])) (.returned (.bool true)) W' := fun W hb => by
    obtain ⟨W5, hr, hT5, hg5⟩ := (hp.below hb).put hlen hsz hq (prioOf t p)
    have h := hi.below hb
    have hlt := hp.lt
    exact ⟨W5, hr, fun k o hk1 hk2 => World.cell?_of_block (a := ⟨k, o, none⟩) (hg5.block k hk2 (by simp; omega)), (Kt.of_below hb).trans (Kt.of_right hg5), rfl, ⟨h.grown hg5 (by simp; omega), hT5⟩⟩
  have hlk := fun W (hb : Below w.heap.size w W) => (hp.below hb).miss hsz hq
  have hB := ((Below.refl _ w).alloc (Nat.le_refl _) (.cells #[.map (some bi), .map (some bp)] 37)).alloc (by simp) (.cells #[.string s, .int .i64 p, .int .i64 t] 27)
  have hl := hlk _ hB
  simp only [PV.val, zeroP] at hl
  have hprio := fun W => prio_any t p W h1 h2
  obtain ⟨W3, hW3⟩ : ∃ W3, W3 = (((w.alloc (.cells #[.map (some bi), .map (some bp)] 37)).alloc (.cells #[.string s, .int .i64 p, .int .i64 t] 27)).alloc (.cells #[.int .i64 0, .int .i64 0, .int .i64 0] 48)) := ⟨_, rfl⟩
  have hB3 : Below w.heap.size w W3 := by rw [hW3]; exact hB.alloc (by simp; omega) _
  have c0 : W3.cell? ⟨w.heap.size + 1, 0, none⟩ = some (.string s) := by rw [hW3]; exact cell_mid _ _ _ _ _ _ _ rfl
  have c1 : W3.cell? ⟨w.heap.size + 1, 1, none⟩ = some (.int .i64 p) := by rw [hW3]; exact cell_mid _ _ _ _ _ _ _ rfl
  have c2 : W3.cell? ⟨w.heap.size + 1, 2, none⟩ = some (.int .i64 t) := by rw [hW3]; exact cell_mid _ _ _ _ _ _ _ rfl
  have hsz3 : w.heap.size + 1 < W3.heap.size := by rw [hW3]; simp
  have HW3 := hd hW3
  clear hW3
  have HPUT := hd hput
  clear hm h1 h2 hsz hlk hi hp hput hq hne hlen
  rcases ht with rfl | rfl
  · go_enter Tryd.func14, Tryd.ntmps14
    go_wp2_with (go_at_call 18; refine (hmay _).mono ?_; clear hmay; rintro e W2 ⟨rfl, rfl⟩)
    rw [← uh HW3]
    clear HW3 hB hl
    go_region_held3 (fun w' => w'.cell? ⟨w.heap.size + 1, 0, none⟩ = some (.string s) ∧ w'.cell? ⟨w.heap.size + 1, 1, none⟩ = some (.int .i64 p) ∧ w'.cell? ⟨w.heap.size + 1, 2, none⟩ = some (.int .i64 4)) (go_keep) ((go_at_call 19; refine (hprio _).mono ?_; clear hprio; rintro e W4 ⟨rfl, hb4⟩; have d0 := (hb4.cell (p := ⟨w.heap.size + 1, 0, none⟩) hsz3).trans c0; have d1 := (hb4.cell (p := ⟨w.heap.size + 1, 1, none⟩) hsz3).trans c1; have d2 := (hb4.cell (p := ⟨w.heap.size + 1, 2, none⟩) hsz3).trans c2; obtain ⟨W5, hr, hk5, hfin⟩ := uh HPUT W4 (hB3.drew.trans (hb4.mono hB3.size)); have hs4 : w.heap.size + 1 < W4.heap.size := Nat.lt_of_lt_of_le hsz3 hb4.size; have e0 := (hk5 _ 0 (Nat.le_succ _) hs4).trans d0; have e1 := (hk5 _ 1 (Nat.le_succ _) hs4).trans d1; have e2 := (hk5 _ 2 (Nat.le_succ _) hs4).trans d2; clear hk5))
    have HFIN := hd hfin
    clear hfin hr
    go_wp2_with fail
    go_ret
    exact uh HFIN
  · go_enter Tryd.func14, Tryd.ntmps14
    go_wp2_with (go_at_call 18; refine (hmay _).mono ?_; clear hmay; rintro e W2 ⟨rfl, rfl⟩)
    rw [← uh HW3]
    clear HW3 hB hl
    go_region_held3 (fun w' => w'.cell? ⟨w.heap.size + 1, 0, none⟩ = some (.string s) ∧ w'.cell? ⟨w.heap.size + 1, 1, none⟩ = some (.int .i64 p) ∧ w'.cell? ⟨w.heap.size + 1, 2, none⟩ = some (.int .i64 5)) (go_keep) ((go_at_call 19; refine (hprio _).mono ?_; clear hprio; rintro e W4 ⟨rfl, hb4⟩; have d0 := (hb4.cell (p := ⟨w.heap.size + 1, 0, none⟩) hsz3).trans c0; have d1 := (hb4.cell (p := ⟨w.heap.size + 1, 1, none⟩) hsz3).trans c1; have d2 := (hb4.cell (p := ⟨w.heap.size + 1, 2, none⟩) hsz3).trans c2; obtain ⟨W5, hr, hk5, hfin⟩ := uh HPUT W4 (hB3.drew.trans (hb4.mono hB3.size)); have hs4 : w.heap.size + 1 < W4.heap.size := Nat.lt_of_lt_of_le hsz3 hb4.size; have e0 := (hk5 _ 0 (Nat.le_succ _) hs4).trans d0; have e1 := (hk5 _ 1 (Nat.le_succ _) hs4).trans d1; have e2 := (hk5 _ 2 (Nat.le_succ _) hs4).trans d2; clear hk5))
    have HFIN := hd hfin
    clear hfin hr
    go_wp2_with fail
    go_ret
    exact uh HFIN

set_option maxRecDepth 100000 in
set_option maxHeartbeats 1000000 in
theorem add_kind (bi bp : Nat) (x : OV) (w : World) (hm : mayB x.name = true) (h1 : 1 ≤ x.prio) (h2 : x.prio ≤ 1200) (ht : ¬ (x.type = 1 ∨ x.type = 2 ∨ x.type = 3)) (hu : ¬ (x.type = 4 ∨ x.type = 5)) :
    Calls Tryd.prog 14 #[.agg #[.map (some bi), .map (some bp)], x.val] w (AddSays bi bp w none) := by
  obtain ⟨s, p, t⟩ := x
  simp only [OV.val] at *
  have hmay := fun W => may_any s W
  rw [hm] at hmay
  have g1 : decide (p < 1) = false := by simp; omega
  have g2 : decide (1200 < p) = false := by simp; omega
  have k1 : (t == 1) = false := by simp; omega
  have k2 : (t == 2) = false := by simp; omega
  have k3 : (t == 3) = false := by simp; omega
  have k4 : (t == 4) = false := by simp; omega
  have k5 : (t == 5) = false := by simp; omega
  have hfin : ∀ W', Below w.heap.size w W' → AddSays bi bp w none (.returned (.bool false)) W' := fun W' h => ⟨Kt.of_below h, rfl⟩
  have HF := hd hfin
  clear hfin hm h1 h2 ht hu
  go_enter Tryd.func14, Tryd.ntmps14
  go_wp2_with (go_at_call 18; refine (hmay _).mono ?_; clear hmay; rintro e W2 ⟨rfl, rfl⟩)
  go_ret
  exact uh HF _ (((Below.refl _ w).alloc (Nat.le_refl _) _).alloc (by simp) _)

theorem add_any (bi bp : Nat) (c : Names × Names) (x : OV) (w : World) (hi : OpT w bi c.1) (hp : OpT w bp c.2) (hne : bi ≠ bp) (hl1 : c.1.length < 200) (hl2 : c.2.length < 200) :
    Calls Tryd.prog 14 #[.agg #[.map (some bi), .map (some bp)], x.val] w (AddSays bi bp w (addN c x)) := by
  unfold addN
  split
  · rename_i h
    split
    · rename_i ht
      split
      · rename_i hq
        exact add_in_twice bi bp c x w hi h.1 h.2.1 h.2.2 ht hq
      · rename_i hq
        exact add_in_new bi bp c x w hi hp hne hl1 h.1 h.2.1 h.2.2 ht hq
    · rename_i ht
      split
      · rename_i hu
        split
        · rename_i hq
          exact add_pre_twice bi bp c x w hp h.1 h.2.1 h.2.2 hu hq
        · rename_i hq
          exact add_pre_new bi bp c x w hi hp hne hl2 h.1 h.2.1 h.2.2 hu hq
      · rename_i hu
        exact add_kind bi bp x w h.1 h.2.1 h.2.2 ht hu
  · rename_i h
    exact add_bad bi bp x w h
end Go.Proofs.YtodolgpcnleahaaDoor

