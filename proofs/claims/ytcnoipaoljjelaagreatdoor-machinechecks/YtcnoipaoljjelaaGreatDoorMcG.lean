import Derived.Test.YtcnoipaoljjelaaGreatDoorMcF
/- What an instruction may be: machine.isInstr. -/
namespace Go.Proofs.YtcnoipaoljjelaaGreatDoor
open Go.RowKit Go.Shelf Go.Maps

def formA : List Int := [0, 1, 1, 1, 1, 2, 2, 0, 0, 4, 1, 1, 1, 1, 0, 0, 0, 0, 3, 3, 2, 2, 2, 0, 3, 3]
def formB : List Int := [0, 2, 2, 0, 0, 0, 0, 0, 0, 0, 2, 2, 0, 0, 0, 0, 0, 0, 0, 0, 0, 0, 0, 0, 0, 0]
def formC : List Int := [0, 0, 0, 5, 6, 0, 0, 5, 6, 0, 0, 0, 5, 6, 7, 7, 0, 0, 0, 0, 0, 0, 0, 8, 5, 6]
/-- The table of forms, as it lies. -/
def FormsAt (w : World) : Prop := 0 < w.heap.size ∧ ∀ o : Nat, o < 26 → w.cell? ⟨0, o * 3, none⟩ = some (.int .i64 (formA.getD o 0)) ∧ w.cell? ⟨0, o * 3 + 1, none⟩ = some (.int .i64 (formB.getD o 0)) ∧ w.cell? ⟨0, o * 3 + 2, none⟩ = some (.int .i64 (formC.getD o 0))
theorem FormsAt.below {w w' : World} (h : FormsAt w) (hb : Below w.heap.size w w') : FormsAt w' :=
  ⟨Nat.lt_of_lt_of_le h.1 hb.size, fun o ho => by
    obtain ⟨a, b, c⟩ := h.2 o ho
    exact ⟨(hb.cell (p := ⟨0, _, none⟩) h.1).trans a, (hb.cell (p := ⟨0, _, none⟩) h.1).trans b, (hb.cell (p := ⟨0, _, none⟩) h.1).trans c⟩⟩
def okI (x : IV) (sz : Int) : Bool := if 1 ≤ x.op ∧ x.op < 26 then numB (formA.getD x.op.toNat 0) x.a sz && (numB (formB.getD x.op.toNat 0) x.b sz && conB (formC.getD x.op.toNat 0) x.c) else false
theorem okI_in {x : IV} {sz : Int} {o : Nat} (h : x.op = o) (h1 : 1 ≤ o) (h2 : o < 26) : okI x sz = (numB (formA.getD o 0) x.a sz && (numB (formB.getD o 0) x.b sz && conB (formC.getD o 0) x.c)) := by
  unfold okI
  rw [h, if_pos (by omega)]
  simp
theorem okI_out {x : IV} {sz : Int} (h : ¬ (1 ≤ x.op ∧ x.op < 26)) : okI x sz = false := by
  unfold okI
  rw [if_neg h]
set_option maxRecDepth 100000 in
set_option maxHeartbeats 4000000 in
theorem instr_out (x : IV) (sz : Int) (w : World) (h : ¬ (1 ≤ x.op ∧ x.op < 26)) : Calls Tryz.prog 14 #[x.val, .int .i64 sz] w fun e w' => e = .returned (.bool (okI x sz)) ∧ Below w.heap.size w w' := by
  rw [okI_out h]
  simp only [IV.val]
  rcases (by omega : x.op < 1 ∨ ¬ x.op < 1 ∧ 26 ≤ x.op) with h1 | ⟨h1, h2⟩
  all_goals
    clear h
    go_enter Tryz.func14, Tryz.ntmps14
    go_wp2_with fail
    go_ret
    exact ⟨rfl, (Below.refl _ w).alloc (Nat.le_refl _) _⟩
set_option maxRecDepth 100000 in
set_option maxHeartbeats 4000000 in
theorem instr_in (x : IV) (sz : Int) (w : World) (o : Nat) (ho : x.op = o) (h1 : 1 ≤ o) (h2 : o < 26) (hF : FormsAt w) : Calls Tryz.prog 14 #[x.val, .int .i64 sz] w fun e w' => e = .returned (.bool (okI x sz)) ∧ Below w.heap.size w w' := by
  rw [okI_in ho h1 h2]
  obtain ⟨op, a, b, k, s, n⟩ := x
  simp only at ho
  subst ho
  simp only [IV.val]
  have hb1 : Below w.heap.size w (w.alloc (.cells #[.int .i64 (o : Int), .int .i64 a, .int .i64 b, .int .i64 k, .string s, .int .i64 n] 37)) := (Below.refl _ w).alloc (Nat.le_refl _) _
  obtain ⟨f0, f1, f2⟩ := (hF.below hb1).2 o h2
  have hg := (hF.below hb1).1
  generalize formA.getD o 0 = fa at *
  generalize formB.getD o 0 = fb at *
  generalize formC.getD o 0 = fc at *
  have o1 : (1 : Int) ≤ (o : Int) := by omega
  have o2 : (o : Int) < 26 := by omega
  have hc := fun W => con_any fc ⟨k, s, n⟩ W
  simp only [KV.val] at hc
  have HB := hide hb1
  clear hF hb1
  go_enter Tryz.func14, Tryz.ntmps14
  go_wp2_with (first | (go_at_call 23; refine (num_any _ _ _ _).mono ?_; rintro e w' ⟨rfl, rfl⟩) | (go_at_call 24; refine (hc _).mono ?_; rintro e w2 ⟨rfl, hb2⟩))
  all_goals go_ret
  all_goals first | exact ⟨by simp_all, (unhide HB).alloc (by simp) _⟩ | exact ⟨by simp_all, ((unhide HB).alloc (by simp) _).trans (hb2.mono (by simp; omega))⟩
theorem instr_any (x : IV) (sz : Int) (w : World) (hF : FormsAt w) : Calls Tryz.prog 14 #[x.val, .int .i64 sz] w fun e w' => e = .returned (.bool (okI x sz)) ∧ Below w.heap.size w w' := by
  by_cases h : 1 ≤ x.op ∧ x.op < 26
  · obtain ⟨o, ho⟩ : ∃ o : Nat, x.op = o := ⟨x.op.toNat, by omega⟩
    exact instr_in x sz w o ho (by omega) (by omega) hF
  · exact instr_out x sz w h
end Go.Proofs.YtcnoipaoljjelaaGreatDoor

