/- The walk of hornlaw.Names: it returns true, and nothing that lay is changed. -/
import Derived.Test.YtoipnbeecflomaaC
import Derived.Deep.QuietTactic
import Derived.BigQuiet
namespace Go.Proofs.Ytoipnbeecflomaa
open Go.RowKit Go.Shelf

theorem check_zero (w : World) : Calls Try.prog 7 #[.agg #[.int .i64 0, .int .i64 0, .string ⟨#[]⟩, .slice none 0 0]] w fun e W' => e = .returned (.int .i64 2) ∧ Below w.heap.size w W' := by
  have h := check_any (d := 1) ((⟨0, 0, ⟨#[]⟩, none, 0, 0⟩, []) : TV × List (Tm 0)) w ⟨rfl, by simp [Tm.tv], by simp [Tm.tv, ByteArray.size], .inl rfl⟩
  have e : chk (n := 1) ((⟨0, 0, ⟨#[]⟩, none, 0, 0⟩, []) : TV × List (Tm 0)) = 2 := chk_no (by simp [okT, parts, Tm.tv, Tm.kids, TV.ok, wmB])
  rw [e] at h
  exact h

theorem errs_cells (w : World) (k : Nat) (hk : k < 15) : (w.alloc (.cells #[.int .i64 0, .int .i64 1, .int .i64 2, .int .i64 3, .int .i64 4, .int .i64 5, .int .i64 6, .int .i64 7, .int .i64 8, .int .i64 9, .int .i64 10, .int .i64 11, .int .i64 12, .int .i64 13, .int .i64 14] 22)).cell? ⟨w.heap.size, k, none⟩ = some (.int .i64 k) := by
  have : k = 0 ∨ k = 1 ∨ k = 2 ∨ k = 3 ∨ k = 4 ∨ k = 5 ∨ k = 6 ∨ k = 7 ∨ k = 8 ∨ k = 9 ∨ k = 10 ∨ k = 11 ∨ k = 12 ∨ k = 13 ∨ k = 14 := by omega
  rcases this with rfl | rfl | rfl | rfl | rfl | rfl | rfl | rfl | rfl | rfl | rfl | rfl | rfl | rfl | rfl <;> simp

def lims : List Int := [1099511627776, 100, 50, 200, 200, 100000, 1, 2, 3, 4, 1, 2, 3, 4]
theorem lims_cells (w : World) (k : Nat) (hk : k < 14) : (w.alloc (.cells #[.int .i64 1099511627776, .int .i64 100, .int .i64 50, .int .i64 200, .int .i64 200, .int .i64 100000, .int .i64 1, .int .i64 2, .int .i64 3, .int .i64 4, .int .i64 1, .int .i64 2, .int .i64 3, .int .i64 4] 3)).cell? ⟨w.heap.size, k, none⟩ = some (.int .i64 (lims.getD k 0)) := by
  have : k = 0 ∨ k = 1 ∨ k = 2 ∨ k = 3 ∨ k = 4 ∨ k = 5 ∨ k = 6 ∨ k = 7 ∨ k = 8 ∨ k = 9 ∨ k = 10 ∨ k = 11 ∨ k = 12 ∨ k = 13 := by omega
  rcases this with rfl | rfl | rfl | rfl | rfl | rfl | rfl | rfl | rfl | rfl | rfl | rfl | rfl | rfl <;> simp [lims]

set_option maxRecDepth 100000 in
set_option maxHeartbeats 1000000 in
theorem names_any (w : World) : Calls Try.prog 3 #[] w fun e W' => e = .returned (.bool true) ∧ Below w.heap.size w W' := by
  go_enter Try.func3, Try.ntmps3
  go_wp2_with fail
  go_loop [2] (fun i => ∃ k : Nat, k ≤ 15 ∧ i = .int .i64 k) (fun i => 15 - (intOf i).toNat)
  case atStart => exact ⟨0, by omega, rfl⟩
  case round =>
    obtain ⟨k, hk, rfl⟩ := hrel
    by_cases hlt : k < 15
    · have hc := errs_cells w k hlt
      go_wp2
      go_round
      case rel => exact ⟨k + 1, by omega, by go_num⟩
      case measure => simp [intOf]; omega
    · go_wp2_with fail
      obtain ⟨W2, hW2⟩ : ∃ W2, ((w.alloc (.cells #[.int .i64 0, .int .i64 1, .int .i64 2, .int .i64 3, .int .i64 4, .int .i64 5, .int .i64 6, .int .i64 7, .int .i64 8, .int .i64 9, .int .i64 10, .int .i64 11, .int .i64 12, .int .i64 13, .int .i64 14] 22)).alloc (.cells #[.int .i64 1099511627776, .int .i64 100, .int .i64 50, .int .i64 200, .int .i64 200, .int .i64 100000, .int .i64 1, .int .i64 2, .int .i64 3, .int .i64 4, .int .i64 1, .int .i64 2, .int .i64 3, .int .i64 4] 3)).alloc (.cells #[.int .i64 1099511627776, .int .i64 100, .int .i64 50, .int .i64 200, .int .i64 200, .int .i64 100000, .int .i64 1, .int .i64 2, .int .i64 3, .int .i64 4, .int .i64 1, .int .i64 2, .int .i64 3, .int .i64 4] 3) = W2 := ⟨_, rfl⟩
      obtain ⟨hB, hsz, hc1, hc2⟩ : Below w.heap.size w W2 ∧ W2.heap.size = w.heap.size + 3 ∧ (∀ j < 14, W2.cell? ⟨w.heap.size + 1, j, none⟩ = some (.int .i64 (lims.getD j 0))) ∧ (∀ j < 14, W2.cell? ⟨w.heap.size + 1 + 1, j, none⟩ = some (.int .i64 (lims.getD j 0))) := by
        subst hW2
        refine ⟨(((Below.refl _ w).alloc (Nat.le_refl _) _).alloc (by simp) _).alloc (by simp; omega) _, by simp, fun j hj => ?_, fun j hj => ?_⟩
        · have h := lims_cells (w.alloc (.cells #[.int .i64 0, .int .i64 1, .int .i64 2, .int .i64 3, .int .i64 4, .int .i64 5, .int .i64 6, .int .i64 7, .int .i64 8, .int .i64 9, .int .i64 10, .int .i64 11, .int .i64 12, .int .i64 13, .int .i64 14] 22)) j hj
          rw [World.size_alloc] at h
          exact cell_kept h (World.grownBy_alloc _ _ none) (fun r e => by cases e)
        · have h := lims_cells ((w.alloc (.cells #[.int .i64 0, .int .i64 1, .int .i64 2, .int .i64 3, .int .i64 4, .int .i64 5, .int .i64 6, .int .i64 7, .int .i64 8, .int .i64 9, .int .i64 10, .int .i64 11, .int .i64 12, .int .i64 13, .int .i64 14] 22)).alloc (.cells #[.int .i64 1099511627776, .int .i64 100, .int .i64 50, .int .i64 200, .int .i64 200, .int .i64 100000, .int .i64 1, .int .i64 2, .int .i64 3, .int .i64 4, .int .i64 1, .int .i64 2, .int .i64 3, .int .i64 4] 3)) j hj
          rw [World.size_alloc, World.size_alloc] at h
          exact h
      rw [hW2]
      have HC1 := hide hc1
      have HC2 := hide hc2
      have HS := hide hsz
      clear hW2 hc1 hc2 hsz
      go_loopw [5] (fun i wr => ∃ k : Nat, k ≤ 14 ∧ i = .int .i64 k ∧ Below W2.heap.size W2 wr) (fun i _ => 14 - (intOf i).toNat)
      case atStart => exact ⟨0, by omega, rfl, Below.refl _ _⟩
      case round =>
        obtain ⟨k, hk, rfl, hb⟩ := hrel
        by_cases hlt : k < 14
        · have hc1 : wr.cell? ⟨w.heap.size + 1, k, none⟩ = some (.int .i64 (lims.getD k 0)) := (hb.cell (p := ⟨w.heap.size + 1, k, none⟩) (by have := unhide HS; simp; omega)).trans (unhide HC1 k hlt)
          have hc2 : wr.cell? ⟨w.heap.size + 1 + 1, k, none⟩ = some (.int .i64 (lims.getD k 0)) := (hb.cell (p := ⟨w.heap.size + 1 + 1, k, none⟩) (by have := unhide HS; simp; omega)).trans (unhide HC2 k hlt)
          generalize lims.getD k 0 = z at hc1 hc2
          go_wp2_with fail
          go_quiet (fail)
          go_wp2
          go_roundw
          case rel => exact ⟨k + 1, by omega, by go_num, below_drewN hb _⟩
          case measure => simp [intOf]; omega
        · go_wp2_with (go_at_call 7; refine (check_zero _).mono ?_; rintro e W3 ⟨rfl, hb3⟩)
          go_ret
          exact ⟨rfl, hB.trans ((hb.mono hB.size).trans (hb3.mono (Nat.le_trans hB.size hb.size)))⟩
end Go.Proofs.Ytoipnbeecflomaa
