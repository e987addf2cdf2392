import Derived.Test.YtcnoipaoljjelaaGreatDoorMcG
import Derived.Deep.RegionHeld3
/- What an instruction may be: hornref.Instr. (Written by wip/mhgen.py.) -/
namespace Go.Proofs.YtcnoipaoljjelaaGreatDoor
open Go.RowKit Go.Shelf Go.Maps

theorem cell_lt {w : World} {b o : Nat} {v : Value} (h : w.cell? ⟨b, o, none⟩ = some v) : b < w.heap.size := by
  unfold World.cell? at h
  simp only at h
  cases hb : w.heap[b]? with
  | none => rw [hb] at h; cases h
  | some x => exact (Array.getElem?_eq_some_iff.1 hb).1
def rowsN : List ByteArray := [⟨#[]⟩, ⟨#[97, 115, 45]⟩, ⟨#[97, 115, 45]⟩, ⟨#[97, 45, 107]⟩, ⟨#[97, 45, 99]⟩, ⟨#[115, 45, 45]⟩, ⟨#[115, 45, 45]⟩, ⟨#[45, 45, 107]⟩, ⟨#[45, 45, 99]⟩, ⟨#[110, 45, 45]⟩, ⟨#[97, 115, 45]⟩, ⟨#[97, 115, 45]⟩, ⟨#[97, 45, 107]⟩, ⟨#[97, 45, 99]⟩, ⟨#[45, 45, 113]⟩, ⟨#[45, 45, 113]⟩, ⟨#[45, 45, 45]⟩, ⟨#[45, 45, 45]⟩, ⟨#[112, 45, 45]⟩, ⟨#[112, 45, 45]⟩, ⟨#[115, 45, 45]⟩, ⟨#[115, 45, 45]⟩, ⟨#[115, 45, 45]⟩, ⟨#[45, 45, 98]⟩, ⟨#[112, 45, 107]⟩, ⟨#[112, 45, 99]⟩]
/-- What hornref's letters stand for. -/
def nm (c : Int) : Int := if c = 97 then 1 else if c = 115 then 2 else if c = 112 then 3 else if c = 110 then 4 else 0
def Idx (r : ByteArray) (j c : Int) : Prop := ∀ w : World, (Instr.index 9 (.string r) (.int .i64 j)).run Tryz.prog w = .ok (.int .u8 c) w
def Letter (c : Int) : Prop := c = 97 ∨ c = 115 ∨ c = 112 ∨ c = 110 ∨ c = 45
theorem row_at (o : Nat) (h1 : 1 ≤ o) (h2 : o < 26) : ∃ (r : ByteArray) (c0 c1 c2 : Int), rowsN[o]? = some r ∧ Idx r 0 c0 ∧ Idx r 1 c1 ∧ Idx r 2 c2 ∧ nm c0 = formA.getD o 0 ∧ nm c1 = formB.getD o 0 ∧ kc c2 = formC.getD o 0 ∧ Letter c0 ∧ Letter c1 := by
  rcases (by omega : o = 1 ∨ o = 2 ∨ o = 3 ∨ o = 4 ∨ o = 5 ∨ o = 6 ∨ o = 7 ∨ o = 8 ∨ o = 9 ∨ o = 10 ∨ o = 11 ∨ o = 12 ∨ o = 13 ∨ o = 14 ∨ o = 15 ∨ o = 16 ∨ o = 17 ∨ o = 18 ∨ o = 19 ∨ o = 20 ∨ o = 21 ∨ o = 22 ∨ o = 23 ∨ o = 24 ∨ o = 25) with rfl | rfl | rfl | rfl | rfl | rfl | rfl | rfl | rfl | rfl | rfl | rfl | rfl | rfl | rfl | rfl | rfl | rfl | rfl | rfl | rfl | rfl | rfl | rfl | rfl
  · exact ⟨_, 97, 115, 45, rfl, (fun w => by kernel_rfl), (fun w => by kernel_rfl), (fun w => by kernel_rfl), by decide, by decide, by decide, by unfold Letter; decide, by unfold Letter; decide⟩
  · exact ⟨_, 97, 115, 45, rfl, (fun w => by kernel_rfl), (fun w => by kernel_rfl), (fun w => by kernel_rfl), by decide, by decide, by decide, by unfold Letter; decide, by unfold Letter; decide⟩
  · exact ⟨_, 97, 45, 107, rfl, (fun w => by kernel_rfl), (fun w => by kernel_rfl), (fun w => by kernel_rfl), by decide, by decide, by decide, by unfold Letter; decide, by unfold Letter; decide⟩
  · exact ⟨_, 97, 45, 99, rfl, (fun w => by kernel_rfl), (fun w => by kernel_rfl), (fun w => by kernel_rfl), by decide, by decide, by decide, by unfold Letter; decide, by unfold Letter; decide⟩
  · exact ⟨_, 115, 45, 45, rfl, (fun w => by kernel_rfl), (fun w => by kernel_rfl), (fun w => by kernel_rfl), by decide, by decide, by decide, by unfold Letter; decide, by unfold Letter; decide⟩
  · exact ⟨_, 115, 45, 45, rfl, (fun w => by kernel_rfl), (fun w => by kernel_rfl), (fun w => by kernel_rfl), by decide, by decide, by decide, by unfold Letter; decide, by unfold Letter; decide⟩
  · exact ⟨_, 45, 45, 107, rfl, (fun w => by kernel_rfl), (fun w => by kernel_rfl), (fun w => by kernel_rfl), by decide, by decide, by decide, by unfold Letter; decide, by unfold Letter; decide⟩
  · exact ⟨_, 45, 45, 99, rfl, (fun w => by kernel_rfl), (fun w => by kernel_rfl), (fun w => by kernel_rfl), by decide, by decide, by decide, by unfold Letter; decide, by unfold Letter; decide⟩
  · exact ⟨_, 110, 45, 45, rfl, (fun w => by kernel_rfl), (fun w => by kernel_rfl), (fun w => by kernel_rfl), by decide, by decide, by decide, by unfold Letter; decide, by unfold Letter; decide⟩
  · exact ⟨_, 97, 115, 45, rfl, (fun w => by kernel_rfl), (fun w => by kernel_rfl), (fun w => by kernel_rfl), by decide, by decide, by decide, by unfold Letter; decide, by unfold Letter; decide⟩
  · exact ⟨_, 97, 115, 45, rfl, (fun w => by kernel_rfl), (fun w => by kernel_rfl), (fun w => by kernel_rfl), by decide, by decide, by decide, by unfold Letter; decide, by unfold Letter; decide⟩
  · exact ⟨_, 97, 45, 107, rfl, (fun w => by kernel_rfl), (fun w => by kernel_rfl), (fun w => by kernel_rfl), by decide, by decide, by decide, by unfold Letter; decide, by unfold Letter; decide⟩
  · exact ⟨_, 97, 45, 99, rfl, (fun w => by kernel_rfl), (fun w => by kernel_rfl), (fun w => by kernel_rfl), by decide, by decide, by decide, by unfold Letter; decide, by unfold Letter; decide⟩
  · exact ⟨_, 45, 45, 113, rfl, (fun w => by kernel_rfl), (fun w => by kernel_rfl), (fun w => by kernel_rfl), by decide, by decide, by decide, by unfold Letter; decide, by unfold Letter; decide⟩
  · exact ⟨_, 45, 45, 113, rfl, (fun w => by kernel_rfl), (fun w => by kernel_rfl), (fun w => by kernel_rfl), by decide, by decide, by decide, by unfold Letter; decide, by unfold Letter; decide⟩
  · exact ⟨_, 45, 45, 45, rfl, (fun w => by kernel_rfl), (fun w => by kernel_rfl), (fun w => by kernel_rfl), by decide, by decide, by decide, by unfold Letter; decide, by unfold Letter; decide⟩
  · exact ⟨_, 45, 45, 45, rfl, (fun w => by kernel_rfl), (fun w => by kernel_rfl), (fun w => by kernel_rfl), by decide, by decide, by decide, by unfold Letter; decide, by unfold Letter; decide⟩
  · exact ⟨_, 112, 45, 45, rfl, (fun w => by kernel_rfl), (fun w => by kernel_rfl), (fun w => by kernel_rfl), by decide, by decide, by decide, by unfold Letter; decide, by unfold Letter; decide⟩
  · exact ⟨_, 112, 45, 45, rfl, (fun w => by kernel_rfl), (fun w => by kernel_rfl), (fun w => by kernel_rfl), by decide, by decide, by decide, by unfold Letter; decide, by unfold Letter; decide⟩
  · exact ⟨_, 115, 45, 45, rfl, (fun w => by kernel_rfl), (fun w => by kernel_rfl), (fun w => by kernel_rfl), by decide, by decide, by decide, by unfold Letter; decide, by unfold Letter; decide⟩
  · exact ⟨_, 115, 45, 45, rfl, (fun w => by kernel_rfl), (fun w => by kernel_rfl), (fun w => by kernel_rfl), by decide, by decide, by decide, by unfold Letter; decide, by unfold Letter; decide⟩
  · exact ⟨_, 115, 45, 45, rfl, (fun w => by kernel_rfl), (fun w => by kernel_rfl), (fun w => by kernel_rfl), by decide, by decide, by decide, by unfold Letter; decide, by unfold Letter; decide⟩
  · exact ⟨_, 45, 45, 98, rfl, (fun w => by kernel_rfl), (fun w => by kernel_rfl), (fun w => by kernel_rfl), by decide, by decide, by decide, by unfold Letter; decide, by unfold Letter; decide⟩
  · exact ⟨_, 112, 45, 107, rfl, (fun w => by kernel_rfl), (fun w => by kernel_rfl), (fun w => by kernel_rfl), by decide, by decide, by decide, by unfold Letter; decide, by unfold Letter; decide⟩
  · exact ⟨_, 112, 45, 99, rfl, (fun w => by kernel_rfl), (fun w => by kernel_rfl), (fun w => by kernel_rfl), by decide, by decide, by decide, by unfold Letter; decide, by unfold Letter; decide⟩
set_option maxRecDepth 100000 in
set_option maxHeartbeats 8000000 in
theorem rinstr_out (x : IV) (sz : Int) (w : World) (h : ¬ (1 ≤ x.op ∧ x.op < 26)) : Calls Tryz.prog 11 #[x.val, .int .i64 sz] w fun e w' => e = .returned (.bool (okI x sz)) ∧ Below w.heap.size w w' := by
  rw [okI_out h]
  obtain ⟨op, a, b, k, s, n⟩ := x
  simp only [IV.val]
  simp only at h
  rcases (by omega : op < 1 ∨ ¬ op < 1 ∧ 26 ≤ op) with h1 | ⟨h1, h2⟩
  all_goals
    clear h
    go_enter Tryz.func11, Tryz.ntmps11
    go_wp2_with fail
    go_ret
    exact ⟨rfl, ((Below.refl _ w).alloc (Nat.le_refl _) _).alloc (by simp) _⟩
set_option maxRecDepth 100000 in
set_option maxHeartbeats 8000000 in
theorem rinstr_in (x : IV) (sz m : Int) (w : World) (o : Nat) (ho : x.op = o) (h1 : 1 ≤ o) (h2 : o < 26) (hs0 : 0 ≤ sz) (hs1 : sz ≤ 4611686018427387904) (hm : w.cell? ⟨splitLay_ren.g 1, 0, none⟩ = some (.int .i64 m)) (hm0 : splitLay_ren.g 1 < w.heap.size) : Calls Tryz.prog 11 #[x.val, .int .i64 sz] w fun e w' => e = .returned (.bool (okI x sz)) ∧ Below w.heap.size w w' := by
  rw [okI_in ho h1 h2]
  obtain ⟨r, c0, c1, c2, hr, i0, i1, i2, n0, n1, n2, l0, l1⟩ := row_at o h1 h2
  rw [← n0, ← n1, ← n2]
  obtain ⟨op, a, b, k, s, n⟩ := x
  simp only at ho
  subst ho
  simp only [IV.val]
  have hb3 : Below w.heap.size w (((w.alloc (.cells #[.int .i64 (o : Int), .int .i64 a, .int .i64 b, .int .i64 k, .string s, .int .i64 n] 37)).alloc (.cells #[.string ⟨#[]⟩, .string ⟨#[97, 115, 45]⟩, .string ⟨#[97, 115, 45]⟩, .string ⟨#[97, 45, 107]⟩, .string ⟨#[97, 45, 99]⟩, .string ⟨#[115, 45, 45]⟩, .string ⟨#[115, 45, 45]⟩, .string ⟨#[45, 45, 107]⟩, .string ⟨#[45, 45, 99]⟩, .string ⟨#[110, 45, 45]⟩, .string ⟨#[97, 115, 45]⟩, .string ⟨#[97, 115, 45]⟩, .string ⟨#[97, 45, 107]⟩, .string ⟨#[97, 45, 99]⟩, .string ⟨#[45, 45, 113]⟩, .string ⟨#[45, 45, 113]⟩, .string ⟨#[45, 45, 45]⟩, .string ⟨#[45, 45, 45]⟩, .string ⟨#[112, 45, 45]⟩, .string ⟨#[112, 45, 45]⟩, .string ⟨#[115, 45, 45]⟩, .string ⟨#[115, 45, 45]⟩, .string ⟨#[115, 45, 45]⟩, .string ⟨#[45, 45, 98]⟩, .string ⟨#[112, 45, 107]⟩, .string ⟨#[112, 45, 99]⟩] 9)).alloc (.cells #[.int .i64 a, .int .i64 b] 3)) := (((Below.refl _ w).alloc (Nat.le_refl _) _).alloc (by simp) _).alloc (by simp; omega) _
  have hrow : ((w.alloc (.cells #[.int .i64 (o : Int), .int .i64 a, .int .i64 b, .int .i64 k, .string s, .int .i64 n] 37)).alloc (.cells #[.string ⟨#[]⟩, .string ⟨#[97, 115, 45]⟩, .string ⟨#[97, 115, 45]⟩, .string ⟨#[97, 45, 107]⟩, .string ⟨#[97, 45, 99]⟩, .string ⟨#[115, 45, 45]⟩, .string ⟨#[115, 45, 45]⟩, .string ⟨#[45, 45, 107]⟩, .string ⟨#[45, 45, 99]⟩, .string ⟨#[110, 45, 45]⟩, .string ⟨#[97, 115, 45]⟩, .string ⟨#[97, 115, 45]⟩, .string ⟨#[97, 45, 107]⟩, .string ⟨#[97, 45, 99]⟩, .string ⟨#[45, 45, 113]⟩, .string ⟨#[45, 45, 113]⟩, .string ⟨#[45, 45, 45]⟩, .string ⟨#[45, 45, 45]⟩, .string ⟨#[112, 45, 45]⟩, .string ⟨#[112, 45, 45]⟩, .string ⟨#[115, 45, 45]⟩, .string ⟨#[115, 45, 45]⟩, .string ⟨#[115, 45, 45]⟩, .string ⟨#[45, 45, 98]⟩, .string ⟨#[112, 45, 107]⟩, .string ⟨#[112, 45, 99]⟩] 9)).cell? ⟨w.heap.size + 1, o, none⟩ = some (.string r) := by
    have h := names_cell (w := w.alloc (.cells #[.int .i64 (o : Int), .int .i64 a, .int .i64 b, .int .i64 k, .string s, .int .i64 n] 37)) rowsN hr
    rw [World.size_alloc] at h
    exact h
  have o1 : (1 : Int) ≤ (o : Int) := by omega
  have o2 : (o : Int) < 26 := by omega
  have o3 : o < 26 := h2
  have hn0 : (((w.alloc (.cells #[.int .i64 (o : Int), .int .i64 a, .int .i64 b, .int .i64 k, .string s, .int .i64 n] 37)).alloc (.cells #[.string ⟨#[]⟩, .string ⟨#[97, 115, 45]⟩, .string ⟨#[97, 115, 45]⟩, .string ⟨#[97, 45, 107]⟩, .string ⟨#[97, 45, 99]⟩, .string ⟨#[115, 45, 45]⟩, .string ⟨#[115, 45, 45]⟩, .string ⟨#[45, 45, 107]⟩, .string ⟨#[45, 45, 99]⟩, .string ⟨#[110, 45, 45]⟩, .string ⟨#[97, 115, 45]⟩, .string ⟨#[97, 115, 45]⟩, .string ⟨#[97, 45, 107]⟩, .string ⟨#[97, 45, 99]⟩, .string ⟨#[45, 45, 113]⟩, .string ⟨#[45, 45, 113]⟩, .string ⟨#[45, 45, 45]⟩, .string ⟨#[45, 45, 45]⟩, .string ⟨#[112, 45, 45]⟩, .string ⟨#[112, 45, 45]⟩, .string ⟨#[115, 45, 45]⟩, .string ⟨#[115, 45, 45]⟩, .string ⟨#[115, 45, 45]⟩, .string ⟨#[45, 45, 98]⟩, .string ⟨#[112, 45, 107]⟩, .string ⟨#[112, 45, 99]⟩] 9)).alloc (.cells #[.int .i64 a, .int .i64 b] 3)).cell? ⟨w.heap.size + 2, 0, none⟩ = some (.int .i64 a) ∧ (((w.alloc (.cells #[.int .i64 (o : Int), .int .i64 a, .int .i64 b, .int .i64 k, .string s, .int .i64 n] 37)).alloc (.cells #[.string ⟨#[]⟩, .string ⟨#[97, 115, 45]⟩, .string ⟨#[97, 115, 45]⟩, .string ⟨#[97, 45, 107]⟩, .string ⟨#[97, 45, 99]⟩, .string ⟨#[115, 45, 45]⟩, .string ⟨#[115, 45, 45]⟩, .string ⟨#[45, 45, 107]⟩, .string ⟨#[45, 45, 99]⟩, .string ⟨#[110, 45, 45]⟩, .string ⟨#[97, 115, 45]⟩, .string ⟨#[97, 115, 45]⟩, .string ⟨#[97, 45, 107]⟩, .string ⟨#[97, 45, 99]⟩, .string ⟨#[45, 45, 113]⟩, .string ⟨#[45, 45, 113]⟩, .string ⟨#[45, 45, 45]⟩, .string ⟨#[45, 45, 45]⟩, .string ⟨#[112, 45, 45]⟩, .string ⟨#[112, 45, 45]⟩, .string ⟨#[115, 45, 45]⟩, .string ⟨#[115, 45, 45]⟩, .string ⟨#[115, 45, 45]⟩, .string ⟨#[45, 45, 98]⟩, .string ⟨#[112, 45, 107]⟩, .string ⟨#[112, 45, 99]⟩] 9)).alloc (.cells #[.int .i64 a, .int .i64 b] 3)).cell? ⟨w.heap.size + 2, 1, none⟩ = some (.int .i64 b) := by
    have hb := World.alloc_heap_new ((w.alloc (.cells #[.int .i64 (o : Int), .int .i64 a, .int .i64 b, .int .i64 k, .string s, .int .i64 n] 37)).alloc (.cells #[.string ⟨#[]⟩, .string ⟨#[97, 115, 45]⟩, .string ⟨#[97, 115, 45]⟩, .string ⟨#[97, 45, 107]⟩, .string ⟨#[97, 45, 99]⟩, .string ⟨#[115, 45, 45]⟩, .string ⟨#[115, 45, 45]⟩, .string ⟨#[45, 45, 107]⟩, .string ⟨#[45, 45, 99]⟩, .string ⟨#[110, 45, 45]⟩, .string ⟨#[97, 115, 45]⟩, .string ⟨#[97, 115, 45]⟩, .string ⟨#[97, 45, 107]⟩, .string ⟨#[97, 45, 99]⟩, .string ⟨#[45, 45, 113]⟩, .string ⟨#[45, 45, 113]⟩, .string ⟨#[45, 45, 45]⟩, .string ⟨#[45, 45, 45]⟩, .string ⟨#[112, 45, 45]⟩, .string ⟨#[112, 45, 45]⟩, .string ⟨#[115, 45, 45]⟩, .string ⟨#[115, 45, 45]⟩, .string ⟨#[115, 45, 45]⟩, .string ⟨#[45, 45, 98]⟩, .string ⟨#[112, 45, 107]⟩, .string ⟨#[112, 45, 99]⟩] 9)) (.cells #[.int .i64 a, .int .i64 b] 3)
    rw [World.size_alloc, World.size_alloc] at hb
    exact ⟨by simp only [World.cell?, hb]; rfl, by simp only [World.cell?, hb]; rfl⟩
  have hx0 : (((w.alloc (.cells #[.int .i64 (o : Int), .int .i64 a, .int .i64 b, .int .i64 k, .string s, .int .i64 n] 37)).alloc (.cells #[.string ⟨#[]⟩, .string ⟨#[97, 115, 45]⟩, .string ⟨#[97, 115, 45]⟩, .string ⟨#[97, 45, 107]⟩, .string ⟨#[97, 45, 99]⟩, .string ⟨#[115, 45, 45]⟩, .string ⟨#[115, 45, 45]⟩, .string ⟨#[45, 45, 107]⟩, .string ⟨#[45, 45, 99]⟩, .string ⟨#[110, 45, 45]⟩, .string ⟨#[97, 115, 45]⟩, .string ⟨#[97, 115, 45]⟩, .string ⟨#[97, 45, 107]⟩, .string ⟨#[97, 45, 99]⟩, .string ⟨#[45, 45, 113]⟩, .string ⟨#[45, 45, 113]⟩, .string ⟨#[45, 45, 45]⟩, .string ⟨#[45, 45, 45]⟩, .string ⟨#[112, 45, 45]⟩, .string ⟨#[112, 45, 45]⟩, .string ⟨#[115, 45, 45]⟩, .string ⟨#[115, 45, 45]⟩, .string ⟨#[115, 45, 45]⟩, .string ⟨#[45, 45, 98]⟩, .string ⟨#[112, 45, 107]⟩, .string ⟨#[112, 45, 99]⟩] 9)).alloc (.cells #[.int .i64 a, .int .i64 b] 3)).cell? ⟨w.heap.size, 3, none⟩ = some (.int .i64 k) ∧ (((w.alloc (.cells #[.int .i64 (o : Int), .int .i64 a, .int .i64 b, .int .i64 k, .string s, .int .i64 n] 37)).alloc (.cells #[.string ⟨#[]⟩, .string ⟨#[97, 115, 45]⟩, .string ⟨#[97, 115, 45]⟩, .string ⟨#[97, 45, 107]⟩, .string ⟨#[97, 45, 99]⟩, .string ⟨#[115, 45, 45]⟩, .string ⟨#[115, 45, 45]⟩, .string ⟨#[45, 45, 107]⟩, .string ⟨#[45, 45, 99]⟩, .string ⟨#[110, 45, 45]⟩, .string ⟨#[97, 115, 45]⟩, .string ⟨#[97, 115, 45]⟩, .string ⟨#[97, 45, 107]⟩, .string ⟨#[97, 45, 99]⟩, .string ⟨#[45, 45, 113]⟩, .string ⟨#[45, 45, 113]⟩, .string ⟨#[45, 45, 45]⟩, .string ⟨#[45, 45, 45]⟩, .string ⟨#[112, 45, 45]⟩, .string ⟨#[112, 45, 45]⟩, .string ⟨#[115, 45, 45]⟩, .string ⟨#[115, 45, 45]⟩, .string ⟨#[115, 45, 45]⟩, .string ⟨#[45, 45, 98]⟩, .string ⟨#[112, 45, 107]⟩, .string ⟨#[112, 45, 99]⟩] 9)).alloc (.cells #[.int .i64 a, .int .i64 b] 3)).cell? ⟨w.heap.size, 4, none⟩ = some (.string s) ∧ (((w.alloc (.cells #[.int .i64 (o : Int), .int .i64 a, .int .i64 b, .int .i64 k, .string s, .int .i64 n] 37)).alloc (.cells #[.string ⟨#[]⟩, .string ⟨#[97, 115, 45]⟩, .string ⟨#[97, 115, 45]⟩, .string ⟨#[97, 45, 107]⟩, .string ⟨#[97, 45, 99]⟩, .string ⟨#[115, 45, 45]⟩, .string ⟨#[115, 45, 45]⟩, .string ⟨#[45, 45, 107]⟩, .string ⟨#[45, 45, 99]⟩, .string ⟨#[110, 45, 45]⟩, .string ⟨#[97, 115, 45]⟩, .string ⟨#[97, 115, 45]⟩, .string ⟨#[97, 45, 107]⟩, .string ⟨#[97, 45, 99]⟩, .string ⟨#[45, 45, 113]⟩, .string ⟨#[45, 45, 113]⟩, .string ⟨#[45, 45, 45]⟩, .string ⟨#[45, 45, 45]⟩, .string ⟨#[112, 45, 45]⟩, .string ⟨#[112, 45, 45]⟩, .string ⟨#[115, 45, 45]⟩, .string ⟨#[115, 45, 45]⟩, .string ⟨#[115, 45, 45]⟩, .string ⟨#[45, 45, 98]⟩, .string ⟨#[112, 45, 107]⟩, .string ⟨#[112, 45, 99]⟩] 9)).alloc (.cells #[.int .i64 a, .int .i64 b] 3)).cell? ⟨w.heap.size, 5, none⟩ = some (.int .i64 n) := by
    have hb := World.alloc_heap_new w (.cells #[.int .i64 (o : Int), .int .i64 a, .int .i64 b, .int .i64 k, .string s, .int .i64 n] 37)
    have hb2 : (((w.alloc (.cells #[.int .i64 (o : Int), .int .i64 a, .int .i64 b, .int .i64 k, .string s, .int .i64 n] 37)).alloc (.cells #[.string ⟨#[]⟩, .string ⟨#[97, 115, 45]⟩, .string ⟨#[97, 115, 45]⟩, .string ⟨#[97, 45, 107]⟩, .string ⟨#[97, 45, 99]⟩, .string ⟨#[115, 45, 45]⟩, .string ⟨#[115, 45, 45]⟩, .string ⟨#[45, 45, 107]⟩, .string ⟨#[45, 45, 99]⟩, .string ⟨#[110, 45, 45]⟩, .string ⟨#[97, 115, 45]⟩, .string ⟨#[97, 115, 45]⟩, .string ⟨#[97, 45, 107]⟩, .string ⟨#[97, 45, 99]⟩, .string ⟨#[45, 45, 113]⟩, .string ⟨#[45, 45, 113]⟩, .string ⟨#[45, 45, 45]⟩, .string ⟨#[45, 45, 45]⟩, .string ⟨#[112, 45, 45]⟩, .string ⟨#[112, 45, 45]⟩, .string ⟨#[115, 45, 45]⟩, .string ⟨#[115, 45, 45]⟩, .string ⟨#[115, 45, 45]⟩, .string ⟨#[45, 45, 98]⟩, .string ⟨#[112, 45, 107]⟩, .string ⟨#[112, 45, 99]⟩] 9)).alloc (.cells #[.int .i64 a, .int .i64 b] 3)).heap[w.heap.size]? = (w.alloc (.cells #[.int .i64 (o : Int), .int .i64 a, .int .i64 b, .int .i64 k, .string s, .int .i64 n] 37)).heap[w.heap.size]? := (Below.heap_alloc _ _ _ (by simp; omega)).trans (Below.heap_alloc _ _ _ (by simp))
    exact ⟨by simp only [World.cell?, hb2, hb]; rfl, by simp only [World.cell?, hb2, hb]; rfl, by simp only [World.cell?, hb2, hb]; rfl⟩
  have HB := hide hb3
  have HN := hide hn0
  have HX := hide hx0
  have HL := hide (And.intro l0 l1)
  have HI := hide (And.intro i0 (And.intro i1 i2))
  have HM := hide (And.intro hm hm0)
  clear hr i0 i1 i2 n0 n1 n2 l0 l1 hb3 hn0 hx0 hm hm0 h1 h2
  go_enter Tryz.func11, Tryz.ntmps11
  go_wp2_with fail
  obtain ⟨W3, hW3⟩ : ∃ W3, ((w.alloc (.cells #[.int .i64 (o : Int), .int .i64 a, .int .i64 b, .int .i64 k, .string s, .int .i64 n] 37)).alloc (.cells #[.string ⟨#[]⟩, .string ⟨#[97, 115, 45]⟩, .string ⟨#[97, 115, 45]⟩, .string ⟨#[97, 45, 107]⟩, .string ⟨#[97, 45, 99]⟩, .string ⟨#[115, 45, 45]⟩, .string ⟨#[115, 45, 45]⟩, .string ⟨#[45, 45, 107]⟩, .string ⟨#[45, 45, 99]⟩, .string ⟨#[110, 45, 45]⟩, .string ⟨#[97, 115, 45]⟩, .string ⟨#[97, 115, 45]⟩, .string ⟨#[97, 45, 107]⟩, .string ⟨#[97, 45, 99]⟩, .string ⟨#[45, 45, 113]⟩, .string ⟨#[45, 45, 113]⟩, .string ⟨#[45, 45, 45]⟩, .string ⟨#[45, 45, 45]⟩, .string ⟨#[112, 45, 45]⟩, .string ⟨#[112, 45, 45]⟩, .string ⟨#[115, 45, 45]⟩, .string ⟨#[115, 45, 45]⟩, .string ⟨#[115, 45, 45]⟩, .string ⟨#[45, 45, 98]⟩, .string ⟨#[112, 45, 107]⟩, .string ⟨#[112, 45, 99]⟩] 9)).alloc (.cells #[.int .i64 a, .int .i64 b] 3) = W3 := ⟨_, rfl⟩
  rw [hW3] at HB HN HX ⊢
  clear hW3 hrow
  go_loopw [8] (fun i wr => ∃ j : Nat, j ≤ 2 ∧ i = .int .i64 j ∧ wr = W3 ∧ Hid ((1 ≤ j → numB (nm c0) a sz = true) ∧ (2 ≤ j → numB (nm c1) b sz = true))) (fun i _ => 2 - (intOf i).toNat)
  case atStart => exact ⟨0, Nat.zero_le _, rfl, rfl, (fun h => by omega), (fun h => by omega)⟩
  case round =>
    obtain ⟨j, hj, rfl, rfl, HJ⟩ := hrel
    rcases (by omega : j = 0 ∨ j = 1 ∨ j = 2) with rfl | rfl | rfl
    · have hx2 := (unhide HI).1 wr
      obtain ⟨na, nb⟩ := unhide HN
      rcases (unhide HL).1 with hc | hc | hc | hc | hc
      · rw [hc] at hx2
        have HC := hide hc
        clear hc
        rcases (by omega : a < 0 ∨ (¬ a < 0 ∧ 49 < a) ∨ (¬ a < 0 ∧ ¬ 49 < a)) with g1 | ⟨g1, g2⟩ | ⟨g1, g2⟩
        · have HV := hide (show numB (nm c0) a sz = false by rw [unhide HC]; simp [nm, numB]; omega)
          go_wp2_with fail
          go_ret
          exact ⟨by rw [unhide HV]; rfl, unhide HB⟩
        · have HV := hide (show numB (nm c0) a sz = false by rw [unhide HC]; simp [nm, numB]; omega)
          go_wp2_with fail
          go_ret
          exact ⟨by rw [unhide HV]; rfl, unhide HB⟩
        · have HV := hide (show numB (nm c0) a sz = true by rw [unhide HC]; simp [nm, numB]; omega)
          go_wp2_with fail
          go_roundw
          case rel => exact ⟨1, by omega, by go_num, by first | rfl | trivial, (fun _ => unhide HV), (fun h => by omega)⟩
          case measure => simp [intOf]
      · rw [hc] at hx2
        have HC := hide hc
        clear hc
        rcases (by omega : a < 0 ∨ (¬ a < 0 ∧ 199 < a) ∨ (¬ a < 0 ∧ ¬ 199 < a)) with g1 | ⟨g1, g2⟩ | ⟨g1, g2⟩
        · have HV := hide (show numB (nm c0) a sz = false by rw [unhide HC]; simp [nm, numB]; omega)
          go_wp2_with fail
          go_ret
          exact ⟨by rw [unhide HV]; rfl, unhide HB⟩
        · have HV := hide (show numB (nm c0) a sz = false by rw [unhide HC]; simp [nm, numB]; omega)
          go_wp2_with fail
          go_ret
          exact ⟨by rw [unhide HV]; rfl, unhide HB⟩
        · have HV := hide (show numB (nm c0) a sz = true by rw [unhide HC]; simp [nm, numB]; omega)
          go_wp2_with fail
          go_roundw
          case rel => exact ⟨1, by omega, by go_num, by first | rfl | trivial, (fun _ => unhide HV), (fun h => by omega)⟩
          case measure => simp [intOf]
      · rw [hc] at hx2
        have HC := hide hc
        clear hc
        rcases (by omega : a < 0 ∨ (¬ a < 0 ∧ sz - 1 < a) ∨ (¬ a < 0 ∧ ¬ sz - 1 < a)) with g1 | ⟨g1, g2⟩ | ⟨g1, g2⟩
        · have HV := hide (show numB (nm c0) a sz = false by rw [unhide HC]; simp [nm, numB, placeB]; omega)
          go_wp2_with fail
          go_ret
          exact ⟨by rw [unhide HV]; rfl, unhide HB⟩
        · have HV := hide (show numB (nm c0) a sz = false by rw [unhide HC]; simp [nm, numB, placeB]; omega)
          go_wp2_with fail
          go_ret
          exact ⟨by rw [unhide HV]; rfl, unhide HB⟩
        · have HV := hide (show numB (nm c0) a sz = true by rw [unhide HC]; simp [nm, numB, placeB]; omega)
          go_wp2_with fail
          go_roundw
          case rel => exact ⟨1, by omega, by go_num, by first | rfl | trivial, (fun _ => unhide HV), (fun h => by omega)⟩
          case measure => simp [intOf]
      · rw [hc] at hx2
        have HC := hide hc
        clear hc
        rcases (by omega : a < 1 ∨ (¬ a < 1 ∧ 50 < a) ∨ (¬ a < 1 ∧ ¬ 50 < a)) with g1 | ⟨g1, g2⟩ | ⟨g1, g2⟩
        · have HV := hide (show numB (nm c0) a sz = false by rw [unhide HC]; simp [nm, numB]; omega)
          go_wp2_with fail
          go_ret
          exact ⟨by rw [unhide HV]; rfl, unhide HB⟩
        · have HV := hide (show numB (nm c0) a sz = false by rw [unhide HC]; simp [nm, numB]; omega)
          go_wp2_with fail
          go_ret
          exact ⟨by rw [unhide HV]; rfl, unhide HB⟩
        · have HV := hide (show numB (nm c0) a sz = true by rw [unhide HC]; simp [nm, numB]; omega)
          go_wp2_with fail
          go_roundw
          case rel => exact ⟨1, by omega, by go_num, by first | rfl | trivial, (fun _ => unhide HV), (fun h => by omega)⟩
          case measure => simp [intOf]
      · rw [hc] at hx2
        have HC := hide hc
        clear hc
        rcases (by omega : a < 0 ∨ (¬ a < 0 ∧ 0 < a) ∨ (¬ a < 0 ∧ ¬ 0 < a)) with g1 | ⟨g1, g2⟩ | ⟨g1, g2⟩
        · have HV := hide (show numB (nm c0) a sz = false by rw [unhide HC]; simp [nm, numB]; omega)
          go_wp2_with fail
          go_ret
          exact ⟨by rw [unhide HV]; rfl, unhide HB⟩
        · have HV := hide (show numB (nm c0) a sz = false by rw [unhide HC]; simp [nm, numB]; omega)
          go_wp2_with fail
          go_ret
          exact ⟨by rw [unhide HV]; rfl, unhide HB⟩
        · have HV := hide (show numB (nm c0) a sz = true by rw [unhide HC]; simp [nm, numB]; omega)
          go_wp2_with fail
          go_roundw
          case rel => exact ⟨1, by omega, by go_num, by first | rfl | trivial, (fun _ => unhide HV), (fun h => by omega)⟩
          case measure => simp [intOf]
    · have hx2 := (unhide HI).2.1 wr
      obtain ⟨na, nb⟩ := unhide HN
      rcases (unhide HL).2 with hc | hc | hc | hc | hc
      · rw [hc] at hx2
        have HC := hide hc
        clear hc
        rcases (by omega : b < 0 ∨ (¬ b < 0 ∧ 49 < b) ∨ (¬ b < 0 ∧ ¬ 49 < b)) with g1 | ⟨g1, g2⟩ | ⟨g1, g2⟩
        · have HV := hide (show numB (nm c1) b sz = false by rw [unhide HC]; simp [nm, numB]; omega)
          go_wp2_with fail
          go_ret
          exact ⟨by rw [unhide HV, (unhide HJ).1 (by omega)]; rfl, unhide HB⟩
        · have HV := hide (show numB (nm c1) b sz = false by rw [unhide HC]; simp [nm, numB]; omega)
          go_wp2_with fail
          go_ret
          exact ⟨by rw [unhide HV, (unhide HJ).1 (by omega)]; rfl, unhide HB⟩
        · have HV := hide (show numB (nm c1) b sz = true by rw [unhide HC]; simp [nm, numB]; omega)
          go_wp2_with fail
          go_roundw
          case rel => exact ⟨2, by omega, by go_num, by first | rfl | trivial, (fun _ => (unhide HJ).1 (by omega)), (fun _ => unhide HV)⟩
          case measure => simp [intOf]
      · rw [hc] at hx2
        have HC := hide hc
        clear hc
        rcases (by omega : b < 0 ∨ (¬ b < 0 ∧ 199 < b) ∨ (¬ b < 0 ∧ ¬ 199 < b)) with g1 | ⟨g1, g2⟩ | ⟨g1, g2⟩
        · have HV := hide (show numB (nm c1) b sz = false by rw [unhide HC]; simp [nm, numB]; omega)
          go_wp2_with fail
          go_ret
          exact ⟨by rw [unhide HV, (unhide HJ).1 (by omega)]; rfl, unhide HB⟩
        · have HV := hide (show numB (nm c1) b sz = false by rw [unhide HC]; simp [nm, numB]; omega)
          go_wp2_with fail
          go_ret
          exact ⟨by rw [unhide HV, (unhide HJ).1 (by omega)]; rfl, unhide HB⟩
        · have HV := hide (show numB (nm c1) b sz = true by rw [unhide HC]; simp [nm, numB]; omega)
          go_wp2_with fail
          go_roundw
          case rel => exact ⟨2, by omega, by go_num, by first | rfl | trivial, (fun _ => (unhide HJ).1 (by omega)), (fun _ => unhide HV)⟩
          case measure => simp [intOf]
      · rw [hc] at hx2
        have HC := hide hc
        clear hc
        rcases (by omega : b < 0 ∨ (¬ b < 0 ∧ sz - 1 < b) ∨ (¬ b < 0 ∧ ¬ sz - 1 < b)) with g1 | ⟨g1, g2⟩ | ⟨g1, g2⟩
        · have HV := hide (show numB (nm c1) b sz = false by rw [unhide HC]; simp [nm, numB, placeB]; omega)
          go_wp2_with fail
          go_ret
          exact ⟨by rw [unhide HV, (unhide HJ).1 (by omega)]; rfl, unhide HB⟩
        · have HV := hide (show numB (nm c1) b sz = false by rw [unhide HC]; simp [nm, numB, placeB]; omega)
          go_wp2_with fail
          go_ret
          exact ⟨by rw [unhide HV, (unhide HJ).1 (by omega)]; rfl, unhide HB⟩
        · have HV := hide (show numB (nm c1) b sz = true by rw [unhide HC]; simp [nm, numB, placeB]; omega)
          go_wp2_with fail
          go_roundw
          case rel => exact ⟨2, by omega, by go_num, by first | rfl | trivial, (fun _ => (unhide HJ).1 (by omega)), (fun _ => unhide HV)⟩
          case measure => simp [intOf]
      · rw [hc] at hx2
        have HC := hide hc
        clear hc
        rcases (by omega : b < 1 ∨ (¬ b < 1 ∧ 50 < b) ∨ (¬ b < 1 ∧ ¬ 50 < b)) with g1 | ⟨g1, g2⟩ | ⟨g1, g2⟩
        · have HV := hide (show numB (nm c1) b sz = false by rw [unhide HC]; simp [nm, numB]; omega)
          go_wp2_with fail
          go_ret
          exact ⟨by rw [unhide HV, (unhide HJ).1 (by omega)]; rfl, unhide HB⟩
        · have HV := hide (show numB (nm c1) b sz = false by rw [unhide HC]; simp [nm, numB]; omega)
          go_wp2_with fail
          go_ret
          exact ⟨by rw [unhide HV, (unhide HJ).1 (by omega)]; rfl, unhide HB⟩
        · have HV := hide (show numB (nm c1) b sz = true by rw [unhide HC]; simp [nm, numB]; omega)
          go_wp2_with fail
          go_roundw
          case rel => exact ⟨2, by omega, by go_num, by first | rfl | trivial, (fun _ => (unhide HJ).1 (by omega)), (fun _ => unhide HV)⟩
          case measure => simp [intOf]
      · rw [hc] at hx2
        have HC := hide hc
        clear hc
        rcases (by omega : b < 0 ∨ (¬ b < 0 ∧ 0 < b) ∨ (¬ b < 0 ∧ ¬ 0 < b)) with g1 | ⟨g1, g2⟩ | ⟨g1, g2⟩
        · have HV := hide (show numB (nm c1) b sz = false by rw [unhide HC]; simp [nm, numB]; omega)
          go_wp2_with fail
          go_ret
          exact ⟨by rw [unhide HV, (unhide HJ).1 (by omega)]; rfl, unhide HB⟩
        · have HV := hide (show numB (nm c1) b sz = false by rw [unhide HC]; simp [nm, numB]; omega)
          go_wp2_with fail
          go_ret
          exact ⟨by rw [unhide HV, (unhide HJ).1 (by omega)]; rfl, unhide HB⟩
        · have HV := hide (show numB (nm c1) b sz = true by rw [unhide HC]; simp [nm, numB]; omega)
          go_wp2_with fail
          go_roundw
          case rel => exact ⟨2, by omega, by go_num, by first | rfl | trivial, (fun _ => (unhide HJ).1 (by omega)), (fun _ => unhide HV)⟩
          case measure => simp [intOf]
    · obtain ⟨x3, x4, x5⟩ := unhide HX
      have hx2 := (unhide HI).2.2
      have hxl : w.heap.size < wr.heap.size := cell_lt x3
      have hall := unhide HJ
      have hmm := unhide HM
      have hcn := rcon_any c2 ⟨k, s, n⟩ m wr.drew (((unhide HB).cell (p := ⟨splitLay_ren.g 1, 0, none⟩) hmm.2).trans hmm.1) (Nat.lt_of_lt_of_le hmm.2 (unhide HB).size)
      have HALL := hide (And.intro (hall.1 (by omega)) (hall.2 (by omega)))
      simp only [KV.val] at hcn
      have HX2 := hide hx2
      clear hall hmm hx2
      obtain ⟨q, hq⟩ : ∃ q, conB (kc c2) ⟨k, s, n⟩ = q := ⟨_, rfl⟩
      rw [hq] at hcn
      have HQ := hide hq
      clear hq
      go_wp2_with fail
      go_region_held3 (fun w' => w'.cell? ⟨w.heap.size, 3, none⟩ = some (.int .i64 k) ∧ w'.cell? ⟨w.heap.size, 4, none⟩ = some (.string s) ∧ w'.cell? ⟨w.heap.size, 5, none⟩ = some (.int .i64 n) ∧ (Instr.index 9 (.string r) (.int .i64 2)).run Tryz.prog w' = .ok (.int .u8 c2) w') (first | exact ⟨x3, x4, x5, unhide HX2 _⟩ | exact ⟨y3, y4, y5, unhide HX2 _⟩ | go_keep) (first | (go_at_call 17; refine Calls.mono hcn ?_; clear hcn; rintro e W4 ⟨rfl, hb4⟩; have y3 := (hb4.cell (p := ⟨w.heap.size, 3, none⟩) hxl).trans x3; have y4 := (hb4.cell (p := ⟨w.heap.size, 4, none⟩) hxl).trans x4; have y5 := (hb4.cell (p := ⟨w.heap.size, 5, none⟩) hxl).trans x5))
      go_wp2_with fail
      go_ret
      exact ⟨by rw [(unhide HALL).1, (unhide HALL).2, unhide HQ]; rfl, (unhide HB).trans ((Below.refl _ wr).drew.trans hb4 |>.mono (unhide HB).size)⟩
theorem rinstr_any (x : IV) (sz m : Int) (w : World) (hs0 : 0 ≤ sz) (hs1 : sz ≤ 4611686018427387904) (hm : w.cell? ⟨splitLay_ren.g 1, 0, none⟩ = some (.int .i64 m)) (hm0 : splitLay_ren.g 1 < w.heap.size) : Calls Tryz.prog 11 #[x.val, .int .i64 sz] w fun e w' => e = .returned (.bool (okI x sz)) ∧ Below w.heap.size w w' := by
  by_cases h : 1 ≤ x.op ∧ x.op < 26
  · obtain ⟨o, ho⟩ : ∃ o : Nat, x.op = o := ⟨x.op.toNat, by omega⟩
    exact rinstr_in x sz m w o ho (by omega) (by omega) hs0 hs1 hm hm0
  · exact rinstr_out x sz w h
end Go.Proofs.YtcnoipaoljjelaaGreatDoor

