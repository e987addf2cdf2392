import Derived.Test.YtjdanfhbccpnpaaBcD
import Derived.BigRegion
/- base.New; a base's own block; familyOf. -/
namespace Go.Proofs.Ytjdanfhbccpnpaa
open Go.RowKit Go.Shelf Go.Maps

theorem Try.zeroPtr61 (w : World) : (zeroValue 61).run Try.prog w = .ok (.pointer none) w := by kernel_rfl
theorem Try.zeroPtr64 (w : World) : (zeroValue 71).run Try.prog w = .ok (.pointer none) w := by kernel_rfl
theorem Try.zeroPtr71 (w : World) : (zeroValue 95).run Try.prog w = .ok (.pointer none) w := by kernel_rfl
/-- A base's own three cells. -/
def BsBlk (W : World) (b : Nat) (laid : Int) (me mf : Nat) : Prop := W.heap[b]? = some (.cells #[.int .i64 laid, .map (some me), .map (some mf)] 54 (0, 0))
theorem BsBlk.lt {W : World} {b : Nat} {laid : Int} {me mf : Nat} (h : BsBlk W b laid me mf) : b < W.heap.size := (Array.getElem?_eq_some_iff.1 h).1
theorem BsBlk.cs {W : World} {b : Nat} {laid : Int} {me mf : Nat} (h : BsBlk W b laid me mf) : W.cell? ⟨b, 0, none⟩ = some (.int .i64 laid) ∧ W.cell? ⟨b, 1, none⟩ = some (.map (some me)) ∧ W.cell? ⟨b, 2, none⟩ = some (.map (some mf)) ∧ W.frozen? ⟨b, 0, none⟩ = false := by
  have h' : W.heap[b]? = _ := h
  refine ⟨?_, ?_, ?_, ?_⟩ <;> simp [World.cell?, World.frozen?, h']
set_option maxRecDepth 100000 in
set_option maxHeartbeats 1000000 in
theorem new_any (w : World) : Calls Try.prog 6 #[] w fun e W' => e = .returned (.pointer (some ⟨w.heap.size + 2, 0, none⟩)) ∧ BsBlk W' (w.heap.size + 2) 0 w.heap.size (w.heap.size + 1) ∧ PM 3 W' w.heap.size 0 (fun _ => none) ∧ PM 74 W' (w.heap.size + 1) 0 (fun _ => none) ∧ Below w.heap.size w W' ∧ W'.heap.size = w.heap.size + 3 := by
  have hmm := @run_makeMap Try.prog
  have h1 : PM 3 (((w.alloc (.map #[] 0)).alloc (.map #[] 0)).alloc (.cells #[.int .i64 0, .map (some w.heap.size), .map (some (w.heap.size + 1))] 54)) w.heap.size 0 (fun _ => none) := ((PM.made 3 w).kept (Below.heap_alloc _ _ _ (by simp))).kept (Below.heap_alloc _ _ _ (by simp; omega))
  have h2 : PM 74 (((w.alloc (.map #[] 0)).alloc (.map #[] 0)).alloc (.cells #[.int .i64 0, .map (some w.heap.size), .map (some (w.heap.size + 1))] 54)) (w.heap.size + 1) 0 (fun _ => none) := by
    have h := PM.made 74 (w.alloc (.map #[] 0))
    rw [World.size_alloc] at h
    exact h.kept (Below.heap_alloc _ _ _ (by simp))
  have h3 : BsBlk (((w.alloc (.map #[] 0)).alloc (.map #[] 0)).alloc (.cells #[.int .i64 0, .map (some w.heap.size), .map (some (w.heap.size + 1))] 54)) (w.heap.size + 2) 0 w.heap.size (w.heap.size + 1) := by
    have h := World.alloc_heap_new ((w.alloc (.map #[] 0)).alloc (.map #[] 0)) (.cells #[.int .i64 0, .map (some w.heap.size), .map (some (w.heap.size + 1))] 54)
    rw [World.size_alloc, World.size_alloc] at h
    exact h
  have HK := hide (And.intro h3 (And.intro h1 h2))
  clear h1 h2 h3
  go_enter Try.func6, Try.ntmps6
  go_wp2_with fail
  all_goals go_ret
  all_goals exact ⟨rfl, HK.out.1, HK.out.2.1, HK.out.2.2, (((Below.refl _ w).alloc (Nat.le_refl _) _).alloc (by simp) _).alloc (by simp; omega) _, by simp⟩
/-- A predicate's family that has nothing yet. -/
def FamNew (W : World) (fb km : Nat) : Prop := W.heap[fb]? = some (.cells #[.pointer none, .map (some km)] 97 (0, 0)) ∧ PM 81 W km 0 (fun _ => none)
set_option maxRecDepth 100000 in
set_option maxHeartbeats 2000000 in
theorem familyOf_new (b me mf : Nat) (laid : Int) (cnt : Nat) (g : Lit → Option Addr) (s : ByteArray) (n : Nat) (w : World) (hb : BsBlk w b laid me mf) (hm : PM 74 w mf cnt g) (hcnt : cnt < maxLen) (hs : s.size ≤ maxLen) (hn : n ≤ 9223372036854775807) (hg : g (predL s n) = none) :
    Calls Try.prog 23 #[.pointer (some ⟨b, 0, none⟩), predV s n] w fun e W' => ∃ fb km, e = .returned (.pointer (some ⟨fb, 0, none⟩)) ∧ w.heap.size ≤ fb ∧ w.heap.size ≤ km ∧ fb ≠ km ∧ FamNew W' fb km ∧ PM 74 W' mf (cnt + 1) (updL g (predL s n) ⟨fb, 0, none⟩) ∧ GrB (fun k => k = mf) w.heap.size w W' := by
  have hmm := @run_makeMap Try.prog
  have hkey := pred_key s n hs hn
  have hb1 : Below w.heap.size w (w.alloc (.cells #[.string s, .int .i64 (n : Int)] 74)).drew := ((Below.refl _ w).alloc (Nat.le_refl _) _).drew
  have hm1 := hm.kept (hb1.block mf hm.lt)
  have hB1 : BsBlk (w.alloc (.cells #[.string s, .int .i64 (n : Int)] 74)).drew b laid me mf := (hb1.block b hb.lt).trans hb
  have hlk := hm1.look Try.keyedPred Try.underlying52 (Try.zeroPtr64 _) hkey
  rw [hg] at hlk
  obtain ⟨c0, c1, c2, -⟩ := hB1.cs
  have c2' : (w.alloc (.cells #[.string s, .int .i64 (n : Int)] 74)).cell? ⟨b, 2, none⟩ = some (.map (some mf)) := c2
  simp only [predV] at hlk hkey ⊢
  have hnew : (w.alloc (.cells #[.string s, .int .i64 (n : Int)] 74)).drew.heap[w.heap.size]? = _ := World.alloc_heap_new w (.cells #[.string s, .int .i64 (n : Int)] 74)
  have hlt1 := hb.lt
  have hlt2 := hm.lt
  obtain ⟨V1, hV1⟩ : ∃ V1, (w.alloc (.cells #[.string s, .int .i64 (n : Int)] 74)).drew = V1 := ⟨_, rfl⟩
  have hsz : V1.heap.size = w.heap.size + 1 := by rw [← hV1]; show (w.alloc (.cells #[.string s, .int .i64 (n : Int)] 74)).heap.size = _; simp
  have HV1 := hide hV1
  rw [hV1] at hb1 hm1 hB1 hnew
  clear hV1
  -- the new family's world, and the map behind it
  have hb3 : Below V1.heap.size V1 ((V1.alloc (.map #[] 0)).alloc (.cells #[.pointer none, .map (some V1.heap.size)] 97)).drew := (((Below.refl _ V1).alloc (Nat.le_refl _) _).alloc (by simp) _).drew
  have hm3 := hm1.kept (hb3.block mf hm1.lt)
  have hB3 : BsBlk ((V1.alloc (.map #[] 0)).alloc (.cells #[.pointer none, .map (some V1.heap.size)] 97)).drew b laid me mf := (hb3.block b hB1.lt).trans hB1
  have hn3 := (hb3.block w.heap.size (by omega)).trans hnew
  have hf3 : ((V1.alloc (.map #[] 0)).alloc (.cells #[.pointer none, .map (some V1.heap.size)] 97)).drew.heap[V1.heap.size + 1]? = some (.cells #[.pointer none, .map (some V1.heap.size)] 97 (0, 0)) := by
    have h := World.alloc_heap_new (V1.alloc (.map #[] 0)) (.cells #[.pointer none, .map (some V1.heap.size)] 97)
    rw [World.size_alloc] at h
    exact h
  have hk3 : PM 81 ((V1.alloc (.map #[] 0)).alloc (.cells #[.pointer none, .map (some V1.heap.size)] 97)).drew V1.heap.size 0 (fun _ => none) := (PM.made 81 V1).kept (Below.heap_alloc _ _ _ (by simp))
  obtain ⟨W', hup, hpm, hgr⟩ := hm3.put Try.keyedPred Try.underlying52 hcnt hkey ⟨V1.heap.size + 1, 0, none⟩
  obtain ⟨_, _, d2, _⟩ := hB3.cs
  have d2' : ((V1.alloc (.map #[] 0)).alloc (.cells #[.pointer none, .map (some V1.heap.size)] 97)).cell? ⟨b, 2, none⟩ = some (.map (some mf)) := d2
  have n0 : ((V1.alloc (.map #[] 0)).alloc (.cells #[.pointer none, .map (some V1.heap.size)] 97)).cell? ⟨w.heap.size, 0, none⟩ = some (.string s) := by
    have : ((V1.alloc (.map #[] 0)).alloc (.cells #[.pointer none, .map (some V1.heap.size)] 97)).heap[w.heap.size]? = _ := hn3
    simp [World.cell?, this]
  have n1 : ((V1.alloc (.map #[] 0)).alloc (.cells #[.pointer none, .map (some V1.heap.size)] 97)).cell? ⟨w.heap.size, 1, none⟩ = some (.int .i64 (n : Int)) := by
    have : ((V1.alloc (.map #[] 0)).alloc (.cells #[.pointer none, .map (some V1.heap.size)] 97)).heap[w.heap.size]? = _ := hn3
    simp [World.cell?, this]
  have hsz3 : (((V1.alloc (.map #[] 0)).alloc (.cells #[.pointer none, .map (some V1.heap.size)] 97)).drew).heap.size = V1.heap.size + 2 := by
    show ((V1.alloc (.map #[] 0)).alloc (.cells #[.pointer none, .map (some V1.heap.size)] 97)).heap.size = _
    simp
  have hfin : FamNew W' (V1.heap.size + 1) V1.heap.size := ⟨(hgr.block _ (by omega) (by simp; omega)).trans hf3, hk3.kept (hgr.block _ (by omega) (by simp; omega))⟩
  have hgf : GrB (fun k => k = mf) w.heap.size w W' := ⟨(hgr.os.trans hb3.os).trans hb1.os, (hgr.tape.trans hb3.tape).trans hb1.tape, (hgr.output.trans hb3.output).trans hb1.output, by have := hgr.size; omega, fun k hk hx => (hgr.block k (by omega) (by simpa using hx)).trans ((hb3.block k (by omega)).trans (hb1.block k hk))⟩
  have HF := hide (And.intro hfin (And.intro hpm (And.intro hgf hsz)))
  clear hb hm hb1 hm1 hB1 hkey hnew hcnt hg hs hn hb3 hm3 hB3 hn3 hf3 hk3 hpm hgr hfin hgf hsz3 d2 c0 c1 c2 hlt1 hlt2 hsz
  go_enter Try.func23, Try.ntmps23
  go_wp2_with fail
  go_region
  clear hlk c2'
  rw [unhide HV1]
  clear HV1
  go_wp2_with fail
  go_region
  all_goals
    clear hup d2' n0 n1 hmm
    go_wp2_with fail
    all_goals go_ret
    all_goals exact ⟨_, _, rfl, by have := HF.out.2.2.2; omega, by have := HF.out.2.2.2; omega, by omega, HF.out.1, HF.out.2.1, HF.out.2.2.1⟩
end Go.Proofs.Ytjdanfhbccpnpaa

