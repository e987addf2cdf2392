import Derived.Test.YtcnoipaoljjelaaGreatDoorMcN
/- The law MachineChecks. -/
namespace Go.Proofs.YtcnoipaoljjelaaGreatDoor
open Go.RowKit Go.Shelf Go.Maps

set_option maxRecDepth 100000 in
set_option maxHeartbeats 8000000 in
theorem machineChecks_any (I : List IV) (a : Option Addr) (len cap : Nat) (E : List EV) (a' : Option Addr) (len' cap' : Nat) (q : Int) (s : ByteArray) (n m : Int) (w : World) (hI : IsI w a len I) (hE : IsE w a' len' E) (hF : FormsAt w) (hm : w.cell? ⟨splitLay_ren.g 1, 0, none⟩ = some (.int .i64 m)) (hm0 : splitLay_ren.g 1 < w.heap.size) :
    Calls Tryz.prog 3 #[.agg #[.slice a len cap, .slice a' len' cap', .int .i64 q], .string s, .int .i64 n] w fun e w' => e = .returned (.bool true) ∧ Below w.heap.size w w' := by
  have hB1 : Below w.heap.size w (w.alloc (.cells #[.slice a len cap, .slice a' len' cap', .int .i64 q] 25)) := (Below.refl _ w).alloc (Nat.le_refl _) _
  have hbx := World.alloc_heap_new w (.cells #[.slice a len cap, .slice a' len' cap', .int .i64 q] 25)
  have hwl : w.heap.size < (w.alloc (.cells #[.slice a len cap, .slice a' len' cap', .int .i64 q] 25)).heap.size := by simp
  have hcs : ∀ W, Below (w.alloc (.cells #[.slice a len cap, .slice a' len' cap', .int .i64 q] 25)).heap.size (w.alloc (.cells #[.slice a len cap, .slice a' len' cap', .int .i64 q] 25)) W → W.cell? ⟨w.heap.size, 0, none⟩ = some (.slice a len cap) ∧ W.cell? ⟨w.heap.size, 1, none⟩ = some (.slice a' len' cap') ∧ W.cell? ⟨w.heap.size, 2, none⟩ = some (.int .i64 q) := fun W hW => by
    have h := (hW.block w.heap.size (by simp)).trans hbx
    exact ⟨by simp only [World.cell?, h]; rfl, by simp only [World.cell?, h]; rfl, by simp only [World.cell?, h]; rfl⟩
  obtain ⟨V, hV⟩ : ∃ V, checkV I q E = V := ⟨_, rfl⟩
  obtain ⟨A, hA⟩ : ∃ A, allB s.toList n = A := ⟨_, rfl⟩
  have HI := hide (hI.below hB1)
  have HE := hide (hE.below hB1)
  have HF := hide (hF.below hB1)
  have HM := hide (And.intro ((hB1.cell (p := ⟨splitLay_ren.g 1, 0, none⟩) hm0).trans hm) (Nat.lt_of_lt_of_le hm0 hB1.size))
  have HB := hide hB1
  have HC := hide hcs
  have HV := hide hV
  have HA := hide hA
  clear hI hE hF hm hm0 hB1 hcs hbx hV hA hwl
  go_enter Tryz.func3, Tryz.ntmps3
  go_wp2_with fail
  obtain ⟨W1, hW1⟩ : ∃ W1, w.alloc (.cells #[.slice a len cap, .slice a' len' cap', .int .i64 q] 25) = W1 := ⟨_, rfl⟩
  rw [hW1] at HI HE HF HM HB HC ⊢
  clear hW1
  have hm1 : ∀ W, Below W1.heap.size W1 W → W.cell? ⟨splitLay_ren.g 1, 0, none⟩ = some (.int .i64 m) ∧ splitLay_ren.g 1 < W.heap.size := fun W hW => ⟨(hW.cell (p := ⟨splitLay_ren.g 1, 0, none⟩) (unhide HM).2).trans (unhide HM).1, Nat.lt_of_lt_of_le (unhide HM).2 hW.size⟩
  have hc : ∀ W, Below W1.heap.size W1 W → Calls Tryz.prog 4 #[.agg #[.slice a len cap, .slice a' len' cap', .int .i64 q]] W fun e w' => e = .returned (.int .i64 V) ∧ Below W1.heap.size W1 w' := fun W hW => by
    rw [← unhide HV]
    exact (check_any I a len cap E a' len' cap' q W ((unhide HI).below hW) ((unhide HE).below hW) ((unhide HF).below hW)).mono fun e w' h => ⟨h.1, hW.trans (h.2.mono hW.size)⟩
  have hr : ∀ W, Below W1.heap.size W1 W → Calls Tryz.prog 5 #[.agg #[.slice a len cap, .slice a' len' cap', .int .i64 q]] W fun e w' => e = .returned (.int .i64 V) ∧ Below W1.heap.size W1 w' := fun W hW => by
    rw [← unhide HV]
    exact (rcheck_any I a len cap E a' len' cap' q m W ((unhide HI).below hW) ((unhide HE).below hW) (hm1 W hW).1 (hm1 W hW).2).mono fun e w' h => ⟨h.1, hW.trans (h.2.mono hW.size)⟩
  have ha : ∀ W, Below W1.heap.size W1 W → Calls Tryz.prog 6 #[.string s, .int .i64 n] W fun e w' => e = .returned (.bool A) ∧ Below W1.heap.size W1 w' := fun W hW => by
    rw [← unhide HA]
    exact (allowed_any s n W).mono fun e w' h => ⟨h.1, hW.trans (h.2.mono hW.size)⟩
  have hb : ∀ W, Below W1.heap.size W1 W → Calls Tryz.prog 7 #[.string s, .int .i64 n] W fun e w' => e = .returned (.bool A) ∧ Below W1.heap.size W1 w' := fun W hW => by
    rw [← unhide HA, ← all_same]
    exact (rallowed_any s n m W (hm1 W hW).1 (hm1 W hW).2).mono fun e w' h => ⟨h.1, hW.trans (h.2.mono hW.size)⟩
  obtain ⟨c0, c1, c2⟩ := (unhide HC) W1 (Below.refl _ _)
  have HCS := hide (unhide HC)
  have hd := (Below.refl W1.heap.size W1).drew
  clear HI HE HF HM HC HV HA hm1
  go_region_held3 (fun w' => w'.cell? ⟨w.heap.size, 0, none⟩ = some (.slice a len cap) ∧ w'.cell? ⟨w.heap.size, 1, none⟩ = some (.slice a' len' cap') ∧ w'.cell? ⟨w.heap.size, 2, none⟩ = some (.int .i64 q)) (first | exact ⟨c0, c1, c2⟩ | exact (unhide HCS) _ (by assumption) | go_keep) (first | (go_at_call 4; refine (hc _ hd).mono ?_; rintro e w2 ⟨rfl, hb2⟩) | (go_at_call 5; refine (hr _ hb2).mono ?_; rintro e w3 ⟨rfl, hb3⟩) | (go_at_call 6; refine (ha _ hb3).mono ?_; rintro e w4 ⟨rfl, hb4⟩) | (go_at_call 7; refine (hb _ hb4).mono ?_; rintro e w5 ⟨rfl, hb5⟩))
  go_wp2_with fail
  go_ret
  exact ⟨by simp, (unhide HB).trans (hb5.mono (unhide HB).size)⟩
end Go.Proofs.YtcnoipaoljjelaaGreatDoor

