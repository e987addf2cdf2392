import Derived.Test.YtjdanfhbccpnpaaDoorBaB
import Derived.Test.YtjdanfhbccpnpaaDoorBaC
import Derived.Test.YtjdanfhbccpnpaaDoorSw
import Derived.Test.YtjdanfhbccpnpaaDoorHds
import Derived.Deep.RegionHeld3
import Derived.Deep.Cut
/- hornref.Vars of two terms; what hornref.Make begins with. -/
namespace Go.Proofs.YtjdanfhbccpnpaaDoor
open Go.RowKit Go.Shelf

set_option maxRecDepth 100000 in
set_option maxHeartbeats 1000000 in
/-- hornref.Vars at two terms. -/
theorem rVars_two {n m : Nat} (t : Tm n) (u : Tm m) (b c : Nat) (w : World) (hT : IsT w.heap.size w t) (hU : IsT w.heap.size w u) (hb : b < w.heap.size) (hct : cellsAt w b 0 t.tv) (hcu : cellsAt w b 4 u.tv) (okt : okT t = true) (oku : okT u = true) (hl : (code t).length + (code u).length ≤ 4194304) :
    Calls Tryd.prog 27 #[.slice (some ⟨b, 0, none⟩) 2 c] w fun e W' => ∃ v, e = .returned v ∧ Below w.heap.size w W' ∧ OwnN w.heap.size W' v (varsC (varsC [] (code t)) (code u)) := by
  obtain ⟨c0, c1, c2, c3⟩ := hct
  have hv := rvars_any w.heap.size w.heap.size (Nat.le_refl _) n t (.slice none 0 0) [] w hT okt (OwnN.nil _ _) (Nat.le_refl _) (by simp; omega)
  have hvl := varsC_len [] (code t)
  simp only [List.length_nil, Nat.zero_add] at hvl
  have HV2 : Hid (∀ (v : Value) (W1 : World), Below w.heap.size w W1 → OwnN w.heap.size W1 v (varsC [] (code t)) → _) := fun v W1 (hb1 : Below w.heap.size w W1) (ho : OwnN w.heap.size W1 v (varsC [] (code t))) => rvars_any w.heap.size w.heap.size (Nat.le_refl _) m u v (varsC [] (code t)) W1 (hU.below hb1) oku ho hb1.size (by omega)
  have HCU := hide hcu
  clear hT hU okt oku hl hvl hcu
  simp only [TV.val] at hv HV2
  go_enter Tryd.func27, Tryd.ntmps27
  go_wp2_with fail
  refine wp_loop_rounds 3 ?_
  rw [rounds_succ]
  go_wp2_with fail
  refine hv.mono ?_
  clear hv
  rintro e W1 ⟨v, rfl, hg⟩
  have hb1 : Below w.heap.size w W1 := hg.grb.below (n₀ := w.heap.size) (fun k e => by cases e) (Nat.le_refl _)
  have ho1 := hg.own
  have hv2 := HV2.out v W1 hb1 ho1
  obtain ⟨d0, d1, d2, d3⟩ := unhide HCU
  replace d0 := (hb1.cell (p := ⟨b, 4, none⟩) hb).trans d0
  replace d1 : W1.cell? ⟨b, 5, none⟩ = _ := (hb1.cell (p := ⟨b, 5, none⟩) hb).trans d1
  replace d2 : W1.cell? ⟨b, 6, none⟩ = _ := (hb1.cell (p := ⟨b, 6, none⟩) hb).trans d2
  replace d3 : W1.cell? ⟨b, 7, none⟩ = _ := (hb1.cell (p := ⟨b, 7, none⟩) hb).trans d3
  obtain ⟨va, vc, rfl⟩ := ho1.slice
  clear hg HV2
  go_wp2_with fail
  rw [rounds_succ]
  go_wp2_with fail
  refine hv2.mono ?_
  clear hv2
  rintro e W2 ⟨v2, rfl, hg2⟩
  have hfin : Below w.heap.size w W2 ∧ OwnN w.heap.size W2 v2 (varsC (varsC [] (code t)) (code u)) := ⟨hb1.trans (hg2.grb.below (n₀ := w.heap.size) (fun k e => (owns_lt ho1 e).1) hb1.size), hg2.own⟩
  obtain ⟨va2, vc2, rfl⟩ := hg2.own.slice
  have HF := hide hfin
  clear hfin hg2 ho1
  go_wp2_with fail
  rw [rounds_succ]
  go_wp2_with fail
  refine bodyPost_ret ?_ rfl ⟨_, rfl, unhide HF⟩
  simp [results, Tryd.results27, go_sem]
end Go.Proofs.YtjdanfhbccpnpaaDoor

