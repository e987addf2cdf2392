import Derived.Test.YtodolgpcnleahaaDoorOpF
import Derived.Test.YtodolgpcnleahaaDoorOpK
/- The law TextOps. -/
namespace Go.Proofs.YtodolgpcnleahaaDoor
open Go.RowKit Go.Shelf Go.Maps

def okAB (x : OV) : Bool := decide (x.name.size ≤ 100) && decide (1 ≤ x.prio) && decide (x.prio ≤ 1200) && decide (1 ≤ x.type) && decide (x.type ≤ 5)
def okSB (x : OV) : Bool := !(x.name.data.toList == [44]) && !(x.name.data.toList == [124]) && !(x.name.data.toList == [91, 93]) && !(x.name.data.toList == [123, 125])
def likeB (x y : OV) : Bool := x.name.data.toList == y.name.data.toList && (decide (x.type ≤ 3) == decide (y.type ≤ 3))
def goodB : List OV → Bool
  | [] => true
  | x :: l => okAB x && okSB x && l.all (fun y => !likeB x y) && goodB l
theorem good_of : ∀ (l : List OV), goodB l = true → Good l
  | [], _ => ⟨by simp, List.Pairwise.nil⟩
  | x :: l, h => by
    simp only [goodB, Bool.and_eq_true] at h
    obtain ⟨⟨⟨h1, h2⟩, h3⟩, h4⟩ := h
    have ih := good_of l h4
    refine ⟨fun y hy => ?_, List.pairwise_cons.2 ⟨fun y hy hl => ?_, ih.2⟩⟩
    · rcases List.mem_cons.1 hy with rfl | hy
      · refine ⟨?_, ?_⟩
        · simp only [okAB, Bool.and_eq_true, decide_eq_true_eq] at h1
          unfold okA
          omega
        · simp [okSB] at h2
          unfold okS
          simp only [toListD]
          exact ⟨h2.1.1.1, h2.1.1.2, h2.1.2, h2.2⟩
      · exact ih.1 y hy
    · have h5 := List.all_eq_true.1 h3 y hy
      unfold like at hl
      simp only [toListD] at hl
      have h6 : likeB x y = true := by
        simp only [likeB, Bool.and_eq_true, beq_iff_eq, decide_eq_decide]
        exact hl
      rw [h6] at h5
      cases h5
theorem defOps_ok : opsE defOps = 0 := by
  have h : (tabN defOps).isSome = true := (tabN_good _).2 ⟨by decide, good_of _ (by kernel_rfl)⟩
  unfold opsE
  rw [h]
  rfl
theorem defOps_len : defOps.length = 39 := by kernel_rfl

set_option maxRecDepth 100000 in
set_option maxHeartbeats 2000000 in
theorem textOps_any (l : List OV) (a : Option Addr) (len cap : Nat) (m : Int) (w : World) (hl : IsO w a len l) (hm : w.cell? ⟨splitLay_ren.g 1, 0, none⟩ = some (.int .i64 m)) (hm0 : splitLay_ren.g 1 < w.heap.size) :
    Calls Tryd.prog 3 #[.slice a len cap] w fun e W' => e = .returned (.bool true) ∧ Below w.heap.size w W' := by
  have hd1 := default_any w
  have hd2 := fun (W : World) (hb : Below w.heap.size w W) => rdefault_any m W ((hb.cell (p := ⟨splitLay_ren.g 1, 0, none⟩) hm0).trans hm) (Nat.lt_of_lt_of_le hm0 hb.size)
  have hck := fun (W : World) (hb : Below w.heap.size w W) => checkOps_any l a len cap W (hl.below hb)
  have hop := fun (W : World) (hb : Below w.heap.size w W) => rops_any l a len cap W (hl.below hb)
  have HD2 := hd hd2
  have HCK := hd hck
  have HOP := hd hop
  clear hd2 hck hop hl hm hm0
  go_enter Tryd.func3, Tryd.ntmps3
  go_wp2_with fail
  refine hd1.mono ?_
  clear hd1
  rintro e W1 ⟨v1, rfl, b1, o1⟩
  go_wp2_with fail
  refine (uh HD2 W1 b1).mono ?_
  rintro e W2 ⟨v2, rfl, b2, o2⟩
  have b2' : Below w.heap.size w W2 := b1.trans (b2.mono b1.size)
  obtain ⟨a1, c1, rfl, i1⟩ := o1.isO (by rw [defOps_len]; omega)
  obtain ⟨a2, c2, rfl, i2⟩ := o2.isO (by rw [defOps_len]; omega)
  have i1' := i1.below b2
  rw [defOps_len] at i1' i2 ⊢
  have HI1 := hd i1'
  have HI2 := hd i2
  have B2 := hd b2'
  clear i1 i1' i2 o1 o2 b1 b2 b2' HD2
  go_wp2_with fail
  refine (uh HCK W2 (uh B2)).mono ?_
  rintro e W3 ⟨b3, rfl⟩
  have B3 := hd ((uh B2).trans (b3.mono (uh B2).size))
  replace HI1 := hd ((uh HI1).below b3)
  replace HI2 := hd ((uh HI2).below b3)
  clear b3 HCK B2
  go_wp2_with fail
  refine (uh HOP W3 (uh B3)).mono ?_
  rintro e W4 ⟨b4, rfl⟩
  have B4 := hd ((uh B3).trans (b4.mono (uh B3).size))
  replace HI1 := hd ((uh HI1).below b4)
  replace HI2 := hd ((uh HI2).below b4)
  clear b4 HOP B3
  go_wp2_with fail
  go_loopw [5] (fun i wr => ∃ j : Nat, j ≤ 39 ∧ i = .int .i64 j ∧ Below W4.heap.size W4 wr) (fun i _ => 39 - (intOf i).toNat)
  case atStart => exact ⟨0, by omega, rfl, Below.refl _ _⟩
  case round =>
    obtain ⟨j, hj, rfl, hb⟩ := hrel
    by_cases hlt : j < 39
    · obtain ⟨s, p, t, k1, f1, hu, rfl, hk1, c0, c1', c2'⟩ := op_at (uh HI1) hb hlt
      obtain ⟨s', p', t', k2, f2, hu', rfl, hk2, d0, d1, d2⟩ := op_at (uh HI2) hb hlt
      rw [hu] at hu'
      simp only [Option.some.injEq, OV.mk.injEq] at hu'
      obtain ⟨rfl, rfl, rfl⟩ := hu'
      clear hu
      have hj1 : (j : Int) < 39 := by omega
      go_wp2_with fail
      go_quiet (fail)
      go_wp2_with fail
      go_roundw
      case rel => exact ⟨j + 1, by omega, by go_num, drewN_below hb _⟩
      case measure => simp [intOf]; omega
    · have hj1 : ¬ (j : Int) < 39 := by omega
      have hck := checkOps_any defOps a1 39 c1 wr ((uh HI1).below hb)
      rw [defOps_ok] at hck
      have hB5 := (uh B4).trans (hb.mono (uh B4).size)
      go_wp2_with (go_at_call 6; refine hck.mono ?_; clear hck; rintro e W5 ⟨b5, rfl⟩)
      go_ret
      exact ⟨rfl, hB5.trans (b5.mono hB5.size)⟩
end Go.Proofs.YtodolgpcnleahaaDoor

