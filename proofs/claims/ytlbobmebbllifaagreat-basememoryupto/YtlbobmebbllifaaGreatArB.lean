import Derived.Test.YtlbobmebbllifaaGreatArMs
import Derived.Shelf.Abstract
import Derived.Deep.RegionHeld3
import Derived.LoopNIn
import Derived.LoopIn
/- The contracts of arith's floor, power and commonDivisor. -/
namespace Go.Proofs.YtlbobmebbllifaaGreat
set_option maxHeartbeats 1000000
set_option maxRecDepth 100000
open Go.RowKit Go.Shelf
theorem off_ne {a b : Int} (h0 : b ≠ 0) : (lft a b != a.tmod b) = offB a b := by
 unfold lft
 cases h : offB a b with
 | true => simp; omega
 | false => simp
theorem floor_any (a b : Int) (ha : inR a) (hb : inR b) (hb0 : b ≠ 0) (w : World) :
  Calls Tryz.prog 118 #[.int .i64 a, .int .i64 b] w fun e w' => e = .returned (ansV (fit (flr a b))) ∧ Below w.heap.size w w' := by
 have hq := quotient_any a b ha hb0 w
 have hf := aboveFloor_any a b hb hb0 w.drew
 have hB := (Below.refl w.heap.size w).drew
 by_cases hr : b ≠ -1 ∨ a ≠ -9223372036854775808
 ·have h1 := tdiv_in ha hr
  have h2 := flr_in ha hb0 hr
  have ho := off_ne (a := a) hb0
  rw [fit_ok h1] at hq
  rw [fit_ok h2]
  have HF : Hid (flr a b = if offB a b then a.tdiv b - 1 else a.tdiv b) := rfl
  have H2 : Hid (inR (flr a b)) := h2
  clear h2 hr
  have q1 := h1.1
  have q2 := h1.2
  generalize offB a b = o at *
  generalize flr a b = f at *
  generalize lft a b = l at *
  simp only [ansV] at hq
  go_enter Tryz.func118, Tryz.ntmps118
  go_wp2_with fail
  refine hq.mono ?_
  rintro e w' ⟨rfl, rfl⟩
  go_wp2_with fail
  go_region_held3 (fun _ => True) (go_keep) (first | (go_at_call 119; refine hf.mono ?_; clear hf; rintro e w2 ⟨rfl, rfl⟩))
  cases o with
  | true =>
   have hf' := HF.out
   have h2' := H2.out
   simp only [if_true] at hf'
   unfold inR at h2'
   go_wp2
   all_goals go_ret2
   all_goals (refine ⟨?_, hB⟩; simp [ansV])
   all_goals omega
  | false =>
   have hf' := HF.out
   simp only [Bool.false_eq_true, if_false] at hf'
   have HE : Hid (f = a.tdiv b) := hf'
   clear hf'
   go_wp2
   all_goals go_ret2
   all_goals (refine ⟨?_, hB⟩; simp [ansV, HE.out])
 ·have hb1 : b = -1 := by omega
  have ha1 : a = -9223372036854775808 := by omega
  subst hb1
  subst ha1
  rw [tdiv_neg_one, fit_no (by unfold inR; omega)] at hq
  rw [show flr (-9223372036854775808) (-1) = 9223372036854775808 by unfold flr; rw [offB_one, tdiv_neg_one]; simp, fit_no (by unfold inR; omega)]
  simp only [ansV] at hq ⊢
  clear hf
  have hsE : sOvf.toList.isEmpty = false := by decide +kernel
  go_enter Tryz.func118, Tryz.ntmps118
  go_wp2_with fail
  refine hq.mono ?_
  rintro e w' ⟨rfl, rfl⟩
  go_wp2_with fail
  go_region
  go_wp2
  all_goals go_ret2
  all_goals exact ⟨rfl, hB⟩
theorem gcd_any (a b : Int) (ha : inR a) (hb : inR b) (w : World) :
  Calls Tryz.prog 122 #[.int .i64 a, .int .i64 b] w fun e w' => e = .returned (ansV (fit (Int.gcd a b : Int))) ∧ Below w.heap.size w w' := by
 have hm1 := magnitude_any a ha w
 have hm2 := magnitude_any b hb w
 have h1 : a.natAbs ≤ 9223372036854775808 := by unfold inR at ha; omega
 have h2 : b.natAbs ≤ 9223372036854775808 := by unfold inR at hb; omega
 go_enter Tryz.func122, Tryz.ntmps122
 go_wp2_with fail
 refine hm1.mono ?_
 rintro e w' ⟨rfl, rfl⟩
 go_wp2_with fail
 refine hm2.mono ?_
 rintro e w' ⟨rfl, rfl⟩
 go_wp2_with fail
 clear hm1 hm2
 go_loopw [6, 7] (fun x y wr => ∃ X Y : Nat, x = .int .u64 X ∧ y = .int .u64 Y ∧ X ≤ 9223372036854775808 ∧ Y ≤ 9223372036854775808 ∧ Hid (Nat.gcd X Y = Int.gcd a b) ∧ Below w'.heap.size w' wr) (fun _ y _ => (intOf y).toNat)
 case atStart => exact ⟨_, _, rfl, rfl, h1, h2, rfl, Below.refl _ _⟩
 case round =>
  obtain ⟨X, Y, rfl, rfl, hX, hY, HG, hB⟩ := hrel
  by_cases hy : Y = 0
  ·subst hy
   have hs := signed_any X (by omega) wr
   have hg := HG.out
   rw [Nat.gcd_zero_right] at hg
   obtain ⟨n, s, hv⟩ := ansV_shape (fit (X : Int))
   have HV : Hid (ansV (fit (Int.gcd a b : Int)) = .tuple #[.int .i64 n, .string s]) := by rw [← hg]; exact hv
   clear hg
   rw [hv] at hs
   clear hv
   go_wp2_with fail
   refine hs.mono ?_
   rintro e w' ⟨rfl, rfl⟩
   go_wp2
   all_goals go_ret2
   all_goals exact ⟨by rw [HV.out]; rfl, hB⟩
  ·have hpos : 0 < Y := by omega
   go_wp2_with fail
   go_region
   go_roundw
   case rel =>
    refine ⟨_, _, _, _, _, _, _, _, ⟨Y, X % Y, rfl, by simp, hY, ?_, ?_, hB.drew⟩, rfl⟩
    ·have := Nat.mod_lt X hpos; omega
    ·have h3 : Nat.gcd Y (X % Y) = Int.gcd a b := by rw [← HG.out, Nat.gcd_comm X Y, Nat.gcd_rec Y X, Nat.gcd_comm]
     exact h3
   case measure =>
    have := Nat.mod_lt X hpos
    simp [intOf]; omega
theorem power_any (a b : Int) (ha : inR a) (hb : inR b) (hb0 : 0 ≤ b) (w : World) :
  Calls Tryz.prog 124 #[.int .i64 a, .int .i64 b] w fun e w' => e = .returned (ansV (fit (a ^ b.toNat))) ∧ w' = w := by
 have hb1 := hb.2
 have HP : Hid (∀ (k : Nat) (w : World), inR (a ^ k) → Calls Tryz.prog 114 #[.int .i64 (a ^ k), .int .i64 a] w fun e w' => e = .returned (ansV (fit (a ^ (k + 1)))) ∧ w' = w) := fun k w h => by
  have := product_any (a ^ k) a h ha w
  rw [← Int.pow_succ] at this
  exact this
 have hcase : (a < -1 ∨ 1 < a) ∨ (-1 ≤ a ∧ a ≤ 1) := by omega
 have hsE : sOvf.toList.isEmpty = false := by decide +kernel
 obtain ⟨c, hc0, hc1, HF⟩ : ∃ c : Nat, ((a < -1 ∨ 1 < a) → (c : Int) = b) ∧ ((-1 ≤ a ∧ a ≤ 1) → (c : Int) = min b (2 - b % 2)) ∧ Hid (∀ k : Nat, k ≤ c → (¬ inR (a ^ k) → fit (a ^ b.toNat) = .error sOvf) ∧ (k = c → inR (a ^ k) → fit (a ^ b.toNat) = .ok (a ^ k))) := by
  rcases hcase with h | h
  ·refine ⟨b.toNat, fun _ => by omega, fun h' => by omega, fun k hk => ⟨fun hn => ?_, fun e hi => by rw [← e]; exact fit_ok hi⟩⟩
   have := pow_grows (by omega) hn (b.toNat - k)
   rw [show k + (b.toNat - k) = b.toNat by omega] at this
   exact fit_no this.1
  ·refine ⟨(min b (2 - b % 2)).toNat, fun h' => by omega, fun _ => by omega, fun k hk => ⟨fun hn => absurd (small_in h k) hn, fun e _ => ?_⟩⟩
   have heq : a ^ b.toNat = a ^ k := by
    by_cases hz : b = 0
    ·rw [show k = b.toNat by omega]
    ·rw [pow_small h k (by omega), pow_small h b.toNat (by omega)]
     have : k % 2 = b.toNat % 2 := by omega
     rw [this]
   rw [heq]
   exact fit_ok (small_in h k)
 have h00 : inR (a ^ 0) := by simp [inR]
 have HZ : Hid (inR (a ^ 0)) := h00
 clear h00
 generalize hX : fit (a ^ b.toNat) = X at *
 clear hX
 rcases hcase with (h | h) | ⟨h, h'⟩
 all_goals (first | (have hcb := hc0 (.inl h)) | (have hcb := hc0 (.inr h)) | (have hcb := hc1 ⟨h, h'⟩))
 all_goals clear hc0 hc1
 all_goals go_enter Tryz.func124, Tryz.ntmps124
 all_goals go_wp2_with fail
 all_goals (have hc1 : (c : Int) ≤ b := by omega)
 all_goals (first | (have hc2 : (c : Int) ≤ b ∧ b ≤ c := (by omega); have HCC : Hid True := trivial) | (have hc2 : (c : Int) ≤ 2 - b % 2 ∧ 2 - b % 2 ≤ c := (by omega)))
 all_goals clear hcb
 all_goals (
  go_loopw [6, 7, 8] (fun n r i wr => ∃ k : Nat, k ≤ c ∧ i = .int .i64 k ∧ ((n = .int .i64 (a ^ k) ∧ r = .string ⟨#[]⟩ ∧ inR (a ^ k)) ∨ (n = .int .i64 0 ∧ r = .string sOvf ∧ ¬ inR (a ^ k))) ∧ wr = w) (fun _ _ i _ => c - (intOf i).toNat)
  case atStart => exact ⟨0, Nat.zero_le _, rfl, .inl ⟨by simp, rfl, HZ.out⟩, rfl⟩
  case round =>
   obtain ⟨k, hk, rfl, (⟨rfl, rfl, hin⟩ | ⟨rfl, rfl, hno⟩), rfl⟩ := hrel
   ·by_cases hlt : k < c
    ·have hp := HP.out k wr hin
     by_cases hnx : inR (a ^ (k + 1))
     ·rw [fit_ok hnx] at hp
      simp only [ansV] at hp
      have HN : Hid (inR (a ^ (k + 1))) := hnx
      clear hnx hin
      generalize hA : a ^ (k + 1) = A at *
      have HA : Hid (a ^ (k + 1) = A) := hA
      clear hA
      go_wp2_with fail
      refine hp.mono ?_
      rintro e w' ⟨rfl, rfl⟩
      clear hp
      go_wp2_with fail
      go_roundw
      case rel => exact ⟨k + 1, by omega, by go_num, .inl ⟨by rw [HA.out], rfl, by rw [HA.out]; exact HN.out⟩, trivial⟩
      case measure => simp [intOf]; omega
     ·rw [fit_no hnx] at hp
      simp only [ansV] at hp
      have HN : Hid (¬ inR (a ^ (k + 1))) := hnx
      clear hnx hin
      go_wp2_with fail
      refine hp.mono ?_
      rintro e w' ⟨rfl, rfl⟩
      clear hp
      go_wp2_with fail
      go_roundw
      case rel => exact ⟨k + 1, by omega, by go_num, .inr ⟨rfl, rfl, HN.out⟩, trivial⟩
      case measure => simp [intOf]; omega
    ·have HX : Hid (X = .ok (a ^ k)) := ((HF.out k hk).2 (by omega) hin)
     go_wp2_with fail
     go_ret2
     exact ⟨by rw [HX.out]; rfl, rfl⟩
   ·have HX : Hid (X = .error sOvf) := ((HF.out k hk).1 hno)
    by_cases hlt : k < c
    ·go_wp2_with fail
     go_ret2
     exact ⟨by rw [HX.out]; rfl, rfl⟩
    ·go_wp2_with fail
     go_ret2
     exact ⟨by rw [HX.out]; rfl, rfl⟩)
end Go.Proofs.YtlbobmebbllifaaGreat
