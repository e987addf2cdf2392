import Derived.Test.YtffbhinpmlcopabArN
/- hornref's numbers: divisor, power. -/
namespace Go.Proofs.Ytffbhinpmlcopab
open Go.RowKit Go.Shelf

theorem tmod_negs (X Y : Nat) : (-(X : Int)).tmod (-(Y : Int)) = -((X % Y : Nat) : Int) := by
  rw [Int.tmod_neg, Int.neg_tmod, tmod_nat]
set_option maxRecDepth 100000 in
set_option maxHeartbeats 4000000 in
theorem rdivisor_any (a b : Int) (ha : inR a) (hb : inR b) (w : World) :
    Calls Try.prog 67 #[.int .i64 a, .int .i64 b] w fun e w' => e = .returned (ansV (fit (Int.gcd a b : Int))) ∧ Below w.heap.size w w' := by
  have h1 : a.natAbs ≤ 9223372036854775808 := by unfold inR at ha; omega
  have h2 : b.natAbs ≤ 9223372036854775808 := by unfold inR at hb; omega
  have a1 := ha.1
  have a2 := ha.2
  have b1 := hb.1
  have b2 := hb.2
  have HN : Hid (Nat.gcd a.natAbs b.natAbs = Int.gcd a b) := rfl
  clear ha hb
  have sa : 0 < a ∨ a ≤ 0 := by omega
  have sb : 0 < b ∨ b ≤ 0 := by omega
  rcases sa with sa | sa <;> rcases sb with sb | sb
  all_goals go_enter Try.func67, Try.ntmps67
  all_goals go_wp2_with fail
  all_goals (
    go_loopw [0, 1] (fun x y wr => ∃ X Y : Nat, x = .int .i64 (-(X : Int)) ∧ y = .int .i64 (-(Y : Int)) ∧ X ≤ 9223372036854775808 ∧ Y ≤ 9223372036854775808 ∧ Hid (Nat.gcd X Y = Int.gcd a b) ∧ Below w.heap.size w wr) (fun _ y _ => (intOf y).natAbs)
    case atStart => exact ⟨a.natAbs, b.natAbs, by congr 1; omega, by congr 1; omega, h1, h2, HN.out, Below.refl _ _⟩
    case round =>
      obtain ⟨X, Y, rfl, rfl, hX, hY, HG, hB⟩ := hrel
      clear h1 h2 HN a1 a2 b1 b2 sa sb
      by_cases hy : Y = 0
      · subst hy
        have hg := HG.out
        rw [Nat.gcd_zero_right] at hg
        by_cases hx : X = 9223372036854775808
        · subst hx
          have HV : Hid (fit (Int.gcd a b : Int) = .error sOvf) := by rw [← hg]; exact fit_no (by unfold inR; omega)
          clear hg HG
          go_wp2_with fail
          all_goals go_ret2
          all_goals exact ⟨by rw [HV.out]; rfl, hB⟩
        · have hx' : X ≤ 9223372036854775807 := by omega
          have HV : Hid (fit (Int.gcd a b : Int) = .ok (X : Int)) := by rw [← hg]; exact fit_ok (by unfold inR; omega)
          clear hg HG
          go_wp2_with fail
          all_goals go_ret2
          all_goals exact ⟨by rw [HV.out]; simp [ansV], hB⟩
      · by_cases h11 : Y = 1
        · subst h11
          have hg := HG.out
          go_wp2_with fail
          go_roundw
          case rel => exact ⟨1, 0, by simp, by simp, by omega, by omega, by rw [Nat.gcd_one_right] at hg; exact hg, hB⟩
          case measure => simp [intOf]
        · have hpos : 2 ≤ Y := by omega
          go_wp2_with fail
          go_region
          go_roundw
          case rel =>
            refine ⟨_, _, _, _, _, _, _, _, _, _, ⟨Y, X % Y, rfl, by simp, hY, ?_, ?_, hB.drew⟩, rfl⟩
            · have := Nat.mod_lt X (show 0 < Y by omega); omega
            · have h3 : Nat.gcd Y (X % Y) = Int.gcd a b := by rw [← HG.out, Nat.gcd_comm X Y, Nat.gcd_rec Y X, Nat.gcd_comm]
              exact h3
          case measure =>
            have := Nat.mod_lt X (show 0 < Y by omega)
            simp [intOf]; omega)

set_option maxRecDepth 100000 in
set_option maxHeartbeats 4000000 in
theorem rpower_any (a b : Int) (ha : inR a) (hb : inR b) (w : World) :
    Calls Try.prog 68 #[.int .i64 a, .int .i64 b] w fun e w' => e = .returned (ansV (if b < 0 then .error sNeg else fit (a ^ b.toNat))) ∧ Below w.heap.size w w' := by
  have hB : Below w.heap.size w w := Below.refl _ _
  have hsE : sOvf.toList.isEmpty = false := by decide +kernel
  by_cases hn : b < 0
  · rw [if_pos hn]
    go_enter Try.func68, Try.ntmps68
    go_wp2
    all_goals go_ret2
    all_goals exact ⟨rfl, hB⟩
  rw [if_neg hn]
  have hb0 : 0 ≤ b := by omega
  clear hn
  by_cases hz : b = 0
  · subst hz
    have HX : Hid (fit (a ^ (0 : Int).toNat) = .ok 1) := by
      show fit (a ^ 0) = _
      rw [Int.pow_zero]; exact fit_ok (by simp [inR])
    go_enter Try.func68, Try.ntmps68
    go_wp2
    all_goals go_ret2
    all_goals exact ⟨by rw [HX.out]; rfl, hB⟩
  have zb : (b == 0) = false := by simp [hz]
  have hk1 : 1 ≤ b.toNat := by omega
  by_cases h1 : -1 ≤ a ∧ a ≤ 1
  · have hps := pow_small h1 b.toNat hk1
    have ha3 : a = 1 ∨ a = 0 ∨ a = -1 := by omega
    rcases ha3 with rfl | rfl | rfl
    · have HX : Hid (fit (1 ^ b.toNat) = .ok 1) := by rw [hps]; split <;> exact fit_ok (by simp [inR])
      go_enter Try.func68, Try.ntmps68
      go_wp2
      all_goals go_ret2
      all_goals exact ⟨by rw [HX.out]; rfl, hB⟩
    · have HX : Hid (fit (0 ^ b.toNat) = .ok 0) := by rw [hps]; split <;> exact fit_ok (by simp [inR])
      go_enter Try.func68, Try.ntmps68
      go_wp2
      all_goals go_ret2
      all_goals exact ⟨by rw [HX.out]; rfl, hB⟩
    · by_cases hev : b % 2 = 0
      · have HX : Hid (fit ((-1) ^ b.toNat) = .ok 1) := by rw [hps, if_pos (by omega)]; exact fit_ok (by simp [inR])
        have e1 : (b % 2 == 0) = true := by simp [hev]
        clear hev hps
        go_enter Try.func68, Try.ntmps68
        go_wp2
        all_goals go_ret2
        all_goals exact ⟨by rw [HX.out]; rfl, hB⟩
      · have HX : Hid (fit ((-1) ^ b.toNat) = .ok (-1)) := by rw [hps, if_neg (by omega)]; exact fit_ok (by simp [inR])
        have e1 : (b % 2 == 0) = false := by simp [hev]
        clear hev hps
        go_enter Try.func68, Try.ntmps68
        go_wp2
        all_goals go_ret2
        all_goals exact ⟨by rw [HX.out]; rfl, hB⟩
  · have hb1 := hb.2
    have hna : 2 ≤ a.natAbs := by omega
    have HP : Hid (∀ (k : Nat) (w : World), inR (a ^ k) → Calls Try.prog 65 #[.int .i64 (a ^ k), .int .i64 a] w fun e w' => e = .returned (ansV (fit (a ^ (k + 1)))) ∧ Below w.heap.size w w') := fun k w h => by
      have := rtimes_any (a ^ k) a h ha w
      rw [← Int.pow_succ] at this
      exact this
    have HF : Hid (∀ k : Nat, k ≤ b.toNat → (¬ inR (a ^ k) → fit (a ^ b.toNat) = .error sOvf) ∧ (k = b.toNat → inR (a ^ k) → fit (a ^ b.toNat) = .ok (a ^ k))) := fun k hk =>
      ⟨fun hn => by
        have := pow_grows hna hn (b.toNat - k)
        rw [show k + (b.toNat - k) = b.toNat by omega] at this
        exact fit_no this.1, fun e hi => by rw [← e]; exact fit_ok hi⟩
    have HZ : Hid (inR (a ^ 0)) := by simp [inR, Hid]
    have za : (a == 1) = false := by simp; omega
    have zz : (a == 0) = false := by simp; omega
    have zm : (a == -1) = false := by simp; omega
    obtain ⟨c, hc⟩ : ∃ c : Nat, b = c := ⟨b.toNat, by omega⟩
    subst hc
    simp only [Int.toNat_natCast] at HF ⊢
    generalize hX : fit (a ^ c) = X at *
    clear hX h1 hna hz hk1 ha hb
    go_enter Try.func68, Try.ntmps68
    go_wp2_with fail
    go_loopw [6, 7, 8] (fun n r i wr => ∃ k : Nat, k ≤ c ∧ i = .int .i64 k ∧ ((n = .int .i64 (a ^ k) ∧ r = .string ⟨#[]⟩ ∧ inR (a ^ k)) ∨ (n = .int .i64 0 ∧ r = .string sOvf ∧ ¬ inR (a ^ k))) ∧ Below w.heap.size w wr) (fun _ _ i _ => c - (intOf i).toNat)
    case atStart => exact ⟨0, Nat.zero_le _, rfl, .inl ⟨by simp, rfl, HZ.out⟩, hB⟩
    case round =>
      obtain ⟨k, hk, rfl, (⟨rfl, rfl, hin⟩ | ⟨rfl, rfl, hno⟩), hBr⟩ := hrel
      · by_cases hlt : k < c
        · have hp := HP.out k wr hin
          by_cases hnx : inR (a ^ (k + 1))
          · rw [fit_ok hnx] at hp
            simp only [ansV] at hp
            have HN : Hid (inR (a ^ (k + 1))) := hnx
            clear hnx hin
            generalize hA : a ^ (k + 1) = A at *
            have HA : Hid (a ^ (k + 1) = A) := hA
            clear hA
            go_wp2_with fail
            refine hp.mono ?_
            rintro e w' ⟨rfl, hb'⟩
            clear hp
            go_wp2_with fail
            go_roundw
            case rel => exact ⟨k + 1, by omega, by go_num, .inl ⟨by rw [HA.out], rfl, by rw [HA.out]; exact HN.out⟩, hBr.trans (hb'.mono hBr.size)⟩
            case measure => simp [intOf]; omega
          · rw [fit_no hnx] at hp
            simp only [ansV] at hp
            have HN : Hid (¬ inR (a ^ (k + 1))) := hnx
            clear hnx hin
            go_wp2_with fail
            refine hp.mono ?_
            rintro e w' ⟨rfl, hb'⟩
            clear hp
            go_wp2_with fail
            go_roundw
            case rel => exact ⟨k + 1, by omega, by go_num, .inr ⟨rfl, rfl, HN.out⟩, hBr.trans (hb'.mono hBr.size)⟩
            case measure => simp [intOf]; omega
        · have HX : Hid (X = .ok (a ^ k)) := ((HF.out k hk).2 (by omega) hin)
          go_wp2_with fail
          go_ret2
          exact ⟨by rw [HX.out]; rfl, hBr⟩
      · have HX : Hid (X = .error sOvf) := ((HF.out k hk).1 hno)
        by_cases hlt : k < c
        · go_wp2_with fail
          go_ret2
          exact ⟨by rw [HX.out]; rfl, hBr⟩
        · go_wp2_with fail
          go_ret2
          exact ⟨by rw [HX.out]; rfl, hBr⟩
end Go.Proofs.Ytffbhinpmlcopab

