import Derived.Test.YtffbhinpmlcopabArM
import Derived.WalkLawsBesides
import Derived.WalkSpells
/- The contracts of arith's exact.go: sums, differences, products, quotients, shifts, magnitudes. -/
namespace Go.Proofs.Ytffbhinpmlcopab
open Go.RowKit

set_option maxHeartbeats 1000000 in
theorem sum_any (a b : Int) (ha : inR a) (hb : inR b) (w : World) :
    Calls Try.prog 109 #[.int .i64 a, .int .i64 b] w fun e w' => e = .returned (ansV (fit (a + b))) ∧ w' = w := by
  have ho := sum_over ha hb
  by_cases h : inR (a + b)
  · have h1 : ¬ bits .and .i64 (bits .xor .i64 a (wrap64 (a + b))) (bits .xor .i64 b (wrap64 (a + b))) < 0 := fun x => ho.1 x h
    rw [fit_ok h]
    have HW : Hid (wrap64 (a + b) = a + b) := wrap64_of h
    clear ho
    go_enter Try.func109, Try.ntmps109
    go_wp2
    all_goals go_ret2
    all_goals (first | omega | (refine ⟨?_, rfl⟩; simp [ansV, HW.out]))
  · have h1 := ho.2 h
    rw [fit_no h]
    clear ho
    go_enter Try.func109, Try.ntmps109
    go_wp2
    all_goals go_ret2
    all_goals (first | omega | (refine ⟨?_, rfl⟩; rfl))
set_option maxHeartbeats 1000000 in
theorem diff_any (a b : Int) (ha : inR a) (hb : inR b) (w : World) :
    Calls Try.prog 100 #[.int .i64 a, .int .i64 b] w fun e w' => e = .returned (ansV (fit (a - b))) ∧ w' = w := by
  have ho := diff_over ha hb
  by_cases h : inR (a - b)
  · have h1 : ¬ bits .and .i64 (bits .xor .i64 a b) (bits .xor .i64 a (wrap64 (a - b))) < 0 := fun x => ho.1 x h
    rw [fit_ok h]
    have HW : Hid (wrap64 (a - b) = a - b) := wrap64_of h
    clear ho
    go_enter Try.func100, Try.ntmps100
    go_wp2
    all_goals go_ret2
    all_goals (first | omega | (refine ⟨?_, rfl⟩; simp [ansV, HW.out]))
  · have h1 := ho.2 h
    rw [fit_no h]
    clear ho
    go_enter Try.func100, Try.ntmps100
    go_wp2
    all_goals go_ret2
    all_goals (first | omega | (refine ⟨?_, rfl⟩; rfl))

theorem ansV_shape (x : Except ByteArray Int) : ∃ n s, ansV x = .tuple #[.int .i64 n, .string s] := by
  cases x <;> exact ⟨_, _, rfl⟩
set_option maxHeartbeats 1000000 in
theorem product_any (a b : Int) (ha : inR a) (hb : inR b) (w : World) :
    Calls Try.prog 110 #[.int .i64 a, .int .i64 b] w fun e w' => e = .returned (ansV (fit (a * b))) ∧ w' = w := by
  by_cases h1 : b = -1
  · subst h1
    have hd := diff_any 0 a (by simp [inR]) ha w
    rw [show a * -1 = 0 - a by omega]
    obtain ⟨n, s, hv⟩ := ansV_shape (fit (0 - a))
    rw [hv] at hd ⊢
    clear hv
    go_enter Try.func110, Try.ntmps110
    go_wp2_with fail
    refine hd.mono ?_
    rintro e w' ⟨rfl, rfl⟩
    go_wp2
    all_goals go_ret2
    all_goals exact ⟨rfl, rfl⟩
  · by_cases h0 : b = 0
    · subst h0
      rw [Int.mul_zero, fit_ok (by simp [inR])]
      have hw : wrap64 (a * 0) = 0 := by rw [Int.mul_zero]; exact wrap64_of (by simp [inR])
      go_enter Try.func110, Try.ntmps110
      go_wp2
      all_goals go_ret2
      all_goals (refine ⟨?_, rfl⟩; simp [ansV])
    · have ho := mul_over (a := a) hb h0
      have hq : inR ((wrap64 (a * b)).tdiv b) := tdiv_in (wrap64_inR _) (.inl h1)
      have hq1 := hq.1
      have hq2 := hq.2
      by_cases h : inR (a * b)
      · have h3 := ho.2 h
        have h2 : ((wrap64 (a * b)).tdiv b != a) = false := by simp [h3]
        rw [fit_ok h]
        have HW : Hid (wrap64 (a * b) = a * b) := wrap64_of h
        clear ho h3
        go_enter Try.func110, Try.ntmps110
        go_wp2
        all_goals go_ret2
        all_goals (refine ⟨?_, rfl⟩; simp [ansV, HW.out])
      · have h2 : ((wrap64 (a * b)).tdiv b != a) = true := by simpa using fun x => h (ho.1 x)
        rw [fit_no h]
        clear ho
        go_enter Try.func110, Try.ntmps110
        go_wp2
        all_goals go_ret2
        all_goals (refine ⟨?_, rfl⟩; rfl)

set_option maxHeartbeats 1000000 in
theorem quotient_any (a b : Int) (ha : inR a) (hb0 : b ≠ 0) (w : World) :
    Calls Try.prog 112 #[.int .i64 a, .int .i64 b] w fun e w' => e = .returned (ansV (fit (a.tdiv b))) ∧ w' = w := by
  by_cases h1 : b = -1
  · subst h1
    have hd := diff_any 0 a (by simp [inR]) ha w
    rw [tdiv_neg_one, show -a = 0 - a by omega]
    obtain ⟨n, s, hv⟩ := ansV_shape (fit (0 - a))
    rw [hv] at hd ⊢
    clear hv
    go_enter Try.func112, Try.ntmps112
    go_wp2_with fail
    refine hd.mono ?_
    rintro e w' ⟨rfl, rfl⟩
    go_wp2
    all_goals go_ret2
    all_goals exact ⟨rfl, rfl⟩
  · have hq : inR (a.tdiv b) := tdiv_in ha (.inl h1)
    have hq1 := hq.1
    have hq2 := hq.2
    rw [fit_ok hq]
    go_enter Try.func112, Try.ntmps112
    go_wp2
    all_goals go_ret2
    all_goals (refine ⟨?_, rfl⟩; simp [ansV])

set_option maxHeartbeats 1000000 in
theorem aboveFloor_any (a b : Int) (hb : inR b) (hb0 : b ≠ 0) (w : World) :
    Calls Try.prog 115 #[.int .i64 a, .int .i64 b] w fun e w' => e = .returned (.int .i64 (lft a b)) ∧ w' = w := by
  have HL : Hid (inR (lft a b)) := lft_in hb hb0
  have HT : Hid (-(b.natAbs : Int) < a.tmod b ∧ a.tmod b < b.natAbs) := tmod_lt hb0
  go_enter Try.func115, Try.ntmps115
  go_wp2
  all_goals go_ret
  all_goals refine ⟨?_, rfl⟩
  all_goals have HL := HL.out
  all_goals have HT := HT.out
  all_goals unfold lft offB inR at *
  all_goals simp only [decide_eq_true_eq, Bool.decide_or, Bool.decide_and, Bool.or_eq_true, Bool.and_eq_true] at *
  all_goals (split at HL <;> (try split) <;> simp <;> first | omega | (rw [IntWalk.wrap64_in _ (by omega)]))

set_option maxHeartbeats 1000000 in
theorem shiftLeft_any (a b : Int) (hb : 0 ≤ b) (w : World) :
    Calls Try.prog 121 #[.int .i64 a, .int .i64 b] w fun e w' => e = .returned (ansV (fit (a * 2 ^ b.toNat))) ∧ w' = w := by
  have ho := shl_over a b.toNat
  by_cases h : inR (a * 2 ^ b.toNat)
  · have h2 : (wrap64 (a * 2 ^ min b.toNat 64) / 2 ^ min b.toNat 64 != a) = false := by simp [ho.2 h]
    rw [fit_ok h]
    have HW : Hid (wrap64 (a * 2 ^ min b.toNat 64) = a * 2 ^ b.toNat) := by
      show _ = _
      by_cases hk : b.toNat ≤ 64
      · rw [Nat.min_eq_left hk, wrap64_of h]
      · have h3 := ho.2 h
        rw [Nat.min_eq_right (by omega)] at h3 ⊢
        have h64 : ((2 : Int) ^ 64) = 18446744073709551616 := by decide
        have hz : wrap64 (a * 2 ^ 64) = 0 := by rw [h64]; unfold wrap64; omega
        rw [hz, Int.zero_ediv] at h3
        rw [hz, ← h3, Int.zero_mul]
    clear ho
    go_enter Try.func121, Try.ntmps121
    go_wp2
    all_goals go_ret2
    all_goals (refine ⟨?_, rfl⟩; simp [ansV, HW.out])
  · have h2 : (wrap64 (a * 2 ^ min b.toNat 64) / 2 ^ min b.toNat 64 != a) = true := by simpa using fun x => h (ho.1 x)
    rw [fit_no h]
    clear ho
    go_enter Try.func121, Try.ntmps121
    go_wp2
    all_goals go_ret2
    all_goals (refine ⟨?_, rfl⟩; rfl)

set_option maxHeartbeats 1000000 in
theorem magnitude_any (a : Int) (ha : inR a) (w : World) :
    Calls Try.prog 105 #[.int .i64 a] w fun e w' => e = .returned (.int .u64 (a.natAbs : Int)) ∧ w' = w := by
  have ha1 := ha.1
  have ha2 := ha.2
  go_enter Try.func105, Try.ntmps105
  go_wp2
  all_goals go_ret
  all_goals refine ⟨?_, rfl⟩
  all_goals simp [IntKind.wrap_u64]
  all_goals omega

set_option maxHeartbeats 1000000 in
theorem signed_any (a : Nat) (ha : a ≤ 18446744073709551615) (w : World) :
    Calls Try.prog 104 #[.int .u64 (a : Int)] w fun e w' => e = .returned (ansV (fit (a : Int))) ∧ w' = w := by
  by_cases h : (a : Int) ≤ 9223372036854775807
  · rw [fit_ok (by unfold inR; omega)]
    go_enter Try.func104, Try.ntmps104
    go_wp2
    all_goals go_ret2
    all_goals refine ⟨?_, rfl⟩
    all_goals simp [ansV]
  · rw [fit_no (by unfold inR; omega)]
    go_enter Try.func104, Try.ntmps104
    go_wp2
    all_goals go_ret2
    all_goals refine ⟨?_, rfl⟩
    all_goals rfl
end Go.Proofs.Ytffbhinpmlcopab

