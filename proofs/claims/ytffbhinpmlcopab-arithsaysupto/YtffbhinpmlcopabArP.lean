import Derived.Test.YtffbhinpmlcopabArO
import Derived.Test.YtffbhinpmlcopabArF
/- hornref's numbers: shifted. -/
namespace Go.Proofs.Ytffbhinpmlcopab
open Go.RowKit Go.Shelf

theorem shl_grows {a : Int} {k : Nat} (h : ¬ inR (a * 2 ^ k)) (d : Nat) : ¬ inR (a * 2 ^ (k + d)) := by
  rw [Int.pow_add, ← Int.mul_assoc]
  have hp := pow_pos d
  generalize a * 2 ^ k = p at *
  generalize (2 : Int) ^ d = q at *
  unfold inR at *
  intro hc
  by_cases h0 : 0 ≤ p
  · have : p * 1 ≤ p * q := Int.mul_le_mul_of_nonneg_left (by omega) h0
    omega
  · have : (-p) * 1 ≤ (-p) * q := Int.mul_le_mul_of_nonneg_left (by omega) (by omega)
    have e : -p * q = -(p * q) := Int.neg_mul p q
    rw [e] at this
    omega
set_option maxRecDepth 100000 in
set_option maxHeartbeats 4000000 in
theorem rshl_any (s : ByteArray) (hs : (s.toList == [60, 60]) = true) (a b : Int) (ha : inR a) (hb : inR b) (w : World) :
    Calls Try.prog 69 #[.string s, .int .i64 a, .int .i64 b] w fun e w' => e = .returned (ansV (if b < 0 then .error sNeg else fit (a * 2 ^ b.toNat))) ∧ Below w.heap.size w w' := by
  have hB : Below w.heap.size w w := Below.refl _ _
  have hsE : sOvf.toList.isEmpty = false := by decide +kernel
  by_cases hn : b < 0
  · rw [if_pos hn]
    go_enter Try.func69, Try.ntmps69
    go_wp2
    all_goals go_ret2
    all_goals exact ⟨rfl, hB⟩
  rw [if_neg hn]
  have hb0 : 0 ≤ b := by omega
  have hb1 := hb.2
  clear hn
  obtain ⟨c, hc⟩ : ∃ c : Nat, b = c := ⟨b.toNat, by omega⟩
  subst hc
  simp only [Int.toNat_natCast]
  have HP : Hid (∀ (k : Nat) (w : World), inR (a * 2 ^ k) → Calls Try.prog 65 #[.int .i64 (a * 2 ^ k), .int .i64 2] w fun e w' => e = .returned (ansV (fit (a * 2 ^ (k + 1)))) ∧ Below w.heap.size w w') := fun k w h => by
    have := rtimes_any (a * 2 ^ k) 2 h (by simp [inR]) w
    rw [Int.mul_assoc, ← Int.pow_succ] at this
    exact this
  have HF : Hid (∀ k : Nat, k ≤ c → (¬ inR (a * 2 ^ k) → fit (a * 2 ^ c) = .error sOvf) ∧ (k = c → inR (a * 2 ^ k) → fit (a * 2 ^ c) = .ok (a * 2 ^ k)) ∧ (a = 0 → fit (a * 2 ^ c) = .ok 0)) := fun k hk =>
    ⟨fun hn => by
      have := shl_grows hn (c - k)
      rw [show k + (c - k) = c by omega] at this
      exact fit_no this, fun e hi => by rw [← e]; exact fit_ok hi, fun h => by rw [h, Int.zero_mul]; exact fit_ok (by simp [inR])⟩
  have HZ : Hid (inR (a * 2 ^ 0)) := by show inR (a * 2 ^ 0); simpa using ha
  have HNZ : Hid (∀ k : Nat, a ≠ 0 → (a * 2 ^ k != 0) = true) := fun k h => by
    have hp := pow_pos k
    have : a * 2 ^ k ≠ 0 := fun h2 => by
      rcases Int.mul_eq_zero.1 h2 with h3 | h3
      · exact h h3
      · omega
    simpa using this
  generalize hX : fit (a * 2 ^ c) = X at *
  clear hX ha hb hb0
  go_enter Try.func69, Try.ntmps69
  go_wp2_with fail
  go_loopw [1, 8, 9] (fun x r i wr => ∃ k : Nat, k ≤ c ∧ i = .int .i64 k ∧ ((x = .int .i64 (a * 2 ^ k) ∧ r = .string ⟨#[]⟩ ∧ inR (a * 2 ^ k)) ∨ (x = .int .i64 0 ∧ r = .string sOvf ∧ ¬ inR (a * 2 ^ k))) ∧ Below w.heap.size w wr) (fun _ _ i _ => c - (intOf i).toNat)
  case atStart => exact ⟨0, Nat.zero_le _, rfl, .inl ⟨by simp, rfl, HZ.out⟩, hB⟩
  case round =>
    obtain ⟨k, hk, rfl, (⟨rfl, rfl, hin⟩ | ⟨rfl, rfl, hno⟩), hBr⟩ := hrel
    · by_cases hlt : k < c
      · by_cases h0 : a = 0
        · have HX : Hid (X = .ok 0) := (HF.out k hk).2.2 h0
          have hz : a * 2 ^ k = 0 := by rw [h0, Int.zero_mul]
          rw [hz]
          clear hin hz h0
          go_wp2_with fail
          go_ret2
          exact ⟨by rw [HX.out]; rfl, hBr⟩
        · have hp := HP.out k wr hin
          have hnz := HNZ.out k h0
          clear h0
          by_cases hnx : inR (a * 2 ^ (k + 1))
          · rw [fit_ok hnx] at hp
            simp only [ansV] at hp
            have HN : Hid (inR (a * 2 ^ (k + 1))) := hnx
            clear hnx hin
            generalize hA : a * 2 ^ (k + 1) = A at *
            have HA : Hid (a * 2 ^ (k + 1) = A) := hA
            clear hA
            generalize a * 2 ^ k = P at *
            go_wp2_with fail
            refine hp.mono ?_
            rintro e w' ⟨rfl, hb'⟩
            clear hp
            go_wp2_with fail
            go_roundw
            case rel => exact ⟨k + 1, by omega, by go_num, .inl ⟨by rw [HA.out], rfl, by rw [HA.out]; exact HN.out⟩, hBr.trans (hb'.mono hBr.size)⟩
            case measure => simp [intOf]; omega
          · rw [fit_no hnx] at hp
            simp only [ansV] at hp
            have HN : Hid (¬ inR (a * 2 ^ (k + 1))) := hnx
            clear hnx hin
            generalize a * 2 ^ k = P at *
            go_wp2_with fail
            refine hp.mono ?_
            rintro e w' ⟨rfl, hb'⟩
            clear hp
            go_wp2_with fail
            go_roundw
            case rel => exact ⟨k + 1, by omega, by go_num, .inr ⟨rfl, rfl, HN.out⟩, hBr.trans (hb'.mono hBr.size)⟩
            case measure => simp [intOf]; omega
      · have HX : Hid (X = .ok (a * 2 ^ k)) := ((HF.out k hk).2.1 (by omega) hin)
        go_wp2_with fail
        go_ret2
        exact ⟨by rw [HX.out]; rfl, hBr⟩
    · have HX : Hid (X = .error sOvf) := ((HF.out k hk).1 hno)
      by_cases hlt : k < c
      · go_wp2_with fail
        go_ret2
        exact ⟨by rw [HX.out]; rfl, hBr⟩
      · go_wp2_with fail
        go_ret2
        exact ⟨by rw [HX.out]; rfl, hBr⟩

theorem divName : nameIs ⟨#[100, 105, 118]⟩ 2 := by
  have h : (⟨#[100, 105, 118]⟩ : ByteArray).toList = [100, 105, 118] := by decide +kernel
  unfold nameIs
  rw [h]
  decide
theorem ediv_pow (a : Int) (k : Nat) : a / 2 ^ k / 2 = a / 2 ^ (k + 1) := by
  rw [Int.pow_succ, Int.ediv_ediv_of_nonneg (Int.le_of_lt (pow_pos k))]
theorem shr_stays {a : Int} {k : Nat} (h : a / 2 ^ k = 0 ∨ a / 2 ^ k = -1) : ∀ d, a / 2 ^ (k + d) = a / 2 ^ k
  | 0 => rfl
  | d + 1 => by
    rw [← Nat.add_assoc, ← ediv_pow, shr_stays h d]
    rcases h with h | h <;> rw [h] <;> decide
theorem shr_min {a : Int} (ha : inR a) (k : Nat) : a / 2 ^ min k 64 = a / 2 ^ k := by
  by_cases hk : k ≤ 64
  · rw [Nat.min_eq_left hk]
  · rw [Nat.min_eq_right (by omega)]
    have h64 : ((2 : Int) ^ 64) = 18446744073709551616 := by decide
    have h : a / 2 ^ 64 = 0 ∨ a / 2 ^ 64 = -1 := by rw [h64]; unfold inR at ha; omega
    have := shr_stays h (k - 64)
    rw [show 64 + (k - 64) = k by omega] at this
    exact this.symm
set_option maxRecDepth 100000 in
set_option maxHeartbeats 4000000 in
theorem rshr_any (s : ByteArray) (hs : (s.toList == [60, 60]) = false) (a b : Int) (ha : inR a) (hb : inR b) (w : World) :
    Calls Try.prog 69 #[.string s, .int .i64 a, .int .i64 b] w fun e w' => e = .returned (ansV (if b < 0 then .error sNeg else .ok (a / 2 ^ b.toNat))) ∧ Below w.heap.size w w' := by
  have hB : Below w.heap.size w w := Below.refl _ _
  by_cases hn : b < 0
  · rw [if_pos hn]
    go_enter Try.func69, Try.ntmps69
    go_wp2
    all_goals go_ret2
    all_goals exact ⟨rfl, hB⟩
  rw [if_neg hn]
  have hb0 : 0 ≤ b := by omega
  have hb1 := hb.2
  clear hn
  obtain ⟨c, hc⟩ : ∃ c : Nat, b = c := ⟨b.toNat, by omega⟩
  subst hc
  simp only [Int.toNat_natCast]
  have HP : Hid (∀ (k : Nat) (w : World), Calls Try.prog 66 #[.string ⟨#[100, 105, 118]⟩, .int .i64 (a / 2 ^ k), .int .i64 2] w fun e w' => e = .returned (.tuple #[.int .i64 (a / 2 ^ (k + 1)), .string ⟨#[]⟩]) ∧ Below w.heap.size w w') := fun k w => by
    have h := rparted_any ⟨#[100, 105, 118]⟩ 2 (by omega) divName (a / 2 ^ k) 2 (shr_in ha k) (by simp [inR]) w
    have e1 : partK 2 (a / 2 ^ k) 2 = .ok (a / 2 ^ (k + 1)) := by
      unfold partK
      rw [if_neg (by decide), if_neg (by decide), if_neg (by decide), if_pos rfl, flr_ediv (by decide), ediv_pow]
      exact fit_ok (shr_in ha _)
    rw [e1] at h
    exact h
  have HS : Hid (∀ k : Nat, k ≤ c → (a / 2 ^ k = 0 ∨ a / 2 ^ k = -1) → a / 2 ^ c = a / 2 ^ k) := fun k hk h => by
    have := shr_stays h (c - k)
    rw [show k + (c - k) = c by omega] at this
    exact this
  clear ha hb hb0
  go_enter Try.func69, Try.ntmps69
  go_wp2_with fail
  go_loopw [1, 8, 9] (fun x r i wr => ∃ k : Nat, k ≤ c ∧ i = .int .i64 k ∧ x = .int .i64 (a / 2 ^ k) ∧ r = .string ⟨#[]⟩ ∧ Below w.heap.size w wr) (fun _ _ i _ => c - (intOf i).toNat)
  case atStart => exact ⟨0, Nat.zero_le _, rfl, by simp, rfl, hB⟩
  case round =>
    obtain ⟨k, hk, rfl, rfl, rfl, hBr⟩ := hrel
    by_cases hlt : k < c
    · by_cases h0 : a / 2 ^ k = 0
      · have HX : Hid (a / 2 ^ c = 0) := by rw [HS.out k hk (.inl h0)]; exact h0
        rw [h0]
        clear h0
        go_wp2_with fail
        go_ret2
        exact ⟨by rw [HX.out]; rfl, hBr⟩
      · have hnz : (a / 2 ^ k != 0) = true := by simpa using h0
        clear h0
        by_cases h1 : a / 2 ^ k = -1
        · have HX : Hid (a / 2 ^ c = -1) := by rw [HS.out k hk (.inr h1)]; exact h1
          rw [h1]
          clear h1 hnz
          go_wp2_with fail
          go_ret2
          exact ⟨by rw [HX.out]; rfl, hBr⟩
        · have hm1 : (a / 2 ^ k == -1) = false := by simpa using h1
          clear h1
          have hp := HP.out k wr
          generalize hA : a / 2 ^ (k + 1) = A at *
          have HA : Hid (a / 2 ^ (k + 1) = A) := hA
          clear hA
          generalize a / 2 ^ k = P at *
          go_wp2_with fail
          refine hp.mono ?_
          rintro e w' ⟨rfl, hb'⟩
          clear hp
          go_wp2_with fail
          go_roundw
          case rel => exact ⟨k + 1, by omega, by go_num, by rw [HA.out], rfl, hBr.trans (hb'.mono hBr.size)⟩
          case measure => simp [intOf]; omega
    · have hkc : k = c := by omega
      subst hkc
      go_wp2_with fail
      go_ret2
      exact ⟨rfl, hBr⟩
end Go.Proofs.Ytffbhinpmlcopab

