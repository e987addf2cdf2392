import Derived.Test.YtffbhinpmlcopaaArIpz
import Derived.Test.YtffbhinpmlcopaaArIpp
import Derived.Test.YtffbhinpmlcopaaArIpn
import Derived.Test.YtffbhinpmlcopaaArInz
import Derived.Test.YtffbhinpmlcopaaArInzm
import Derived.Test.YtffbhinpmlcopaaArInp
import Derived.Test.YtffbhinpmlcopaaArInpm
import Derived.Test.YtffbhinpmlcopaaArInn
import Derived.Test.YtffbhinpmlcopaaArInnm
/- The law ArithDivides, whole. -/
namespace Go.Proofs.Ytffbhinpmlcopaa
open Go.RowKit Go.Shelf

theorem divs_all (a b c : Int) : Divs a b c (Int.gcd a b : Int) := by
  by_cases h0 : c = 0
  · exact .inl h0
  by_cases h1 : c = -1
  · exact .inr (.inl h1)
  refine .inr (.inr ⟨h0, h1, ?_⟩)
  by_cases ha : a.tmod c = 0
  · have ha' := (rem_zero a c).2 ha
    by_cases hb : b.tmod c = 0
    · have hb' := (rem_zero b c).2 hb
      have hd : c ∣ (Int.gcd a b : Int) := Int.dvd_coe_gcd (Int.dvd_of_tmod_eq_zero ha) (Int.dvd_of_tmod_eq_zero hb)
      exact .inr (.inr ⟨ha, ha', hb, hb', Int.tmod_eq_zero_of_dvd hd, Int.emod_eq_zero_of_dvd hd⟩)
    · have hb' : ¬ b % c = 0 := fun h => hb ((rem_zero b c).1 h)
      exact .inr (.inl ⟨ha, ha', by simpa using hb, by simpa using hb'⟩)
  · have ha' : ¬ a % c = 0 := fun h => ha ((rem_zero a c).1 h)
    exact .inl ⟨by simpa using ha, by simpa using ha'⟩

set_option maxRecDepth 100000 in
set_option maxHeartbeats 30000000 in
/-- Where the quotient runs over. -/
theorem divides_min (c : Int) (w : World) :
    Calls Try.prog 7 #[.int .i64 (-9223372036854775808), .int .i64 (-1), .int .i64 c] w fun e W' => e = .returned (.bool true) ∧ Below w.heap.size w W' := by
  have ha : inR (-9223372036854775808) := by simp [inR]
  have hb : inR (-1) := by simp [inR]
  have hq := op_quo _ _ ha hb
  have hr := op_rem _ _ ha hb
  have hd := op_div _ _ ha hb
  have hm := op_mod _ _ ha hb
  have hg := op_gcd _ _ ha hb
  rw [if_neg (by decide), show (-9223372036854775808 : Int).tdiv (-1) = 9223372036854775808 by decide, fit_no (by unfold inR; omega)] at hq
  rw [if_neg (by decide), show (-9223372036854775808 : Int).tmod (-1) = 0 by decide] at hr
  rw [if_neg (by decide), show flr (-9223372036854775808) (-1) = 9223372036854775808 by decide, fit_no (by unfold inR; omega)] at hd
  rw [if_neg (by decide), show lft (-9223372036854775808) (-1) = 0 by decide] at hm
  rw [show (Int.gcd (-9223372036854775808) (-1) : Int) = 1 by decide +kernel, fit_ok (by simp [inR])] at hg
  have hcc := divs_all (-9223372036854775808) (-1) c
  rw [show (Int.gcd (-9223372036854775808) (-1) : Int) = 1 by decide +kernel] at hcc
  simp only [opV] at hq hr hd hm hg
  have HCC : Hid _ := hcc
  clear hcc ha hb
  go_enter Try.func7, Try.ntmps7
  go_wp2_with fail
  refine (hq _).mono ?_
  rintro e W1 ⟨rfl, hb1⟩
  clear hq
  go_wp2_with fail
  refine (hr _).mono ?_
  rintro e W2 ⟨rfl, hb2⟩
  clear hr
  go_wp2_with fail
  refine (hd _).mono ?_
  rintro e W3 ⟨rfl, hb3⟩
  clear hd
  go_wp2_with fail
  refine (hm _).mono ?_
  rintro e W4 ⟨rfl, hb4⟩
  clear hm
  have hB2 := hb1.trans (hb2.mono hb1.size)
  have hB3 := hB2.trans (hb3.mono hB2.size)
  have HB : Hid _ := hB3.trans (hb4.mono hB3.size)
  clear hb1 hb2 hb3 hb4 hB2 hB3
  go_wp2_with fail
  refine (hg _).mono ?_
  rintro e W5 ⟨rfl, hb5⟩
  clear hg
  have HF : Hid (Below w.heap.size w W5) := HB.out.trans (hb5.mono HB.out.size)
  clear hb5 HB
  go_upto_region 20 with fail
  rcases HCC.out with hc0 | hc0 | ⟨h1, h2, ⟨h3, h3'⟩ | ⟨h3, h3', h4, h4'⟩ | ⟨h3, h3', h4, h4', h5, h5'⟩⟩
  all_goals clear HCC
  all_goals go_wp2
  all_goals go_ret
  all_goals (refine ⟨?_, HF.out⟩; first | rfl | (simp [*]; done) | trace_state)

set_option maxRecDepth 100000 in
set_option maxHeartbeats 30000000 in
/-- Where the greatest divisor runs over. -/
theorem divides_far (a c q : Int) (haq : (a = 0 ∧ q = 0) ∨ (a = -9223372036854775808 ∧ q = 1)) (w : World) :
    Calls Try.prog 7 #[.int .i64 a, .int .i64 (-9223372036854775808), .int .i64 c] w fun e W' => e = .returned (.bool true) ∧ Below w.heap.size w W' := by
  have hb : inR (-9223372036854775808) := by simp [inR]
  have ha : inR a := by rcases haq with ⟨rfl, -⟩ | ⟨rfl, -⟩ <;> simp [inR]
  have hq := op_quo _ _ ha hb
  have hr := op_rem _ _ ha hb
  have hd := op_div _ _ ha hb
  have hm := op_mod _ _ ha hb
  have hg := op_gcd _ _ ha hb
  have e1 : a.tdiv (-9223372036854775808) = q := by rcases haq with ⟨rfl, rfl⟩ | ⟨rfl, rfl⟩ <;> decide
  have e2 : a.tmod (-9223372036854775808) = 0 := by rcases haq with ⟨rfl, rfl⟩ | ⟨rfl, rfl⟩ <;> decide
  have e3 : flr a (-9223372036854775808) = q := by rcases haq with ⟨rfl, rfl⟩ | ⟨rfl, rfl⟩ <;> decide
  have e4 : lft a (-9223372036854775808) = 0 := by rcases haq with ⟨rfl, rfl⟩ | ⟨rfl, rfl⟩ <;> decide
  have e5 : (Int.gcd a (-9223372036854775808) : Int) = 9223372036854775808 := by rcases haq with ⟨rfl, rfl⟩ | ⟨rfl, rfl⟩ <;> decide +kernel
  have e6 : inR q := by rcases haq with ⟨rfl, rfl⟩ | ⟨rfl, rfl⟩ <;> simp [inR]
  rw [if_neg (by decide), e1, fit_ok e6] at hq
  rw [if_neg (by decide), e2] at hr
  rw [if_neg (by decide), e3, fit_ok e6] at hd
  rw [if_neg (by decide), e4] at hm
  rw [e5, fit_no (by unfold inR; omega)] at hg
  simp only [opV] at hq hr hd hm hg
  clear e1 e2 e3 e4 e5 e6 ha hb
  rcases haq with ⟨rfl, rfl⟩ | ⟨rfl, rfl⟩
  all_goals (
    go_enter Try.func7, Try.ntmps7
    go_wp2_with fail
    refine (hq _).mono ?_
    rintro e W1 ⟨rfl, hb1⟩
    clear hq
    go_wp2_with fail
    refine (hr _).mono ?_
    rintro e W2 ⟨rfl, hb2⟩
    clear hr
    go_wp2_with fail
    refine (hd _).mono ?_
    rintro e W3 ⟨rfl, hb3⟩
    clear hd
    go_wp2_with fail
    refine (hm _).mono ?_
    rintro e W4 ⟨rfl, hb4⟩
    clear hm
    have hB2 := hb1.trans (hb2.mono hb1.size)
    have hB3 := hB2.trans (hb3.mono hB2.size)
    have HB : Hid _ := hB3.trans (hb4.mono hB3.size)
    clear hb1 hb2 hb3 hb4 hB2 hB3
    go_wp2_with fail
    refine (hg _).mono ?_
    rintro e W5 ⟨rfl, hb5⟩
    clear hg
    have HF : Hid (Below w.heap.size w W5) := HB.out.trans (hb5.mono HB.out.size)
    clear hb5 HB
    go_wp2
    all_goals go_ret
    all_goals (refine ⟨?_, HF.out⟩; first | rfl | (simp [*]; done) | trace_state))

theorem gcd_far {a b : Int} (ha : inR a) (hb : inR b) (h0 : b ≠ 0) (h : ¬ inR (Int.gcd a b : Int)) : b = -9223372036854775808 ∧ (a = 0 ∨ a = -9223372036854775808) := by
  have h1 : (Int.gcd a b : Nat) ∣ b.natAbs := Int.gcd_dvd_natAbs_right a b
  have h2 : (Int.gcd a b : Nat) ∣ a.natAbs := Int.gcd_dvd_natAbs_left a b
  have h3 := Nat.le_of_dvd (by omega) h1
  generalize Int.gcd a b = g at *
  unfold inR at *
  have hg : g = 9223372036854775808 := by omega
  have hbe : b = -9223372036854775808 := by omega
  refine ⟨hbe, ?_⟩
  by_cases hz : a = 0
  · exact .inl hz
  · have h4 := Nat.le_of_dvd (by omega) h2
    exact .inr (by omega)

theorem divides_any (a b c : Int) (ha : inR a) (hb : inR b) (w : World) :
    Calls Try.prog 7 #[.int .i64 a, .int .i64 b, .int .i64 c] w fun e W' => e = .returned (.bool true) ∧ Below w.heap.size w W' := by
  by_cases h0 : b = 0
  · subst h0
    exact divides_zero a c ha w
  by_cases hov : b = -1 ∧ a = -9223372036854775808
  · obtain ⟨rfl, rfl⟩ := hov
    exact divides_min c w
  have hov' : b ≠ -1 ∨ a ≠ -9223372036854775808 := by omega
  by_cases hgo : inR (Int.gcd a b : Int)
  · have hq := op_quo a b ha hb
    have hr := op_rem a b ha hb
    have hd := op_div a b ha hb
    have hm := op_mod a b ha hb
    have hg := op_gcd a b ha hb
    have iq := tdiv_in (b := b) ha hov'
    have id := flr_in ha h0 hov'
    rw [if_neg h0, fit_ok iq] at hq
    rw [if_neg h0] at hr
    rw [if_neg h0, fit_ok id] at hd
    rw [if_neg h0] at hm
    rw [fit_ok hgo] at hg
    simp only [opV] at hq hr hd hm hg
    have p1 := tdiv_part a b
    have p2 := flr_part a b
    have p3 := tmod_lt (n := a) h0
    have p4 := tmod_sign a b
    have hcc := divs_all a b c
    have dA : (Int.gcd a b : Int) ∣ a := Int.gcd_dvd_left a b
    have dB : (Int.gcd a b : Int) ∣ b := Int.gcd_dvd_right a b
    have aG := Int.tmod_eq_zero_of_dvd dA
    have bG := Int.tmod_eq_zero_of_dvd dB
    have hG : 1 ≤ (Int.gcd a b : Int) ∧ (Int.gcd a b : Int) ≤ 9223372036854775807 := by
      have h1 : 0 < Int.gcd a b := Nat.pos_of_ne_zero fun h => h0 (Int.gcd_eq_zero_iff.1 h).2
      have := hgo.2
      omega
    have p5 : b < 0 → lft a b ≤ 0 ∧ b < lft a b := fun h => lft_neg h
    have p6 : 0 < b → 0 ≤ lft a b ∧ lft a b < b := fun h => lft_pos h
    have p7 : flr a b ≤ a.tdiv b := by unfold flr; split <;> omega
    have p8 : lft a b = 0 ↔ a.tmod b = 0 := by
      unfold lft offB
      split
      · rename_i h
        simp at h
        omega
      · exact Iff.rfl
    have p9 : lft a b = a.tmod b ∨ (lft a b = a.tmod b + b ∧ (a.tmod b < 0 ∧ 0 < b ∨ 0 < a.tmod b ∧ b < 0)) := by
      unfold lft offB
      split
      · rename_i h
        simp at h
        exact .inr ⟨rfl, h⟩
      · exact .inl rfl
    generalize a.tdiv b = q at *
    generalize a.tmod b = r at *
    generalize flr a b = d at *
    generalize lft a b = m at *
    generalize (Int.gcd a b : Int) = G at *
    clear iq id hgo dA dB
    have ha' := ha
    have hb' := hb
    unfold inR at ha' hb'
    generalize hX : q * b = X at *
    generalize hY : d * b = Y at *
    have bools : ((r == 0) = true ∧ (m == 0) = true ∧ r = 0 ∧ m = 0) ∨ ((r == 0) = false ∧ (m == 0) = false ∧ r ≠ 0 ∧ m ≠ 0) := by
      by_cases hr0 : r = 0
      · have hm0 := p8.2 hr0
        exact .inl ⟨by simp [hr0], by simp [hm0], hr0, hm0⟩
      · have hm0 : m ≠ 0 := fun h => hr0 (p8.1 h)
        exact .inr ⟨by simp [hr0], by simp [hm0], hr0, hm0⟩
    have bmin : ((b != -9223372036854775808) = true ∧ b ≠ -9223372036854775808) ∨ ((b != -9223372036854775808) = false ∧ b = -9223372036854775808) := by
      by_cases h : b = -9223372036854775808
      · exact .inr ⟨by simp [h], h⟩
      · exact .inl ⟨by simp [h], h⟩
    have l1 : q * b + r ≤ a := by omega
    have l2 : a ≤ q * b + r := by omega
    have l3 : -9223372036854775808 ≤ q * b ∧ q * b ≤ 9223372036854775807 := by omega
    have l4 : (wrap64 (wrap64 (d * b) + m) != a) = false := by
      have : wrap64 (wrap64 (d * b) + m) = a := by
        rw [hY]
        unfold wrap64
        omega
      simp [this]
    rcases Int.lt_or_gt_of_ne h0 with hs | hs
    · rcases bools with ⟨t1, t2, t3, t4⟩ | ⟨t1, t2, t3, t4⟩
      · rcases bmin with ⟨n1, n2⟩ | ⟨n1, n2⟩
        · exact divides_nz a b c q r d m G ha hb h0 w hq hr hd hm hg l1 l2 l3 l4 p7 hG aG bG hcc hs (by omega) (by omega) t1 t2 n1 (by omega)
        · exact divides_nzm a b c q r d m G ha hb h0 w hq hr hd hm hg l1 l2 l3 l4 p7 hG aG bG hcc hs (by omega) (by omega) t1 t2 n1
      · rcases Int.lt_or_gt_of_ne t3 with hr0 | hr0
        · rcases bmin with ⟨n1, n2⟩ | ⟨n1, n2⟩
          · exact divides_nn a b c q r d m G ha hb h0 w hq hr hd hm hg l1 l2 l3 l4 p7 hG aG bG hcc hs (by omega) (by omega) t1 t2 (by omega) n1 (by omega)
          · exact divides_nnm a b c q r d m G ha hb h0 w hq hr hd hm hg l1 l2 l3 l4 p7 hG aG bG hcc hs (by omega) (by omega) t1 t2 (by omega) n1
        · rcases bmin with ⟨n1, n2⟩ | ⟨n1, n2⟩
          · exact divides_np a b c q r d m G ha hb h0 w hq hr hd hm hg l1 l2 l3 l4 p7 hG aG bG hcc hs (by omega) (by omega) t1 t2 (by omega) n1 (by omega)
          · exact divides_npm a b c q r d m G ha hb h0 w hq hr hd hm hg l1 l2 l3 l4 p7 hG aG bG hcc hs (by omega) (by omega) t1 t2 (by omega) n1
    · rcases bools with ⟨t1, t2, t3, t4⟩ | ⟨t1, t2, t3, t4⟩
      · exact divides_pz a b c q r d m G ha hb h0 w hq hr hd hm hg l1 l2 l3 l4 p7 hG aG bG hcc hs (by omega) (by omega) t1 t2
      · rcases Int.lt_or_gt_of_ne t3 with hr0 | hr0
        · exact divides_pn a b c q r d m G ha hb h0 w hq hr hd hm hg l1 l2 l3 l4 p7 hG aG bG hcc hs (by omega) (by omega) t1 t2 (by omega)
        · exact divides_pp a b c q r d m G ha hb h0 w hq hr hd hm hg l1 l2 l3 l4 p7 hG aG bG hcc hs (by omega) (by omega) t1 t2 (by omega)
  · obtain ⟨rfl, h⟩ := gcd_far ha hb h0 hgo
    rcases h with rfl | rfl
    · exact divides_far 0 c 0 (.inl ⟨rfl, rfl⟩) w
    · exact divides_far _ c 1 (.inr ⟨rfl, rfl⟩) w
end Go.Proofs.Ytffbhinpmlcopaa

