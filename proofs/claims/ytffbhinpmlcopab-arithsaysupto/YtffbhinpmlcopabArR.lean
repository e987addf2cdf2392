import Derived.Test.YtffbhinpmlcopabArP
import Derived.Test.YtffbhinpmlcopabArQ
import Derived.Test.YtffbhinpmlcopabArD
/- hornref's unary, binary and evaluable. -/
namespace Go.Proofs.Ytffbhinpmlcopab
open Go.RowKit Go.Shelf

set_option maxRecDepth 100000 in
set_option maxHeartbeats 4000000 in
theorem rbin_sum (s : ByteArray) (hL : s.toList = [43]) (a b : Int) (ha : inR a) (hb : inR b) (w : World) :
    Calls Try.prog 37 #[.string s, .int .i64 a, .int .i64 b] w fun e w' => e = .returned (ansV (fit (a + b))) ∧ Below w.heap.size w w' := by
  have hB : Below w.heap.size w w := Below.refl _ _
  have a1 := ha.1
  have a2 := ha.2
  have b1 := hb.1
  have b2 := hb.2
  clear ha hb
  by_cases h : inR (a + b)
  · have h1 := h.1
    have h2 := h.2
    rw [fit_ok h]
    clear h
    go_enter Try.func37, Try.ntmps37
    go_wp2
    all_goals go_ret2
    all_goals (first | exact ⟨rfl, hB⟩ | (exfalso; omega))
  · rw [fit_no h]
    have h1 : 9223372036854775807 < a + b ∨ a + b < -9223372036854775808 := by unfold inR at h; omega
    clear h
    rcases h1 with h1 | h1
    all_goals go_enter Try.func37, Try.ntmps37
    all_goals go_wp2
    all_goals go_ret2
    all_goals (first | exact ⟨rfl, hB⟩ | (exfalso; omega))
set_option maxRecDepth 100000 in
set_option maxHeartbeats 4000000 in
theorem rbin_dif (s : ByteArray) (hL : s.toList = [45]) (a b : Int) (ha : inR a) (hb : inR b) (w : World) :
    Calls Try.prog 37 #[.string s, .int .i64 a, .int .i64 b] w fun e w' => e = .returned (ansV (fit (a - b))) ∧ Below w.heap.size w w' := by
  have hB : Below w.heap.size w w := Below.refl _ _
  have a1 := ha.1
  have a2 := ha.2
  have b1 := hb.1
  have b2 := hb.2
  clear ha hb
  by_cases h : inR (a - b)
  · have h1 := h.1
    have h2 := h.2
    rw [fit_ok h]
    clear h
    go_enter Try.func37, Try.ntmps37
    go_wp2
    all_goals go_ret2
    all_goals (first | exact ⟨rfl, hB⟩ | (exfalso; omega))
  · rw [fit_no h]
    have h1 : 9223372036854775807 < a - b ∨ a - b < -9223372036854775808 := by unfold inR at h; omega
    clear h
    rcases h1 with h1 | h1
    all_goals go_enter Try.func37, Try.ntmps37
    all_goals go_wp2
    all_goals go_ret2
    all_goals (first | exact ⟨rfl, hB⟩ | (exfalso; omega))
set_option maxRecDepth 100000 in
set_option maxHeartbeats 4000000 in
theorem rbin_mul (s : ByteArray) (hL : s.toList = [42]) (a b : Int) (ha : inR a) (hb : inR b) (w : World) :
    Calls Try.prog 37 #[.string s, .int .i64 a, .int .i64 b] w fun e w' => e = .returned (ansV (fit (a * b))) ∧ Below w.heap.size w w' := by
  have hB : Below w.heap.size w w := Below.refl _ _
  obtain ⟨n, s', hv⟩ := ansV_shape (fit (a * b))
  have hc := rtimes_any a b ha hb w
  rw [hv] at hc ⊢
  clear hv
  go_enter Try.func37, Try.ntmps37
  go_wp2_with fail
  refine hc.mono ?_
  rintro e w' ⟨rfl, hb'⟩
  clear hc
  go_wp2
  all_goals go_ret2
  all_goals exact ⟨rfl, hb'⟩
set_option maxRecDepth 100000 in
set_option maxHeartbeats 4000000 in
theorem rbin_quo (s : ByteArray) (hL : s.toList = [47, 47]) (a b : Int) (ha : inR a) (hb : inR b) (w : World) :
    Calls Try.prog 37 #[.string s, .int .i64 a, .int .i64 b] w fun e w' => e = .returned (ansV (partK 0 a b)) ∧ Below w.heap.size w w' := by
  have hB : Below w.heap.size w w := Below.refl _ _
  have hn : nameIs s 0 := by unfold nameIs; rw [hL]; decide
  obtain ⟨n, s', hv⟩ := ansV_shape (partK 0 a b)
  have hc := rparted_any s 0 (by omega) hn a b ha hb w
  rw [hv] at hc ⊢
  clear hv
  go_enter Try.func37, Try.ntmps37
  go_wp2_with fail
  refine hc.mono ?_
  rintro e w' ⟨rfl, hb'⟩
  clear hc
  go_wp2
  all_goals go_ret2
  all_goals exact ⟨rfl, hb'⟩
set_option maxRecDepth 100000 in
set_option maxHeartbeats 4000000 in
theorem rbin_rem (s : ByteArray) (hL : s.toList = [114, 101, 109]) (a b : Int) (ha : inR a) (hb : inR b) (w : World) :
    Calls Try.prog 37 #[.string s, .int .i64 a, .int .i64 b] w fun e w' => e = .returned (ansV (partK 1 a b)) ∧ Below w.heap.size w w' := by
  have hB : Below w.heap.size w w := Below.refl _ _
  have hn : nameIs s 1 := by unfold nameIs; rw [hL]; decide
  obtain ⟨n, s', hv⟩ := ansV_shape (partK 1 a b)
  have hc := rparted_any s 1 (by omega) hn a b ha hb w
  rw [hv] at hc ⊢
  clear hv
  go_enter Try.func37, Try.ntmps37
  go_wp2_with fail
  refine hc.mono ?_
  rintro e w' ⟨rfl, hb'⟩
  clear hc
  go_wp2
  all_goals go_ret2
  all_goals exact ⟨rfl, hb'⟩
set_option maxRecDepth 100000 in
set_option maxHeartbeats 4000000 in
theorem rbin_div (s : ByteArray) (hL : s.toList = [100, 105, 118]) (a b : Int) (ha : inR a) (hb : inR b) (w : World) :
    Calls Try.prog 37 #[.string s, .int .i64 a, .int .i64 b] w fun e w' => e = .returned (ansV (partK 2 a b)) ∧ Below w.heap.size w w' := by
  have hB : Below w.heap.size w w := Below.refl _ _
  have hn : nameIs s 2 := by unfold nameIs; rw [hL]; decide
  obtain ⟨n, s', hv⟩ := ansV_shape (partK 2 a b)
  have hc := rparted_any s 2 (by omega) hn a b ha hb w
  rw [hv] at hc ⊢
  clear hv
  go_enter Try.func37, Try.ntmps37
  go_wp2_with fail
  refine hc.mono ?_
  rintro e w' ⟨rfl, hb'⟩
  clear hc
  go_wp2
  all_goals go_ret2
  all_goals exact ⟨rfl, hb'⟩
set_option maxRecDepth 100000 in
set_option maxHeartbeats 4000000 in
theorem rbin_mod (s : ByteArray) (hL : s.toList = [109, 111, 100]) (a b : Int) (ha : inR a) (hb : inR b) (w : World) :
    Calls Try.prog 37 #[.string s, .int .i64 a, .int .i64 b] w fun e w' => e = .returned (ansV (partK 3 a b)) ∧ Below w.heap.size w w' := by
  have hB : Below w.heap.size w w := Below.refl _ _
  have hn : nameIs s 3 := by unfold nameIs; rw [hL]; decide
  obtain ⟨n, s', hv⟩ := ansV_shape (partK 3 a b)
  have hc := rparted_any s 3 (by omega) hn a b ha hb w
  rw [hv] at hc ⊢
  clear hv
  go_enter Try.func37, Try.ntmps37
  go_wp2_with fail
  refine hc.mono ?_
  rintro e w' ⟨rfl, hb'⟩
  clear hc
  go_wp2
  all_goals go_ret2
  all_goals exact ⟨rfl, hb'⟩
set_option maxRecDepth 100000 in
set_option maxHeartbeats 4000000 in
theorem rbin_min (s : ByteArray) (hL : s.toList = [109, 105, 110]) (a b : Int) (_ha : inR a) (_hb : inR b) (w : World) :
    Calls Try.prog 37 #[.string s, .int .i64 a, .int .i64 b] w fun e w' => e = .returned (ansV (.ok (min a b))) ∧ Below w.heap.size w w' := by
  have hB : Below w.heap.size w w := Below.refl _ _
  go_enter Try.func37, Try.ntmps37
  go_wp2
  all_goals go_ret2
  all_goals (refine ⟨?_, hB⟩; simp [ansV]; omega)
set_option maxRecDepth 100000 in
set_option maxHeartbeats 4000000 in
theorem rbin_max (s : ByteArray) (hL : s.toList = [109, 97, 120]) (a b : Int) (_ha : inR a) (_hb : inR b) (w : World) :
    Calls Try.prog 37 #[.string s, .int .i64 a, .int .i64 b] w fun e w' => e = .returned (ansV (.ok (max a b))) ∧ Below w.heap.size w w' := by
  have hB : Below w.heap.size w w := Below.refl _ _
  go_enter Try.func37, Try.ntmps37
  go_wp2
  all_goals go_ret2
  all_goals (refine ⟨?_, hB⟩; simp [ansV]; omega)
set_option maxRecDepth 100000 in
set_option maxHeartbeats 4000000 in
theorem rbin_gcd (s : ByteArray) (hL : s.toList = [103, 99, 100]) (a b : Int) (ha : inR a) (hb : inR b) (w : World) :
    Calls Try.prog 37 #[.string s, .int .i64 a, .int .i64 b] w fun e w' => e = .returned (ansV (fit (Int.gcd a b : Int))) ∧ Below w.heap.size w w' := by
  have hB : Below w.heap.size w w := Below.refl _ _
  obtain ⟨n, s', hv⟩ := ansV_shape (fit (Int.gcd a b : Int))
  have hc := rdivisor_any a b ha hb w
  rw [hv] at hc ⊢
  clear hv
  go_enter Try.func37, Try.ntmps37
  go_wp2_with fail
  refine hc.mono ?_
  rintro e w' ⟨rfl, hb'⟩
  clear hc
  go_wp2
  all_goals go_ret2
  all_goals exact ⟨rfl, hb'⟩
set_option maxRecDepth 100000 in
set_option maxHeartbeats 4000000 in
theorem rbin_pwa (s : ByteArray) (hL : s.toList = [42, 42]) (a b : Int) (ha : inR a) (hb : inR b) (w : World) :
    Calls Try.prog 37 #[.string s, .int .i64 a, .int .i64 b] w fun e w' => e = .returned (ansV (if b < 0 then .error sNeg else fit (a ^ b.toNat))) ∧ Below w.heap.size w w' := by
  have hB : Below w.heap.size w w := Below.refl _ _
  obtain ⟨n, s', hv⟩ := ansV_shape (if b < 0 then .error sNeg else fit (a ^ b.toNat))
  have hc := rpower_any a b ha hb w
  rw [hv] at hc ⊢
  clear hv
  go_enter Try.func37, Try.ntmps37
  go_wp2_with fail
  refine hc.mono ?_
  rintro e w' ⟨rfl, hb'⟩
  clear hc
  go_wp2
  all_goals go_ret2
  all_goals exact ⟨rfl, hb'⟩
set_option maxRecDepth 100000 in
set_option maxHeartbeats 4000000 in
theorem rbin_pwb (s : ByteArray) (hL : s.toList = [94]) (a b : Int) (ha : inR a) (hb : inR b) (w : World) :
    Calls Try.prog 37 #[.string s, .int .i64 a, .int .i64 b] w fun e w' => e = .returned (ansV (if b < 0 then .error sNeg else fit (a ^ b.toNat))) ∧ Below w.heap.size w w' := by
  have hB : Below w.heap.size w w := Below.refl _ _
  obtain ⟨n, s', hv⟩ := ansV_shape (if b < 0 then .error sNeg else fit (a ^ b.toNat))
  have hc := rpower_any a b ha hb w
  rw [hv] at hc ⊢
  clear hv
  go_enter Try.func37, Try.ntmps37
  go_wp2_with fail
  refine hc.mono ?_
  rintro e w' ⟨rfl, hb'⟩
  clear hc
  go_wp2
  all_goals go_ret2
  all_goals exact ⟨rfl, hb'⟩
set_option maxRecDepth 100000 in
set_option maxHeartbeats 4000000 in
theorem rbin_shl (s : ByteArray) (hL : s.toList = [60, 60]) (a b : Int) (ha : inR a) (hb : inR b) (w : World) :
    Calls Try.prog 37 #[.string s, .int .i64 a, .int .i64 b] w fun e w' => e = .returned (ansV (if b < 0 then .error sNeg else fit (a * 2 ^ b.toNat))) ∧ Below w.heap.size w w' := by
  have hB : Below w.heap.size w w := Below.refl _ _
  obtain ⟨n, s', hv⟩ := ansV_shape (if b < 0 then .error sNeg else fit (a * 2 ^ b.toNat))
  have hc := rshl_any s (by rw [hL]; decide) a b ha hb w
  rw [hv] at hc ⊢
  clear hv
  go_enter Try.func37, Try.ntmps37
  go_wp2_with fail
  refine hc.mono ?_
  rintro e w' ⟨rfl, hb'⟩
  clear hc
  go_wp2
  all_goals go_ret2
  all_goals exact ⟨rfl, hb'⟩
set_option maxRecDepth 100000 in
set_option maxHeartbeats 4000000 in
theorem rbin_shr (s : ByteArray) (hL : s.toList = [62, 62]) (a b : Int) (ha : inR a) (hb : inR b) (w : World) :
    Calls Try.prog 37 #[.string s, .int .i64 a, .int .i64 b] w fun e w' => e = .returned (ansV (if b < 0 then .error sNeg else .ok (a / 2 ^ min b.toNat 64))) ∧ Below w.heap.size w w' := by
  have hB : Below w.heap.size w w := Below.refl _ _
  rw [shr_min ha]
  obtain ⟨n, s', hv⟩ := ansV_shape (if b < 0 then .error sNeg else .ok (a / 2 ^ b.toNat))
  have hc := rshr_any s (by rw [hL]; decide) a b ha hb w
  rw [hv] at hc ⊢
  clear hv
  go_enter Try.func37, Try.ntmps37
  go_wp2_with fail
  refine hc.mono ?_
  rintro e w' ⟨rfl, hb'⟩
  clear hc
  go_wp2
  all_goals go_ret2
  all_goals exact ⟨rfl, hb'⟩
set_option maxRecDepth 100000 in
set_option maxHeartbeats 4000000 in
theorem rbin_and (s : ByteArray) (hL : s.toList = [47, 92]) (a b : Int) (_ha : inR a) (_hb : inR b) (w : World) :
    Calls Try.prog 37 #[.string s, .int .i64 a, .int .i64 b] w fun e w' => e = .returned (ansV (.ok (bits .and .i64 a b))) ∧ Below w.heap.size w w' := by
  have hB : Below w.heap.size w w := Below.refl _ _
  have hc := rbitwise_any s 0 (by omega) (by unfold bitName; rw [hL]; decide) a b w
  have e : bopI 0 a b = bits .and .i64 a b := rfl
  rw [e] at hc
  clear e
  generalize bits .and .i64 a b = n at *
  go_enter Try.func37, Try.ntmps37
  go_wp2_with fail
  refine hc.mono ?_
  rintro e w' ⟨rfl, hb'⟩
  clear hc
  go_wp2
  all_goals go_ret2
  all_goals exact ⟨rfl, hb'⟩
set_option maxRecDepth 100000 in
set_option maxHeartbeats 4000000 in
theorem rbin_orr (s : ByteArray) (hL : s.toList = [92, 47]) (a b : Int) (_ha : inR a) (_hb : inR b) (w : World) :
    Calls Try.prog 37 #[.string s, .int .i64 a, .int .i64 b] w fun e w' => e = .returned (ansV (.ok (bits .or .i64 a b))) ∧ Below w.heap.size w w' := by
  have hB : Below w.heap.size w w := Below.refl _ _
  have hc := rbitwise_any s 1 (by omega) (by unfold bitName; rw [hL]; decide) a b w
  have e : bopI 1 a b = bits .or .i64 a b := rfl
  rw [e] at hc
  clear e
  generalize bits .or .i64 a b = n at *
  go_enter Try.func37, Try.ntmps37
  go_wp2_with fail
  refine hc.mono ?_
  rintro e w' ⟨rfl, hb'⟩
  clear hc
  go_wp2
  all_goals go_ret2
  all_goals exact ⟨rfl, hb'⟩
set_option maxRecDepth 100000 in
set_option maxHeartbeats 4000000 in
theorem rbin_xor (s : ByteArray) (hL : s.toList = [120, 111, 114]) (a b : Int) (_ha : inR a) (_hb : inR b) (w : World) :
    Calls Try.prog 37 #[.string s, .int .i64 a, .int .i64 b] w fun e w' => e = .returned (ansV (.ok (bits .xor .i64 a b))) ∧ Below w.heap.size w w' := by
  have hB : Below w.heap.size w w := Below.refl _ _
  have hc := rbitwise_any s 2 (by omega) (by unfold bitName; rw [hL]; decide) a b w
  have e : bopI 2 a b = bits .xor .i64 a b := rfl
  rw [e] at hc
  clear e
  generalize bits .xor .i64 a b = n at *
  go_enter Try.func37, Try.ntmps37
  go_wp2_with fail
  refine hc.mono ?_
  rintro e w' ⟨rfl, hb'⟩
  clear hc
  go_wp2
  all_goals go_ret2
  all_goals exact ⟨rfl, hb'⟩
/-- binary does what the name does. -/
theorem rbinary_any (s : ByteArray) (f : Int → Int → Except ByteArray Int) (hf : twoOp s.toList = some f) (a b : Int) (ha : inR a) (hb : inR b) (w : World) :
    Calls Try.prog 37 #[.string s, .int .i64 a, .int .i64 b] w fun e w' => e = .returned (ansV (f a b)) ∧ Below w.heap.size w w' := by
  unfold twoOp at hf
  by_cases h_sum : s.toList = [43]
  · rw [h_sum] at hf
    cases (show some _ = some f from hf)
    exact rbin_sum s h_sum a b ha hb w
  rw [if_neg (by simpa using h_sum)] at hf
  by_cases h_dif : s.toList = [45]
  · rw [h_dif] at hf
    cases (show some _ = some f from hf)
    exact rbin_dif s h_dif a b ha hb w
  rw [if_neg (by simpa using h_dif)] at hf
  by_cases h_mul : s.toList = [42]
  · rw [h_mul] at hf
    cases (show some _ = some f from hf)
    exact rbin_mul s h_mul a b ha hb w
  rw [if_neg (by simpa using h_mul)] at hf
  by_cases h_quo : s.toList = [47, 47]
  · rw [h_quo] at hf
    cases (show some _ = some f from hf)
    exact rbin_quo s h_quo a b ha hb w
  rw [if_neg (by simpa using h_quo)] at hf
  by_cases h_rem : s.toList = [114, 101, 109]
  · rw [h_rem] at hf
    cases (show some _ = some f from hf)
    exact rbin_rem s h_rem a b ha hb w
  rw [if_neg (by simpa using h_rem)] at hf
  by_cases h_div : s.toList = [100, 105, 118]
  · rw [h_div] at hf
    cases (show some _ = some f from hf)
    exact rbin_div s h_div a b ha hb w
  rw [if_neg (by simpa using h_div)] at hf
  by_cases h_mod : s.toList = [109, 111, 100]
  · rw [h_mod] at hf
    cases (show some _ = some f from hf)
    exact rbin_mod s h_mod a b ha hb w
  rw [if_neg (by simpa using h_mod)] at hf
  by_cases h_min : s.toList = [109, 105, 110]
  · rw [h_min] at hf
    cases (show some _ = some f from hf)
    exact rbin_min s h_min a b ha hb w
  rw [if_neg (by simpa using h_min)] at hf
  by_cases h_max : s.toList = [109, 97, 120]
  · rw [h_max] at hf
    cases (show some _ = some f from hf)
    exact rbin_max s h_max a b ha hb w
  rw [if_neg (by simpa using h_max)] at hf
  by_cases h_gcd : s.toList = [103, 99, 100]
  · rw [h_gcd] at hf
    cases (show some _ = some f from hf)
    exact rbin_gcd s h_gcd a b ha hb w
  rw [if_neg (by simpa using h_gcd)] at hf
  by_cases h_pwa : s.toList = [42, 42]
  · rw [h_pwa] at hf
    cases (show some _ = some f from hf)
    exact rbin_pwa s h_pwa a b ha hb w
  rw [if_neg (by simpa using h_pwa)] at hf
  by_cases h_pwb : s.toList = [94]
  · rw [h_pwb] at hf
    cases (show some _ = some f from hf)
    exact rbin_pwb s h_pwb a b ha hb w
  rw [if_neg (by simpa using h_pwb)] at hf
  by_cases h_shl : s.toList = [60, 60]
  · rw [h_shl] at hf
    cases (show some _ = some f from hf)
    exact rbin_shl s h_shl a b ha hb w
  rw [if_neg (by simpa using h_shl)] at hf
  by_cases h_shr : s.toList = [62, 62]
  · rw [h_shr] at hf
    cases (show some _ = some f from hf)
    exact rbin_shr s h_shr a b ha hb w
  rw [if_neg (by simpa using h_shr)] at hf
  by_cases h_and : s.toList = [47, 92]
  · rw [h_and] at hf
    cases (show some _ = some f from hf)
    exact rbin_and s h_and a b ha hb w
  rw [if_neg (by simpa using h_and)] at hf
  by_cases h_orr : s.toList = [92, 47]
  · rw [h_orr] at hf
    cases (show some _ = some f from hf)
    exact rbin_orr s h_orr a b ha hb w
  rw [if_neg (by simpa using h_orr)] at hf
  by_cases h_xor : s.toList = [120, 111, 114]
  · rw [h_xor] at hf
    cases (show some _ = some f from hf)
    exact rbin_xor s h_xor a b ha hb w
  rw [if_neg (by simpa using h_xor)] at hf
  cases hf
set_option maxRecDepth 100000 in
set_option maxHeartbeats 4000000 in
theorem run_neg (s : ByteArray) (hL : s.toList = [45]) (a : Int) (ha : inR a) (w : World) :
    Calls Try.prog 36 #[.string s, .int .i64 a] w fun e w' => e = .returned (ansV (fit (-a))) ∧ Below w.heap.size w w' := by
  have hB : Below w.heap.size w w := Below.refl _ _
  have a1 := ha.1
  have a2 := ha.2
  clear ha
  by_cases h : a = -9223372036854775808
  · subst h
    rw [fit_no (by unfold inR; omega)]
    go_enter Try.func36, Try.ntmps36
    go_wp2
    all_goals go_ret2
    all_goals exact ⟨rfl, hB⟩
  · have h1 : (a == -9223372036854775808) = false := by simp [h]
    have h2 : -9223372036854775808 < a := by omega
    rw [fit_ok (by unfold inR; omega)]
    clear h
    go_enter Try.func36, Try.ntmps36
    go_wp2
    all_goals go_ret2
    all_goals exact ⟨rfl, hB⟩
set_option maxRecDepth 100000 in
set_option maxHeartbeats 4000000 in
theorem run_pos (s : ByteArray) (hL : s.toList = [43]) (a : Int) (ha : inR a) (w : World) :
    Calls Try.prog 36 #[.string s, .int .i64 a] w fun e w' => e = .returned (ansV (.ok a)) ∧ Below w.heap.size w w' := by
  have hB : Below w.heap.size w w := Below.refl _ _
  have a1 := ha.1
  have a2 := ha.2
  clear ha
  go_enter Try.func36, Try.ntmps36
  go_wp2
  all_goals go_ret2
  all_goals exact ⟨rfl, hB⟩
set_option maxRecDepth 100000 in
set_option maxHeartbeats 4000000 in
theorem run_abs (s : ByteArray) (hL : s.toList = [97, 98, 115]) (a : Int) (ha : inR a) (w : World) :
    Calls Try.prog 36 #[.string s, .int .i64 a] w fun e w' => e = .returned (ansV (fit (a.natAbs : Int))) ∧ Below w.heap.size w w' := by
  have hB : Below w.heap.size w w := Below.refl _ _
  have a1 := ha.1
  have a2 := ha.2
  clear ha
  by_cases h0 : 0 ≤ a
  · have e : (a.natAbs : Int) = a := by omega
    rw [e, fit_ok (by unfold inR; omega)]
    clear e
    go_enter Try.func36, Try.ntmps36
    go_wp2
    all_goals go_ret2
    all_goals exact ⟨rfl, hB⟩
  by_cases h : a = -9223372036854775808
  · subst h
    rw [show ((-9223372036854775808 : Int).natAbs : Int) = 9223372036854775808 by decide, fit_no (by unfold inR; omega)]
    go_enter Try.func36, Try.ntmps36
    go_wp2
    all_goals go_ret2
    all_goals exact ⟨rfl, hB⟩
  · have h1 : (a == -9223372036854775808) = false := by simp [h]
    have h2 : -9223372036854775808 < a := by omega
    have e : (a.natAbs : Int) = -a := by omega
    rw [e, fit_ok (by unfold inR; omega)]
    clear e h
    go_enter Try.func36, Try.ntmps36
    go_wp2
    all_goals go_ret2
    all_goals exact ⟨rfl, hB⟩
set_option maxRecDepth 100000 in
set_option maxHeartbeats 4000000 in
theorem run_sgn (s : ByteArray) (hL : s.toList = [115, 105, 103, 110]) (a : Int) (ha : inR a) (w : World) :
    Calls Try.prog 36 #[.string s, .int .i64 a] w fun e w' => e = .returned (ansV (.ok a.sign)) ∧ Below w.heap.size w w' := by
  have hB : Below w.heap.size w w := Below.refl _ _
  have a1 := ha.1
  have a2 := ha.2
  clear ha
  rcases Int.lt_trichotomy a 0 with h | h | h
  · rw [Int.sign_eq_neg_one_of_neg h]
    go_enter Try.func36, Try.ntmps36
    go_wp2
    all_goals go_ret2
    all_goals exact ⟨rfl, hB⟩
  · subst h
    have HV : Hid (Int.sign 0 = 0) := rfl
    go_enter Try.func36, Try.ntmps36
    go_wp2
    all_goals go_ret2
    all_goals exact ⟨rfl, hB⟩
  · rw [Int.sign_eq_one_of_pos h]
    go_enter Try.func36, Try.ntmps36
    go_wp2
    all_goals go_ret2
    all_goals exact ⟨rfl, hB⟩
set_option maxRecDepth 100000 in
set_option maxHeartbeats 4000000 in
theorem run_not (s : ByteArray) (hL : s.toList = [92]) (a : Int) (ha : inR a) (w : World) :
    Calls Try.prog 36 #[.string s, .int .i64 a] w fun e w' => e = .returned (ansV (.ok (-1 - a))) ∧ Below w.heap.size w w' := by
  have hB : Below w.heap.size w w := Below.refl _ _
  have a1 := ha.1
  have a2 := ha.2
  clear ha
  go_enter Try.func36, Try.ntmps36
  go_wp2
  all_goals go_ret2
  all_goals exact ⟨rfl, hB⟩
/-- unary does what the name does. -/
theorem runary_any (s : ByteArray) (f : Int → Except ByteArray Int) (hf : oneOp s.toList = some f) (a : Int) (ha : inR a) (w : World) :
    Calls Try.prog 36 #[.string s, .int .i64 a] w fun e w' => e = .returned (ansV (f a)) ∧ Below w.heap.size w w' := by
  unfold oneOp at hf
  by_cases h_neg : s.toList = [45]
  · rw [h_neg] at hf
    cases (show some _ = some f from hf)
    exact run_neg s h_neg a ha w
  rw [if_neg (by simpa using h_neg)] at hf
  by_cases h_pos : s.toList = [43]
  · rw [h_pos] at hf
    cases (show some _ = some f from hf)
    exact run_pos s h_pos a ha w
  rw [if_neg (by simpa using h_pos)] at hf
  by_cases h_abs : s.toList = [97, 98, 115]
  · rw [h_abs] at hf
    cases (show some _ = some f from hf)
    exact run_abs s h_abs a ha w
  rw [if_neg (by simpa using h_abs)] at hf
  by_cases h_sgn : s.toList = [115, 105, 103, 110]
  · rw [h_sgn] at hf
    cases (show some _ = some f from hf)
    exact run_sgn s h_sgn a ha w
  rw [if_neg (by simpa using h_sgn)] at hf
  by_cases h_not : s.toList = [92]
  · rw [h_not] at hf
    cases (show some _ = some f from hf)
    exact run_not s h_not a ha w
  rw [if_neg (by simpa using h_not)] at hf
  cases hf
end Go.Proofs.Ytffbhinpmlcopab

