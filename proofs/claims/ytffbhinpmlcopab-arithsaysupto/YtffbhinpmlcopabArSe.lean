import Derived.Test.YtffbhinpmlcopabArSa
import Derived.Test.YtffbhinpmlcopabArSb
import Derived.Test.YtffbhinpmlcopabArSc
/- hornref's evaluable: whole. -/
namespace Go.Proofs.Ytffbhinpmlcopab
open Go.RowKit Go.Shelf

theorem rev2_any (s : ByteArray) (w : World) : Calls Try.prog 34 #[.string s, .int .i64 2] w fun e w' => e = .returned (.bool (twoOp s.toList).isSome) ∧ w' = w := by
  unfold twoOp
  by_cases h_sum : s.toList = [43]
  · have h := rev2_sum s h_sum w
    rw [h_sum]
    exact h
  rw [if_neg (by simpa using h_sum)]
  by_cases h_dif : s.toList = [45]
  · have h := rev2_dif s h_dif w
    rw [h_dif]
    exact h
  rw [if_neg (by simpa using h_dif)]
  by_cases h_mul : s.toList = [42]
  · have h := rev2_mul s h_mul w
    rw [h_mul]
    exact h
  rw [if_neg (by simpa using h_mul)]
  by_cases h_quo : s.toList = [47, 47]
  · have h := rev2_quo s h_quo w
    rw [h_quo]
    exact h
  rw [if_neg (by simpa using h_quo)]
  by_cases h_rem : s.toList = [114, 101, 109]
  · have h := rev2_rem s h_rem w
    rw [h_rem]
    exact h
  rw [if_neg (by simpa using h_rem)]
  by_cases h_div : s.toList = [100, 105, 118]
  · have h := rev2_div s h_div w
    rw [h_div]
    exact h
  rw [if_neg (by simpa using h_div)]
  by_cases h_mod : s.toList = [109, 111, 100]
  · have h := rev2_mod s h_mod w
    rw [h_mod]
    exact h
  rw [if_neg (by simpa using h_mod)]
  by_cases h_min : s.toList = [109, 105, 110]
  · have h := rev2_min s h_min w
    rw [h_min]
    exact h
  rw [if_neg (by simpa using h_min)]
  by_cases h_max : s.toList = [109, 97, 120]
  · have h := rev2_max s h_max w
    rw [h_max]
    exact h
  rw [if_neg (by simpa using h_max)]
  by_cases h_gcd : s.toList = [103, 99, 100]
  · have h := rev2_gcd s h_gcd w
    rw [h_gcd]
    exact h
  rw [if_neg (by simpa using h_gcd)]
  by_cases h_pwa : s.toList = [42, 42]
  · have h := rev2_pwa s h_pwa w
    rw [h_pwa]
    exact h
  rw [if_neg (by simpa using h_pwa)]
  by_cases h_pwb : s.toList = [94]
  · have h := rev2_pwb s h_pwb w
    rw [h_pwb]
    exact h
  rw [if_neg (by simpa using h_pwb)]
  by_cases h_shl : s.toList = [60, 60]
  · have h := rev2_shl s h_shl w
    rw [h_shl]
    exact h
  rw [if_neg (by simpa using h_shl)]
  by_cases h_shr : s.toList = [62, 62]
  · have h := rev2_shr s h_shr w
    rw [h_shr]
    exact h
  rw [if_neg (by simpa using h_shr)]
  by_cases h_and : s.toList = [47, 92]
  · have h := rev2_and s h_and w
    rw [h_and]
    exact h
  rw [if_neg (by simpa using h_and)]
  by_cases h_orr : s.toList = [92, 47]
  · have h := rev2_orr s h_orr w
    rw [h_orr]
    exact h
  rw [if_neg (by simpa using h_orr)]
  by_cases h_xor : s.toList = [120, 111, 114]
  · have h := rev2_xor s h_xor w
    rw [h_xor]
    exact h
  rw [if_neg (by simpa using h_xor)]
  exact rev2_none s (by simpa using h_sum) (by simpa using h_dif) (by simpa using h_mul) (by simpa using h_quo) (by simpa using h_rem) (by simpa using h_div) (by simpa using h_mod) (by simpa using h_min) (by simpa using h_max) (by simpa using h_gcd) (by simpa using h_pwa) (by simpa using h_pwb) (by simpa using h_shl) (by simpa using h_shr) (by simpa using h_and) (by simpa using h_orr) (by simpa using h_xor) w
end Go.Proofs.Ytffbhinpmlcopab

