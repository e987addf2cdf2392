import Derived.WalkKit
import Derived.Laws.BitsAllLaws
import Derived.Test.YtlbobmebbllifaaGreatProg
import Derived.WalkLawsBesides
import Derived.WalkSpells
/- Plain mathematics of numbers of 64 bits: what comes out or runs over (fit), signs of bits, products, quotients, shifts, powers. -/
namespace Go.Proofs.YtlbobmebbllifaaGreat
open Go.RowKit
def inR (n : Int) : Prop := -9223372036854775808 ≤ n ∧ n ≤ 9223372036854775807
def sOvf : ByteArray := ⟨#[111, 118, 101, 114, 102, 108, 111, 119]⟩
def sZero : ByteArray := ⟨#[122, 101, 114, 111, 95, 100, 105, 118, 105, 100, 101]⟩
def sNeg : ByteArray := ⟨#[110, 101, 103, 97, 116, 105, 118, 101]⟩
def fit (n : Int) : Except ByteArray Int := if -9223372036854775808 ≤ n ∧ n ≤ 9223372036854775807 then .ok n else .error sOvf
theorem fit_ok {n : Int} (h : inR n) : fit n = .ok n := if_pos h
theorem fit_no {n : Int} (h : ¬ inR n) : fit n = .error sOvf := if_neg h
def ansV : Except ByteArray Int → Value
 | .ok n => .tuple #[.int .i64 n, .string ⟨#[]⟩]
 | .error s => .tuple #[.int .i64 0, .string s]
theorem bits_and64 (a b : Int) : bits .and .i64 a b = (BitVec.ofInt 64 a &&& BitVec.ofInt 64 b).toInt := by
 show IntKind.i64.wrap ((BitVec.ofInt 64 a &&& BitVec.ofInt 64 b).toNat : Int) = _
 rw [IntKind.wrap_i64, BitVec.toInt_eq_toNat_cond]
 have := (BitVec.ofInt 64 a &&& BitVec.ofInt 64 b).isLt
 split <;> omega
theorem bits_or64 (a b : Int) : bits .or .i64 a b = (BitVec.ofInt 64 a ||| BitVec.ofInt 64 b).toInt := by
 show IntKind.i64.wrap ((BitVec.ofInt 64 a ||| BitVec.ofInt 64 b).toNat : Int) = _
 rw [IntKind.wrap_i64, BitVec.toInt_eq_toNat_cond]
 have := (BitVec.ofInt 64 a ||| BitVec.ofInt 64 b).isLt
 split <;> omega
theorem bits_xor64 (a b : Int) : bits .xor .i64 a b = (BitVec.ofInt 64 a ^^^ BitVec.ofInt 64 b).toInt := by
 show IntKind.i64.wrap ((BitVec.ofInt 64 a ^^^ BitVec.ofInt 64 b).toNat : Int) = _
 rw [IntKind.wrap_i64, BitVec.toInt_eq_toNat_cond]
 have := (BitVec.ofInt 64 a ^^^ BitVec.ofInt 64 b).isLt
 split <;> omega
theorem toInt_in (x : BitVec 64) : inR x.toInt := by
 have h1 := BitVec.toInt_lt (x := x)
 have h2 := BitVec.le_toInt (x := x)
 unfold inR
 omega
theorem ofInt_msb {a : Int} (h : inR a) : (BitVec.ofInt 64 a).msb = decide (a < 0) := by
 rw [BitVec.msb_eq_toInt, BitVec.toInt_ofInt]
 unfold inR at h
 rw [Int.bmod_eq_of_le (by omega) (by omega)]
theorem and_neg {a b : Int} (ha : inR a) (hb : inR b) : bits .and .i64 a b < 0 ↔ a < 0 ∧ b < 0 := by
 rw [bits_and64]
 have h := BitVec.msb_eq_toInt (x := BitVec.ofInt 64 a &&& BitVec.ofInt 64 b)
 rw [BitVec.msb_and, ofInt_msb ha, ofInt_msb hb] at h
 have h' := congrArg (· = true) h
 simp only [Bool.and_eq_true, decide_eq_true_eq, eq_iff_iff] at h'
 exact h'.symm
theorem xor_neg {a b : Int} (ha : inR a) (hb : inR b) : bits .xor .i64 a b < 0 ↔ ¬ (a < 0 ↔ b < 0) := by
 rw [bits_xor64]
 have h := BitVec.msb_eq_toInt (x := BitVec.ofInt 64 a ^^^ BitVec.ofInt 64 b)
 rw [BitVec.msb_xor, ofInt_msb ha, ofInt_msb hb] at h
 have h' := congrArg (· = true) h
 simp only [decide_eq_true_eq, eq_iff_iff] at h'
 rw [← h']
 by_cases h1 : a < 0 <;> by_cases h2 : b < 0 <;> simp [h1, h2]
theorem xor_in (a b : Int) : inR (bits .xor .i64 a b) := by rw [bits_xor64]; exact toInt_in _
theorem wrap64_inR (n : Int) : inR (wrap64 n) := by unfold inR wrap64; omega
theorem wrap64_of {n : Int} (h : inR n) : wrap64 n = n := IntWalk.wrap64_in n h
theorem sum_over {a b : Int} (ha : inR a) (hb : inR b) : bits .and .i64 (bits .xor .i64 a (wrap64 (a + b))) (bits .xor .i64 b (wrap64 (a + b))) < 0 ↔ ¬ inR (a + b) := by
 rw [and_neg (xor_in _ _) (xor_in _ _), xor_neg ha (wrap64_inR _), xor_neg hb (wrap64_inR _)]
 unfold inR at *
 unfold wrap64
 omega
theorem diff_over {a b : Int} (ha : inR a) (hb : inR b) : bits .and .i64 (bits .xor .i64 a b) (bits .xor .i64 a (wrap64 (a - b))) < 0 ↔ ¬ inR (a - b) := by
 rw [and_neg (xor_in _ _) (xor_in _ _), xor_neg ha (wrap64_inR _), xor_neg ha hb]
 unfold inR at *
 unfold wrap64
 omega
theorem tmod_lt {n b : Int} (hb : b ≠ 0) : -(b.natAbs : Int) < n.tmod b ∧ n.tmod b < b.natAbs := by
 have h := Int.natAbs_tmod n b
 have h2 : n.natAbs % b.natAbs < b.natAbs := Nat.mod_lt _ (by omega)
 omega
theorem tdiv_part (n b : Int) : n.tdiv b * b + n.tmod b = n := by
 have h := Int.mul_tdiv_add_tmod n b
 rw [Int.mul_comm] at h
 exact h
theorem tmod_sign (n b : Int) : (0 ≤ n → 0 ≤ n.tmod b) ∧ (n ≤ 0 → n.tmod b ≤ 0) := by
 refine ⟨fun h => Int.tmod_nonneg b h, fun h => ?_⟩
 have h1 := Int.tmod_nonneg b (show 0 ≤ -n by omega)
 rw [Int.neg_tmod] at h1
 omega
theorem tdiv_in {a b : Int} (ha : inR a) (h : b ≠ -1 ∨ a ≠ -9223372036854775808) : inR (a.tdiv b) := by
 unfold inR at *
 have h1 : (a.tdiv b).natAbs = a.natAbs / b.natAbs := Int.natAbs_tdiv a b
 have h2 : a.natAbs / b.natAbs ≤ a.natAbs := Nat.div_le_self _ _
 by_cases hA : a = -9223372036854775808
 ·have hb : b ≠ -1 := by omega
  by_cases hb1 : b.natAbs ≤ 1
  ·by_cases hb0 : b = 0
   ·subst hb0; simp
   ·have : b = 1 := by omega
    subst this
    rw [Int.tdiv_one]
    exact ha
  ·have : a.natAbs / b.natAbs < a.natAbs := Nat.div_lt_self (by omega) (by omega)
   omega
 ·omega
theorem tmod_in {a b : Int} (ha : inR a) : inR (a.tmod b) := by
 unfold inR at *
 have h1 : (a.tmod b).natAbs = a.natAbs % b.natAbs := Int.natAbs_tmod a b
 have h2 : a.natAbs % b.natAbs ≤ a.natAbs := Nat.mod_le _ _
 have h3 := tmod_sign a b
 omega
theorem mul_over {a b : Int} (hb : inR b) (h0 : b ≠ 0) : (wrap64 (a * b)).tdiv b = a ↔ inR (a * b) := by
 refine ⟨fun h => ?_, fun h => by rw [wrap64_of h, Int.mul_tdiv_cancel _ h0]⟩
 have h1 := tdiv_part (wrap64 (a * b)) b
 have h2 := tmod_lt (n := wrap64 (a * b)) h0
 rw [h] at h1
 generalize a * b = p at *
 generalize (wrap64 p).tmod b = r at *
 unfold inR at *
 unfold wrap64 at *
 omega
def offB (a b : Int) : Bool := decide (a.tmod b < 0 ∧ 0 < b ∨ 0 < a.tmod b ∧ b < 0)
def flr (a b : Int) : Int := if offB a b then a.tdiv b - 1 else a.tdiv b
def lft (a b : Int) : Int := if offB a b then a.tmod b + b else a.tmod b
theorem lft_pos {a b : Int} (hb : 0 < b) : 0 ≤ lft a b ∧ lft a b < b := by
 have h := tmod_lt (n := a) (b := b) (by omega)
 unfold lft offB
 split
 ·rename_i h1
  simp at h1
  omega
 ·rename_i h1
  simp at h1
  omega
theorem lft_neg {a b : Int} (hb : b < 0) : lft a b ≤ 0 ∧ b < lft a b := by
 have h := tmod_lt (n := a) (b := b) (by omega)
 unfold lft offB
 split
 ·rename_i h1
  simp at h1
  omega
 ·rename_i h1
  simp at h1
  omega
theorem offB_one (a : Int) : offB a (-1) = false := by
 have h : a.tmod (-1) = 0 := by
  have := tmod_lt (n := a) (b := -1) (by omega)
  omega
 simp [offB, h]
theorem tdiv_neg_one (a : Int) : a.tdiv (-1) = -a := by rw [Int.tdiv_neg, Int.tdiv_one]
theorem flr_in {a b : Int} (ha : inR a) (h0 : b ≠ 0) (h : b ≠ -1 ∨ a ≠ -9223372036854775808) : inR (flr a b) := by
 have h1 := tdiv_in (b := b) ha h
 have h2 : (a.tdiv b).natAbs = a.natAbs / b.natAbs := Int.natAbs_tdiv a b
 unfold flr
 split
 ·rename_i ho
  have hb1 : 1 < b.natAbs := by
   have := tmod_lt (n := a) h0
   simp [offB] at ho
   omega
  have : a.natAbs / b.natAbs ≤ a.natAbs / 2 := Nat.div_le_div_left (by omega) (by omega)
  unfold inR at *
  omega
 ·exact h1
theorem lft_in {a b : Int} (hb : inR b) (h0 : b ≠ 0) : inR (lft a b) := by
 rcases Int.lt_or_gt_of_ne h0 with h | h
 ·have := lft_neg (a := a) h
  unfold inR at *
  omega
 ·have := lft_pos (a := a) h
  unfold inR at *
  omega
theorem pow_pos (k : Nat) : (0 : Int) < 2 ^ k := Int.pow_pos (by decide)
theorem shl_over (a : Int) (k : Nat) : wrap64 (a * 2 ^ min k 64) / 2 ^ min k 64 = a ↔ inR (a * 2 ^ k) := by
 by_cases hk : k ≤ 64
 ·rw [Nat.min_eq_left hk]
  have hp := pow_pos k
  refine ⟨fun h => ?_, fun h => by rw [wrap64_of h, Int.mul_ediv_cancel _ (by omega)]⟩
  obtain ⟨q, hq⟩ : ∃ q : Int, wrap64 (a * 2 ^ k) = a * 2 ^ k + q * 18446744073709551616 := ⟨-((a * 2 ^ k + 9223372036854775808) / 18446744073709551616), by unfold wrap64; omega⟩
  have hsplit : (18446744073709551616 : Int) = 2 ^ (64 - k) * 2 ^ k := by
   rw [← Int.pow_add, Nat.sub_add_cancel hk]; rfl
  have hq2 : q = 0 := by
   rw [hq, hsplit, ← Int.mul_assoc, ← Int.add_mul, Int.mul_ediv_cancel _ (by omega)] at h
   have h3 : q * 2 ^ (64 - k) = 0 := by omega
   rcases Int.mul_eq_zero.1 h3 with h4 | h4
   ·exact h4
   ·have := pow_pos (64 - k); omega
  have := wrap64_inR (a * 2 ^ k)
  rw [hq, hq2] at this
  simpa using this
 ·rw [Nat.min_eq_right (by omega)]
  have h64 : ((2 : Int) ^ 64) = 18446744073709551616 := by decide
  have hz : wrap64 (a * 2 ^ 64) = 0 := by rw [h64]; unfold wrap64; omega
  rw [hz, Int.zero_ediv]
  refine ⟨fun h => by rw [← h, Int.zero_mul]; unfold inR; omega, fun h => ?_⟩
  by_cases h0 : a = 0
  ·exact h0.symm
  ·exfalso
   have hge : (18446744073709551616 : Int) ≤ 2 ^ k := by
    rw [← h64, show k = 64 + (k - 64) by omega, Int.pow_add]
    have := pow_pos (k - 64)
    rw [h64]
    omega
   generalize (2 : Int) ^ k = p at *
   have hab : (a * p).natAbs = a.natAbs * p.natAbs := Int.natAbs_mul a p
   have h1 : 1 * p.natAbs ≤ a.natAbs * p.natAbs := Nat.mul_le_mul_right _ (by omega)
   unfold inR at h
   omega
theorem pow_grows {a : Int} (ha : 2 ≤ a.natAbs) {k : Nat} (h : ¬ inR (a ^ k)) : ∀ d, ¬ inR (a ^ (k + d)) ∧ 9223372036854775808 ≤ (a ^ (k + d)).natAbs
 | 0 => ⟨h, by unfold inR at h; simp only [Nat.add_zero]; omega⟩
 | d + 1 => by
  have ih := (pow_grows ha h d).2
  have h1 : (a ^ (k + (d + 1))).natAbs = (a ^ (k + d)).natAbs * a.natAbs := by rw [← Nat.add_assoc, Int.pow_succ, Int.natAbs_mul]
  have h2 : (a ^ (k + d)).natAbs * 2 ≤ (a ^ (k + d)).natAbs * a.natAbs := Nat.mul_le_mul_left _ ha
  refine ⟨fun h3 => ?_, by omega⟩
  unfold inR at h3
  omega
theorem pow_small {a : Int} (h : -1 ≤ a ∧ a ≤ 1) : ∀ k : Nat, 1 ≤ k → a ^ k = if k % 2 = 0 then a * a else a
 | 0, hk => by omega
 | 1, _ => by simp [Int.pow_succ]
 | k + 2, _ => by
  by_cases hk : k = 0
  ·subst hk
   simp [Int.pow_succ]
  ·have ih := pow_small h k (by omega)
   have : (k + 2) % 2 = k % 2 := by omega
   rw [this, Int.pow_succ, Int.pow_succ, ih]
   have ha : a = -1 ∨ a = 0 ∨ a = 1 := by omega
   rcases ha with rfl | rfl | rfl <;> split <;> rfl
theorem small_in {a : Int} (h : -1 ≤ a ∧ a ≤ 1) (k : Nat) : inR (a ^ k) := by
 by_cases hk : k = 0
 ·subst hk; simp [inR]
 ·rw [pow_small h k (by omega)]
  have ha : a = -1 ∨ a = 0 ∨ a = 1 := by omega
  rcases ha with rfl | rfl | rfl <;> split <;> simp [inR]
/- The contracts of arith's exact.go: sums, differences, products, quotients, shifts, magnitudes. -/
set_option maxHeartbeats 1000000
theorem sum_any (a b : Int) (ha : inR a) (hb : inR b) (w : World) :
  Calls Tryz.prog 113 #[.int .i64 a, .int .i64 b] w fun e w' => e = .returned (ansV (fit (a + b))) ∧ w' = w := by
 have ho := sum_over ha hb
 by_cases h : inR (a + b)
 ·have h1 : ¬ bits .and .i64 (bits .xor .i64 a (wrap64 (a + b))) (bits .xor .i64 b (wrap64 (a + b))) < 0 := fun x => ho.1 x h
  rw [fit_ok h]
  have HW : Hid (wrap64 (a + b) = a + b) := wrap64_of h
  clear ho
  go_enter Tryz.func113, Tryz.ntmps113
  go_wp2
  all_goals go_ret2
  all_goals (first | omega | (refine ⟨?_, rfl⟩; simp [ansV, HW.out]))
 ·have h1 := ho.2 h
  rw [fit_no h]
  clear ho
  go_enter Tryz.func113, Tryz.ntmps113
  go_wp2
  all_goals go_ret2
  all_goals (first | omega | (refine ⟨?_, rfl⟩; rfl))
theorem diff_any (a b : Int) (ha : inR a) (hb : inR b) (w : World) :
  Calls Tryz.prog 105 #[.int .i64 a, .int .i64 b] w fun e w' => e = .returned (ansV (fit (a - b))) ∧ w' = w := by
 have ho := diff_over ha hb
 by_cases h : inR (a - b)
 ·have h1 : ¬ bits .and .i64 (bits .xor .i64 a b) (bits .xor .i64 a (wrap64 (a - b))) < 0 := fun x => ho.1 x h
  rw [fit_ok h]
  have HW : Hid (wrap64 (a - b) = a - b) := wrap64_of h
  clear ho
  go_enter Tryz.func105, Tryz.ntmps105
  go_wp2
  all_goals go_ret2
  all_goals (first | omega | (refine ⟨?_, rfl⟩; simp [ansV, HW.out]))
 ·have h1 := ho.2 h
  rw [fit_no h]
  clear ho
  go_enter Tryz.func105, Tryz.ntmps105
  go_wp2
  all_goals go_ret2
  all_goals (first | omega | (refine ⟨?_, rfl⟩; rfl))
theorem ansV_shape (x : Except ByteArray Int) : ∃ n s, ansV x = .tuple #[.int .i64 n, .string s] := by
 cases x <;> exact ⟨_, _, rfl⟩
theorem product_any (a b : Int) (ha : inR a) (hb : inR b) (w : World) :
  Calls Tryz.prog 114 #[.int .i64 a, .int .i64 b] w fun e w' => e = .returned (ansV (fit (a * b))) ∧ w' = w := by
 by_cases h1 : b = -1
 ·subst h1
  have hd := diff_any 0 a (by simp [inR]) ha w
  rw [show a * -1 = 0 - a by omega]
  obtain ⟨n, s, hv⟩ := ansV_shape (fit (0 - a))
  rw [hv] at hd ⊢
  clear hv
  go_enter Tryz.func114, Tryz.ntmps114
  go_wp2_with fail
  refine hd.mono ?_
  rintro e w' ⟨rfl, rfl⟩
  go_wp2
  all_goals go_ret2
  all_goals exact ⟨rfl, rfl⟩
 ·by_cases h0 : b = 0
  ·subst h0
   rw [Int.mul_zero, fit_ok (by simp [inR])]
   have hw : wrap64 (a * 0) = 0 := by rw [Int.mul_zero]; exact wrap64_of (by simp [inR])
   go_enter Tryz.func114, Tryz.ntmps114
   go_wp2
   all_goals go_ret2
   all_goals (refine ⟨?_, rfl⟩; simp [ansV])
  ·have ho := mul_over (a := a) hb h0
   have hq : inR ((wrap64 (a * b)).tdiv b) := tdiv_in (wrap64_inR _) (.inl h1)
   have hq1 := hq.1
   have hq2 := hq.2
   by_cases h : inR (a * b)
   ·have h3 := ho.2 h
    have h2 : ((wrap64 (a * b)).tdiv b != a) = false := by simp [h3]
    rw [fit_ok h]
    have HW : Hid (wrap64 (a * b) = a * b) := wrap64_of h
    clear ho h3
    go_enter Tryz.func114, Tryz.ntmps114
    go_wp2
    all_goals go_ret2
    all_goals (refine ⟨?_, rfl⟩; simp [ansV, HW.out])
   ·have h2 : ((wrap64 (a * b)).tdiv b != a) = true := by simpa using fun x => h (ho.1 x)
    rw [fit_no h]
    clear ho
    go_enter Tryz.func114, Tryz.ntmps114
    go_wp2
    all_goals go_ret2
    all_goals (refine ⟨?_, rfl⟩; rfl)
theorem quotient_any (a b : Int) (ha : inR a) (hb0 : b ≠ 0) (w : World) :
  Calls Tryz.prog 116 #[.int .i64 a, .int .i64 b] w fun e w' => e = .returned (ansV (fit (a.tdiv b))) ∧ w' = w := by
 by_cases h1 : b = -1
 ·subst h1
  have hd := diff_any 0 a (by simp [inR]) ha w
  rw [tdiv_neg_one, show -a = 0 - a by omega]
  obtain ⟨n, s, hv⟩ := ansV_shape (fit (0 - a))
  rw [hv] at hd ⊢
  clear hv
  go_enter Tryz.func116, Tryz.ntmps116
  go_wp2_with fail
  refine hd.mono ?_
  rintro e w' ⟨rfl, rfl⟩
  go_wp2
  all_goals go_ret2
  all_goals exact ⟨rfl, rfl⟩
 ·have hq : inR (a.tdiv b) := tdiv_in ha (.inl h1)
  have hq1 := hq.1
  have hq2 := hq.2
  rw [fit_ok hq]
  go_enter Tryz.func116, Tryz.ntmps116
  go_wp2
  all_goals go_ret2
  all_goals (refine ⟨?_, rfl⟩; simp [ansV])
theorem aboveFloor_any (a b : Int) (hb : inR b) (hb0 : b ≠ 0) (w : World) :
  Calls Tryz.prog 119 #[.int .i64 a, .int .i64 b] w fun e w' => e = .returned (.int .i64 (lft a b)) ∧ w' = w := by
 have HL : Hid (inR (lft a b)) := lft_in hb hb0
 have HT : Hid (-(b.natAbs : Int) < a.tmod b ∧ a.tmod b < b.natAbs) := tmod_lt hb0
 go_enter Tryz.func119, Tryz.ntmps119
 go_wp2
 all_goals go_ret
 all_goals refine ⟨?_, rfl⟩
 all_goals have HL := HL.out
 all_goals have HT := HT.out
 all_goals unfold lft offB inR at *
 all_goals simp only [decide_eq_true_eq, Bool.decide_or, Bool.decide_and, Bool.or_eq_true, Bool.and_eq_true] at *
 all_goals (split at HL <;> (try split) <;> simp <;> first | omega | (rw [IntWalk.wrap64_in _ (by omega)]))
theorem shiftLeft_any (a b : Int) (hb : 0 ≤ b) (w : World) :
  Calls Tryz.prog 125 #[.int .i64 a, .int .i64 b] w fun e w' => e = .returned (ansV (fit (a * 2 ^ b.toNat))) ∧ w' = w := by
 have ho := shl_over a b.toNat
 by_cases h : inR (a * 2 ^ b.toNat)
 ·have h2 : (wrap64 (a * 2 ^ min b.toNat 64) / 2 ^ min b.toNat 64 != a) = false := by simp [ho.2 h]
  rw [fit_ok h]
  have HW : Hid (wrap64 (a * 2 ^ min b.toNat 64) = a * 2 ^ b.toNat) := by
   show _ = _
   by_cases hk : b.toNat ≤ 64
   ·rw [Nat.min_eq_left hk, wrap64_of h]
   ·have h3 := ho.2 h
    rw [Nat.min_eq_right (by omega)] at h3 ⊢
    have h64 : ((2 : Int) ^ 64) = 18446744073709551616 := by decide
    have hz : wrap64 (a * 2 ^ 64) = 0 := by rw [h64]; unfold wrap64; omega
    rw [hz, Int.zero_ediv] at h3
    rw [hz, ← h3, Int.zero_mul]
  clear ho
  go_enter Tryz.func125, Tryz.ntmps125
  go_wp2
  all_goals go_ret2
  all_goals (refine ⟨?_, rfl⟩; simp [ansV, HW.out])
 ·have h2 : (wrap64 (a * 2 ^ min b.toNat 64) / 2 ^ min b.toNat 64 != a) = true := by simpa using fun x => h (ho.1 x)
  rw [fit_no h]
  clear ho
  go_enter Tryz.func125, Tryz.ntmps125
  go_wp2
  all_goals go_ret2
  all_goals (refine ⟨?_, rfl⟩; rfl)
theorem magnitude_any (a : Int) (ha : inR a) (w : World) :
  Calls Tryz.prog 110 #[.int .i64 a] w fun e w' => e = .returned (.int .u64 (a.natAbs : Int)) ∧ w' = w := by
 have ha1 := ha.1
 have ha2 := ha.2
 go_enter Tryz.func110, Tryz.ntmps110
 go_wp2
 all_goals go_ret
 all_goals refine ⟨?_, rfl⟩
 all_goals simp [IntKind.wrap_u64]
 all_goals omega
theorem signed_any (a : Nat) (ha : a ≤ 18446744073709551615) (w : World) :
  Calls Tryz.prog 109 #[.int .u64 (a : Int)] w fun e w' => e = .returned (ansV (fit (a : Int))) ∧ w' = w := by
 by_cases h : (a : Int) ≤ 9223372036854775807
 ·rw [fit_ok (by unfold inR; omega)]
  go_enter Tryz.func109, Tryz.ntmps109
  go_wp2
  all_goals go_ret2
  all_goals refine ⟨?_, rfl⟩
  all_goals simp [ansV]
 ·rw [fit_no (by unfold inR; omega)]
  go_enter Tryz.func109, Tryz.ntmps109
  go_wp2
  all_goals go_ret2
  all_goals refine ⟨?_, rfl⟩
  all_goals rfl
end Go.Proofs.YtlbobmebbllifaaGreat
