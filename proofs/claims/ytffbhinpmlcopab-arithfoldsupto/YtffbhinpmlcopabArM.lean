import Derived.WalkKit
import Derived.Laws.BitsAllLaws
import Derived.Test.YtffbhinpmlcopabProg
/- Plain mathematics of numbers of 64 bits: what comes out or runs over (fit), signs of bits, products, quotients, shifts, powers. -/
namespace Go.Proofs.Ytffbhinpmlcopab
open Go.RowKit

/-- A number of 64 bits with a sign. -/
def inR (n : Int) : Prop := -9223372036854775808 ≤ n ∧ n ≤ 9223372036854775807
def sOvf : ByteArray := ⟨#[111, 118, 101, 114, 102, 108, 111, 119]⟩
def sZero : ByteArray := ⟨#[122, 101, 114, 111, 95, 100, 105, 118, 105, 100, 101]⟩
def sNeg : ByteArray := ⟨#[110, 101, 103, 97, 116, 105, 118, 101]⟩
/-- The number, or that it runs over. -/
def fit (n : Int) : Except ByteArray Int := if -9223372036854775808 ≤ n ∧ n ≤ 9223372036854775807 then .ok n else .error sOvf
theorem fit_ok {n : Int} (h : inR n) : fit n = .ok n := if_pos h
theorem fit_no {n : Int} (h : ¬ inR n) : fit n = .error sOvf := if_neg h
/-- The two results of a deed. -/
def ansV : Except ByteArray Int → Value
  | .ok n => .tuple #[.int .i64 n, .string ⟨#[]⟩]
  | .error s => .tuple #[.int .i64 0, .string s]

theorem bits_and64 (a b : Int) : bits .and .i64 a b = (BitVec.ofInt 64 a &&& BitVec.ofInt 64 b).toInt := by
  show IntKind.i64.wrap ((BitVec.ofInt 64 a &&& BitVec.ofInt 64 b).toNat : Int) = _
  rw [IntKind.wrap_i64, BitVec.toInt_eq_toNat_cond]
  have := (BitVec.ofInt 64 a &&& BitVec.ofInt 64 b).isLt
  split <;> omega
theorem bits_or64 (a b : Int) : bits .or .i64 a b = (BitVec.ofInt 64 a ||| BitVec.ofInt 64 b).toInt := by
  show IntKind.i64.wrap ((BitVec.ofInt 64 a ||| BitVec.ofInt 64 b).toNat : Int) = _
  rw [IntKind.wrap_i64, BitVec.toInt_eq_toNat_cond]
  have := (BitVec.ofInt 64 a ||| BitVec.ofInt 64 b).isLt
  split <;> omega
theorem bits_xor64 (a b : Int) : bits .xor .i64 a b = (BitVec.ofInt 64 a ^^^ BitVec.ofInt 64 b).toInt := by
  show IntKind.i64.wrap ((BitVec.ofInt 64 a ^^^ BitVec.ofInt 64 b).toNat : Int) = _
  rw [IntKind.wrap_i64, BitVec.toInt_eq_toNat_cond]
  have := (BitVec.ofInt 64 a ^^^ BitVec.ofInt 64 b).isLt
  split <;> omega
theorem toInt_in (x : BitVec 64) : inR x.toInt := by
  have h1 := BitVec.toInt_lt (x := x)
  have h2 := BitVec.le_toInt (x := x)
  unfold inR
  omega
theorem ofInt_msb {a : Int} (h : inR a) : (BitVec.ofInt 64 a).msb = decide (a < 0) := by
  rw [BitVec.msb_eq_toInt, BitVec.toInt_ofInt]
  unfold inR at h
  rw [Int.bmod_eq_of_le (by omega) (by omega)]
theorem ofInt_toInt (x : BitVec 64) : BitVec.ofInt 64 x.toInt = x := BitVec.ofInt_toInt
theorem and_neg {a b : Int} (ha : inR a) (hb : inR b) : bits .and .i64 a b < 0 ↔ a < 0 ∧ b < 0 := by
  rw [bits_and64]
  have h := BitVec.msb_eq_toInt (x := BitVec.ofInt 64 a &&& BitVec.ofInt 64 b)
  rw [BitVec.msb_and, ofInt_msb ha, ofInt_msb hb] at h
  have h' := congrArg (· = true) h
  simp only [Bool.and_eq_true, decide_eq_true_eq, eq_iff_iff] at h'
  exact h'.symm
theorem xor_neg {a b : Int} (ha : inR a) (hb : inR b) : bits .xor .i64 a b < 0 ↔ ¬ (a < 0 ↔ b < 0) := by
  rw [bits_xor64]
  have h := BitVec.msb_eq_toInt (x := BitVec.ofInt 64 a ^^^ BitVec.ofInt 64 b)
  rw [BitVec.msb_xor, ofInt_msb ha, ofInt_msb hb] at h
  have h' := congrArg (· = true) h
  simp only [decide_eq_true_eq, eq_iff_iff] at h'
  rw [← h']
  by_cases h1 : a < 0 <;> by_cases h2 : b < 0 <;> simp [h1, h2]
theorem xor_in (a b : Int) : inR (bits .xor .i64 a b) := by rw [bits_xor64]; exact toInt_in _
theorem wrap64_inR (n : Int) : inR (wrap64 n) := by unfold inR wrap64; omega
theorem wrap64_of {n : Int} (h : inR n) : wrap64 n = n := IntWalk.wrap64_in n h

theorem sum_over {a b : Int} (ha : inR a) (hb : inR b) : bits .and .i64 (bits .xor .i64 a (wrap64 (a + b))) (bits .xor .i64 b (wrap64 (a + b))) < 0 ↔ ¬ inR (a + b) := by
  rw [and_neg (xor_in _ _) (xor_in _ _), xor_neg ha (wrap64_inR _), xor_neg hb (wrap64_inR _)]
  unfold inR at *
  unfold wrap64
  omega
theorem diff_over {a b : Int} (ha : inR a) (hb : inR b) : bits .and .i64 (bits .xor .i64 a b) (bits .xor .i64 a (wrap64 (a - b))) < 0 ↔ ¬ inR (a - b) := by
  rw [and_neg (xor_in _ _) (xor_in _ _), xor_neg ha (wrap64_inR _), xor_neg ha hb]
  unfold inR at *
  unfold wrap64
  omega

/-- What is left by a quotient that is cut towards 0. -/
theorem tmod_lt {n b : Int} (hb : b ≠ 0) : -(b.natAbs : Int) < n.tmod b ∧ n.tmod b < b.natAbs := by
  have h := Int.natAbs_tmod n b
  have h2 : n.natAbs % b.natAbs < b.natAbs := Nat.mod_lt _ (by omega)
  omega
theorem tdiv_part (n b : Int) : n.tdiv b * b + n.tmod b = n := by
  have h := Int.mul_tdiv_add_tmod n b
  rw [Int.mul_comm] at h
  exact h
theorem tmod_sign (n b : Int) : (0 ≤ n → 0 ≤ n.tmod b) ∧ (n ≤ 0 → n.tmod b ≤ 0) := by
  refine ⟨fun h => Int.tmod_nonneg b h, fun h => ?_⟩
  have h1 := Int.tmod_nonneg b (show 0 ≤ -n by omega)
  rw [Int.neg_tmod] at h1
  omega
theorem tdiv_in {a b : Int} (ha : inR a) (h : b ≠ -1 ∨ a ≠ -9223372036854775808) : inR (a.tdiv b) := by
  unfold inR at *
  have h1 : (a.tdiv b).natAbs = a.natAbs / b.natAbs := Int.natAbs_tdiv a b
  have h2 : a.natAbs / b.natAbs ≤ a.natAbs := Nat.div_le_self _ _
  by_cases hA : a = -9223372036854775808
  · have hb : b ≠ -1 := by omega
    by_cases hb1 : b.natAbs ≤ 1
    · by_cases hb0 : b = 0
      · subst hb0; simp
      · have : b = 1 := by omega
        subst this
        rw [Int.tdiv_one]
        exact ha
    · have : a.natAbs / b.natAbs < a.natAbs := Nat.div_lt_self (by omega) (by omega)
      omega
  · omega
theorem tmod_in {a b : Int} (ha : inR a) : inR (a.tmod b) := by
  unfold inR at *
  have h1 : (a.tmod b).natAbs = a.natAbs % b.natAbs := Int.natAbs_tmod a b
  have h2 : a.natAbs % b.natAbs ≤ a.natAbs := Nat.mod_le _ _
  have h3 := tmod_sign a b
  omega

/-- A product runs over just if dividing does not give the number back. -/
theorem mul_over {a b : Int} (hb : inR b) (h0 : b ≠ 0) : (wrap64 (a * b)).tdiv b = a ↔ inR (a * b) := by
  refine ⟨fun h => ?_, fun h => by rw [wrap64_of h, Int.mul_tdiv_cancel _ h0]⟩
  have h1 := tdiv_part (wrap64 (a * b)) b
  have h2 := tmod_lt (n := wrap64 (a * b)) h0
  rw [h] at h1
  generalize a * b = p at *
  generalize (wrap64 p).tmod b = r at *
  unfold inR at *
  unfold wrap64 at *
  omega

/-- The greatest number not above the exact quotient, and what is left. -/
def offB (a b : Int) : Bool := decide (a.tmod b < 0 ∧ 0 < b ∨ 0 < a.tmod b ∧ b < 0)
def flr (a b : Int) : Int := if offB a b then a.tdiv b - 1 else a.tdiv b
def lft (a b : Int) : Int := if offB a b then a.tmod b + b else a.tmod b
theorem flr_part (a b : Int) : flr a b * b + lft a b = a := by
  have h := tdiv_part a b
  unfold flr lft
  split
  · rw [Int.sub_mul]
    omega
  · exact h
theorem lft_pos {a b : Int} (hb : 0 < b) : 0 ≤ lft a b ∧ lft a b < b := by
  have h := tmod_lt (n := a) (b := b) (by omega)
  unfold lft offB
  split
  · rename_i h1
    simp at h1
    omega
  · rename_i h1
    simp at h1
    omega
theorem lft_neg {a b : Int} (hb : b < 0) : lft a b ≤ 0 ∧ b < lft a b := by
  have h := tmod_lt (n := a) (b := b) (by omega)
  unfold lft offB
  split
  · rename_i h1
    simp at h1
    omega
  · rename_i h1
    simp at h1
    omega
theorem flr_ediv {a b : Int} (hb : 0 < b) : flr a b = a / b := by
  have h := flr_part a b
  have h2 := lft_pos (a := a) hb
  have h3 : a / b = (lft a b + flr a b * b) / b := by rw [Int.add_comm, h]
  rw [h3, Int.add_mul_ediv_right _ _ (by omega), Int.ediv_eq_zero_of_lt h2.1 h2.2, Int.zero_add]
theorem offB_one (a : Int) : offB a (-1) = false := by
  have h : a.tmod (-1) = 0 := by
    have := tmod_lt (n := a) (b := -1) (by omega)
    omega
  simp [offB, h]
theorem tdiv_neg_one (a : Int) : a.tdiv (-1) = -a := by rw [Int.tdiv_neg, Int.tdiv_one]
theorem flr_in {a b : Int} (ha : inR a) (h0 : b ≠ 0) (h : b ≠ -1 ∨ a ≠ -9223372036854775808) : inR (flr a b) := by
  have h1 := tdiv_in (b := b) ha h
  have h2 : (a.tdiv b).natAbs = a.natAbs / b.natAbs := Int.natAbs_tdiv a b
  unfold flr
  split
  · rename_i ho
    have hb1 : 1 < b.natAbs := by
      have := tmod_lt (n := a) h0
      simp [offB] at ho
      omega
    have : a.natAbs / b.natAbs ≤ a.natAbs / 2 := Nat.div_le_div_left (by omega) (by omega)
    unfold inR at *
    omega
  · exact h1
theorem lft_in {a b : Int} (hb : inR b) (h0 : b ≠ 0) : inR (lft a b) := by
  rcases Int.lt_or_gt_of_ne h0 with h | h
  · have := lft_neg (a := a) h
    unfold inR at *
    omega
  · have := lft_pos (a := a) h
    unfold inR at *
    omega

theorem pow_pos (k : Nat) : (0 : Int) < 2 ^ k := Int.pow_pos (by decide)
/-- A shift runs over just if shifting back does not give the number back. -/
theorem shl_over (a : Int) (k : Nat) : wrap64 (a * 2 ^ min k 64) / 2 ^ min k 64 = a ↔ inR (a * 2 ^ k) := by
  by_cases hk : k ≤ 64
  · rw [Nat.min_eq_left hk]
    have hp := pow_pos k
    refine ⟨fun h => ?_, fun h => by rw [wrap64_of h, Int.mul_ediv_cancel _ (by omega)]⟩
    obtain ⟨q, hq⟩ : ∃ q : Int, wrap64 (a * 2 ^ k) = a * 2 ^ k + q * 18446744073709551616 := ⟨-((a * 2 ^ k + 9223372036854775808) / 18446744073709551616), by unfold wrap64; omega⟩
    have hsplit : (18446744073709551616 : Int) = 2 ^ (64 - k) * 2 ^ k := by
      rw [← Int.pow_add, Nat.sub_add_cancel hk]; rfl
    have hq2 : q = 0 := by
      rw [hq, hsplit, ← Int.mul_assoc, ← Int.add_mul, Int.mul_ediv_cancel _ (by omega)] at h
      have h3 : q * 2 ^ (64 - k) = 0 := by omega
      rcases Int.mul_eq_zero.1 h3 with h4 | h4
      · exact h4
      · have := pow_pos (64 - k); omega
    have := wrap64_inR (a * 2 ^ k)
    rw [hq, hq2] at this
    simpa using this
  · rw [Nat.min_eq_right (by omega)]
    have h64 : ((2 : Int) ^ 64) = 18446744073709551616 := by decide
    have hz : wrap64 (a * 2 ^ 64) = 0 := by rw [h64]; unfold wrap64; omega
    rw [hz, Int.zero_ediv]
    refine ⟨fun h => by rw [← h, Int.zero_mul]; unfold inR; omega, fun h => ?_⟩
    by_cases h0 : a = 0
    · exact h0.symm
    · exfalso
      have hge : (18446744073709551616 : Int) ≤ 2 ^ k := by
        rw [← h64, show k = 64 + (k - 64) by omega, Int.pow_add]
        have := pow_pos (k - 64)
        rw [h64]
        omega
      generalize (2 : Int) ^ k = p at *
      have hab : (a * p).natAbs = a.natAbs * p.natAbs := Int.natAbs_mul a p
      have h1 : 1 * p.natAbs ≤ a.natAbs * p.natAbs := Nat.mul_le_mul_right _ (by omega)
      unfold inR at h
      omega

/-- Powers. -/
theorem pow_grows {a : Int} (ha : 2 ≤ a.natAbs) {k : Nat} (h : ¬ inR (a ^ k)) : ∀ d, ¬ inR (a ^ (k + d)) ∧ 9223372036854775808 ≤ (a ^ (k + d)).natAbs
  | 0 => ⟨h, by unfold inR at h; simp only [Nat.add_zero]; omega⟩
  | d + 1 => by
    have ih := (pow_grows ha h d).2
    have h1 : (a ^ (k + (d + 1))).natAbs = (a ^ (k + d)).natAbs * a.natAbs := by rw [← Nat.add_assoc, Int.pow_succ, Int.natAbs_mul]
    have h2 : (a ^ (k + d)).natAbs * 2 ≤ (a ^ (k + d)).natAbs * a.natAbs := Nat.mul_le_mul_left _ ha
    refine ⟨fun h3 => ?_, by omega⟩
    unfold inR at h3
    omega
theorem pow_small {a : Int} (h : -1 ≤ a ∧ a ≤ 1) : ∀ k : Nat, 1 ≤ k → a ^ k = if k % 2 = 0 then a * a else a
  | 0, hk => by omega
  | 1, _ => by simp [Int.pow_succ]
  | k + 2, _ => by
    by_cases hk : k = 0
    · subst hk
      simp [Int.pow_succ]
    · have ih := pow_small h k (by omega)
      have : (k + 2) % 2 = k % 2 := by omega
      rw [this, Int.pow_succ, Int.pow_succ, ih]
      have ha : a = -1 ∨ a = 0 ∨ a = 1 := by omega
      rcases ha with rfl | rfl | rfl <;> split <;> rfl
theorem small_in {a : Int} (h : -1 ≤ a ∧ a ≤ 1) (k : Nat) : inR (a ^ k) := by
  by_cases hk : k = 0
  · subst hk; simp [inR]
  · rw [pow_small h k (by omega)]
    have ha : a = -1 ∨ a = 0 ∨ a = 1 := by omega
    rcases ha with rfl | rfl | rfl <;> split <;> simp [inR]
end Go.Proofs.Ytffbhinpmlcopab

