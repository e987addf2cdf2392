import Derived.Test.YtffbhinpmlcopaaArJ
/- The law ArithRing, whole. -/
namespace Go.Proofs.Ytffbhinpmlcopaa
open Go.RowKit Go.Shelf

theorem addL : (⟨#[43]⟩ : ByteArray).toList = [43] := by decide +kernel
theorem mulL : (⟨#[42]⟩ : ByteArray).toList = [42] := by decide +kernel
theorem shlL : (⟨#[60, 60]⟩ : ByteArray).toList = [60, 60] := by decide +kernel
theorem shrL : (⟨#[62, 62]⟩ : ByteArray).toList = [62, 62] := by decide +kernel
theorem powL : (⟨#[94]⟩ : ByteArray).toList = [94] := by decide +kernel
/-- The number that comes out, 0 where none does; and whether one does. -/
def valE : Except ByteArray Int → Int
  | .ok n => n
  | .error _ => 0
def okE : Except ByteArray Int → Bool
  | .ok _ => true
  | .error _ => false
theorem opV_eq (x : Except ByteArray Int) : opV x = .tuple #[.int .i64 (valE x), .bool (okE x)] := by cases x <;> rfl
theorem valE_in {f : Int → Int → Except ByteArray Int} {a b : Int} (h : goodAt a b f) : inR (valE (f a b)) := by
  cases hx : f a b with
  | ok n => exact h.1 n hx
  | error e => simp [valE, inR]
theorem valE_fit (n : Int) : inR (valE (fit n)) := by
  unfold fit
  split
  · assumption
  · simp [valE, inR]
theorem op_add (a b : Int) (ha : inR a) (hb : inR b) (w : World) : Calls Try.prog 22 #[.string ⟨#[43]⟩, .int .i64 a, .int .i64 b] w fun e W' => e = .returned (.tuple #[.int .i64 (valE (fit (a + b))), .bool (okE (fit (a + b)))]) ∧ Below w.heap.size w W' := by
  rw [← opV_eq]; exact op_any _ (by decide) (fun a b => fit (a + b)) (by rw [addL]; rfl) a b ha hb w
theorem op_mul (a b : Int) (ha : inR a) (hb : inR b) (w : World) : Calls Try.prog 22 #[.string ⟨#[42]⟩, .int .i64 a, .int .i64 b] w fun e W' => e = .returned (.tuple #[.int .i64 (valE (fit (a * b))), .bool (okE (fit (a * b)))]) ∧ Below w.heap.size w W' := by
  rw [← opV_eq]; exact op_any _ (by decide) (fun a b => fit (a * b)) (by rw [mulL]; rfl) a b ha hb w
theorem op_shl (a b : Int) (ha : inR a) (hb : inR b) (h0 : 0 ≤ b) (w : World) : Calls Try.prog 22 #[.string ⟨#[60, 60]⟩, .int .i64 a, .int .i64 b] w fun e W' => e = .returned (.tuple #[.int .i64 (valE (fit (a * 2 ^ b.toNat))), .bool (okE (fit (a * 2 ^ b.toNat)))]) ∧ Below w.heap.size w W' := by
  have h := op_any ⟨#[60, 60]⟩ (by decide) (fun a b => if b < 0 then .error sNeg else fit (a * 2 ^ b.toNat)) (by rw [shlL]; rfl) a b ha hb w
  rw [if_neg (by omega), opV_eq] at h
  exact h
theorem op_shr (a b : Int) (ha : inR a) (hb : inR b) (h0 : 0 ≤ b) (w : World) : Calls Try.prog 22 #[.string ⟨#[62, 62]⟩, .int .i64 a, .int .i64 b] w fun e W' => e = .returned (.tuple #[.int .i64 (a / 2 ^ min b.toNat 64), .bool true]) ∧ Below w.heap.size w W' := by
  have h := op_any ⟨#[62, 62]⟩ (by decide) (fun a b => if b < 0 then .error sNeg else .ok (a / 2 ^ min b.toNat 64)) (by rw [shrL]; rfl) a b ha hb w
  rw [if_neg (by omega), opV_eq] at h
  exact h
theorem op_pow (a b : Int) (ha : inR a) (hb : inR b) (h0 : 0 ≤ b) (w : World) : Calls Try.prog 22 #[.string ⟨#[94]⟩, .int .i64 a, .int .i64 b] w fun e W' => e = .returned (.tuple #[.int .i64 (valE (fit (a ^ b.toNat))), .bool (okE (fit (a ^ b.toNat)))]) ∧ Below w.heap.size w W' := by
  have h := op_any ⟨#[94]⟩ (by decide) (fun a b => if b < 0 then .error sNeg else fit (a ^ b.toNat)) (by rw [powL]; rfl) a b ha hb w
  rw [if_neg (by omega), opV_eq] at h
  exact h
theorem mask_31 (c : Int) : 0 ≤ bits .and .i64 c 31 ∧ bits .and .i64 c 31 ≤ 31 := by
  rw [bits_and64, show BitVec.ofInt 64 31 = 31#64 by decide]
  generalize BitVec.ofInt 64 c = x
  have h : (x &&& 31#64).toNat ≤ 31 := by
    rw [BitVec.toNat_and]
    exact Nat.and_le_right
  have h2 := BitVec.toInt_eq_toNat_cond (x &&& 31#64)
  split at h2 <;> omega
theorem okE_fit {n : Int} : okE (fit n) = true ↔ inR n := by
  by_cases h : inR n
  · rw [fit_ok h]; exact ⟨fun _ => h, fun _ => rfl⟩
  · rw [fit_no h]; exact ⟨fun x => (by cases x), fun x => absurd x h⟩
theorem valE_ok {n : Int} (h : inR n) : valE (fit n) = n := by rw [fit_ok h]; rfl

theorem ring_any (a b c : Int) (ha : inR a) (hb : inR b) (hc : inR c) (w : World) :
    Calls Try.prog 8 #[.int .i64 a, .int .i64 b, .int .i64 c] w fun e W' => e = .returned (.bool true) ∧ Below w.heap.size w W' := by
  obtain ⟨k0, k1⟩ := mask_31 c
  generalize hk : bits .and .i64 c 31 = k at *
  have ik : inR k := by unfold inR; omega
  have i2 : inR 2 := by simp [inR]
  have hmin : min k.toNat 64 = k.toNat := by omega
  have hp := pow_pos k.toNat
  have hple : (2 : Int) ^ k.toNat ≤ 2147483648 := by
    have hn : (2 : Nat) ^ k.toNat ≤ 2 ^ 31 := Nat.pow_le_pow_right (by decide) (by omega)
    have hcast : (((2 : Nat) ^ k.toNat : Nat) : Int) = (2 : Int) ^ k.toNat := Int.natCast_pow 2 k.toNat
    rw [← hcast]
    have h31 : (2 : Nat) ^ 31 = 2147483648 := by decide
    omega
  have it : inR ((2 : Int) ^ k.toNat) := by unfold inR; omega
  have q0 := op_add a b ha hb
  have q1 := op_add b a hb ha
  rw [Int.add_comm b a] at q1
  have q2 := op_mul a b ha hb
  have q3 := op_mul b a hb ha
  rw [Int.mul_comm b a] at q3
  have q4 := op_add b c hb hc
  have q5 := op_add _ c (valE_fit (a + b)) hc
  have q6 := op_add a _ ha (valE_fit (b + c))
  have q7 := op_mul b c hb hc
  have q8 := op_mul _ c (valE_fit (a * b)) hc
  have q9 := op_mul a _ ha (valE_fit (b * c))
  have q10 := op_shl a k ha ik k0
  have q11 := op_shr _ k (valE_fit (a * 2 ^ k.toNat)) ik k0
  have q12 := op_pow 2 k i2 ik k0
  rw [valE_ok it] at q12
  have q13 := op_mul a _ ha it
  have q14 := op_shr a k ha ik k0
  have q15 := op_any ⟨#[100, 105, 118]⟩ (by decide) (fun a b => if b = 0 then .error sZero else fit (flr a b)) (by rw [divL]; rfl) a _ ha it
  rw [if_neg (by omega), flr_ediv hp, fit_ok (shr_in ha _), opV_eq] at q15
  rw [hmin] at q11 q14
  refine ring_core a b c k _ _ _ _ _ _ _ _ _ _ _ _ _ _ _ _ _ _ _ _ _ _ _ _ _ w hk q0 q1 q2 q3 q4 q5 q6 q7 q8 q9 q10 q11 q12 q13 q14 q15 ?_ ?_ ?_
  · cases h1 : okE (fit (a + b)) with
    | false => exact .inl rfl
    | true =>
      cases h2 : okE (fit (b + c)) with
      | false => exact .inr (.inl ⟨rfl, rfl⟩)
      | true =>
        have e1 := valE_ok (okE_fit.1 h1)
        have e2 := valE_ok (okE_fit.1 h2)
        rw [e1, e2, Int.add_assoc]
        exact .inr (.inr ⟨rfl, rfl, rfl, rfl⟩)
  · cases h1 : okE (fit (a * b)) with
    | false => exact .inl rfl
    | true =>
      cases h2 : okE (fit (b * c)) with
      | false => exact .inr (.inl ⟨rfl, rfl⟩)
      | true =>
        by_cases ha0 : a = 0
        · exact .inr (.inr (.inl ⟨rfl, rfl, ha0⟩))
        · by_cases hc0 : c = 0
          · exact .inr (.inr (.inr (.inl ⟨rfl, rfl, ha0, hc0⟩)))
          · have e1 := valE_ok (okE_fit.1 h1)
            have e2 := valE_ok (okE_fit.1 h2)
            rw [e1, e2, Int.mul_assoc]
            exact .inr (.inr (.inr (.inr ⟨rfl, rfl, ha0, hc0, rfl, rfl⟩)))
  · cases h1 : okE (fit (a * 2 ^ k.toNat)) with
    | false => exact .inl rfl
    | true =>
      refine .inr ⟨rfl, ?_⟩
      rw [valE_ok (okE_fit.1 h1), Int.mul_ediv_cancel _ (by omega)]
end Go.Proofs.Ytffbhinpmlcopaa

