import Derived.Test.YtffbhinpmlcopabArO
/- hornref's numbers: bitwise. -/
namespace Go.Proofs.Ytffbhinpmlcopab
open Go.RowKit Go.Shelf

theorem ofInt_pow (k : Nat) : BitVec.ofInt 64 (wrap64 (2 ^ k)) = BitVec.twoPow 64 k := by
  apply BitVec.eq_of_toNat_eq
  rw [BitVec.toNat_ofInt, BitVec.toNat_twoPow]
  have hc : (((2 : Nat) ^ k : Nat) : Int) = (2 : Int) ^ k := Int.natCast_pow 2 k
  rw [← hc]
  generalize (2 : Nat) ^ k = p
  unfold wrap64
  have h64 : (2 : Nat) ^ 64 = 18446744073709551616 := by decide
  rw [h64]
  omega
theorem bit_at (a : Int) (k : Nat) (hk : k < 64) : bits .and .i64 a (wrap64 (2 ^ k)) = 0 ↔ (BitVec.ofInt 64 a).getLsbD k = false := by
  rw [bits_and64, ofInt_pow, BitVec.and_twoPow]
  cases h : (BitVec.ofInt 64 a).getLsbD k with
  | false => simp
  | true =>
    simp only [if_true, Bool.true_eq_false, iff_false]
    intro h2
    have h3 : BitVec.twoPow 64 k = 0#64 := BitVec.eq_of_toInt_eq (by rw [h2]; rfl)
    have h4 := congrArg (fun x => BitVec.getLsbD x k) h3
    simp [hk] at h4
/-- The three names: what is done bit by bit. -/
def bopB (m : Nat) (x y : Bool) : Bool := if m = 0 then x && y else if m = 1 then x || y else x != y
def bopV (m : Nat) (A B : BitVec 64) : BitVec 64 := if m = 0 then A &&& B else if m = 1 then A ||| B else A ^^^ B
def bopI (m : Nat) (a b : Int) : Int := if m = 0 then bits .and .i64 a b else if m = 1 then bits .or .i64 a b else bits .xor .i64 a b
theorem bop_bit (m : Nat) (A B : BitVec 64) (k : Nat) : (bopV m A B).getLsbD k = bopB m (A.getLsbD k) (B.getLsbD k) := by
  unfold bopV bopB
  split
  · simp
  · split
    · simp
    · simp
theorem bop_int (m : Nat) (a b : Int) : bopI m a b = (bopV m (BitVec.ofInt 64 a) (BitVec.ofInt 64 b)).toInt := by
  unfold bopI bopV
  split
  · exact bits_and64 a b
  · split
    · exact bits_or64 a b
    · exact bits_xor64 a b
/-- What has come together of the first k bits. -/
def sofar (R : BitVec 64) (k : Nat) : Int := wrap64 ((R.toNat % 2 ^ k : Nat) : Int)
theorem sofar_zero (R : BitVec 64) : sofar R 0 = 0 := by unfold sofar; simp [Nat.mod_one]; unfold wrap64; omega
theorem sofar_all (R : BitVec 64) : sofar R 64 = R.toInt := by
  unfold sofar
  rw [Nat.mod_eq_of_lt R.isLt, BitVec.toInt_eq_toNat_cond]
  have := R.isLt
  unfold wrap64
  split <;> omega
theorem wrap_more (x q : Int) : wrap64 (x + q * 18446744073709551616) = wrap64 x := by
  unfold wrap64
  rw [show x + q * 18446744073709551616 + 9223372036854775808 = (x + 9223372036854775808) + q * 18446744073709551616 by omega, Int.add_mul_emod_self_right]
theorem wrap_ex (x : Int) : ∃ q, wrap64 x = x + q * 18446744073709551616 := ⟨-((x + 9223372036854775808) / 18446744073709551616), by unfold wrap64; omega⟩
theorem sofar_step (R : BitVec 64) (k : Nat) : sofar R (k + 1) = if R.getLsbD k then wrap64 (sofar R k + wrap64 (2 ^ k)) else sofar R k := by
  unfold sofar
  have h : R.toNat % 2 ^ (k + 1) = R.toNat % 2 ^ k + 2 ^ k * (R.toNat.testBit k).toNat := by
    rw [Nat.pow_succ, Nat.mod_mul, Nat.testBit_eq_decide_div_mod_eq]
    have h2 : R.toNat / 2 ^ k % 2 = 0 ∨ R.toNat / 2 ^ k % 2 = 1 := by omega
    rcases h2 with h2 | h2 <;> simp [h2]
  have hb : R.getLsbD k = R.toNat.testBit k := rfl
  have hc : (((2 : Nat) ^ k : Nat) : Int) = (2 : Int) ^ k := Int.natCast_pow 2 k
  rw [h, hb, ← hc]
  generalize (2 : Nat) ^ k = p
  cases R.toNat.testBit k with
  | false => simp
  | true =>
    simp only [if_true, Bool.toNat_true, Nat.mul_one]
    generalize R.toNat % p = q
    obtain ⟨q1, h1⟩ := wrap_ex (q : Int)
    obtain ⟨q2, h2⟩ := wrap_ex (p : Int)
    rw [h1, h2, show (q : Int) + q1 * 18446744073709551616 + ((p : Int) + q2 * 18446744073709551616) = ((q + p : Nat) : Int) + (q1 + q2) * 18446744073709551616 by rw [Int.add_mul]; omega, wrap_more]
def bitName (s : ByteArray) (m : Nat) : Prop := (s.toList == [47, 92]) = decide (m = 0) ∧ (s.toList == [92, 47]) = decide (m = 1) ∧ (s.toList == [120, 111, 114]) = decide (m = 2)

set_option maxRecDepth 100000 in
set_option maxHeartbeats 8000000 in
theorem rbit0_any (s : ByteArray) (n0 : (s.toList == [47, 92]) = true) (n1 : (s.toList == [92, 47]) = false) (n2 : (s.toList == [120, 111, 114]) = false) (a b : Int) (w : World) :
    Calls Try.prog 70 #[.string s, .int .i64 a, .int .i64 b] w fun e w' => e = .returned (.int .i64 (bopI 0 a b)) ∧ Below w.heap.size w w' := by
  have hB : Below w.heap.size w w := Below.refl _ _
  have HI : Hid (bopI 0 a b = (bopV 0 (BitVec.ofInt 64 a) (BitVec.ofInt 64 b)).toInt) := bop_int 0 a b
  have HBIT : Hid (∀ k, (bopV 0 (BitVec.ofInt 64 a) (BitVec.ofInt 64 b)).getLsbD k = bopB 0 ((BitVec.ofInt 64 a).getLsbD k) ((BitVec.ofInt 64 b).getLsbD k)) := bop_bit 0 _ _
  generalize hR : bopV 0 (BitVec.ofInt 64 a) (BitVec.ofInt 64 b) = R at *
  clear hR
  all_goals go_enter Try.func70, Try.ntmps70
  all_goals go_wp2_with fail
  all_goals (
    go_loopw [7, 8] (fun x i wr => ∃ k : Nat, k ≤ 64 ∧ i = .int .i64 k ∧ x = .int .i64 (sofar R k) ∧ Below w.heap.size w wr) (fun _ i _ => 64 - (intOf i).toNat)
    case atStart => exact ⟨0, Nat.zero_le _, rfl, by rw [sofar_zero], hB⟩
    case round =>
      obtain ⟨k, hk, rfl, rfl, hBr⟩ := hrel
      by_cases hlt : k < 64
      · have ea := bit_at a k hlt
        have eb := bit_at b k hlt
        have hbit := HBIT.out k
        have hst := sofar_step R k
        rw [hbit] at hst
        have HBD : Hid (Below w.heap.size w wr.drew) := hBr.drew
        cases ha : (BitVec.ofInt 64 a).getLsbD k with
        | false =>
          have xa := ea.2 ha
          cases hb : (BitVec.ofInt 64 b).getLsbD k with
          | false =>
            have xb := eb.2 hb
            rw [ha, hb] at hst
            have HST : Hid _ := hst
            clear ea eb hbit hst ha hb
            generalize sofar R k = S at *
            go_wp2_with fail
            go_region
            go_wp2_with fail
            all_goals (refine ⟨⟨k + 1, by omega, by go_num, by rw [HST.out]; simp [bopB], HBD.out⟩, by simp [intOf]; omega⟩)
          | true =>
            have xb : ¬ bits .and .i64 b (wrap64 (2 ^ k)) = 0 := fun h => by rw [eb.1 h] at hb; cases hb
            have xb' : (bits .and .i64 b (wrap64 (2 ^ k)) != 0) = true := by simpa using xb
            rw [ha, hb] at hst
            have HST : Hid _ := hst
            clear ea eb hbit hst ha hb
            generalize sofar R k = S at *
            go_wp2_with fail
            go_region
            go_wp2_with fail
            all_goals (refine ⟨⟨k + 1, by omega, by go_num, by rw [HST.out]; simp [bopB], HBD.out⟩, by simp [intOf]; omega⟩)
        | true =>
          have xa : ¬ bits .and .i64 a (wrap64 (2 ^ k)) = 0 := fun h => by rw [ea.1 h] at ha; cases ha
          have xa' : (bits .and .i64 a (wrap64 (2 ^ k)) != 0) = true := by simpa using xa
          cases hb : (BitVec.ofInt 64 b).getLsbD k with
          | false =>
            have xb := eb.2 hb
            rw [ha, hb] at hst
            have HST : Hid _ := hst
            clear ea eb hbit hst ha hb
            generalize sofar R k = S at *
            go_wp2_with fail
            go_region
            go_wp2_with fail
            all_goals (refine ⟨⟨k + 1, by omega, by go_num, by rw [HST.out]; simp [bopB], HBD.out⟩, by simp [intOf]; omega⟩)
          | true =>
            have xb : ¬ bits .and .i64 b (wrap64 (2 ^ k)) = 0 := fun h => by rw [eb.1 h] at hb; cases hb
            have xb' : (bits .and .i64 b (wrap64 (2 ^ k)) != 0) = true := by simpa using xb
            rw [ha, hb] at hst
            have HST : Hid _ := hst
            clear ea eb hbit hst ha hb
            generalize sofar R k = S at *
            go_wp2_with fail
            go_region
            go_wp2_with fail
            all_goals (refine ⟨⟨k + 1, by omega, by go_num, by rw [HST.out]; simp [bopB], HBD.out⟩, by simp [intOf]; omega⟩)
      · have hk64 : k = 64 := by omega
        subst hk64
        have HS : Hid (sofar R 64 = R.toInt) := sofar_all R
        go_wp2_with fail
        go_ret
        exact ⟨by rw [HI.out]; simp [HS.out], hBr⟩)
set_option maxRecDepth 100000 in
set_option maxHeartbeats 8000000 in
theorem rbit1_any (s : ByteArray) (n0 : (s.toList == [47, 92]) = false) (n1 : (s.toList == [92, 47]) = true) (n2 : (s.toList == [120, 111, 114]) = false) (a b : Int) (w : World) :
    Calls Try.prog 70 #[.string s, .int .i64 a, .int .i64 b] w fun e w' => e = .returned (.int .i64 (bopI 1 a b)) ∧ Below w.heap.size w w' := by
  have hB : Below w.heap.size w w := Below.refl _ _
  have HI : Hid (bopI 1 a b = (bopV 1 (BitVec.ofInt 64 a) (BitVec.ofInt 64 b)).toInt) := bop_int 1 a b
  have HBIT : Hid (∀ k, (bopV 1 (BitVec.ofInt 64 a) (BitVec.ofInt 64 b)).getLsbD k = bopB 1 ((BitVec.ofInt 64 a).getLsbD k) ((BitVec.ofInt 64 b).getLsbD k)) := bop_bit 1 _ _
  generalize hR : bopV 1 (BitVec.ofInt 64 a) (BitVec.ofInt 64 b) = R at *
  clear hR
  all_goals go_enter Try.func70, Try.ntmps70
  all_goals go_wp2_with fail
  all_goals (
    go_loopw [7, 8] (fun x i wr => ∃ k : Nat, k ≤ 64 ∧ i = .int .i64 k ∧ x = .int .i64 (sofar R k) ∧ Below w.heap.size w wr) (fun _ i _ => 64 - (intOf i).toNat)
    case atStart => exact ⟨0, Nat.zero_le _, rfl, by rw [sofar_zero], hB⟩
    case round =>
      obtain ⟨k, hk, rfl, rfl, hBr⟩ := hrel
      by_cases hlt : k < 64
      · have ea := bit_at a k hlt
        have eb := bit_at b k hlt
        have hbit := HBIT.out k
        have hst := sofar_step R k
        rw [hbit] at hst
        have HBD : Hid (Below w.heap.size w wr.drew) := hBr.drew
        cases ha : (BitVec.ofInt 64 a).getLsbD k with
        | false =>
          have xa := ea.2 ha
          cases hb : (BitVec.ofInt 64 b).getLsbD k with
          | false =>
            have xb := eb.2 hb
            rw [ha, hb] at hst
            have HST : Hid _ := hst
            clear ea eb hbit hst ha hb
            generalize sofar R k = S at *
            go_wp2_with fail
            go_region
            go_wp2_with fail
            all_goals (refine ⟨⟨k + 1, by omega, by go_num, by rw [HST.out]; simp [bopB], HBD.out⟩, by simp [intOf]; omega⟩)
          | true =>
            have xb : ¬ bits .and .i64 b (wrap64 (2 ^ k)) = 0 := fun h => by rw [eb.1 h] at hb; cases hb
            have xb' : (bits .and .i64 b (wrap64 (2 ^ k)) != 0) = true := by simpa using xb
            rw [ha, hb] at hst
            have HST : Hid _ := hst
            clear ea eb hbit hst ha hb
            generalize sofar R k = S at *
            go_wp2_with fail
            go_region
            go_wp2_with fail
            all_goals (refine ⟨⟨k + 1, by omega, by go_num, by rw [HST.out]; simp [bopB], HBD.out⟩, by simp [intOf]; omega⟩)
        | true =>
          have xa : ¬ bits .and .i64 a (wrap64 (2 ^ k)) = 0 := fun h => by rw [ea.1 h] at ha; cases ha
          have xa' : (bits .and .i64 a (wrap64 (2 ^ k)) != 0) = true := by simpa using xa
          cases hb : (BitVec.ofInt 64 b).getLsbD k with
          | false =>
            have xb := eb.2 hb
            rw [ha, hb] at hst
            have HST : Hid _ := hst
            clear ea eb hbit hst ha hb
            generalize sofar R k = S at *
            go_wp2_with fail
            go_region
            go_wp2_with fail
            all_goals (refine ⟨⟨k + 1, by omega, by go_num, by rw [HST.out]; simp [bopB], HBD.out⟩, by simp [intOf]; omega⟩)
          | true =>
            have xb : ¬ bits .and .i64 b (wrap64 (2 ^ k)) = 0 := fun h => by rw [eb.1 h] at hb; cases hb
            have xb' : (bits .and .i64 b (wrap64 (2 ^ k)) != 0) = true := by simpa using xb
            rw [ha, hb] at hst
            have HST : Hid _ := hst
            clear ea eb hbit hst ha hb
            generalize sofar R k = S at *
            go_wp2_with fail
            go_region
            go_wp2_with fail
            all_goals (refine ⟨⟨k + 1, by omega, by go_num, by rw [HST.out]; simp [bopB], HBD.out⟩, by simp [intOf]; omega⟩)
      · have hk64 : k = 64 := by omega
        subst hk64
        have HS : Hid (sofar R 64 = R.toInt) := sofar_all R
        go_wp2_with fail
        go_ret
        exact ⟨by rw [HI.out]; simp [HS.out], hBr⟩)
set_option maxRecDepth 100000 in
set_option maxHeartbeats 8000000 in
theorem rbit2_any (s : ByteArray) (n0 : (s.toList == [47, 92]) = false) (n1 : (s.toList == [92, 47]) = false) (n2 : (s.toList == [120, 111, 114]) = true) (a b : Int) (w : World) :
    Calls Try.prog 70 #[.string s, .int .i64 a, .int .i64 b] w fun e w' => e = .returned (.int .i64 (bopI 2 a b)) ∧ Below w.heap.size w w' := by
  have hB : Below w.heap.size w w := Below.refl _ _
  have HI : Hid (bopI 2 a b = (bopV 2 (BitVec.ofInt 64 a) (BitVec.ofInt 64 b)).toInt) := bop_int 2 a b
  have HBIT : Hid (∀ k, (bopV 2 (BitVec.ofInt 64 a) (BitVec.ofInt 64 b)).getLsbD k = bopB 2 ((BitVec.ofInt 64 a).getLsbD k) ((BitVec.ofInt 64 b).getLsbD k)) := bop_bit 2 _ _
  generalize hR : bopV 2 (BitVec.ofInt 64 a) (BitVec.ofInt 64 b) = R at *
  clear hR
  all_goals go_enter Try.func70, Try.ntmps70
  all_goals go_wp2_with fail
  all_goals (
    go_loopw [7, 8] (fun x i wr => ∃ k : Nat, k ≤ 64 ∧ i = .int .i64 k ∧ x = .int .i64 (sofar R k) ∧ Below w.heap.size w wr) (fun _ i _ => 64 - (intOf i).toNat)
    case atStart => exact ⟨0, Nat.zero_le _, rfl, by rw [sofar_zero], hB⟩
    case round =>
      obtain ⟨k, hk, rfl, rfl, hBr⟩ := hrel
      by_cases hlt : k < 64
      · have ea := bit_at a k hlt
        have eb := bit_at b k hlt
        have hbit := HBIT.out k
        have hst := sofar_step R k
        rw [hbit] at hst
        have HBD : Hid (Below w.heap.size w wr.drew) := hBr.drew
        cases ha : (BitVec.ofInt 64 a).getLsbD k with
        | false =>
          have xa := ea.2 ha
          cases hb : (BitVec.ofInt 64 b).getLsbD k with
          | false =>
            have xb := eb.2 hb
            rw [ha, hb] at hst
            have HST : Hid _ := hst
            clear ea eb hbit hst ha hb
            generalize sofar R k = S at *
            go_wp2_with fail
            go_region
            go_wp2_with fail
            all_goals (refine ⟨⟨k + 1, by omega, by go_num, by rw [HST.out]; simp [bopB], HBD.out⟩, by simp [intOf]; omega⟩)
          | true =>
            have xb : ¬ bits .and .i64 b (wrap64 (2 ^ k)) = 0 := fun h => by rw [eb.1 h] at hb; cases hb
            have xb' : (bits .and .i64 b (wrap64 (2 ^ k)) != 0) = true := by simpa using xb
            rw [ha, hb] at hst
            have HST : Hid _ := hst
            clear ea eb hbit hst ha hb
            generalize sofar R k = S at *
            go_wp2_with fail
            go_region
            go_wp2_with fail
            all_goals (refine ⟨⟨k + 1, by omega, by go_num, by rw [HST.out]; simp [bopB], HBD.out⟩, by simp [intOf]; omega⟩)
        | true =>
          have xa : ¬ bits .and .i64 a (wrap64 (2 ^ k)) = 0 := fun h => by rw [ea.1 h] at ha; cases ha
          have xa' : (bits .and .i64 a (wrap64 (2 ^ k)) != 0) = true := by simpa using xa
          cases hb : (BitVec.ofInt 64 b).getLsbD k with
          | false =>
            have xb := eb.2 hb
            rw [ha, hb] at hst
            have HST : Hid _ := hst
            clear ea eb hbit hst ha hb
            generalize sofar R k = S at *
            go_wp2_with fail
            go_region
            go_wp2_with fail
            all_goals (refine ⟨⟨k + 1, by omega, by go_num, by rw [HST.out]; simp [bopB], HBD.out⟩, by simp [intOf]; omega⟩)
          | true =>
            have xb : ¬ bits .and .i64 b (wrap64 (2 ^ k)) = 0 := fun h => by rw [eb.1 h] at hb; cases hb
            have xb' : (bits .and .i64 b (wrap64 (2 ^ k)) != 0) = true := by simpa using xb
            rw [ha, hb] at hst
            have HST : Hid _ := hst
            clear ea eb hbit hst ha hb
            generalize sofar R k = S at *
            go_wp2_with fail
            go_region
            go_wp2_with fail
            all_goals (refine ⟨⟨k + 1, by omega, by go_num, by rw [HST.out]; simp [bopB], HBD.out⟩, by simp [intOf]; omega⟩)
      · have hk64 : k = 64 := by omega
        subst hk64
        have HS : Hid (sofar R 64 = R.toInt) := sofar_all R
        go_wp2_with fail
        go_ret
        exact ⟨by rw [HI.out]; simp [HS.out], hBr⟩)
theorem rbitwise_any (s : ByteArray) (m : Nat) (hm : m < 3) (hs : bitName s m) (a b : Int) (w : World) :
    Calls Try.prog 70 #[.string s, .int .i64 a, .int .i64 b] w fun e w' => e = .returned (.int .i64 (bopI m a b)) ∧ Below w.heap.size w w' := by
  obtain ⟨n0, n1, n2⟩ := hs
  have hm3 : m = 0 ∨ m = 1 ∨ m = 2 := by omega
  rcases hm3 with rfl | rfl | rfl
  · exact rbit0_any s n0 n1 n2 a b w
  · exact rbit1_any s n0 n1 n2 a b w
  · exact rbit2_any s n0 n1 n2 a b w
end Go.Proofs.Ytffbhinpmlcopab

