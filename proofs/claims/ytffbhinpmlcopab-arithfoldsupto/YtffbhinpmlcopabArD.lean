import Derived.Test.YtffbhinpmlcopabArC
import Derived.Test.YtffbhinpmlcopabE
/- What is found by a name: withOne, withTwo, find. -/
namespace Go.Proofs.Ytffbhinpmlcopab
open Go.RowKit Go.Shelf

theorem toInt_flip (x : BitVec 64) : (~~~x).toInt = -1 - x.toInt := by
  have h2 := BitVec.toInt_eq_toNat_cond x
  have h3 := x.isLt
  rw [BitVec.toInt_not, Int.bmod_def]
  generalize x.toNat = n at *
  generalize x.toInt = m at *
  split at h2 <;> split <;> omega
theorem xor_all (a : Int) (ha : inR a) : bits .xor .i64 (-1) a = -1 - a := by
  rw [bits_xor64, show BitVec.ofInt 64 (-1) = BitVec.allOnes 64 by decide, BitVec.allOnes_xor, toInt_flip, BitVec.toInt_ofInt]
  unfold inR at ha
  rw [Int.bmod_eq_of_le (by omega) (by omega)]
theorem cmp3_sign (a : Int) : cmp3 a 0 = a.sign := by
  unfold cmp3
  rcases Int.lt_trichotomy a 0 with h | h | h
  · rw [if_pos h, Int.sign_eq_neg_one_of_neg h]
  · subst h; rfl
  · rw [if_neg (by omega), if_pos h, Int.sign_eq_one_of_pos h]

/-- What a name does with one number. -/
def oneOp (s : List UInt8) : Option (Int → Except ByteArray Int) :=
  if s == [45] then some fun a => fit (-a)
  else if s == [43] then some fun a => .ok a
  else if s == [97, 98, 115] then some fun a => fit (a.natAbs : Int)
  else if s == [115, 105, 103, 110] then some fun a => .ok a.sign
  else if s == [92] then some fun a => .ok (-1 - a)
  else none
/-- What a name does with two numbers. -/
def twoOp (s : List UInt8) : Option (Int → Int → Except ByteArray Int) :=
  if s == [43] then some fun a b => fit (a + b)
  else if s == [45] then some fun a b => fit (a - b)
  else if s == [42] then some fun a b => fit (a * b)
  else if s == [47, 47] then some fun a b => if b = 0 then .error sZero else fit (a.tdiv b)
  else if s == [114, 101, 109] then some fun a b => if b = 0 then .error sZero else .ok (a.tmod b)
  else if s == [100, 105, 118] then some fun a b => if b = 0 then .error sZero else fit (flr a b)
  else if s == [109, 111, 100] then some fun a b => if b = 0 then .error sZero else .ok (lft a b)
  else if s == [109, 105, 110] then some fun a b => .ok (min a b)
  else if s == [109, 97, 120] then some fun a b => .ok (max a b)
  else if s == [103, 99, 100] then some fun a b => fit (Int.gcd a b : Int)
  else if s == [42, 42] then some fun a b => if b < 0 then .error sNeg else fit (a ^ b.toNat)
  else if s == [94] then some fun a b => if b < 0 then .error sNeg else fit (a ^ b.toNat)
  else if s == [60, 60] then some fun a b => if b < 0 then .error sNeg else fit (a * 2 ^ b.toNat)
  else if s == [62, 62] then some fun a b => if b < 0 then .error sNeg else .ok (a / 2 ^ min b.toNat 64)
  else if s == [47, 92] then some fun a b => .ok (bits .and .i64 a b)
  else if s == [92, 47] then some fun a b => .ok (bits .or .i64 a b)
  else if s == [120, 111, 114] then some fun a b => .ok (bits .xor .i64 a b)
  else none

abbrev anyC : Int → Int → Prop := fun _ _ => True
set_option maxHeartbeats 1000000 in
theorem neg_does (w : World) : Does w (.func (.func 99) #[] #[]) anyC (fun a _ => fit (-a)) :=
  Does.of (enters_of Try.func99 (by kernel_rfl) rfl) (fun a b W ha hb _ => by
    have hd := diff_any 0 a (by simp [inR]) ha W
    rw [show -a = 0 - a by omega]
    obtain ⟨n, s, hv⟩ := ansV_shape (fit (0 - a))
    rw [hv] at hd ⊢
    clear hv
    go_enter Try.func99, Try.ntmps99
    go_wp2_with fail
    refine hd.mono ?_
    rintro e w' ⟨rfl, rfl⟩
    go_wp2
    all_goals go_ret2
    all_goals exact ⟨rfl, Below.refl _ _⟩) w
set_option maxHeartbeats 1000000 in
theorem plus_plain : Plain 102 anyC (fun a _ => a) :=
  ⟨enters_of Try.func102 (by kernel_rfl) rfl, fun a b W ha hb _ => by
    go_enter Try.func102, Try.ntmps102
    go_wp2
    all_goals go_ret
    all_goals exact ⟨rfl, Below.refl _ _⟩⟩
set_option maxHeartbeats 1000000 in
theorem abs_does (w : World) : Does w (.func (.func 103) #[] #[]) anyC (fun a _ => fit (a.natAbs : Int)) :=
  Does.of (enters_of Try.func103 (by kernel_rfl) rfl) (fun a b W ha hb _ => by
    have hm := magnitude_any a ha W
    have hs := signed_any a.natAbs (by unfold inR at ha; omega) W
    obtain ⟨n, s, hv⟩ := ansV_shape (fit (a.natAbs : Int))
    rw [hv] at hs ⊢
    clear hv
    go_enter Try.func103, Try.ntmps103
    go_wp2_with fail
    refine hm.mono ?_
    rintro e w' ⟨rfl, rfl⟩
    go_wp2_with fail
    refine hs.mono ?_
    rintro e w' ⟨rfl, rfl⟩
    go_wp2
    all_goals go_ret2
    all_goals exact ⟨rfl, Below.refl _ _⟩) w
set_option maxHeartbeats 1000000 in
theorem sign_plain : Plain 106 anyC (fun a _ => a.sign) :=
  ⟨enters_of Try.func106 (by kernel_rfl) rfl, fun a b W ha hb _ => by
    have hc := cmpl_any a 0 W
    have HS : Hid (cmp3 a 0 = a.sign) := cmp3_sign a
    have hr : -1 ≤ cmp3 a 0 ∧ cmp3 a 0 ≤ 1 := by unfold cmp3; split <;> (try split) <;> omega
    generalize cmp3 a 0 = c at *
    go_enter Try.func106, Try.ntmps106
    go_wp2_with fail
    refine hc.mono ?_
    rintro e w' ⟨rfl, rfl⟩
    go_wp2
    all_goals go_ret
    all_goals exact ⟨by simp [HS.out], Below.refl _ _⟩⟩
set_option maxHeartbeats 1000000 in
theorem not_plain : Plain 108 anyC (fun a _ => -1 - a) :=
  ⟨enters_of Try.func108 (by kernel_rfl) rfl, fun a b W ha hb _ => by
    have HX : Hid (bits .xor .i64 (-1) a = -1 - a) := xor_all a ha
    go_enter Try.func108, Try.ntmps108
    go_wp2
    all_goals go_ret
    all_goals exact ⟨by simp [HX.out], Below.refl _ _⟩⟩
theorem same_below {g : Nat} {args : Array Value} {v : Value} {W : World} (h : Calls Try.prog g args W fun e w' => e = .returned v ∧ w' = W) : Calls Try.prog g args W fun e w' => e = .returned v ∧ Below W.heap.size W w' :=
  h.mono fun _ _ x => ⟨x.1, by rw [x.2]; exact Below.refl _ _⟩
theorem sum_does (w : World) : Does w (.func (.func 109) #[] #[]) anyC (fun a b => fit (a + b)) :=
  Does.of (enters_of Try.func109 (by kernel_rfl) rfl) (fun a b W ha hb _ => same_below (sum_any a b ha hb W)) w
theorem diff_does (w : World) : Does w (.func (.func 100) #[] #[]) anyC (fun a b => fit (a - b)) :=
  Does.of (enters_of Try.func100 (by kernel_rfl) rfl) (fun a b W ha hb _ => same_below (diff_any a b ha hb W)) w
theorem product_does (w : World) : Does w (.func (.func 110) #[] #[]) anyC (fun a b => fit (a * b)) :=
  Does.of (enters_of Try.func110 (by kernel_rfl) rfl) (fun a b W ha hb _ => same_below (product_any a b ha hb W)) w
theorem quotient_does (w : World) : Does w (.func (.func 112) #[] #[]) (fun _ b => b ≠ 0) (fun a b => fit (a.tdiv b)) :=
  Does.of (enters_of Try.func112 (by kernel_rfl) rfl) (fun a b W ha _ h0 => same_below (quotient_any a b ha h0 W)) w
theorem floor_does (w : World) : Does w (.func (.func 114) #[] #[]) (fun _ b => b ≠ 0) (fun a b => fit (flr a b)) :=
  Does.of (enters_of Try.func114 (by kernel_rfl) rfl) (fun a b W ha hb h0 => floor_any a b ha hb h0 W) w
theorem gcd_does (w : World) : Does w (.func (.func 118) #[] #[]) anyC (fun a b => fit (Int.gcd a b : Int)) :=
  Does.of (enters_of Try.func118 (by kernel_rfl) rfl) (fun a b W ha hb _ => gcd_any a b ha hb W) w
theorem power_does (w : World) : Does w (.func (.func 120) #[] #[]) (fun _ b => 0 ≤ b) (fun a b => fit (a ^ b.toNat)) :=
  Does.of (enters_of Try.func120 (by kernel_rfl) rfl) (fun a b W ha hb h0 => same_below (power_any a b ha hb h0 W)) w
theorem shift_does (w : World) : Does w (.func (.func 121) #[] #[]) (fun _ b => 0 ≤ b) (fun a b => fit (a * 2 ^ b.toNat)) :=
  Does.of (enters_of Try.func121 (by kernel_rfl) rfl) (fun a b W _ _ h0 => same_below (shiftLeft_any a b h0 W)) w
theorem mod_plain : Plain 115 (fun _ b => b ≠ 0) lft :=
  ⟨enters_of Try.func115 (by kernel_rfl) rfl, fun a b W _ hb h0 => same_below (aboveFloor_any a b hb h0 W)⟩
set_option maxHeartbeats 1000000 in
theorem rem_plain : Plain 113 (fun _ b => b ≠ 0) (fun a b => a.tmod b) :=
  ⟨enters_of Try.func113 (by kernel_rfl) rfl, fun a b W ha hb h0 => by
    go_enter Try.func113, Try.ntmps113
    go_wp2
    all_goals go_ret
    all_goals exact ⟨rfl, Below.refl _ _⟩⟩
set_option maxHeartbeats 1000000 in
theorem min_plain : Plain 116 anyC (fun a b => min a b) :=
  ⟨enters_of Try.func116 (by kernel_rfl) rfl, fun a b W ha hb h0 => by
    go_enter Try.func116, Try.ntmps116
    go_wp2
    all_goals go_ret
    all_goals exact ⟨by simp <;> omega, Below.refl _ _⟩⟩
set_option maxHeartbeats 1000000 in
theorem max_plain : Plain 117 anyC (fun a b => max a b) :=
  ⟨enters_of Try.func117 (by kernel_rfl) rfl, fun a b W ha hb h0 => by
    go_enter Try.func117, Try.ntmps117
    go_wp2
    all_goals go_ret
    all_goals exact ⟨by simp <;> omega, Below.refl _ _⟩⟩
set_option maxHeartbeats 1000000 in
theorem shr_plain : Plain 122 (fun _ b => 0 ≤ b) (fun a b => a / 2 ^ min b.toNat 64) :=
  ⟨enters_of Try.func122 (by kernel_rfl) rfl, fun a b W ha hb h0 => by
    have h0 : 0 ≤ b := h0
    go_enter Try.func122, Try.ntmps122
    go_wp2
    all_goals go_ret
    all_goals exact ⟨rfl, Below.refl _ _⟩⟩
set_option maxHeartbeats 1000000 in
theorem and_plain : Plain 123 anyC (fun a b => bits .and .i64 a b) :=
  ⟨enters_of Try.func123 (by kernel_rfl) rfl, fun a b W ha hb h0 => by
    go_enter Try.func123, Try.ntmps123
    go_wp2
    all_goals go_ret
    all_goals exact ⟨rfl, Below.refl _ _⟩⟩
set_option maxHeartbeats 1000000 in
theorem or_plain : Plain 124 anyC (fun a b => bits .or .i64 a b) :=
  ⟨enters_of Try.func124 (by kernel_rfl) rfl, fun a b W ha hb h0 => by
    go_enter Try.func124, Try.ntmps124
    go_wp2
    all_goals go_ret
    all_goals exact ⟨rfl, Below.refl _ _⟩⟩
set_option maxHeartbeats 1000000 in
theorem xor_plain : Plain 125 anyC (fun a b => bits .xor .i64 a b) :=
  ⟨enters_of Try.func125 (by kernel_rfl) rfl, fun a b W ha hb h0 => by
    go_enter Try.func125, Try.ntmps125
    go_wp2
    all_goals go_ret
    all_goals exact ⟨rfl, Below.refl _ _⟩⟩

/-- A function that is found: none, or one that does what it should. -/
def Found (w : World) (v : Value) : Option (Int → Int → Except ByteArray Int) → Prop
  | none => v = .nilFunc
  | some f => Does w v anyC f
set_option maxRecDepth 100000 in
set_option maxHeartbeats 4000000 in
theorem withTwo_any (s : ByteArray) (w : World) :
    Calls Try.prog 91 #[.string s] w fun e W' => ∃ v, e = .returned v ∧ Below w.heap.size w W' ∧ Found W' v (twoOp s.toList) := by
  cases hss : s.toList == [42, 42] with
  | true | false =>
    go_enter Try.func91, Try.ntmps91
    go_wp2_with (first
      | (go_at_call 101; first
          | (refine (always_any _ _ _ rem_plain _).mono ?_; rintro e W1 ⟨v1, rfl, hb1, hd1⟩)
          | (refine (always_any _ _ _ mod_plain _).mono ?_; rintro e W1 ⟨v1, rfl, hb1, hd1⟩)
          | (refine (always_any _ _ _ min_plain _).mono ?_; rintro e W1 ⟨v1, rfl, hb1, hd1⟩)
          | (refine (always_any _ _ _ max_plain _).mono ?_; rintro e W1 ⟨v1, rfl, hb1, hd1⟩)
          | (refine (always_any _ _ _ shr_plain _).mono ?_; rintro e W1 ⟨v1, rfl, hb1, hd1⟩)
          | (refine (always_any _ _ _ and_plain _).mono ?_; rintro e W1 ⟨v1, rfl, hb1, hd1⟩)
          | (refine (always_any _ _ _ or_plain _).mono ?_; rintro e W1 ⟨v1, rfl, hb1, hd1⟩)
          | (refine (always_any _ _ _ xor_plain _).mono ?_; rintro e W1 ⟨v1, rfl, hb1, hd1⟩))
      | (go_at_call 111; first
          | (refine (unlessZero_any _ _ _ (quotient_does _)).mono ?_; rintro e W2 ⟨v2, rfl, hb2, hd2⟩)
          | (refine (unlessZero_any _ _ _ (floor_does _)).mono ?_; rintro e W2 ⟨v2, rfl, hb2, hd2⟩)
          | (refine (unlessZero_any _ _ _ hd1).mono ?_; rintro e W2 ⟨v2, rfl, hb2, hd2⟩))
      | (go_at_call 119; first
          | (refine (unlessNegative_any _ _ _ (power_does _)).mono ?_; rintro e W2 ⟨v2, rfl, hb2, hd2⟩)
          | (refine (unlessNegative_any _ _ _ (shift_does _)).mono ?_; rintro e W2 ⟨v2, rfl, hb2, hd2⟩)
          | (refine (unlessNegative_any _ _ _ hd1).mono ?_; rintro e W2 ⟨v2, rfl, hb2, hd2⟩)))
    all_goals go_ret
    all_goals refine ⟨_, rfl, ?_, ?_⟩
    all_goals (first | exact Below.refl _ _ | exact hb1.trans (hb2.mono hb1.size) | exact hb2 | exact hb1 | skip)
    all_goals simp only [twoOp, *, if_true, Bool.false_eq_true, if_false, Found]
    all_goals (first | rfl | exact hd2 | exact hd1 | exact sum_does _ | exact diff_does _ | exact product_does _ | exact gcd_does _)

/-- Of one number the other is not looked at. -/
def lone (f : Int → Except ByteArray Int) : Int → Int → Except ByteArray Int := fun a _ => f a
set_option maxRecDepth 100000 in
set_option maxHeartbeats 4000000 in
theorem withOne_any (s : ByteArray) (w : World) :
    Calls Try.prog 90 #[.string s] w fun e W' => ∃ v, e = .returned v ∧ Below w.heap.size w W' ∧ Found W' v ((oneOp s.toList).map lone) := by
  go_enter Try.func90, Try.ntmps90
  go_wp2_with (first
    | (go_at_call 101; first
        | (refine (always_any _ _ _ plus_plain _).mono ?_; rintro e W1 ⟨v1, rfl, hb1, hd1⟩)
        | (refine (always_any _ _ _ sign_plain _).mono ?_; rintro e W1 ⟨v1, rfl, hb1, hd1⟩)
        | (refine (always_any _ _ _ not_plain _).mono ?_; rintro e W1 ⟨v1, rfl, hb1, hd1⟩)))
  all_goals go_ret
  all_goals refine ⟨_, rfl, ?_, ?_⟩
  all_goals (first | exact Below.refl _ _ | exact hb1 | skip)
  all_goals simp only [oneOp, *, if_true, Bool.false_eq_true, if_false, Found, Option.map_some, Option.map_none]
  all_goals (first | rfl | exact hd1 | exact neg_does _ | exact abs_does _)

/-- What a name does with so many numbers. -/
def opOf (s : List UInt8) (n : Nat) : Option (Int → Int → Except ByteArray Int) :=
  if n = 1 then (oneOp s).map lone else if n = 2 then twoOp s else none
set_option maxRecDepth 100000 in
set_option maxHeartbeats 4000000 in
theorem afind_any (s : ByteArray) (n : Nat) (w : World) :
    Calls Try.prog 61 #[.string s, .int .i64 (n : Int)] w fun e W' => ∃ v, e = .returned v ∧ Below w.heap.size w W' ∧ Found W' v (opOf s.toList n) := by
  by_cases h1 : n = 1
  · subst h1
    have hc := withOne_any s w
    show Calls _ _ _ _ fun e W' => ∃ v, e = .returned v ∧ Below w.heap.size w W' ∧ Found W' v ((oneOp s.toList).map lone)
    generalize (oneOp s.toList).map lone = o at *
    go_enter Try.func61, Try.ntmps61
    go_wp2_with fail
    refine hc.mono ?_
    rintro e W1 ⟨v, rfl, hb, hd⟩
    clear hc
    go_wp2
    all_goals go_ret
    all_goals exact ⟨_, rfl, hb, hd⟩
  · by_cases h2 : n = 2
    · subst h2
      have hc := withTwo_any s w
      show Calls _ _ _ _ fun e W' => ∃ v, e = .returned v ∧ Below w.heap.size w W' ∧ Found W' v (twoOp s.toList)
      generalize twoOp s.toList = o at *
      go_enter Try.func61, Try.ntmps61
      go_wp2_with fail
      refine hc.mono ?_
      rintro e W1 ⟨v, rfl, hb, hd⟩
      clear hc
      go_wp2
      all_goals go_ret
      all_goals exact ⟨_, rfl, hb, hd⟩
    · have ho : opOf s.toList n = none := by unfold opOf; rw [if_neg h1, if_neg h2]
      rw [ho]
      have h1' : ((n : Int) == 1) = false := by simp; omega
      have h2' : ((n : Int) == 2) = false := by simp; omega
      go_enter Try.func61, Try.ntmps61
      go_wp2
      all_goals go_ret
      all_goals exact ⟨_, rfl, Below.refl _ _, rfl⟩
end Go.Proofs.Ytffbhinpmlcopab

