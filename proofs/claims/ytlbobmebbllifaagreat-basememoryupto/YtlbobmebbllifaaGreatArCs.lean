import Derived.Test.YtlbobmebbllifaaGreatArB
import Derived.Test.YtlbobmebbllifaaGreatCs
import Derived.Test.YtlbobmebbllifaaGreatKs
import Derived.Test.YtlbobmebbllifaaGreatGs
/- What a name does: the closures of arith's names.go, and what is found by a name. -/
namespace Go.Proofs.YtlbobmebbllifaaGreat
set_option maxHeartbeats 1000000
open Go.RowKit Go.Shelf
def Does (w : World) (v : Value) (c : Int → Int → Prop) (f : Int → Int → Except ByteArray Int) : Prop :=
 ∃ g lb, v = .func (.func g) #[] lb ∧ (∀ args w, (callFunc g args).run Tryz.prog w = .ok (.enter g args) w) ∧
  ∀ a b W, inR a → inR b → c a b → Below w.heap.size w W → Calls Tryz.prog g (#[.int .i64 a, .int .i64 b] ++ lb) W fun e W' => e = .returned (ansV (f a b)) ∧ Below W.heap.size W W'
def Plain (g : Nat) (c : Int → Int → Prop) (f : Int → Int → Int) : Prop :=
 (∀ args w, (callFunc g args).run Tryz.prog w = .ok (.enter g args) w) ∧
  ∀ a b W, inR a → inR b → c a b → Calls Tryz.prog g #[.int .i64 a, .int .i64 b] W fun e W' => e = .returned (.int .i64 (f a b)) ∧ Below W.heap.size W W'
theorem Does.of {g : Nat} {c : Int → Int → Prop} {f : Int → Int → Except ByteArray Int} (eg : ∀ args w, (callFunc g args).run Tryz.prog w = .ok (.enter g args) w)
  (h : ∀ a b W, inR a → inR b → c a b → Calls Tryz.prog g #[.int .i64 a, .int .i64 b] W fun e W' => e = .returned (ansV (f a b)) ∧ Below W.heap.size W W') (w : World) : Does w (.func (.func g) #[] #[]) c f :=
 ⟨g, #[], rfl, eg, fun a b W ha hb hc _ => by simpa using h a b W ha hb hc⟩
theorem always1_any (g : Nat) (c : Int → Int → Prop) (f : Int → Int → Int) (hg : Plain g c f) (a b : Int) (ha : inR a) (hb : inR b) (hc : c a b) (P : Nat) (W : World) (hP : Boxed W P 184 (.func (.func g) #[] #[])) :
  Calls Tryz.prog 132 #[.int .i64 a, .int .i64 b, .pointer (some ⟨P, 0, none⟩)] W fun e W' => e = .returned (ansV (.ok (f a b))) ∧ Below W.heap.size W W' := by
 obtain ⟨eg, hg⟩ := hg
 have hcall := hg a b W ha hb hc
 have hcell := hP.cell
 clear hg hP
 generalize f a b = n at *
 go_enter Tryz.func132, Tryz.ntmps132
 go_wp2_with fail
 refine hcall.mono ?_
 rintro e w' ⟨rfl, hB⟩
 go_wp2_with fail
 go_ret2
 exact ⟨rfl, hB⟩
theorem always_any (g : Nat) (c : Int → Int → Prop) (f : Int → Int → Int) (hg : Plain g c f) (w : World) :
  Calls Tryz.prog 106 #[.func (.func g) #[] #[]] w fun e W' => ∃ v, e = .returned v ∧ Below w.heap.size w W' ∧ Does W' v c (fun a b => .ok (f a b)) := by
 have hbox := Boxed.new w 184 (.func (.func g) #[] #[])
 have hB : Below w.heap.size w (w.alloc (.cells #[.func (.func g) #[] #[]] 184)) := (Below.refl _ w).alloc (Nat.le_refl _) _
 have H1 : Hid (Does (w.alloc (.cells #[.func (.func g) #[] #[]] 184)) (.func (.func 132) #[] #[.pointer (some ⟨w.heap.size, 0, none⟩)]) c (fun a b => .ok (f a b))) :=
  ⟨_, _, rfl, enters_of Tryz.func132 (by kernel_rfl) rfl, fun a b W ha hb hc hW => always1_any g c f hg a b ha hb hc _ W ((hW.block _ hbox.lt).trans hbox)⟩
 clear hg hbox
 go_enter Tryz.func106, Tryz.ntmps106
 go_wp2
 go_ret
 exact ⟨_, rfl, hB, H1.out⟩
theorem unlessZero1_any (v : Value) (f : Int → Int → Except ByteArray Int) (w : World) (hg : Does w v (fun _ b => b ≠ 0) f) (a b : Int) (ha : inR a) (hb : inR b) (P : Nat) (W : World) (hW : Below w.heap.size w W) (hP : Boxed W P 158 v) :
  Calls Tryz.prog 133 #[.int .i64 a, .int .i64 b, .pointer (some ⟨P, 0, none⟩)] W fun e W' => e = .returned (ansV (if b = 0 then .error sZero else f a b)) ∧ Below W.heap.size W W' := by
 obtain ⟨g, lb, rfl, eg, hg⟩ := hg
 have hcell := hP.cell
 clear hP
 by_cases h0 : b = 0
 ·subst h0
  clear hg
  simp only [if_true]
  go_enter Tryz.func133, Tryz.ntmps133
  go_wp2
  all_goals go_ret2
  all_goals exact ⟨rfl, Below.refl _ _⟩
 ·have hcall := hg a b W ha hb h0 hW
  simp only [h0, if_false]
  clear hg
  obtain ⟨n, s, hv⟩ := ansV_shape (f a b)
  rw [hv] at hcall ⊢
  clear hv
  go_enter Tryz.func133, Tryz.ntmps133
  go_wp2_with fail
  refine hcall.mono ?_
  rintro e w' ⟨rfl, hB⟩
  go_wp2_with fail
  go_ret2
  exact ⟨rfl, hB⟩
theorem unlessZero_any (v : Value) (f : Int → Int → Except ByteArray Int) (w : World) (hg : Does w v (fun _ b => b ≠ 0) f) :
  Calls Tryz.prog 115 #[v] w fun e W' => ∃ v', e = .returned v' ∧ Below w.heap.size w W' ∧ Does W' v' (fun _ _ => True) (fun a b => if b = 0 then .error sZero else f a b) := by
 have hbox := Boxed.new w 158 v
 have hB : Below w.heap.size w (w.alloc (.cells #[v] 158)) := (Below.refl _ w).alloc (Nat.le_refl _) _
 have H1 : Hid (Does (w.alloc (.cells #[v] 158)) (.func (.func 133) #[] #[.pointer (some ⟨w.heap.size, 0, none⟩)]) (fun _ _ => True) (fun a b => if b = 0 then .error sZero else f a b)) :=
  ⟨_, _, rfl, enters_of Tryz.func133 (by kernel_rfl) rfl, fun a b W ha hb _ hW => unlessZero1_any v f w hg a b ha hb _ W (hB.trans (hW.mono hB.size)) ((hW.block _ hbox.lt).trans hbox)⟩
 obtain ⟨g, lb, rfl, -, -⟩ := hg
 clear hbox
 go_enter Tryz.func115, Tryz.ntmps115
 go_wp2
 go_ret
 exact ⟨_, rfl, hB, H1.out⟩
theorem unlessNegative1_any (v : Value) (f : Int → Int → Except ByteArray Int) (w : World) (hg : Does w v (fun _ b => 0 ≤ b) f) (a b : Int) (ha : inR a) (hb : inR b) (P : Nat) (W : World) (hW : Below w.heap.size w W) (hP : Boxed W P 158 v) :
  Calls Tryz.prog 134 #[.int .i64 a, .int .i64 b, .pointer (some ⟨P, 0, none⟩)] W fun e W' => e = .returned (ansV (if b < 0 then .error sNeg else f a b)) ∧ Below W.heap.size W W' := by
 obtain ⟨g, lb, rfl, eg, hg⟩ := hg
 have hcell := hP.cell
 clear hP
 by_cases h0 : b < 0
 ·clear hg
  simp only [h0, if_true]
  go_enter Tryz.func134, Tryz.ntmps134
  go_wp2
  all_goals go_ret2
  all_goals exact ⟨rfl, Below.refl _ _⟩
 ·have hcall := hg a b W ha hb (by omega) hW
  simp only [h0, if_false]
  clear hg
  obtain ⟨n, s, hv⟩ := ansV_shape (f a b)
  rw [hv] at hcall ⊢
  clear hv
  go_enter Tryz.func134, Tryz.ntmps134
  go_wp2_with fail
  refine hcall.mono ?_
  rintro e w' ⟨rfl, hB⟩
  go_wp2_with fail
  go_ret2
  exact ⟨rfl, hB⟩
theorem unlessNegative_any (v : Value) (f : Int → Int → Except ByteArray Int) (w : World) (hg : Does w v (fun _ b => 0 ≤ b) f) :
  Calls Tryz.prog 123 #[v] w fun e W' => ∃ v', e = .returned v' ∧ Below w.heap.size w W' ∧ Does W' v' (fun _ _ => True) (fun a b => if b < 0 then .error sNeg else f a b) := by
 have hbox := Boxed.new w 158 v
 have hB : Below w.heap.size w (w.alloc (.cells #[v] 158)) := (Below.refl _ w).alloc (Nat.le_refl _) _
 have H1 : Hid (Does (w.alloc (.cells #[v] 158)) (.func (.func 134) #[] #[.pointer (some ⟨w.heap.size, 0, none⟩)]) (fun _ _ => True) (fun a b => if b < 0 then .error sNeg else f a b)) :=
  ⟨_, _, rfl, enters_of Tryz.func134 (by kernel_rfl) rfl, fun a b W ha hb _ hW => unlessNegative1_any v f w hg a b ha hb _ W (hB.trans (hW.mono hB.size)) ((hW.block _ hbox.lt).trans hbox)⟩
 obtain ⟨g, lb, rfl, -, -⟩ := hg
 clear hbox
 go_enter Tryz.func123, Tryz.ntmps123
 go_wp2
 go_ret
 exact ⟨_, rfl, hB, H1.out⟩
/- What is found by a name: withOne, withTwo, find. -/
set_option maxHeartbeats 4000000
set_option maxRecDepth 100000
theorem toInt_flip (x : BitVec 64) : (~~~x).toInt = -1 - x.toInt := by
 have h2 := BitVec.toInt_eq_toNat_cond x
 have h3 := x.isLt
 rw [BitVec.toInt_not, Int.bmod_def]
 generalize x.toNat = n at *
 generalize x.toInt = m at *
 split at h2 <;> split <;> omega
theorem xor_all (a : Int) (ha : inR a) : bits .xor .i64 (-1) a = -1 - a := by
 rw [bits_xor64, show BitVec.ofInt 64 (-1) = BitVec.allOnes 64 by decide, BitVec.allOnes_xor, toInt_flip, BitVec.toInt_ofInt]
 unfold inR at ha
 rw [Int.bmod_eq_of_le (by omega) (by omega)]
theorem cmp3_sign (a : Int) : cmp3 a 0 = a.sign := by
 unfold cmp3
 rcases Int.lt_trichotomy a 0 with h | h | h
 ·rw [if_pos h, Int.sign_eq_neg_one_of_neg h]
 ·subst h; rfl
 ·rw [if_neg (by omega), if_pos h, Int.sign_eq_one_of_pos h]
def oneOp (s : List UInt8) : Option (Int → Except ByteArray Int) :=
 if s == [45] then some fun a => fit (-a)
 else if s == [43] then some fun a => .ok a
 else if s == [97, 98, 115] then some fun a => fit (a.natAbs : Int)
 else if s == [115, 105, 103, 110] then some fun a => .ok a.sign
 else if s == [92] then some fun a => .ok (-1 - a)
 else none
def twoOp (s : List UInt8) : Option (Int → Int → Except ByteArray Int) :=
 if s == [43] then some fun a b => fit (a + b)
 else if s == [45] then some fun a b => fit (a - b)
 else if s == [42] then some fun a b => fit (a * b)
 else if s == [47, 47] then some fun a b => if b = 0 then .error sZero else fit (a.tdiv b)
 else if s == [114, 101, 109] then some fun a b => if b = 0 then .error sZero else .ok (a.tmod b)
 else if s == [100, 105, 118] then some fun a b => if b = 0 then .error sZero else fit (flr a b)
 else if s == [109, 111, 100] then some fun a b => if b = 0 then .error sZero else .ok (lft a b)
 else if s == [109, 105, 110] then some fun a b => .ok (min a b)
 else if s == [109, 97, 120] then some fun a b => .ok (max a b)
 else if s == [103, 99, 100] then some fun a b => fit (Int.gcd a b : Int)
 else if s == [42, 42] then some fun a b => if b < 0 then .error sNeg else fit (a ^ b.toNat)
 else if s == [94] then some fun a b => if b < 0 then .error sNeg else fit (a ^ b.toNat)
 else if s == [60, 60] then some fun a b => if b < 0 then .error sNeg else fit (a * 2 ^ b.toNat)
 else if s == [62, 62] then some fun a b => if b < 0 then .error sNeg else .ok (a / 2 ^ min b.toNat 64)
 else if s == [47, 92] then some fun a b => .ok (bits .and .i64 a b)
 else if s == [92, 47] then some fun a b => .ok (bits .or .i64 a b)
 else if s == [120, 111, 114] then some fun a b => .ok (bits .xor .i64 a b)
 else none
abbrev anyC : Int → Int → Prop := fun _ _ => True
theorem neg_does (w : World) : Does w (.func (.func 104) #[] #[]) anyC (fun a _ => fit (-a)) :=
 Does.of (enters_of Tryz.func104 (by kernel_rfl) rfl) (fun a b W ha hb _ => by
  have hd := diff_any 0 a (by simp [inR]) ha W
  rw [show -a = 0 - a by omega]
  obtain ⟨n, s, hv⟩ := ansV_shape (fit (0 - a))
  rw [hv] at hd ⊢
  clear hv
  go_enter Tryz.func104, Tryz.ntmps104
  go_wp2_with fail
  refine hd.mono ?_
  rintro e w' ⟨rfl, rfl⟩
  go_wp2
  all_goals go_ret2
  all_goals exact ⟨rfl, Below.refl _ _⟩) w
theorem plus_plain : Plain 107 anyC (fun a _ => a) :=
 ⟨enters_of Tryz.func107 (by kernel_rfl) rfl, fun a b W ha hb _ => by
  go_enter Tryz.func107, Tryz.ntmps107
  go_wp2
  all_goals go_ret
  all_goals exact ⟨rfl, Below.refl _ _⟩⟩
theorem abs_does (w : World) : Does w (.func (.func 108) #[] #[]) anyC (fun a _ => fit (a.natAbs : Int)) :=
 Does.of (enters_of Tryz.func108 (by kernel_rfl) rfl) (fun a b W ha hb _ => by
  have hm := magnitude_any a ha W
  have hs := signed_any a.natAbs (by unfold inR at ha; omega) W
  obtain ⟨n, s, hv⟩ := ansV_shape (fit (a.natAbs : Int))
  rw [hv] at hs ⊢
  clear hv
  go_enter Tryz.func108, Tryz.ntmps108
  go_wp2_with fail
  refine hm.mono ?_
  rintro e w' ⟨rfl, rfl⟩
  go_wp2_with fail
  refine hs.mono ?_
  rintro e w' ⟨rfl, rfl⟩
  go_wp2
  all_goals go_ret2
  all_goals exact ⟨rfl, Below.refl _ _⟩) w
theorem sign_plain : Plain 111 anyC (fun a _ => a.sign) :=
 ⟨enters_of Tryz.func111 (by kernel_rfl) rfl, fun a b W ha hb _ => by
  have hc := cmpl_any a 0 W
  have HS : Hid (cmp3 a 0 = a.sign) := cmp3_sign a
  have hr : -1 ≤ cmp3 a 0 ∧ cmp3 a 0 ≤ 1 := by unfold cmp3; split <;> (try split) <;> omega
  generalize cmp3 a 0 = c at *
  go_enter Tryz.func111, Tryz.ntmps111
  go_wp2_with fail
  refine hc.mono ?_
  rintro e w' ⟨rfl, rfl⟩
  go_wp2
  all_goals go_ret
  all_goals exact ⟨by simp [HS.out], Below.refl _ _⟩⟩
theorem not_plain : Plain 112 anyC (fun a _ => -1 - a) :=
 ⟨enters_of Tryz.func112 (by kernel_rfl) rfl, fun a b W ha hb _ => by
  have HX : Hid (bits .xor .i64 (-1) a = -1 - a) := xor_all a ha
  go_enter Tryz.func112, Tryz.ntmps112
  go_wp2
  all_goals go_ret
  all_goals exact ⟨by simp [HX.out], Below.refl _ _⟩⟩
theorem same_below {g : Nat} {args : Array Value} {v : Value} {W : World} (h : Calls Tryz.prog g args W fun e w' => e = .returned v ∧ w' = W) : Calls Tryz.prog g args W fun e w' => e = .returned v ∧ Below W.heap.size W w' :=
 h.mono fun _ _ x => ⟨x.1, by rw [x.2]; exact Below.refl _ _⟩
theorem sum_does (w : World) : Does w (.func (.func 113) #[] #[]) anyC (fun a b => fit (a + b)) :=
 Does.of (enters_of Tryz.func113 (by kernel_rfl) rfl) (fun a b W ha hb _ => same_below (sum_any a b ha hb W)) w
theorem diff_does (w : World) : Does w (.func (.func 105) #[] #[]) anyC (fun a b => fit (a - b)) :=
 Does.of (enters_of Tryz.func105 (by kernel_rfl) rfl) (fun a b W ha hb _ => same_below (diff_any a b ha hb W)) w
theorem product_does (w : World) : Does w (.func (.func 114) #[] #[]) anyC (fun a b => fit (a * b)) :=
 Does.of (enters_of Tryz.func114 (by kernel_rfl) rfl) (fun a b W ha hb _ => same_below (product_any a b ha hb W)) w
theorem quotient_does (w : World) : Does w (.func (.func 116) #[] #[]) (fun _ b => b ≠ 0) (fun a b => fit (a.tdiv b)) :=
 Does.of (enters_of Tryz.func116 (by kernel_rfl) rfl) (fun a b W ha _ h0 => same_below (quotient_any a b ha h0 W)) w
theorem floor_does (w : World) : Does w (.func (.func 118) #[] #[]) (fun _ b => b ≠ 0) (fun a b => fit (flr a b)) :=
 Does.of (enters_of Tryz.func118 (by kernel_rfl) rfl) (fun a b W ha hb h0 => floor_any a b ha hb h0 W) w
theorem gcd_does (w : World) : Does w (.func (.func 122) #[] #[]) anyC (fun a b => fit (Int.gcd a b : Int)) :=
 Does.of (enters_of Tryz.func122 (by kernel_rfl) rfl) (fun a b W ha hb _ => gcd_any a b ha hb W) w
theorem power_does (w : World) : Does w (.func (.func 124) #[] #[]) (fun _ b => 0 ≤ b) (fun a b => fit (a ^ b.toNat)) :=
 Does.of (enters_of Tryz.func124 (by kernel_rfl) rfl) (fun a b W ha hb h0 => same_below (power_any a b ha hb h0 W)) w
theorem shift_does (w : World) : Does w (.func (.func 125) #[] #[]) (fun _ b => 0 ≤ b) (fun a b => fit (a * 2 ^ b.toNat)) :=
 Does.of (enters_of Tryz.func125 (by kernel_rfl) rfl) (fun a b W _ _ h0 => same_below (shiftLeft_any a b h0 W)) w
theorem mod_plain : Plain 119 (fun _ b => b ≠ 0) lft :=
 ⟨enters_of Tryz.func119 (by kernel_rfl) rfl, fun a b W _ hb h0 => same_below (aboveFloor_any a b hb h0 W)⟩
theorem rem_plain : Plain 117 (fun _ b => b ≠ 0) (fun a b => a.tmod b) :=
 ⟨enters_of Tryz.func117 (by kernel_rfl) rfl, fun a b W ha hb h0 => by
  go_enter Tryz.func117, Tryz.ntmps117
  go_wp2
  all_goals go_ret
  all_goals exact ⟨rfl, Below.refl _ _⟩⟩
theorem min_plain : Plain 120 anyC (fun a b => min a b) :=
 ⟨enters_of Tryz.func120 (by kernel_rfl) rfl, fun a b W ha hb h0 => by
  go_enter Tryz.func120, Tryz.ntmps120
  go_wp2
  all_goals go_ret
  all_goals exact ⟨by simp <;> omega, Below.refl _ _⟩⟩
theorem max_plain : Plain 121 anyC (fun a b => max a b) :=
 ⟨enters_of Tryz.func121 (by kernel_rfl) rfl, fun a b W ha hb h0 => by
  go_enter Tryz.func121, Tryz.ntmps121
  go_wp2
  all_goals go_ret
  all_goals exact ⟨by simp <;> omega, Below.refl _ _⟩⟩
theorem shr_plain : Plain 126 (fun _ b => 0 ≤ b) (fun a b => a / 2 ^ min b.toNat 64) :=
 ⟨enters_of Tryz.func126 (by kernel_rfl) rfl, fun a b W ha hb h0 => by
  have h0 : 0 ≤ b := h0
  go_enter Tryz.func126, Tryz.ntmps126
  go_wp2
  all_goals go_ret
  all_goals exact ⟨rfl, Below.refl _ _⟩⟩
theorem and_plain : Plain 127 anyC (fun a b => bits .and .i64 a b) :=
 ⟨enters_of Tryz.func127 (by kernel_rfl) rfl, fun a b W ha hb h0 => by
  go_enter Tryz.func127, Tryz.ntmps127
  go_wp2
  all_goals go_ret
  all_goals exact ⟨rfl, Below.refl _ _⟩⟩
theorem or_plain : Plain 128 anyC (fun a b => bits .or .i64 a b) :=
 ⟨enters_of Tryz.func128 (by kernel_rfl) rfl, fun a b W ha hb h0 => by
  go_enter Tryz.func128, Tryz.ntmps128
  go_wp2
  all_goals go_ret
  all_goals exact ⟨rfl, Below.refl _ _⟩⟩
theorem xor_plain : Plain 129 anyC (fun a b => bits .xor .i64 a b) :=
 ⟨enters_of Tryz.func129 (by kernel_rfl) rfl, fun a b W ha hb h0 => by
  go_enter Tryz.func129, Tryz.ntmps129
  go_wp2
  all_goals go_ret
  all_goals exact ⟨rfl, Below.refl _ _⟩⟩
def Found (w : World) (v : Value) : Option (Int → Int → Except ByteArray Int) → Prop
 | none => v = .nilFunc
 | some f => Does w v anyC f
theorem withTwo_any (s : ByteArray) (w : World) :
  Calls Tryz.prog 100 #[.string s] w fun e W' => ∃ v, e = .returned v ∧ Below w.heap.size w W' ∧ Found W' v (twoOp s.toList) := by
 cases hss : s.toList == [42, 42] with
 | true | false =>
  go_enter Tryz.func100, Tryz.ntmps100
  go_wp2_with (first
   | (go_at_call 106; first
     | (refine (always_any _ _ _ rem_plain _).mono ?_; rintro e W1 ⟨v1, rfl, hb1, hd1⟩)
     | (refine (always_any _ _ _ mod_plain _).mono ?_; rintro e W1 ⟨v1, rfl, hb1, hd1⟩)
     | (refine (always_any _ _ _ min_plain _).mono ?_; rintro e W1 ⟨v1, rfl, hb1, hd1⟩)
     | (refine (always_any _ _ _ max_plain _).mono ?_; rintro e W1 ⟨v1, rfl, hb1, hd1⟩)
     | (refine (always_any _ _ _ shr_plain _).mono ?_; rintro e W1 ⟨v1, rfl, hb1, hd1⟩)
     | (refine (always_any _ _ _ and_plain _).mono ?_; rintro e W1 ⟨v1, rfl, hb1, hd1⟩)
     | (refine (always_any _ _ _ or_plain _).mono ?_; rintro e W1 ⟨v1, rfl, hb1, hd1⟩)
     | (refine (always_any _ _ _ xor_plain _).mono ?_; rintro e W1 ⟨v1, rfl, hb1, hd1⟩))
   | (go_at_call 115; first
     | (refine (unlessZero_any _ _ _ (quotient_does _)).mono ?_; rintro e W2 ⟨v2, rfl, hb2, hd2⟩)
     | (refine (unlessZero_any _ _ _ (floor_does _)).mono ?_; rintro e W2 ⟨v2, rfl, hb2, hd2⟩)
     | (refine (unlessZero_any _ _ _ hd1).mono ?_; rintro e W2 ⟨v2, rfl, hb2, hd2⟩))
   | (go_at_call 123; first
     | (refine (unlessNegative_any _ _ _ (power_does _)).mono ?_; rintro e W2 ⟨v2, rfl, hb2, hd2⟩)
     | (refine (unlessNegative_any _ _ _ (shift_does _)).mono ?_; rintro e W2 ⟨v2, rfl, hb2, hd2⟩)
     | (refine (unlessNegative_any _ _ _ hd1).mono ?_; rintro e W2 ⟨v2, rfl, hb2, hd2⟩)))
  all_goals go_ret
  all_goals refine ⟨_, rfl, ?_, ?_⟩
  all_goals (first | exact Below.refl _ _ | exact hb1.trans (hb2.mono hb1.size) | exact hb2 | exact hb1 | skip)
  all_goals simp only [twoOp, *, if_true, Bool.false_eq_true, if_false, Found]
  all_goals (first | rfl | exact hd2 | exact hd1 | exact sum_does _ | exact diff_does _ | exact product_does _ | exact gcd_does _)
def lone (f : Int → Except ByteArray Int) : Int → Int → Except ByteArray Int := fun a _ => f a
theorem withOne_any (s : ByteArray) (w : World) :
  Calls Tryz.prog 99 #[.string s] w fun e W' => ∃ v, e = .returned v ∧ Below w.heap.size w W' ∧ Found W' v ((oneOp s.toList).map lone) := by
 go_enter Tryz.func99, Tryz.ntmps99
 go_wp2_with (first
  | (go_at_call 106; first
    | (refine (always_any _ _ _ plus_plain _).mono ?_; rintro e W1 ⟨v1, rfl, hb1, hd1⟩)
    | (refine (always_any _ _ _ sign_plain _).mono ?_; rintro e W1 ⟨v1, rfl, hb1, hd1⟩)
    | (refine (always_any _ _ _ not_plain _).mono ?_; rintro e W1 ⟨v1, rfl, hb1, hd1⟩)))
 all_goals go_ret
 all_goals refine ⟨_, rfl, ?_, ?_⟩
 all_goals (first | exact Below.refl _ _ | exact hb1 | skip)
 all_goals simp only [oneOp, *, if_true, Bool.false_eq_true, if_false, Found, Option.map_some, Option.map_none]
 all_goals (first | rfl | exact hd1 | exact neg_does _ | exact abs_does _)
def opOf (s : List UInt8) (n : Nat) : Option (Int → Int → Except ByteArray Int) :=
 if n = 1 then (oneOp s).map lone else if n = 2 then twoOp s else none
theorem afind_any (s : ByteArray) (n : Nat) (w : World) :
  Calls Tryz.prog 84 #[.string s, .int .i64 (n : Int)] w fun e W' => ∃ v, e = .returned v ∧ Below w.heap.size w W' ∧ Found W' v (opOf s.toList n) := by
 by_cases h1 : n = 1
 ·subst h1
  have hc := withOne_any s w
  show Calls _ _ _ _ fun e W' => ∃ v, e = .returned v ∧ Below w.heap.size w W' ∧ Found W' v ((oneOp s.toList).map lone)
  generalize (oneOp s.toList).map lone = o at *
  go_enter Tryz.func84, Tryz.ntmps84
  go_wp2_with fail
  refine hc.mono ?_
  rintro e W1 ⟨v, rfl, hb, hd⟩
  clear hc
  go_wp2
  all_goals go_ret
  all_goals exact ⟨_, rfl, hb, hd⟩
 ·by_cases h2 : n = 2
  ·subst h2
   have hc := withTwo_any s w
   show Calls _ _ _ _ fun e W' => ∃ v, e = .returned v ∧ Below w.heap.size w W' ∧ Found W' v (twoOp s.toList)
   generalize twoOp s.toList = o at *
   go_enter Tryz.func84, Tryz.ntmps84
   go_wp2_with fail
   refine hc.mono ?_
   rintro e W1 ⟨v, rfl, hb, hd⟩
   clear hc
   go_wp2
   all_goals go_ret
   all_goals exact ⟨_, rfl, hb, hd⟩
  ·have ho : opOf s.toList n = none := by unfold opOf; rw [if_neg h1, if_neg h2]
   rw [ho]
   have h1' : ((n : Int) == 1) = false := by simp; omega
   have h2' : ((n : Int) == 2) = false := by simp; omega
   go_enter Tryz.func84, Tryz.ntmps84
   go_wp2
   all_goals go_ret
   all_goals exact ⟨_, rfl, Below.refl _ _, rfl⟩
/- Balls: atoms, integers and compounds that arith (and hornref) makes; notEvaluable. -/
def notC (s : List UInt8) (n : Nat) : List Nd := [(4, 0, [110, 111, 116, 95, 101, 118, 97, 108, 117, 97, 98, 108, 101], 1), (4, 0, [47], 2), (3, 0, s, 0), (2, n, [], 0)]
set_option maxHeartbeats 400000 in
theorem ainteger_any (n : Int) (w : World) : Calls Tryz.prog 61 #[.int .i64 n] w fun e W' => e = .returned (intV n).val ∧ Below w.heap.size w W' := by
 go_enter Tryz.func61, Tryz.ntmps61
 go_wp2
 refine bodyPost_ret (v := (intV n).val) (by simp [results, Tryz.results61, go_sem, intV, TV.val]) rfl ⟨rfl, (Below.refl _ _).alloc (Nat.le_refl _) _⟩
/- The number of a term: arith.number, arith.Eval. -/
theorem fit_in {n m : Int} (h : fit n = .ok m) : inR m := by
 unfold fit at h
 split at h
 ·cases h; assumption
 ·cases h
theorem fit_err {n : Int} {s : ByteArray} (h : fit n = .error s) : s = sOvf := by
 unfold fit at h
 split at h
 ·cases h
 ·cases h; rfl
theorem shr_in {a : Int} (ha : inR a) (k : Nat) : inR (a / 2 ^ k) := by
 have hp := pow_pos k
 generalize (2 : Int) ^ k = p at *
 unfold inR at *
 by_cases h0 : 0 ≤ a
 ·have h1 := Int.ediv_nonneg h0 (Int.le_of_lt hp)
  have h2 := Int.ediv_le_self p h0
  omega
 ·have h1 := Int.ediv_neg_of_neg_of_pos (show a < 0 by omega) hp
  have h2 : a ≤ a / p := Int.le_ediv_of_mul_le hp (by
   have : a * (p - 1) ≤ 0 := Int.mul_nonpos_of_nonpos_of_nonneg (by omega) (by omega)
   rw [Int.mul_sub] at this
   omega)
  omega
theorem bits_in (a b : Int) : inR (bits .and .i64 a b) ∧ inR (bits .or .i64 a b) ∧ inR (bits .xor .i64 a b) := by
 rw [bits_and64, bits_or64, bits_xor64]
 exact ⟨toInt_in _, toInt_in _, toInt_in _⟩
def badS (s : ByteArray) : Prop := s = sOvf ∨ s = sZero ∨ s = sNeg
theorem one_in {s : List UInt8} {f : Int → Except ByteArray Int} (h : oneOp s = some f) {a : Int} (ha : inR a) :
  (∀ n, f a = .ok n → inR n) ∧ (∀ e, f a = .error e → badS e) := by
 unfold oneOp at h
 repeat' split at h
 all_goals (first | (cases h; done) | skip)
 all_goals simp only [Option.some.injEq] at h
 all_goals subst h
 all_goals refine ⟨fun n hn => ?_, fun e he => ?_⟩
 all_goals (first | exact fit_in hn | exact .inl (fit_err he) | (cases he; done) | (cases hn) )
 all_goals unfold inR at *
 all_goals (first | omega | skip)
 all_goals (rcases Int.lt_trichotomy a 0 with h | h | h)
 all_goals (first | (rw [Int.sign_eq_neg_one_of_neg h]; omega) | (rw [Int.sign_eq_one_of_pos h]; omega) | (subst h; decide))
def goodAt (a b : Int) (f : Int → Int → Except ByteArray Int) : Prop := (∀ n, f a b = .ok n → inR n) ∧ (∀ e, f a b = .error e → badS e)
theorem ite_some {c : Bool} {F : Type} {x f : F} {B : Option F} {P : F → Prop} (h : (if c = true then some x else B) = some f) (hx : P x) (hB : B = some f → P f) : P f := by
 cases c with
 | true => cases h; exact hx
 | false => exact hB h
theorem good_fit (a b : Int) (g : Int → Int → Int) : goodAt a b (fun a b => fit (g a b)) := ⟨fun _ h => fit_in h, fun _ h => .inl (fit_err h)⟩
theorem good_ok {a b : Int} {g : Int → Int → Int} (h : inR (g a b)) : goodAt a b (fun a b => .ok (g a b)) := ⟨fun n e => by cases e; exact h, fun e h => by cases h⟩
theorem good_zero {a b : Int} {f : Int → Int → Except ByteArray Int} (h : b ≠ 0 → goodAt a b f) : goodAt a b (fun a b => if b = 0 then .error sZero else f a b) := by
 by_cases h0 : b = 0
 ·subst h0
  exact ⟨fun n e => by simp at e, fun e h => by simp at h; exact .inr (.inl h.symm)⟩
 ·have := h h0
  unfold goodAt at *
  simp only [h0, if_false]
  exact this
theorem good_neg {a b : Int} {f : Int → Int → Except ByteArray Int} (h : goodAt a b f) : goodAt a b (fun a b => if b < 0 then .error sNeg else f a b) := by
 by_cases h0 : b < 0
 ·unfold goodAt
  simp only [h0, if_true]
  exact ⟨fun n e => by simp at e, fun e h => by simp at h; exact .inr (.inr h.symm)⟩
 ·unfold goodAt at *
  simp only [h0, if_false]
  exact h
theorem two_in {s : List UInt8} {f : Int → Int → Except ByteArray Int} (h : twoOp s = some f) {a b : Int} (ha : inR a) (hb : inR b) : goodAt a b f := by
 unfold twoOp at h
 have hmin : inR (min a b) := by unfold inR at *; omega
 have hmax : inR (max a b) := by unfold inR at *; omega
 refine ite_some h (good_fit a b (fun a b => a + b)) fun h => ?_
 refine ite_some h (good_fit a b (fun a b => a - b)) fun h => ?_
 refine ite_some h (good_fit a b (fun a b => a * b)) fun h => ?_
 refine ite_some h (good_zero fun _ => good_fit a b (fun a b => a.tdiv b)) fun h => ?_
 refine ite_some h (good_zero fun _ => good_ok (g := fun a b => a.tmod b) (tmod_in ha)) fun h => ?_
 refine ite_some h (good_zero fun _ => good_fit a b flr) fun h => ?_
 refine ite_some h (good_zero fun h0 => good_ok (g := lft) (lft_in hb h0)) fun h => ?_
 refine ite_some h (good_ok (g := fun a b => min a b) hmin) fun h => ?_
 refine ite_some h (good_ok (g := fun a b => max a b) hmax) fun h => ?_
 refine ite_some h (good_fit a b (fun a b => (Int.gcd a b : Int))) fun h => ?_
 refine ite_some h (good_neg (good_fit a b (fun a b => a ^ b.toNat))) fun h => ?_
 refine ite_some h (good_neg (good_fit a b (fun a b => a ^ b.toNat))) fun h => ?_
 refine ite_some h (good_neg (good_fit a b (fun a b => a * 2 ^ b.toNat))) fun h => ?_
 refine ite_some h (good_neg (good_ok (g := fun a b => a / 2 ^ min b.toNat 64) (shr_in ha _))) fun h => ?_
 refine ite_some h (good_ok (g := fun a b => bits .and .i64 a b) (bits_in a b).1) fun h => ?_
 refine ite_some h (good_ok (g := fun a b => bits .or .i64 a b) (bits_in a b).2.1) fun h => ?_
 refine ite_some h (good_ok (g := fun a b => bits .xor .i64 a b) (bits_in a b).2.2) fun h => ?_
 cases h
theorem op_in {s : List UInt8} {k : Nat} {f : Int → Int → Except ByteArray Int} (h : opOf s k = some f) {a b : Int} (ha : inR a) (hb : inR b) :
  (∀ n, f a b = .ok n → inR n) ∧ (∀ e, f a b = .error e → badS e) := by
 unfold opOf at h
 split at h
 ·obtain ⟨g, hg, rfl⟩ := Option.map_eq_some_iff.1 h
  exact one_in hg ha
 ·split at h
  ·exact two_in h ha hb
  ·cases h
theorem op_len {s : List UInt8} {k : Nat} {f : Int → Int → Except ByteArray Int} (h : opOf s k = some f) : 1 ≤ k ∧ k ≤ 2 := by
 unfold opOf at h
 split at h
 ·omega
 ·split at h
  ·omega
  ·cases h
theorem bad_some {s : ByteArray} (h : badS s) : s.toList.isEmpty = false ∧ s.size ≤ 9223372036854775807 := by
 rcases h with rfl | rfl | rfl
 ·exact ⟨by decide +kernel, by decide⟩
 ·exact ⟨by decide +kernel, by decide⟩
 ·exact ⟨by decide +kernel, by decide⟩
def evL {α : Type} (f : α → Except (List Nd) Int) : List α → Except (List Nd) (List Int)
 | [] => .ok []
 | x :: l => match f x with
  | .error c => .error c
  | .ok n => match evL f l with
   | .error c => .error c
   | .ok ns => .ok (n :: ns)
theorem evL_ok {α : Type} {f : α → Except (List Nd) Int} {u : α} {n : Int} (hu : f u = .ok n) : ∀ {l : List α} {ns : List Int}, evL f l = .ok ns → evL f (l ++ [u]) = .ok (ns ++ [n])
 | [], ns, h => by cases h; simp [evL, hu]
 | x :: l, ns, h => by
  simp only [evL] at h
  cases hx : f x with
  | error c => rw [hx] at h; cases h
  | ok m =>
   rw [hx] at h
   cases hl : evL f l with
   | error c => rw [hl] at h; cases h
   | ok ms =>
    rw [hl] at h
    cases h
    simp only [List.cons_append, evL, hx, evL_ok hu hl]
theorem evL_err {α : Type} {f : α → Except (List Nd) Int} {u : α} {c : List Nd} (hu : f u = .error c) (r : List α) : ∀ {l : List α} {ns : List Int}, evL f l = .ok ns → evL f (l ++ u :: r) = .error c
 | [], ns, _ => by simp [evL, hu]
 | x :: l, ns, h => by
  simp only [evL] at h
  cases hx : f x with
  | error c => rw [hx] at h; cases h
  | ok m =>
   rw [hx] at h
   cases hl : evL f l with
   | error c => rw [hl] at h; cases h
   | ok ms => simp only [List.cons_append, evL, hx, evL_err hu r hl]
theorem evL_step {α : Type} {f : α → Except (List Nd) Int} {kids : List α} {j : Nat} {u : α} (hu : kids[j]? = some u) {ns : List Int} (h : evL f (kids.take j) = .ok ns) :
  (∀ n, f u = .ok n → evL f (kids.take (j + 1)) = .ok (ns ++ [n])) ∧ (∀ c, f u = .error c → evL f kids = .error c) := by
 obtain ⟨hj, rfl⟩ := List.getElem?_eq_some_iff.1 hu
 refine ⟨fun n hn => ?_, fun c hc => ?_⟩
 ·rw [List.take_succ_eq_append_getElem hj]
  exact evL_ok hn h
 ·have hsp : kids = kids.take j ++ kids[j] :: kids.drop (j + 1) := by
   rw [← List.drop_eq_getElem_cons hj, List.take_append_drop]
  rw [hsp]
  exact evL_err hc _ h
def unbL : List UInt8 := [117, 110, 98, 111, 117, 110, 100]
def thrown : Except ByteArray Int → Except (List Nd) Int
 | .ok n => .ok n
 | .error s => .error (atomC s.toList)
def fromArgs (f : Int → Int → Except ByteArray Int) : Except (List Nd) (List Int) → Except (List Nd) Int
 | .error c => .error c
 | .ok ns => thrown (f (ns.getD 0 0) (ns.getD 1 0))
def nodeR (x : TV) (r : Except (List Nd) (List Int)) : Except (List Nd) Int :=
 if x.k = 2 then .ok x.N else if x.k = 1 then .error (atomC unbL) else
  match opOf x.s.toList x.len with
  | none => .error (notC x.s.toList x.len)
  | some f => fromArgs f r
def evT : {n : Nat} → Tm n → Except (List Nd) Int
 | 0, t => Empty.elim t
 | _ + 1, t => nodeR t.tv (evL evT t.kids)
theorem evT_succ {n : Nat} (x : TV) (kids : List (Tm n)) : evT (n := n + 1) ((x, kids) : TV × List (Tm n)) = nodeR x (evL evT kids) := rfl
def numsT {n : Nat} (t : Tm n) : Prop := ∀ x ∈ parts t, inR x.N
theorem numsT_succ {n : Nat} {x : TV} {kids : List (Tm n)} (h : numsT (n := n + 1) ((x, kids) : TV × List (Tm n))) : inR x.N ∧ ∀ u ∈ kids, numsT u := by
 refine ⟨h x (by simp [parts, Tm.tv]), fun u hu y hy => h y ?_⟩
 simp only [parts, List.mem_cons, List.mem_flatMap, Tm.kids]
 exact .inr ⟨u, hu, hy⟩
theorem getD_in {ns : List Int} (h : ∀ n ∈ ns, inR n) (i : Nat) : inR (ns.getD i 0) := by
 rw [List.getD_eq_getElem?_getD]
 cases hx : ns[i]? with
 | none => simp [inR]
 | some n => exact h n (List.mem_of_getElem? hx)
theorem evT_in : ∀ {n : Nat} (t : Tm n), numsT t → ∀ m, evT t = .ok m → inR m := by
 intro n
 induction n with
 | zero => intro t; exact Empty.elim t
 | succ n ih =>
  intro t ht m hm
  obtain ⟨x, kids⟩ := t
  obtain ⟨hN, hk⟩ := numsT_succ ht
  rw [evT_succ] at hm
  unfold nodeR at hm
  generalize hE : evL evT kids = E at hm
  split at hm
  ·cases hm; exact hN
  ·split at hm
   ·cases hm
   ·split at hm
    ·cases hm
    ·rename_i f hf
     cases E with
     | error c => cases hm
     | ok ns =>
      have hns := hE
      simp only [fromArgs] at hm
      have hall : ∀ (l : List (Tm n)) (ns : List Int), (∀ u ∈ l, numsT u) → evL evT l = .ok ns → ∀ n ∈ ns, inR n := by
       intro l
       induction l with
       | nil => intro ns _ h; cases h; simp
       | cons u l ihl =>
        intro ns hu h
        simp only [evL] at h
        cases hx : evT u with
        | error c => rw [hx] at h; cases h
        | ok q =>
         rw [hx] at h
         cases hl : evL evT l with
         | error c => rw [hl] at h; cases h
         | ok ms =>
          rw [hl] at h
          cases h
          intro n hn
          rcases List.mem_cons.1 hn with rfl | hn
          ·exact ih u (hu u (by simp)) _ hx
          ·exact ihl ms (fun v hv => hu v (by simp [hv])) hl n hn
      have hns' := hall kids ns hk hns
      have := op_in hf (getD_in hns' 0) (getD_in hns' 1)
      cases hr : f (ns.getD 0 0) (ns.getD 1 0) with
      | error e => rw [hr] at hm; cases hm
      | ok q => rw [hr] at hm; cases hm; exact this.1 _ hr
end Go.Proofs.YtlbobmebbllifaaGreat
