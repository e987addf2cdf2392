import Derived.Test.YtffbhinpmlcopaaArH
/- The law ArithDivides. -/
namespace Go.Proofs.Ytffbhinpmlcopaa
open Go.RowKit Go.Shelf

theorem quoL : (⟨#[47, 47]⟩ : ByteArray).toList = [47, 47] := by decide +kernel
theorem remL : (⟨#[114, 101, 109]⟩ : ByteArray).toList = [114, 101, 109] := by decide +kernel
theorem divL : (⟨#[100, 105, 118]⟩ : ByteArray).toList = [100, 105, 118] := by decide +kernel
theorem modL : (⟨#[109, 111, 100]⟩ : ByteArray).toList = [109, 111, 100] := by decide +kernel
theorem gcdL : (⟨#[103, 99, 100]⟩ : ByteArray).toList = [103, 99, 100] := by decide +kernel
theorem op_quo (a b : Int) (ha : inR a) (hb : inR b) (w : World) : Calls Try.prog 22 #[.string ⟨#[47, 47]⟩, .int .i64 a, .int .i64 b] w fun e W' => e = .returned (opV (if b = 0 then .error sZero else fit (a.tdiv b))) ∧ Below w.heap.size w W' :=
  op_any _ (by decide) (fun a b => if b = 0 then .error sZero else fit (a.tdiv b)) (by rw [quoL]; rfl) a b ha hb w
theorem op_rem (a b : Int) (ha : inR a) (hb : inR b) (w : World) : Calls Try.prog 22 #[.string ⟨#[114, 101, 109]⟩, .int .i64 a, .int .i64 b] w fun e W' => e = .returned (opV (if b = 0 then .error sZero else .ok (a.tmod b))) ∧ Below w.heap.size w W' :=
  op_any _ (by decide) (fun a b => if b = 0 then .error sZero else .ok (a.tmod b)) (by rw [remL]; rfl) a b ha hb w
theorem op_div (a b : Int) (ha : inR a) (hb : inR b) (w : World) : Calls Try.prog 22 #[.string ⟨#[100, 105, 118]⟩, .int .i64 a, .int .i64 b] w fun e W' => e = .returned (opV (if b = 0 then .error sZero else fit (flr a b))) ∧ Below w.heap.size w W' :=
  op_any _ (by decide) (fun a b => if b = 0 then .error sZero else fit (flr a b)) (by rw [divL]; rfl) a b ha hb w
theorem op_mod (a b : Int) (ha : inR a) (hb : inR b) (w : World) : Calls Try.prog 22 #[.string ⟨#[109, 111, 100]⟩, .int .i64 a, .int .i64 b] w fun e W' => e = .returned (opV (if b = 0 then .error sZero else .ok (lft a b))) ∧ Below w.heap.size w W' :=
  op_any _ (by decide) (fun a b => if b = 0 then .error sZero else .ok (lft a b)) (by rw [modL]; rfl) a b ha hb w
theorem op_gcd (a b : Int) (ha : inR a) (hb : inR b) (w : World) : Calls Try.prog 22 #[.string ⟨#[103, 99, 100]⟩, .int .i64 a, .int .i64 b] w fun e W' => e = .returned (opV (fit (Int.gcd a b : Int))) ∧ Below w.heap.size w W' :=
  op_any _ (by decide) (fun a b => fit (Int.gcd a b : Int)) (by rw [gcdL]; rfl) a b ha hb w

set_option maxRecDepth 100000 in
set_option maxHeartbeats 4000000 in
theorem divides_zero (a c : Int) (ha : inR a) (w : World) :
    Calls Try.prog 7 #[.int .i64 a, .int .i64 0, .int .i64 c] w fun e W' => e = .returned (.bool true) ∧ Below w.heap.size w W' := by
  have h0 : inR 0 := by simp [inR]
  have hq := op_quo a 0 ha h0
  have hr := op_rem a 0 ha h0
  have hd := op_div a 0 ha h0
  have hm := op_mod a 0 ha h0
  simp only [if_true, opV] at hq hr hd hm
  go_enter Try.func7, Try.ntmps7
  go_wp2_with fail
  refine (hq _).mono ?_
  rintro e W1 ⟨rfl, hb1⟩
  go_wp2_with fail
  refine (hr _).mono ?_
  rintro e W2 ⟨rfl, hb2⟩
  go_wp2_with fail
  refine (hd _).mono ?_
  rintro e W3 ⟨rfl, hb3⟩
  go_wp2_with fail
  refine (hm _).mono ?_
  rintro e W4 ⟨rfl, hb4⟩
  clear hq hr hd hm
  have hB2 := hb1.trans (hb2.mono hb1.size)
  have hB3 := hB2.trans (hb3.mono hB2.size)
  have hB4 := hB3.trans (hb4.mono hB3.size)
  go_wp2
  all_goals go_ret
  all_goals exact ⟨rfl, hB4⟩

/-- What the last test of the law comes to, by both kinds of remainders. -/
def Divs (a b c G : Int) : Prop := c = 0 ∨ c = -1 ∨ (c ≠ 0 ∧ c ≠ -1 ∧ (((a.tmod c != 0) = true ∧ (a % c != 0) = true) ∨ (a.tmod c = 0 ∧ a % c = 0 ∧ (b.tmod c != 0) = true ∧ (b % c != 0) = true) ∨ (a.tmod c = 0 ∧ a % c = 0 ∧ b.tmod c = 0 ∧ b % c = 0 ∧ G.tmod c = 0 ∧ G % c = 0)))
theorem rem_zero (x c : Int) : x % c = 0 ↔ x.tmod c = 0 := ⟨fun h => Int.tmod_eq_zero_of_dvd (Int.dvd_of_emod_eq_zero h), fun h => Int.emod_eq_zero_of_dvd (Int.dvd_of_tmod_eq_zero h)⟩
end Go.Proofs.Ytffbhinpmlcopaa

