import Derived.Test.YtffbhinpmlcopabArB
import Derived.Test.YtffbhinpmlcopabE
/- hornref's numbers: times, parted, divisor, power. -/
namespace Go.Proofs.Ytffbhinpmlcopab
open Go.RowKit Go.Shelf

set_option maxHeartbeats 4000000 in
theorem rtimes_any (a b : Int) (ha : inR a) (hb : inR b) (w : World) :
    Calls Try.prog 65 #[.int .i64 a, .int .i64 b] w fun e w' => e = .returned (ansV (fit (a * b))) ∧ Below w.heap.size w w' := by
  have hB : Below w.heap.size w w := Below.refl _ _
  have hB' : Below w.heap.size w w.drew := hB.drew
  by_cases h0 : a = 0 ∨ b = 0
  · have hz : a * b = 0 := by rcases h0 with rfl | rfl <;> simp
    rw [hz, fit_ok (by simp [inR])]
    clear hz
    rcases h0 with rfl | h0
    · go_enter Try.func65, Try.ntmps65
      go_wp2
      all_goals go_ret2
      all_goals (first | exact ⟨rfl, hB⟩ | exact ⟨rfl, hB'⟩)
    · by_cases ha0 : a = 0
      · subst ha0
        subst h0
        go_enter Try.func65, Try.ntmps65
        go_wp2
        all_goals go_ret2
        all_goals (first | exact ⟨rfl, hB⟩ | exact ⟨rfl, hB'⟩)
      · have hb1 : (a == 0) = false := by simp [ha0]
        subst h0
        go_enter Try.func65, Try.ntmps65
        go_wp2
        all_goals go_ret2
        all_goals (first | exact ⟨rfl, hB⟩ | exact ⟨rfl, hB'⟩)
  · have ha0 : a ≠ 0 := fun h => h0 (.inl h)
    have hb0 : b ≠ 0 := fun h => h0 (.inr h)
    have za : (a == 0) = false := by simp [ha0]
    have zb : (b == 0) = false := by simp [hb0]
    clear h0
    by_cases hx : a = -1 ∧ b = -9223372036854775808
    · obtain ⟨rfl, rfl⟩ := hx
      rw [fit_no (by unfold inR; omega)]
      go_enter Try.func65, Try.ntmps65
      go_wp2
      all_goals go_ret2
      all_goals (first | exact ⟨rfl, hB⟩ | exact ⟨rfl, hB'⟩)
    by_cases hy : b = -1 ∧ a = -9223372036854775808
    · obtain ⟨rfl, rfl⟩ := hy
      rw [fit_no (by unfold inR; omega)]
      go_enter Try.func65, Try.ntmps65
      go_wp2
      all_goals go_ret2
      all_goals (first | exact ⟨rfl, hB⟩ | exact ⟨rfl, hB'⟩)
    have c1 : ((a == -1) = false) ∨ ((a == -1) = true ∧ (b == -9223372036854775808) = false) := by
      by_cases h : a = -1
      · exact .inr ⟨by simp [h], by simp; omega⟩
      · exact .inl (by simp [h])
    have c2 : ((b == -1) = false) ∨ ((b == -1) = true ∧ (a == -9223372036854775808) = false) := by
      by_cases h : b = -1
      · exact .inr ⟨by simp [h], by simp; omega⟩
      · exact .inl (by simp [h])
    have hq : inR ((wrap64 (a * b)).tdiv b) := by
      by_cases h : b = -1
      · subst h
        refine tdiv_in (wrap64_inR _) (.inr ?_)
        unfold wrap64
        unfold inR at ha
        omega
      · exact tdiv_in (wrap64_inR _) (.inl h)
    have hq1 := hq.1
    have hq2 := hq.2
    have ho := mul_over (a := a) hb hb0
    clear hx hy hq ha0
    by_cases h : inR (a * b)
    · have h2 : ((wrap64 (a * b)).tdiv b != a) = false := by simp [ho.2 h]
      rw [fit_ok h]
      have HW : Hid (wrap64 (a * b) = a * b) := wrap64_of h
      clear ho h
      rcases c1 with c1 | ⟨c1, c1'⟩ <;> rcases c2 with c2 | ⟨c2, c2'⟩
      all_goals go_enter Try.func65, Try.ntmps65
      all_goals go_wp2
      all_goals go_ret2
      all_goals (refine ⟨?_, hB⟩; simp [ansV, HW.out])
    · have h2 : ((wrap64 (a * b)).tdiv b != a) = true := by simpa using fun x => h (ho.1 x)
      rw [fit_no h]
      clear ho h
      rcases c1 with c1 | ⟨c1, c1'⟩ <;> rcases c2 with c2 | ⟨c2, c2'⟩
      all_goals go_enter Try.func65, Try.ntmps65
      all_goals go_wp2
      all_goals go_ret2
      all_goals (refine ⟨?_, hB⟩; rfl)

def nameIs (s : ByteArray) (k : Nat) : Prop :=
  (s.toList == [47, 47]) = decide (k = 0) ∧ (s.toList == [114, 101, 109]) = decide (k = 1) ∧ (s.toList == [100, 105, 118]) = decide (k = 2) ∧ (s.toList == [109, 111, 100]) = decide (k = 3)
/-- What parted answers of the names in their order. -/
def partK (k : Nat) (a b : Int) : Except ByteArray Int :=
  if b = 0 then .error sZero else if k = 0 then fit (a.tdiv b) else if k = 1 then .ok (a.tmod b) else if k = 2 then fit (flr a b) else .ok (lft a b)
theorem off_iff {a b : Int} (h0 : b ≠ 0) : offB a b = ((a.tmod b != 0) && (decide (a.tmod b < 0) != decide (b < 0))) := by
  unfold offB
  rw [Bool.eq_iff_iff]
  simp only [decide_eq_true_eq, Bool.and_eq_true, bne_iff_ne, ne_eq, decide_eq_decide]
  omega
set_option maxHeartbeats 8000000 in
theorem rparted_any (s : ByteArray) (k : Nat) (hk : k < 4) (hs : nameIs s k) (a b : Int) (ha : inR a) (hb : inR b) (w : World) :
    Calls Try.prog 66 #[.string s, .int .i64 a, .int .i64 b] w fun e w' => e = .returned (ansV (partK k a b)) ∧ Below w.heap.size w w' := by
  obtain ⟨n0, n1, n2, n3⟩ := hs
  have hB : Below w.heap.size w w := Below.refl _ _
  have hB' : Below w.heap.size w w.drew := hB.drew
  by_cases h0 : b = 0
  · subst h0
    have HX : Hid (partK k a 0 = .error sZero) := rfl
    go_enter Try.func66, Try.ntmps66
    go_wp2
    all_goals go_ret2
    all_goals exact ⟨by rw [HX.out]; rfl, hB⟩
  by_cases h1 : b = -1
  · subst h1
    have e1 : a.tdiv (-1) = -a := tdiv_neg_one a
    have e2 : a.tmod (-1) = 0 := by have := tmod_lt (n := a) (b := -1) (by omega); omega
    have e3 : flr a (-1) = -a := by unfold flr; rw [offB_one, e1]; rfl
    have e4 : lft a (-1) = 0 := by unfold lft; rw [offB_one, e2]; rfl
    have HX : Hid (partK k a (-1) = if k = 0 ∨ k = 2 then fit (-a) else .ok 0) := by
      show partK k a (-1) = _
      unfold partK
      rw [e1, e2, e3, e4, if_neg (by decide)]
      by_cases k0 : k = 0
      · simp [k0]
      · by_cases k1 : k = 1
        · simp [k1]
        · by_cases k2 : k = 2
          · simp [k2]
          · simp [k0, k1, k2]
    clear e1 e2 e3 e4
    by_cases hm : a = -9223372036854775808
    · subst hm
      have HF : Hid (fit (- (-9223372036854775808)) = .error sOvf) := fit_no (by unfold inR; omega)
      have hk4 : k = 0 ∨ k = 1 ∨ k = 2 ∨ k = 3 := by omega
      rcases hk4 with rfl | rfl | rfl | rfl
      all_goals simp only [decide_true, decide_false, Nat.reduceEqDiff, Nat.succ_ne_self, reduceCtorEq] at n0 n1 n2 n3
      all_goals go_enter Try.func66, Try.ntmps66
      all_goals go_wp2
      all_goals go_ret2
      all_goals exact ⟨by rw [HX.out]; simp [ansV]; try rfl, hB⟩
    · have HF : Hid (fit (-a) = .ok (-a)) := fit_ok (by unfold inR at *; omega)
      have hm1 : (a == -9223372036854775808) = false := by simp [hm]
      have a1 : -9223372036854775808 < a := by unfold inR at ha; omega
      have a2 := ha.2
      clear hm ha
      have hk4 : k = 0 ∨ k = 1 ∨ k = 2 ∨ k = 3 := by omega
      rcases hk4 with rfl | rfl | rfl | rfl
      all_goals simp only [decide_true, decide_false, Nat.reduceEqDiff, Nat.succ_ne_self, reduceCtorEq] at n0 n1 n2 n3
      all_goals go_enter Try.func66, Try.ntmps66
      all_goals go_wp2
      all_goals go_ret2
      all_goals exact ⟨by rw [HX.out]; simp [HF.out, ansV], hB⟩
  · have iq := tdiv_in (b := b) ha (.inl h1)
    have ir := tmod_in (b := b) ha
    have il := lft_in (a := a) hb h0
    have ifl := flr_in ha h0 (.inl h1)
    have ho := off_iff (a := a) h0
    have HX : Hid (partK k a b = if k = 0 then .ok (a.tdiv b) else if k = 1 then .ok (a.tmod b) else if k = 2 then .ok (flr a b) else .ok (lft a b)) := by
      show partK k a b = _
      unfold partK
      rw [if_neg h0, fit_ok iq, fit_ok ifl]
    have hz : (b == 0) = false := by simp [h0]
    have hm : (b == -1) = false := by simp [h1]
    have q1 := iq.1
    have q2 := iq.2
    cases hoo : offB a b with
    | false =>
      have HY : Hid (flr a b = a.tdiv b ∧ lft a b = a.tmod b) := by unfold flr lft; rw [hoo]; exact ⟨rfl, rfl⟩
      rw [hoo] at ho
      have h2 : (a.tmod b != 0) = false ∨ ((a.tmod b != 0) = true ∧ (decide (a.tmod b < 0) == decide (b < 0)) = true) := by
        cases hx : (a.tmod b != 0) with
        | false => exact .inl rfl
        | true => rw [hx] at ho; exact .inr ⟨rfl, by simpa using ho⟩
      clear ho hoo ir il ifl iq
      have hk4 : k = 0 ∨ k = 1 ∨ k = 2 ∨ k = 3 := by omega
      rcases h2 with h2 | ⟨h2, h3⟩ <;> rcases hk4 with rfl | rfl | rfl | rfl
      all_goals simp only [decide_true, decide_false, Nat.reduceEqDiff, Nat.succ_ne_self, reduceCtorEq] at n0 n1 n2 n3
      all_goals go_enter Try.func66, Try.ntmps66
      all_goals go_wp2_with fail
      all_goals go_region
      all_goals go_wp2
      all_goals go_ret2
      all_goals (refine ⟨?_, hB'⟩; rw [HX.out]; simp [ansV, HY.out])
    | true =>
      have HY : Hid (flr a b = a.tdiv b - 1 ∧ lft a b = a.tmod b + b) := by unfold flr lft; rw [hoo]; exact ⟨rfl, rfl⟩
      have f1 : -9223372036854775808 ≤ a.tdiv b - 1 := by have := ifl.1; rw [HY.out.1] at this; exact this
      have f2 : -9223372036854775808 ≤ a.tmod b + b ∧ a.tmod b + b ≤ 9223372036854775807 := by have := il; rw [HY.out.2] at this; exact this
      rw [hoo] at ho
      have h2 : (a.tmod b != 0) = true ∧ (decide (a.tmod b < 0) == decide (b < 0)) = false := by simpa using ho.symm
      obtain ⟨h2, h3⟩ := h2
      clear ho hoo ir il ifl iq
      have hB2 : Below w.heap.size w w.drew.drew := hB'.drew
      have hk4 : k = 0 ∨ k = 1 ∨ k = 2 ∨ k = 3 := by omega
      rcases hk4 with rfl | rfl | rfl | rfl
      all_goals simp only [decide_true, decide_false, Nat.reduceEqDiff, Nat.succ_ne_self, reduceCtorEq] at n0 n1 n2 n3
      all_goals go_enter Try.func66, Try.ntmps66
      all_goals go_wp2_with fail
      all_goals go_region
      all_goals go_wp2_with fail
      all_goals (try go_region)
      all_goals (try go_wp2)
      all_goals go_ret2
      all_goals (refine ⟨?_, by first | exact hB' | exact hB2⟩; rw [HX.out]; simp [ansV, HY.out])
end Go.Proofs.Ytffbhinpmlcopab

