import Derived.Test.YtffbhinpmlcopaaArI
import Derived.Deep.CutRange
/- The law ArithRing. -/
namespace Go.Proofs.Ytffbhinpmlcopaa
open Go.RowKit Go.Shelf

set_option maxRecDepth 100000 in
set_option maxHeartbeats 30000000 in
/-- The law over answers that are only named, with what is known of them. -/
theorem ring_core (a b c k ab p bc l r s l2 r2 t back two low : Int) (x x2 z u v z2 u2 v2 w' o1 o2 o3 o4 : Bool) (w : World) (hk : bits .and .i64 c 31 = k)
    (q0 : ∀ w, Calls Try.prog 22 #[.string ⟨#[43]⟩, .int .i64 a, .int .i64 b] w fun e W' => e = .returned (.tuple #[.int .i64 ab, .bool x]) ∧ Below w.heap.size w W')
    (q1 : ∀ w, Calls Try.prog 22 #[.string ⟨#[43]⟩, .int .i64 b, .int .i64 a] w fun e W' => e = .returned (.tuple #[.int .i64 ab, .bool x]) ∧ Below w.heap.size w W')
    (q2 : ∀ w, Calls Try.prog 22 #[.string ⟨#[42]⟩, .int .i64 a, .int .i64 b] w fun e W' => e = .returned (.tuple #[.int .i64 p, .bool x2]) ∧ Below w.heap.size w W')
    (q3 : ∀ w, Calls Try.prog 22 #[.string ⟨#[42]⟩, .int .i64 b, .int .i64 a] w fun e W' => e = .returned (.tuple #[.int .i64 p, .bool x2]) ∧ Below w.heap.size w W')
    (q4 : ∀ w, Calls Try.prog 22 #[.string ⟨#[43]⟩, .int .i64 b, .int .i64 c] w fun e W' => e = .returned (.tuple #[.int .i64 bc, .bool z]) ∧ Below w.heap.size w W')
    (q5 : ∀ w, Calls Try.prog 22 #[.string ⟨#[43]⟩, .int .i64 ab, .int .i64 c] w fun e W' => e = .returned (.tuple #[.int .i64 l, .bool u]) ∧ Below w.heap.size w W')
    (q6 : ∀ w, Calls Try.prog 22 #[.string ⟨#[43]⟩, .int .i64 a, .int .i64 bc] w fun e W' => e = .returned (.tuple #[.int .i64 r, .bool v]) ∧ Below w.heap.size w W')
    (q7 : ∀ w, Calls Try.prog 22 #[.string ⟨#[42]⟩, .int .i64 b, .int .i64 c] w fun e W' => e = .returned (.tuple #[.int .i64 s, .bool z2]) ∧ Below w.heap.size w W')
    (q8 : ∀ w, Calls Try.prog 22 #[.string ⟨#[42]⟩, .int .i64 p, .int .i64 c] w fun e W' => e = .returned (.tuple #[.int .i64 l2, .bool u2]) ∧ Below w.heap.size w W')
    (q9 : ∀ w, Calls Try.prog 22 #[.string ⟨#[42]⟩, .int .i64 a, .int .i64 s] w fun e W' => e = .returned (.tuple #[.int .i64 r2, .bool v2]) ∧ Below w.heap.size w W')
    (q10 : ∀ w, Calls Try.prog 22 #[.string ⟨#[60, 60]⟩, .int .i64 a, .int .i64 k] w fun e W' => e = .returned (.tuple #[.int .i64 t, .bool w']) ∧ Below w.heap.size w W')
    (q11 : ∀ w, Calls Try.prog 22 #[.string ⟨#[62, 62]⟩, .int .i64 t, .int .i64 k] w fun e W' => e = .returned (.tuple #[.int .i64 back, .bool o1]) ∧ Below w.heap.size w W')
    (q12 : ∀ w, Calls Try.prog 22 #[.string ⟨#[94]⟩, .int .i64 2, .int .i64 k] w fun e W' => e = .returned (.tuple #[.int .i64 two, .bool o2]) ∧ Below w.heap.size w W')
    (q13 : ∀ w, Calls Try.prog 22 #[.string ⟨#[42]⟩, .int .i64 a, .int .i64 two] w fun e W' => e = .returned (.tuple #[.int .i64 t, .bool w']) ∧ Below w.heap.size w W')
    (q14 : ∀ w, Calls Try.prog 22 #[.string ⟨#[62, 62]⟩, .int .i64 a, .int .i64 k] w fun e W' => e = .returned (.tuple #[.int .i64 low, .bool o3]) ∧ Below w.heap.size w W')
    (q15 : ∀ w, Calls Try.prog 22 #[.string ⟨#[100, 105, 118]⟩, .int .i64 a, .int .i64 two] w fun e W' => e = .returned (.tuple #[.int .i64 low, .bool o4]) ∧ Below w.heap.size w W')
    (h1 : (x = false) ∨ (x = true ∧ z = false) ∨ (x = true ∧ z = true ∧ u = v ∧ l = r))
    (h2 : (x2 = false) ∨ (x2 = true ∧ z2 = false) ∨ (x2 = true ∧ z2 = true ∧ a = 0) ∨ (x2 = true ∧ z2 = true ∧ a ≠ 0 ∧ c = 0) ∨ (x2 = true ∧ z2 = true ∧ a ≠ 0 ∧ c ≠ 0 ∧ u2 = v2 ∧ l2 = r2))
    (h3 : w' = false ∨ (w' = true ∧ back = a)) :
    Calls Try.prog 8 #[.int .i64 a, .int .i64 b, .int .i64 c] w fun e W' => e = .returned (.bool true) ∧ Below w.heap.size w W' := by
  have HK : Hid _ := hk
  have H1 : Hid _ := h1
  have H2 : Hid _ := h2
  have H3 : Hid _ := h3
  clear hk h1 h2 h3
  have hB : Below w.heap.size w w := Below.refl _ _
  have Q0 : Hid _ := q0
  have Q1 : Hid _ := q1
  have Q2 : Hid _ := q2
  have Q3 : Hid _ := q3
  have Q4 : Hid _ := q4
  have Q5 : Hid _ := q5
  have Q6 : Hid _ := q6
  have Q7 : Hid _ := q7
  have Q8 : Hid _ := q8
  have Q9 : Hid _ := q9
  have Q10 : Hid _ := q10
  have Q11 : Hid _ := q11
  have Q12 : Hid _ := q12
  have Q13 : Hid _ := q13
  have Q14 : Hid _ := q14
  have Q15 : Hid _ := q15
  clear q0 q1 q2 q3 q4 q5 q6 q7 q8 q9 q10 q11 q12 q13 q14 q15
  go_enter Try.func8, Try.ntmps8
  go_wp2_with fail
  refine (Q0.out _).mono ?_
  rintro e W0 ⟨rfl, hb⟩
  replace hB := hB.trans (hb.mono hB.size)
  clear hb Q0
  go_wp2_with fail
  refine (Q1.out _).mono ?_
  rintro e W1 ⟨rfl, hb⟩
  replace hB := hB.trans (hb.mono hB.size)
  clear hb Q1
  go_wp2_with fail
  refine (Q2.out _).mono ?_
  rintro e W2 ⟨rfl, hb⟩
  replace hB := hB.trans (hb.mono hB.size)
  clear hb Q2
  go_wp2_with fail
  refine (Q3.out _).mono ?_
  rintro e W3 ⟨rfl, hb⟩
  replace hB := hB.trans (hb.mono hB.size)
  clear hb Q3
  go_wp2_with fail
  refine (Q4.out _).mono ?_
  rintro e W4 ⟨rfl, hb⟩
  replace hB := hB.trans (hb.mono hB.size)
  clear hb Q4
  go_wp2_with fail
  refine (Q5.out _).mono ?_
  rintro e W5 ⟨rfl, hb⟩
  replace hB := hB.trans (hb.mono hB.size)
  clear hb Q5
  go_wp2_with fail
  refine (Q6.out _).mono ?_
  rintro e W6 ⟨rfl, hb⟩
  replace hB := hB.trans (hb.mono hB.size)
  clear hb Q6
  go_upto_region 12 with fail
  go_cut [8, 10, 16, 17, 18, 19, 20, 107] from 36 (fun _ _ _ _ _ _ _ s wc => s = .bool false ∧ W6 = wc)
  case first =>
    rcases H1.out with g1 | ⟨g1, g2⟩ | ⟨g1, g2, g3, g4⟩
    all_goals clear H1 H2 H3 HK Q7 Q8 Q9 Q10 Q11 Q12 Q13 Q14 Q15
    · go_wp2_with fail
      go_meet
      exact ⟨by first | rfl | simp, rfl⟩
    · go_wp2_with fail
      go_meet
      exact ⟨by first | rfl | simp, rfl⟩
    · have g5 : (u != v) = false := by rw [g3]; cases v <;> rfl
      have g6 : (l != r) = false := by simp [g4]
      clear g3 g4
      go_wp2_with fail
      all_goals (first | (go_meet; exact ⟨rfl, rfl⟩) | exact absurd (by simpa using g5 : u = v) (by assumption))
  case rest =>
    obtain ⟨rfl, rfl⟩ := hcut
    clear H1
    go_wp2_with fail
    refine (Q7.out _).mono ?_
    rintro e W7 ⟨rfl, hb⟩
    replace hB := hB.trans (hb.mono hB.size)
    clear hb Q7
    go_wp2_with fail
    refine (Q8.out _).mono ?_
    rintro e W8 ⟨rfl, hb⟩
    replace hB := hB.trans (hb.mono hB.size)
    clear hb Q8
    go_wp2_with fail
    refine (Q9.out _).mono ?_
    rintro e W9 ⟨rfl, hb⟩
    replace hB := hB.trans (hb.mono hB.size)
    clear hb Q9
    go_upto_region 17 with fail
    go_cut [12, 14, 17, 18, 19, 20, 22, 147] from 36 (fun _ _ _ _ _ _ _ s wc => s = .bool false ∧ W9 = wc)
    case first =>
      rcases H2.out with g1 | ⟨g1, g2⟩ | ⟨g1, g2, g3⟩ | ⟨g1, g2, g3, g4⟩ | ⟨g1, g2, g3, g4, g5, g6⟩
      all_goals clear H2 H3 HK Q10 Q11 Q12 Q13 Q14 Q15
      · go_wp2_with fail
        go_meet
        exact ⟨by first | rfl | simp, rfl⟩
      · go_wp2_with fail
        go_meet
        exact ⟨by first | rfl | simp, rfl⟩
      · have g7 : (a != 0) = false := by simp [g3]
        clear g3
        go_wp2_with fail
        go_meet
        exact ⟨by first | rfl | simp, rfl⟩
      · have g7 : (a != 0) = true := by simp [g3]
        have g8 : (c != 0) = false := by simp [g4]
        clear g3 g4
        go_wp2_with fail
        go_meet
        exact ⟨by first | rfl | simp, rfl⟩
      · have g7 : (a != 0) = true := by simp [g3]
        have g8 : (c != 0) = true := by simp [g4]
        have g9 : (u2 != v2) = false := by rw [g5]; cases v2 <;> rfl
        have g10 : (l2 != r2) = false := by simp [g6]
        clear g3 g4 g5 g6
        go_wp2_with fail
        all_goals (first | (go_meet; exact ⟨rfl, rfl⟩) | exact absurd (by simpa using g9 : u2 = v2) (by assumption))
    case rest =>
      obtain ⟨rfl, rfl⟩ := hcut
      clear H2
      have hk := HK.out
      clear HK
      go_wp2_with fail
      refine (Q10.out _).mono ?_
      rintro e W10 ⟨rfl, hb⟩
      replace hB := hB.trans (hb.mono hB.size)
      clear hb Q10
      clear hk
      go_wp2_with fail
      refine (Q11.out _).mono ?_
      rintro e W11 ⟨rfl, hb⟩
      replace hB := hB.trans (hb.mono hB.size)
      clear hb Q11
      go_wp2_with fail
      refine (Q12.out _).mono ?_
      rintro e W12 ⟨rfl, hb⟩
      replace hB := hB.trans (hb.mono hB.size)
      clear hb Q12
      go_wp2_with fail
      refine (Q13.out _).mono ?_
      rintro e W13 ⟨rfl, hb⟩
      replace hB := hB.trans (hb.mono hB.size)
      clear hb Q13
      go_wp2_with fail
      refine (Q14.out _).mono ?_
      rintro e W14 ⟨rfl, hb⟩
      replace hB := hB.trans (hb.mono hB.size)
      clear hb Q14
      go_wp2_with fail
      refine (Q15.out _).mono ?_
      rintro e W15 ⟨rfl, hb⟩
      replace hB := hB.trans (hb.mono hB.size)
      clear hb Q15
      rcases H3.out with g1 | ⟨g1, g2⟩
      · clear H3
        go_wp2
        all_goals go_ret
        all_goals (refine ⟨?_, hB⟩; first | rfl | simp)
      · have g3 : (back == a) = true := by simp [g2]
        clear H3 g2
        go_wp2
        all_goals go_ret
        all_goals (refine ⟨?_, hB⟩; first | rfl | simp)
end Go.Proofs.Ytffbhinpmlcopaa

