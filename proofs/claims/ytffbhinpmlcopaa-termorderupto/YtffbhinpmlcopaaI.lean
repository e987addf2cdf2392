import Derived.Test.YtffbhinpmlcopaaG
import Derived.Test.YtffbhinpmlcopaaH
/- The walk of hornkeep.TermOrder: it returns true at any three terms, and nothing that lay is changed. -/
namespace Go.Proofs.Ytffbhinpmlcopaa
open Go.RowKit Go.Shelf

/-- Three boxes at the head of a call's own memory. -/
structure Three (w W : World) (a b c : TV) : Prop where
  below : Below w.heap.size w W
  ba : BoxT W w.heap.size a
  bb : BoxT W (w.heap.size + 1) b
  bc : BoxT W (w.heap.size + 1 + 1) c
theorem Three.next {w W W' : World} {a b c : TV} (h : Three w W a b c) (hb : Below W.heap.size W W') : Three w W' a b c :=
  ⟨h.below.trans (hb.mono h.below.size), (hb.block _ h.ba.lt).trans h.ba, (hb.block _ h.bb.lt).trans h.bb, (hb.block _ h.bc.lt).trans h.bc⟩
theorem Three.new (w : World) (a b c : TV) : Three w (((w.alloc (.cells #[.int .i64 a.k, .int .i64 a.N, .string a.s, .slice a.a a.len a.cap] 24)).alloc (.cells #[.int .i64 b.k, .int .i64 b.N, .string b.s, .slice b.a b.len b.cap] 24)).alloc (.cells #[.int .i64 c.k, .int .i64 c.N, .string c.s, .slice c.a c.len c.cap] 24)) a b c := by
  have b1 := ((BoxT.new w a).alloc (.cells #[.int .i64 b.k, .int .i64 b.N, .string b.s, .slice b.a b.len b.cap] 24)).alloc (.cells #[.int .i64 c.k, .int .i64 c.N, .string c.s, .slice c.a c.len c.cap] 24)
  have b2 := (BoxT.new (w.alloc (.cells #[.int .i64 a.k, .int .i64 a.N, .string a.s, .slice a.a a.len a.cap] 24)) b).alloc (.cells #[.int .i64 c.k, .int .i64 c.N, .string c.s, .slice c.a c.len c.cap] 24)
  have b3 := BoxT.new ((w.alloc (.cells #[.int .i64 a.k, .int .i64 a.N, .string a.s, .slice a.a a.len a.cap] 24)).alloc (.cells #[.int .i64 b.k, .int .i64 b.N, .string b.s, .slice b.a b.len b.cap] 24)) c
  simp only [World.size_alloc] at b2 b3
  exact ⟨(((Below.refl _ w).alloc (Nat.le_refl _) _).alloc (by simp) _).alloc (by simp; omega) _, b1, b2, b3⟩
theorem Three.at {w W : World} {a b c : TV} (h : Three w W a b c) {n : Nat} {t : Tm n} (ht : IsT w.heap.size w t) : IsT W.heap.size W t := (ht.below h.below).mono h.below.size

theorem formed_at {w W : World} {a b c : TV} {n : Nat} (t : Tm n) (ht : IsT w.heap.size w t) (h : Three w W a b c) :
    Calls Try.prog 9 #[.agg #[.int .i64 t.tv.k, .int .i64 t.tv.N, .string t.tv.s, .slice t.tv.a t.tv.len t.tv.cap]] W fun e W' => e = .returned (.bool (okT t)) ∧ Three w W' a b c :=
  (formed_any n t W (h.at ht)).mono fun _ _ k => ⟨k.1, h.next k.2⟩
theorem compare_at {w W : World} {a b c : TV} {n : Nat} (s t : Tm n) (hs : IsT w.heap.size w s) (ht : IsT w.heap.size w t) (os : okT s = true) (ot : okT t = true) (h : Three w W a b c) :
    Calls Try.prog 10 #[.agg #[.int .i64 s.tv.k, .int .i64 s.tv.N, .string s.tv.s, .slice s.tv.a s.tv.len s.tv.cap], .agg #[.int .i64 t.tv.k, .int .i64 t.tv.N, .string t.tv.s, .slice t.tv.a t.tv.len t.tv.cap]] W fun e W' => e = .returned (.tuple #[.int .i64 (ordT s t), .int .i64 0]) ∧ Three w W' a b c :=
  (compare_any s t W (h.at hs) (h.at ht) os ot).mono fun _ _ k => ⟨k.1, h.next k.2⟩
theorem same_at {w W : World} {a b c : TV} {n : Nat} (s t : Tm n) (hs : IsT w.heap.size w s) (ht : IsT w.heap.size w t) (h : Three w W a b c) :
    Calls Try.prog 11 #[.agg #[.int .i64 s.tv.k, .int .i64 s.tv.N, .string s.tv.s, .slice s.tv.a s.tv.len s.tv.cap], .agg #[.int .i64 t.tv.k, .int .i64 t.tv.N, .string t.tv.s, .slice t.tv.a t.tv.len t.tv.cap]] W fun e W' => e = .returned (.bool (sameT s t)) ∧ Three w W' a b c :=
  (same_any n s t W (h.at hs) (h.at ht)).mono fun _ _ k => ⟨k.1, h.next k.2⟩

set_option maxRecDepth 100000 in
set_option maxHeartbeats 1000000 in
theorem termOrder_no {n : Nat} (a b c : Tm n) (w : World) (ha : IsT w.heap.size w a) (hb : IsT w.heap.size w b) (hc : IsT w.heap.size w c) (hno : (okT a && okT b && okT c) = false) :
    Calls Try.prog 3 #[a.tv.val, b.tv.val, c.tv.val] w fun e W' => e = .returned (.bool true) ∧ Below w.heap.size w W' := by
  have f1 := formed_at a ha (Three.new w a.tv b.tv c.tv)
  have f2 := fun W (h : Three w W a.tv b.tv c.tv) => formed_at b hb h
  have f3 := fun W (h : Three w W a.tv b.tv c.tv) => formed_at c hc h
  have F2 := hide f2
  have F3 := hide f3
  clear ha hb hc f2 f3
  simp only [TV.val]
  cases oa : okT a with
  | false =>
    rw [oa] at f1
    clear hno oa
    go_enter Try.func3, Try.ntmps3
    go_wp2_with (go_at_call 9; refine f1.mono ?_; clear f1; rintro e W1 ⟨rfl, h1⟩)
    go_ret
    exact ⟨rfl, h1.below⟩
  | true =>
    rw [oa] at f1
    cases ob : okT b with
    | false =>
      rw [ob] at F2
      clear hno oa ob
      go_enter Try.func3, Try.ntmps3
      go_wp2_with (go_at_call 9; refine f1.mono ?_; clear f1; rintro e W1 ⟨rfl, h1⟩; have c0 := h1.bb.c0; have c1 := h1.bb.c1; have c2 := h1.bb.c2; have c3 := h1.bb.c3)
      refine (unhide F2 _ h1).mono ?_
      rintro e W2 ⟨rfl, h2⟩
      go_wp2_with fail
      go_ret
      exact ⟨rfl, h2.below⟩
    | true =>
      have oc : okT c = false := by simpa [oa, ob] using hno
      rw [ob] at F2
      rw [oc] at F3
      clear hno oa ob oc
      go_enter Try.func3, Try.ntmps3
      go_wp2_with (go_at_call 9; refine f1.mono ?_; clear f1; rintro e W1 ⟨rfl, h1⟩; have c0 := h1.bb.c0; have c1 := h1.bb.c1; have c2 := h1.bb.c2; have c3 := h1.bb.c3)
      refine (unhide F2 _ h1).mono ?_
      rintro e W2 ⟨rfl, h2⟩
      have d0 := h2.bc.c0
      have d1 := h2.bc.c1
      have d2 := h2.bc.c2
      have d3 := h2.bc.c3
      go_wp2_with fail
      refine (unhide F3 _ h2).mono ?_
      rintro e W3 ⟨rfl, h3⟩
      go_wp2_with fail
      go_ret
      exact ⟨rfl, h3.below⟩

set_option maxRecDepth 100000 in
set_option maxHeartbeats 1000000 in
theorem termOrder_yes {n : Nat} (a b c : Tm n) (w : World) (ha : IsT w.heap.size w a) (hb : IsT w.heap.size w b) (hc : IsT w.heap.size w c) (oa : okT a = true) (ob : okT b = true) (oc : okT c = true) :
    Calls Try.prog 3 #[a.tv.val, b.tv.val, c.tv.val] w fun e W' => e = .returned (.bool true) ∧ Below w.heap.size w W' := by
  have f1 := formed_at a ha (Three.new w a.tv b.tv c.tv)
  have f2 := fun W (h : Three w W a.tv b.tv c.tv) => formed_at b hb h
  have f3 := fun W (h : Three w W a.tv b.tv c.tv) => formed_at c hc h
  have g1 := fun W (h : Three w W a.tv b.tv c.tv) => compare_at a b ha hb oa ob h
  have g2 := fun W (h : Three w W a.tv b.tv c.tv) => compare_at b a hb ha ob oa h
  have g3 := fun W (h : Three w W a.tv b.tv c.tv) => compare_at b c hb hc ob oc h
  have g4 := fun W (h : Three w W a.tv b.tv c.tv) => compare_at a c ha hc oa oc h
  have g5 := fun W (h : Three w W a.tv b.tv c.tv) => same_at a b ha hb h
  rw [oa] at f1
  simp only [ob] at f2
  simp only [oc] at f3
  have C := isCmp_ord n
  obtain ⟨hx1, hx2⟩ := C.range a b
  have hy := C.anti a b
  have ht := C.trans a b c
  have hs := ord_zero a b
  generalize ordT a b = x at *
  generalize ordT b a = y at *
  generalize ordT b c = z at *
  generalize ordT a c = v at *
  generalize sameT a b = s at *
  have hy1 : -1 ≤ y := by omega
  have hy2 : y ≤ 1 := by omega
  have hxy : (x != -y) = false := by simp; omega
  have hss : (!(x == 0) == s) = false := by
    cases s with
    | true => have : x = 0 := hs.2 rfl
              simp [this]
    | false => have : x ≠ 0 := fun h => by have := hs.1 h; cases this
               simp [this]
  have HT := hide ht
  have F2 := hide f2
  have F3 := hide f3
  have G1 := hide g1
  have G2 := hide g2
  have G3 := hide g3
  have G4 := hide g4
  have G5 := hide g5
  clear ha hb hc f2 f3 g1 g2 g3 g4 g5 oa ob oc C hy ht hs
  simp only [TV.val]
  go_enter Try.func3, Try.ntmps3
  go_wp2_with fail
  refine f1.mono ?_
  clear f1
  rintro e W1 ⟨rfl, h1⟩
  have d0 := h1.bb.c0
  have d1 := h1.bb.c1
  have d2 := h1.bb.c2
  have d3 := h1.bb.c3
  go_wp2_with fail
  refine (unhide F2 _ h1).mono ?_
  clear d0 d1 d2 d3
  rintro e W2 ⟨rfl, h2⟩
  have d0 := h2.bc.c0
  have d1 := h2.bc.c1
  have d2 := h2.bc.c2
  have d3 := h2.bc.c3
  go_wp2_with fail
  refine (unhide F3 _ h2).mono ?_
  clear d0 d1 d2 d3
  rintro e W3 ⟨rfl, h3⟩
  have d0 := h3.ba.c0
  have d1 := h3.ba.c1
  have d2 := h3.ba.c2
  have d3 := h3.ba.c3
  have e0 := h3.bb.c0
  have e1 := h3.bb.c1
  have e2 := h3.bb.c2
  have e3 := h3.bb.c3
  go_wp2_with fail
  refine (unhide G1 _ h3).mono ?_
  clear d0 d1 d2 d3 e0 e1 e2 e3
  rintro e W4 ⟨rfl, h4⟩
  have d0 := h4.ba.c0
  have d1 := h4.ba.c1
  have d2 := h4.ba.c2
  have d3 := h4.ba.c3
  have e0 := h4.bb.c0
  have e1 := h4.bb.c1
  have e2 := h4.bb.c2
  have e3 := h4.bb.c3
  go_wp2_with fail
  refine (unhide G2 _ h4).mono ?_
  clear d0 d1 d2 d3 e0 e1 e2 e3
  rintro e W5 ⟨rfl, h5⟩
  have d0 := h5.bb.c0
  have d1 := h5.bb.c1
  have d2 := h5.bb.c2
  have d3 := h5.bb.c3
  have e0 := h5.bc.c0
  have e1 := h5.bc.c1
  have e2 := h5.bc.c2
  have e3 := h5.bc.c3
  go_wp2_with fail
  refine (unhide G3 _ h5).mono ?_
  clear d0 d1 d2 d3 e0 e1 e2 e3
  rintro e W6 ⟨rfl, h6⟩
  have d0 := h6.ba.c0
  have d1 := h6.ba.c1
  have d2 := h6.ba.c2
  have d3 := h6.ba.c3
  have e0 := h6.bc.c0
  have e1 := h6.bc.c1
  have e2 := h6.bc.c2
  have e3 := h6.bc.c3
  go_wp2_with fail
  refine (unhide G4 _ h6).mono ?_
  clear d0 d1 d2 d3 e0 e1 e2 e3
  rintro e W7 ⟨rfl, h7⟩
  have d0 := h7.ba.c0
  have d1 := h7.ba.c1
  have d2 := h7.ba.c2
  have d3 := h7.ba.c3
  have e0 := h7.bb.c0
  have e1 := h7.bb.c1
  have e2 := h7.bb.c2
  have e3 := h7.bb.c3
  go_wp2_with fail
  refine (unhide G5 _ h7).mono ?_
  clear d0 d1 d2 d3 e0 e1 e2 e3
  rintro e W8 ⟨rfl, h8⟩
  go_wp2_with fail
  all_goals have hT := unhide HT
  all_goals clear HT F2 F3 G1 G2 G3 G4 G5
  all_goals first | (exfalso; omega) | (go_ret; exact ⟨rfl, h8.below⟩) | (go_ret; exact ⟨ret_bool (by simp; omega), h8.below⟩)

theorem termOrder_any {n : Nat} (a b c : Tm n) (w : World) (ha : IsT w.heap.size w a) (hb : IsT w.heap.size w b) (hc : IsT w.heap.size w c) :
    Calls Try.prog 3 #[a.tv.val, b.tv.val, c.tv.val] w fun e W' => e = .returned (.bool true) ∧ Below w.heap.size w W' := by
  cases h : okT a && okT b && okT c with
  | false => exact termOrder_no a b c w ha hb hc h
  | true =>
    simp only [Bool.and_eq_true] at h
    exact termOrder_yes a b c w ha hb hc h.1.1 h.1.2 h.2
end Go.Proofs.Ytffbhinpmlcopaa

