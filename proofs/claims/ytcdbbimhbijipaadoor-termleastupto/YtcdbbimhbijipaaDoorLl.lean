import Derived.Test.YtcdbbimhbijipaaDoorGes
/- The law hornkeep.TermLeast: it answers true, whatever the three terms (within a bound of their parts). -/
namespace Go.Proofs.YtcdbbimhbijipaaDoor
open Go.RowKit Go.Shelf Go.Maps

theorem three_boxes (w : World) (x y z : TV) : ∃ W3, ((w.alloc (.cells #[.int .i64 x.k, .int .i64 x.N, .string x.s, .slice x.a x.len x.cap] 24)).alloc (.cells #[.int .i64 y.k, .int .i64 y.N, .string y.s, .slice y.a y.len y.cap] 24)).alloc (.cells #[.int .i64 z.k, .int .i64 z.N, .string z.s, .slice z.a z.len z.cap] 24) = W3 ∧ Below w.heap.size w W3 ∧ BoxT W3 w.heap.size x ∧ BoxT W3 (w.heap.size + 1) y ∧ BoxT W3 (w.heap.size + 2) z ∧ W3.heap.size = w.heap.size + 3 := by
  obtain ⟨W2, h1, h2, h3, h4, h5⟩ := two_new w x y
  rw [h1]
  refine ⟨_, rfl, h2.alloc (by omega) _, h3.alloc _, h4.alloc _, ?_, by simp [h5]⟩
  have := BoxT.new W2 z
  rw [h5] at this
  exact this
/-- The three boxes of the law's arguments. -/
structure B3 (w : World) (x y z : TV) (W : World) : Prop where
  bel : Below w.heap.size w W
  ba : BoxT W w.heap.size x
  bb : BoxT W (w.heap.size + 1) y
  bc : BoxT W (w.heap.size + 2) z
theorem B3.kept {w W W' : World} {x y z : TV} (h : B3 w x y z W) (hb : Below W.heap.size W W') : B3 w x y z W' :=
  ⟨h.bel.trans (hb.mono h.bel.size), h.ba.kept hb, h.bb.kept hb, h.bc.kept hb⟩
theorem B3.new (w : World) (x y z : TV) : ∃ W3, ((w.alloc (.cells #[.int .i64 x.k, .int .i64 x.N, .string x.s, .slice x.a x.len x.cap] 24)).alloc (.cells #[.int .i64 y.k, .int .i64 y.N, .string y.s, .slice y.a y.len y.cap] 24)).alloc (.cells #[.int .i64 z.k, .int .i64 z.N, .string z.s, .slice z.a z.len z.cap] 24) = W3 ∧ B3 w x y z W3 := by
  obtain ⟨W3, h1, h2, h3, h4, h5, _⟩ := three_boxes w x y z
  exact ⟨W3, h1, h2, h3, h4, h5⟩
theorem iff_true {b : Bool} {p : Prop} (h : b = true ↔ p) (hp : p) : b = true := h.2 hp

set_option maxRecDepth 100000 in
set_option maxHeartbeats 4000000 in
theorem termLeast_ok {n : Nat} (a b c : Tm n) (w : World) (ha : IsT w.heap.size w a) (hb : IsT w.heap.size w b) (hc : IsT w.heap.size w c) (oka : okT a = true) (okb : okT b = true) (okc : okT c = true) (pa : ∀ x ∈ parts a, Pw x) (pb : ∀ x ∈ parts b, Pw x) (hla : (code a).length ≤ 4194304) (hlb : (code b).length ≤ 4194304) (hlc : (code c).length ≤ 4194304) (htab : Tab w.heap.size w) :
    Calls Tryd.prog 3 #[a.tv.val, b.tv.val, c.tv.val] w fun e W' => e = .returned (.bool true) ∧ Below w.heap.size w W' := by
  obtain ⟨W0, hW0, hS0⟩ := B3.new w a.tv b.tv c.tv
  have hfa := fun (W : World) (hb' : Below w.heap.size w W) => formed_any n a W ((ha.below hb').mono hb'.size)
  have hfb := fun (W : World) (hb' : Below w.heap.size w W) => formed_any n b W ((hb.below hb').mono hb'.size)
  have hfc := fun (W : World) (hb' : Below w.heap.size w W) => formed_any n c W ((hc.below hb').mono hb'.size)
  have lpa : (parts a).length ≤ 1000000000 := by have : (code a).length = (parts a).length := by simp [code]
                                                 omega
  have lpb : (parts b).length ≤ 1000000000 := by have : (code b).length = (parts b).length := by simp [code]
                                                 omega
  have hgab := fun (W : World) (hb' : Below w.heap.size w W) => general_any a b W ((ha.below hb').mono hb'.size) ((hb.below hb').mono hb'.size) oka okb pa pb lpa lpb ((htab.on hb').mono hb'.size)
  have hgba := fun (W : World) (hb' : Below w.heap.size w W) => general_any b a W ((hb.below hb').mono hb'.size) ((ha.below hb').mono hb'.size) okb oka pb pa lpb lpa ((htab.on hb').mono hb'.size)
  rw [oka] at hfa
  rw [okb] at hfb
  rw [okc] at hfc
  obtain ⟨okg, llg⟩ := lgg_ok a b oka (by omega)
  have hl := lgg_left a b ha.wl hb.wl
  have hr := lgg_right a b ha.wl hb.wl
  have hsw := lgg_swap a b ha.wl hb.wl
  have hle := lgg_least c a b hc.wl okc ha.wl hb.wl
  have llg' : (lgg a b).length ≤ 4194304 := by omega
  rw [hsw] at hgba
  have ta : TC n w a.tv.val (code a) := tc_of ha
  have tb : TC n w b.tv.val (code b) := tc_of hb
  have tc : TC n w c.tv.val (code c) := tc_of hc
  have oca : okC (code a) := by unfold okC; rw [← okT_code]; exact oka
  have ocb : okC (code b) := by unfold okC; rw [← okT_code]; exact okb
  have occ : okC (code c) := by unfold okC; rw [← okT_code]; exact okc
  have hzz : Matches (code c) (lgg a b) ↔ Matches (code c) (code a) ∧ Matches (code c) (code b) := ⟨fun h => ⟨matches_on okg h hl, matches_on okg h hr⟩, fun h => hle h.1 h.2⟩
  generalize lgg a b = cg at *
  generalize code a = ca at *
  generalize code b = cb at *
  generalize code c = cc at *
  have TA := hide ta
  have TB := hide tb
  have TCC := hide tc
  have OCA := hide oca
  have OCB := hide ocb
  have OCC := hide occ
  have OKG := hide okg
  have HL := hide hl
  have HR := hide hr
  have HZZ := hide hzz
  clear hle hsw
  simp only [TV.val] at hfa hfb hfc hgab hgba ⊢
  have HFB := hide hfb
  have HFC := hide hfc
  have HGAB := hide hgab
  have HGBA := hide hgba
  have hfa0 := hfa W0 hS0.bel
  have c0 := hS0.ba.c0
  have c1 := hS0.ba.c1
  have c2 := hS0.ba.c2
  have c3 := hS0.ba.c3
  have HS := hide hS0
  clear hfa hfb hfc hgab hgba ta tb tc oca ocb occ okg hl hr hzz ha hb hc oka okb okc pa pb lpa lpb htab hS0
  go_enter Tryd.func3, Tryd.ntmps3
  go_wp2_with fail
  refine hfa0.mono ?_
  clear hfa0 c0 c1 c2 c3 hW0
  rintro e W1 ⟨rfl, hb1⟩
  have hS1 := (unhide HS).kept hb1
  have hfb1 := (unhide HFB) W1 hS1.bel
  have d0 := hS1.bb.c0
  have d1 := hS1.bb.c1
  have d2 := hS1.bb.c2
  have d3 := hS1.bb.c3
  have HS1 := hide hS1
  clear hS1 hb1 HS HFB
  go_wp2_with fail
  refine hfb1.mono ?_
  clear hfb1 d0 d1 d2 d3
  rintro e W2 ⟨rfl, hb2⟩
  have hS2 := (unhide HS1).kept hb2
  have hfc2 := (unhide HFC) W2 hS2.bel
  have d0 := hS2.bc.c0
  have d1 := hS2.bc.c1
  have d2 := hS2.bc.c2
  have d3 := hS2.bc.c3
  have HS2 := hide hS2
  clear hS2 hb2 HS1 HFC
  go_wp2_with fail
  refine hfc2.mono ?_
  clear hfc2 d0 d1 d2 d3
  rintro e W3 ⟨rfl, hb3⟩
  have hS3 := (unhide HS2).kept hb3
  have hg3 := (unhide HGAB) W3 hS3.bel
  have c0 := hS3.ba.c0
  have c1 := hS3.ba.c1
  have c2 := hS3.ba.c2
  have c3 := hS3.ba.c3
  have d0 := hS3.bb.c0
  have d1 := hS3.bb.c1
  have d2 := hS3.bb.c2
  have d3 := hS3.bb.c3
  have HS3 := hide hS3
  clear hS3 hb3 HS2 HGAB
  go_wp2_with fail
  refine hg3.mono ?_
  clear hg3 c0 c1 c2 c3 d0 d1 d2 d3
  rintro e W4 ⟨x, rfl, hb4, hx⟩
  have hb5 : Below W4.heap.size W4 (W4.alloc (.cells #[.int .i64 x.k, .int .i64 x.N, .string x.s, .slice x.a x.len x.cap] 24)) := (Below.refl _ W4).alloc (Nat.le_refl _) _
  have hS5 := ((unhide HS3).kept hb4).kept hb5
  have tx : TC (n + 1) (W4.alloc (.cells #[.int .i64 x.k, .int .i64 x.N, .string x.s, .slice x.a x.len x.cap] 24)) x.val cg := hx.holdsS.tc.below hb5
  have hbx := BoxT.new W4 x
  have hm5 := match_c tx (((unhide TA).below hS5.bel).mono (Nat.le_succ n)) (unhide OKG) (unhide OCA) llg'
  have c0 := hS5.ba.c0
  have c1 := hS5.ba.c1
  have c2 := hS5.ba.c2
  have c3 := hS5.ba.c3
  have x0 := hbx.c0
  have x1 := hbx.c1
  have x2 := hbx.c2
  have x3 := hbx.c3
  have HS5 := hide hS5
  have HBX := hide hbx
  have TX := hide tx
  simp only [TV.val] at hm5
  clear hS5 hb4 hb5 hx tx hbx HS3
  go_wp2_with fail
  refine hm5.mono ?_
  clear hm5 c0 c1 c2 c3 x0 x1 x2 x3
  rintro e W6 ⟨la1, ll1, lc1, f1, rfl, hb6, hf1, -⟩
  obtain rfl : f1 = true := iff_true hf1 (unhide HL)
  have hS6 := (unhide HS5).kept hb6
  have hbx := (unhide HBX).kept hb6
  have tx := (unhide TX).below hb6
  have hm6 := match_c tx (((unhide TB).below hS6.bel).mono (Nat.le_succ n)) (unhide OKG) (unhide OCB) llg'
  have c0 := hS6.bb.c0
  have c1 := hS6.bb.c1
  have c2 := hS6.bb.c2
  have c3 := hS6.bb.c3
  have x0 := hbx.c0
  have x1 := hbx.c1
  have x2 := hbx.c2
  have x3 := hbx.c3
  have HS6 := hide hS6
  have HBX6 := hide hbx
  have TX6 := hide tx
  simp only [TV.val] at hm6
  clear hS6 hb6 hf1 tx hbx HS5 HBX TX
  go_wp2_with fail
  refine hm6.mono ?_
  clear hm6 c0 c1 c2 c3 x0 x1 x2 x3
  rintro e W7 ⟨la2, ll2, lc2, f2, rfl, hb7, hf2, -⟩
  obtain rfl : f2 = true := iff_true hf2 (unhide HR)
  have hS7 := (unhide HS6).kept hb7
  have hbx := (unhide HBX6).kept hb7
  have tx := (unhide TX6).below hb7
  have hm7 := match_c ((unhide TCC).below hS7.bel) ((unhide TA).below hS7.bel) (unhide OCC) (unhide OCA) hlc
  have c0 := hS7.ba.c0
  have c1 := hS7.ba.c1
  have c2 := hS7.ba.c2
  have c3 := hS7.ba.c3
  have d0 := hS7.bc.c0
  have d1 := hS7.bc.c1
  have d2 := hS7.bc.c2
  have d3 := hS7.bc.c3
  have HS7 := hide hS7
  have HBX7 := hide hbx
  have TX7 := hide tx
  simp only [TV.val] at hm7
  clear hS7 hb7 hf2 tx hbx HS6 HBX6 TX6
  go_wp2_with fail
  refine hm7.mono ?_
  clear hm7 c0 c1 c2 c3 d0 d1 d2 d3
  rintro e W8 ⟨la3, ll3, lc3, xx, rfl, hb8, hxx, -⟩
  have hS8 := (unhide HS7).kept hb8
  have hbx := (unhide HBX7).kept hb8
  have tx := (unhide TX7).below hb8
  have hm8 := match_c ((unhide TCC).below hS8.bel) ((unhide TB).below hS8.bel) (unhide OCC) (unhide OCB) hlc
  have c0 := hS8.bb.c0
  have c1 := hS8.bb.c1
  have c2 := hS8.bb.c2
  have c3 := hS8.bb.c3
  have d0 := hS8.bc.c0
  have d1 := hS8.bc.c1
  have d2 := hS8.bc.c2
  have d3 := hS8.bc.c3
  have HS8 := hide hS8
  have HBX8 := hide hbx
  have TX8 := hide tx
  have HXX := hide hxx
  simp only [TV.val] at hm8
  clear hS8 hb8 hxx tx hbx HS7 HBX7 TX7
  go_wp2_with fail
  refine hm8.mono ?_
  clear hm8 c0 c1 c2 c3 d0 d1 d2 d3
  rintro e W9 ⟨la4, ll4, lc4, yy, rfl, hb9, hyy, -⟩
  have hS9 := (unhide HS8).kept hb9
  have hbx := (unhide HBX8).kept hb9
  have tx := (unhide TX8).below hb9
  have hm9 := match_c (((unhide TCC).below hS9.bel).mono (Nat.le_succ n)) tx (unhide OCC) (unhide OKG) hlc
  have x0 := hbx.c0
  have x1 := hbx.c1
  have x2 := hbx.c2
  have x3 := hbx.c3
  have d0 := hS9.bc.c0
  have d1 := hS9.bc.c1
  have d2 := hS9.bc.c2
  have d3 := hS9.bc.c3
  have HS9 := hide hS9
  have HBX9 := hide hbx
  have TX9 := hide tx
  have HYY := hide hyy
  simp only [TV.val] at hm9
  clear hS9 hb9 hyy tx hbx HS8 HBX8 TX8
  go_wp2_with fail
  refine hm9.mono ?_
  clear hm9 x0 x1 x2 x3 d0 d1 d2 d3
  rintro e W10 ⟨la5, ll5, lc5, zz, rfl, hb10, hzz, -⟩
  have hS10 := (unhide HS9).kept hb10
  have hbx := (unhide HBX9).kept hb10
  have tx := (unhide TX9).below hb10
  have hall : zz = (xx && yy) := by
    rw [Bool.eq_iff_iff, Bool.and_eq_true, hzz, unhide HXX, unhide HYY]
    exact unhide HZZ
  subst hall
  have hg10 := (unhide HGBA) W10 hS10.bel
  have c0 := hS10.ba.c0
  have c1 := hS10.ba.c1
  have c2 := hS10.ba.c2
  have c3 := hS10.ba.c3
  have d0 := hS10.bb.c0
  have d1 := hS10.bb.c1
  have d2 := hS10.bb.c2
  have d3 := hS10.bb.c3
  have HS10 := hide hS10
  have HBX10 := hide hbx
  have TX10 := hide tx
  have HG10 := hide hg10
  clear hS10 hb10 hzz tx hbx hg10 HS9 HBX9 TX9 HXX HYY HGBA
  have hfin : ∀ (W11 : World) (y : TV), Below W10.heap.size W10 W11 → HoldsT (n + 1) W10.heap.size W11 y.val cg → B3 w a.tv b.tv c.tv (W11.alloc (.cells #[.int .i64 y.k, .int .i64 y.N, .string y.s, .slice y.a y.len y.cap] 24)) ∧ BoxT (W11.alloc (.cells #[.int .i64 y.k, .int .i64 y.N, .string y.s, .slice y.a y.len y.cap] 24)) W4.heap.size x ∧ Calls Tryd.prog 7 #[x.val, y.val] (W11.alloc (.cells #[.int .i64 y.k, .int .i64 y.N, .string y.s, .slice y.a y.len y.cap] 24)) fun e W' => ∃ r : Int, e = .returned (.tuple #[.bool true, .int .i64 r]) ∧ Below w.heap.size w W' := fun W11 y hb11 hy => by
    have hb12 : Below W11.heap.size W11 (W11.alloc (.cells #[.int .i64 y.k, .int .i64 y.N, .string y.s, .slice y.a y.len y.cap] 24)) := (Below.refl _ W11).alloc (Nat.le_refl _) _
    have hb1012 := hb11.trans (hb12.mono hb11.size)
    have hS12 := (unhide HS10).kept hb1012
    refine ⟨hS12, (unhide HBX10).kept hb1012, ?_⟩
    refine (variant_c ((unhide TX10).below hb1012) (hy.holdsS.tc.below hb12)).mono fun e W' h => ?_
    obtain ⟨f, r, e1, e2, e3⟩ := h
    have := e3 (unhide OKG) (unhide OKG)
    simp at this
    subst this
    exact ⟨r, e1, hS12.bel.trans (e2.mono hS12.bel.size)⟩
  have HFIN := hide hfin
  clear hfin
  cases xx
  all_goals cases yy
  all_goals
    go_wp2_with fail
    have hg10 := unhide HG10
    refine hg10.mono ?_
    clear hg10 c0 c1 c2 c3 d0 d1 d2 d3
    rintro e W11 ⟨y, rfl, hb11, hy⟩
    obtain ⟨hS12, hbx, hva⟩ := (unhide HFIN) W11 y hb11 hy
    have hby := BoxT.new W11 y
    have x0 := hbx.c0
    have x1 := hbx.c1
    have x2 := hbx.c2
    have x3 := hbx.c3
    have y0 := hby.c0
    have y1 := hby.c1
    have y2 := hby.c2
    have y3 := hby.c3
    simp only [TV.val] at hva
    clear hS12 hbx hby hb11 hy HFIN
    go_wp2_with fail
    refine hva.mono ?_
    clear hva x0 x1 x2 x3 y0 y1 y2 y3
    rintro e W13 ⟨r, rfl, hB13⟩
    go_wp2_with fail
    exact bodyPost_ret (v := .bool true) (by simp [results, Tryd.results3, go_sem]) rfl ⟨rfl, hB13⟩

set_option maxRecDepth 100000 in
set_option maxHeartbeats 1000000 in
theorem termLeast_no {n : Nat} (a b c : Tm n) (w : World) (ha : IsT w.heap.size w a) (hb : IsT w.heap.size w b) (hc : IsT w.heap.size w c) (hno : ¬ (okT a = true ∧ okT b = true ∧ okT c = true)) :
    Calls Tryd.prog 3 #[a.tv.val, b.tv.val, c.tv.val] w fun e W' => e = .returned (.bool true) ∧ Below w.heap.size w W' := by
  obtain ⟨W0, hW0, hS0⟩ := B3.new w a.tv b.tv c.tv
  have hfa := formed_any n a W0 ((ha.below hS0.bel).mono hS0.bel.size)
  have hfb := fun (W : World) (hb' : Below w.heap.size w W) => formed_any n b W ((hb.below hb').mono hb'.size)
  have hfc := fun (W : World) (hb' : Below w.heap.size w W) => formed_any n c W ((hc.below hb').mono hb'.size)
  have c0 := hS0.ba.c0
  have c1 := hS0.ba.c1
  have c2 := hS0.ba.c2
  have c3 := hS0.ba.c3
  simp only [TV.val] at hfa hfb hfc ⊢
  have HFB := hide hfb
  have HFC := hide hfc
  have HS := hide hS0
  clear hfb hfc ha hb hc hS0
  cases oka : okT a with
  | false =>
    rw [oka] at hfa
    clear oka hno
    go_enter Tryd.func3, Tryd.ntmps3
    go_wp2_with fail
    refine hfa.mono ?_
    clear hfa c0 c1 c2 c3 hW0
    rintro e W1 ⟨rfl, hb1⟩
    have hB1 := ((unhide HS).kept hb1).bel
    clear hb1
    go_wp2_with fail
    exact bodyPost_ret (v := .bool true) (by simp [results, Tryd.results3, go_sem]) rfl ⟨rfl, hB1⟩
  | true =>
    rw [oka] at hfa
    cases okb : okT b with
    | false =>
      rw [okb] at HFB
      clear oka hno okb
      go_enter Tryd.func3, Tryd.ntmps3
      go_wp2_with fail
      refine hfa.mono ?_
      clear hfa c0 c1 c2 c3 hW0
      rintro e W1 ⟨rfl, hb1⟩
      have hS1 := (unhide HS).kept hb1
      have hfb1 := (unhide HFB) W1 hS1.bel
      have d0 := hS1.bb.c0
      have d1 := hS1.bb.c1
      have d2 := hS1.bb.c2
      have d3 := hS1.bb.c3
      have HS1 := hide hS1
      clear hS1 hb1 HS HFB
      go_wp2_with fail
      refine hfb1.mono ?_
      clear hfb1 d0 d1 d2 d3
      rintro e W2 ⟨rfl, hb2⟩
      have hB2 := ((unhide HS1).kept hb2).bel
      clear hb2
      go_wp2_with fail
      exact bodyPost_ret (v := .bool true) (by simp [results, Tryd.results3, go_sem]) rfl ⟨rfl, hB2⟩
    | true =>
      have okc : okT c = false := by
        cases okc : okT c with
        | false => rfl
        | true => exact (hno ⟨oka, okb, okc⟩).elim
      rw [okb] at HFB
      rw [okc] at HFC
      clear oka hno okb okc
      go_enter Tryd.func3, Tryd.ntmps3
      go_wp2_with fail
      refine hfa.mono ?_
      clear hfa c0 c1 c2 c3 hW0
      rintro e W1 ⟨rfl, hb1⟩
      have hS1 := (unhide HS).kept hb1
      have hfb1 := (unhide HFB) W1 hS1.bel
      have d0 := hS1.bb.c0
      have d1 := hS1.bb.c1
      have d2 := hS1.bb.c2
      have d3 := hS1.bb.c3
      have HS1 := hide hS1
      clear hS1 hb1 HS HFB
      go_wp2_with fail
      refine hfb1.mono ?_
      clear hfb1 d0 d1 d2 d3
      rintro e W2 ⟨rfl, hb2⟩
      have hS2 := (unhide HS1).kept hb2
      have hfc2 := (unhide HFC) W2 hS2.bel
      have d0 := hS2.bc.c0
      have d1 := hS2.bc.c1
      have d2 := hS2.bc.c2
      have d3 := hS2.bc.c3
      have HS2 := hide hS2
      clear hS2 hb2 HS1 HFC
      go_wp2_with fail
      refine hfc2.mono ?_
      clear hfc2 d0 d1 d2 d3
      rintro e W3 ⟨rfl, hb3⟩
      have hB3 := ((unhide HS2).kept hb3).bel
      clear hb3
      go_wp2_with fail
      exact bodyPost_ret (v := .bool true) (by simp [results, Tryd.results3, go_sem]) rfl ⟨rfl, hB3⟩
end Go.Proofs.YtcdbbimhbijipaaDoor

