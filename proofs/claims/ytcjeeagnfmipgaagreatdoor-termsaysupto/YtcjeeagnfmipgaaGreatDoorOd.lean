import Derived.Test.YtcjeeagnfmipgaaGreatDoorOc
/- The law TermSays, its function one: a term. -/
namespace Go.Proofs.YtcjeeagnfmipgaaGreatDoor
open Go.RowKit Go.Shelf Go.Maps

theorem atT_le : ∀ (ns : List Int) {n : Nat} {t : Tm n} {m : Nat} {u : Tm m}, atT ns t = some ⟨m, u⟩ → m ≤ n
  | [], n, t, m, u, h => by
    simp only [atT, Option.some.injEq, Sigma.mk.injEq] at h
    omega
  | _ :: _, 0, t, _, _, _ => Empty.elim t
  | k :: r, n + 1, t, m, u, h => by
    by_cases hin : 0 ≤ k ∧ k < (t.kids.length : Int)
    · obtain ⟨q, hq⟩ : ∃ q : Nat, k = (q : Nat) := ⟨k.toNat, by omega⟩
      obtain ⟨z, hz⟩ : ∃ z, t.kids[q]? = some z := ⟨t.kids[q]'(by omega), List.getElem?_eq_getElem (by omega)⟩
      rw [atT_go hq hz] at h
      have := atT_le r h
      omega
    · rw [atT_no hin] at h
      cases h
theorem at_s {n : Nat} (t : Tm n) (ns : List Int) (a : Option Addr) (len cap : Nat) (w : World) (hT : IsT w.heap.size w t) (hok : okT t = true) (hN : IsN w a len ns) (hn40 : n ≤ 1048576 := by omega) :
    Calls Tryz.prog 21 #[t.tv.val, .slice a len cap] w fun e W' => ∃ (x : TV) (r : Int), e = .returned (.tuple #[x.val, .int .i64 r]) ∧ Below w.heap.size w W' ∧ AtC (n + 1) (atCode (atT ns t)) W' x r :=
  (at_any t ns a len cap w hT hok hN).mono fun e W' h => by
    obtain ⟨x, r, h1, h2, h3⟩ := h
    refine ⟨x, r, h1, h2, ?_⟩
    rcases h3 with ⟨g1, g2, g3⟩ | ⟨m, u, g1, g2, g3⟩
    · exact .inl ⟨by rw [g1]; rfl, g2, g3⟩
    · exact .inr ⟨code u, by rw [g1]; rfl, g2, (g3.tc (by have := atT_le ns g1; omega)).mono (by have := atT_le ns g1; omega)⟩
/-- What hornref's At answers, by codes. -/
def RAtC (D : Nat) (c : Option (List Nd)) (W : World) (e : Ending) : Prop :=
  (c = none ∧ e = .returned (.tuple #[zeroT.val, .bool false])) ∨ ∃ (y : TV) (d : List Nd), c = some d ∧ e = .returned (.tuple #[y.val, .bool true]) ∧ TC D W y.val d
theorem rat_s {n : Nat} (t : Tm n) (ns : List Int) (a : Option Addr) (len cap : Nat) (w : World) (hT : IsT w.heap.size w t) (hN : IsN w a len ns) (hcap : len ≤ cap) (hn40 : n ≤ 1048576 := by omega) :
    Calls Tryz.prog 40 #[t.tv.val, .slice a len cap] w fun e W' => Below w.heap.size w W' ∧ RAtC (n + 1) (atCode (atT ns t)) W' e :=
  (rat_any ns n t a len cap w hN hcap hT).mono fun e W' h => by
    obtain ⟨h1, h2⟩ := h
    refine ⟨h1, ?_⟩
    rcases h2 with ⟨g1, g2⟩ | ⟨m, u, g1, g2⟩
    · exact .inl ⟨by rw [g1]; rfl, g2⟩
    · have hu : IsT W'.heap.size W' u := ((atT_isT ns hT g1).below h1).mono h1.size
      exact .inr ⟨u.tv, code u, by rw [g1]; rfl, g2, (tc_of hu).mono (by have := atT_le ns g1; omega)⟩

set_option maxRecDepth 100000 in
set_option maxHeartbeats 8000000 in
theorem one_ok {n : Nat} (t : Tm n) (f : Int) (ns : List Int) (a : Option Addr) (len cap : Nat) (w : World) (hT : IsT w.heap.size w t) (hok : okT t = true) (hl : (parts t).length ≤ 4194304) (hN : IsN w a len ns) (hcap : len ≤ cap) (hn40 : n ≤ 1048576 := by omega) :
    Calls Tryz.prog 7 #[t.tv.val, .int .i64 f, .slice a len cap, .bool true] w fun e W' => e = .returned (.bool true) ∧ Below w.heap.size w W' := by
  obtain ⟨W1, hW1⟩ : ∃ W1, w.alloc (.cells #[.int .i64 t.tv.k, .int .i64 t.tv.N, .string t.tv.s, .slice t.tv.a t.tv.len t.tv.cap] 24) = W1 := ⟨_, rfl⟩
  have hB1 : Below w.heap.size w W1 := by rw [← hW1]; exact (Below.refl _ w).alloc (Nat.le_refl _) _
  have tx1 : BoxT W1 w.heap.size t.tv := by rw [← hW1]; exact World.alloc_heap_new w _
  have h1 := fun (W : World) (hb : Below w.heap.size w W) => measure_any t W ((hT.below hb).mono hb.size) hok hl
  have h2 := fun (W : World) (hb : Below w.heap.size w W) => vars_s t W ((hT.below hb).mono hb.size) hok hl
  have h3 := fun (W : World) (hb : Below w.heap.size w W) => rename_s t f W ((hT.below hb).mono hb.size) hok
  have h4 := fun (W : World) (hb : Below w.heap.size w W) => at_s t ns a len cap W ((hT.below hb).mono hb.size) hok (hN.below hb)
  have h5 := fun (W : World) (hb : Below w.heap.size w W) => flat_s t W ((hT.below hb).mono hb.size) hl
  have h6 := fun (W : World) (hb : Below w.heap.size w W) => rdepth_any n t W ((hT.below hb).mono hb.size) (by omega)
  have h7 := fun (W : World) (hb : Below w.heap.size w W) => rvars_s t W ((hT.below hb).mono hb.size) hok hl
  have h8 := fun (W : World) (hb : Below w.heap.size w W) => rat_s t ns a len cap W ((hT.below hb).mono hb.size) (hN.below hb) hcap
  have h9 := fun (W : World) (hb : Below w.heap.size w W) (hf0 : 0 ≤ f) (hf1 : f ≤ 1099511627776) => rrename_any t f W ((hT.below hb).mono hb.size) hok (by rw [parts_code]; exact hl) hf0 hf1
  have hvl : (varsC [] (code t)).length ≤ 4194304 := by have h := varsC_len [] (code t); rw [parts_code] at h; simp at h; omega
  have h10 := none_zero
  generalize atCode (atT ns t) = ac at *
  generalize varsC [] (code t) = vs at *
  generalize canon f (code t) = cc at *
  generalize (parts t).length = pl at *
  generalize depT t = dt at *
  simp only [TV.val, zeroT] at h1 h2 h3 h4 h5 h6 h7 h8 h9 h10 ⊢
  have H1 := hide h1
  have H2 := hide h2
  have H3 := hide h3
  have H4 := hide h4
  have H5 := hide h5
  have H6 := hide h6
  have H7 := hide h7
  have H8 := hide h8
  have H9 := hide h9
  have H10 := hide h10
  have HVL := hide hvl
  have HB1 := hide hB1
  have Htx1 := hide tx1
  clear h1 h2 h3 h4 h5 h6 h7 h8 h9 h10 hT hok hN hl hvl hB1 tx1
  go_enter Tryz.func7, Tryz.ntmps7
  have t0 := (unhide Htx1).c0
  have t1 := (unhide Htx1).c1
  have t2 := (unhide Htx1).c2
  have t3 := (unhide Htx1).c3
  have hc := (unhide H1) W1 (unhide HB1)
  go_wp2_with fail
  refine hc.mono ?_
  clear hc t0 t1 t2 t3
  rintro e W2 ⟨rfl, hb2⟩
  have hB2 := (unhide HB1).trans (hb2.mono (unhide HB1).size)
  have tx2 := (unhide Htx1).kept hb2
  have Htx2 := hide tx2
  have HB2 := hide hB2
  clear hb2 hB2 tx2 HB1 Htx1
  have t0 := (unhide Htx2).c0
  have t1 := (unhide Htx2).c1
  have t2 := (unhide Htx2).c2
  have t3 := (unhide Htx2).c3
  have hc := (unhide H2) W2 (unhide HB2)
  go_wp2_with fail
  refine hc.mono ?_
  clear hc t0 t1 t2 t3
  rintro e W3 ⟨va, vc, rfl, hb3, vN⟩
  have hB3 := (unhide HB2).trans (hb3.mono (unhide HB2).size)
  have tx3 := (unhide Htx2).kept hb3
  have Htx3 := hide tx3
  have HvN := hide vN
  have HB3 := hide hB3
  clear hb3 hB3 tx3 vN HB2 Htx2
  have t0 := (unhide Htx3).c0
  have t1 := (unhide Htx3).c1
  have t2 := (unhide Htx3).c2
  have t3 := (unhide Htx3).c3
  have hc := (unhide H3) W3 (unhide HB3)
  go_wp2_with fail
  refine hc.mono ?_
  clear hc t0 t1 t2 t3
  rintro e W4 ⟨x, k, r, rfl, hb4, rC⟩
  have hB4 := (unhide HB3).trans (hb4.mono (unhide HB3).size)
  have tx4 := (unhide Htx3).kept hb4
  have vN4 := (unhide HvN).below hb4
  obtain ⟨W4a, hW4a⟩ : ∃ V, W4.alloc (.cells #[.int .i64 x.k, .int .i64 x.N, .string x.s, .slice x.a x.len x.cap] 24) = V := ⟨_, rfl⟩
  have hb4a : Below W4.heap.size W4 W4a := by rw [← hW4a]; exact (Below.refl _ W4).alloc (Nat.le_refl _) _
  replace hB4 := hB4.trans (hb4a.mono hB4.size)
  replace tx4 := tx4.kept hb4a
  replace vN4 := vN4.below hb4a
  replace rC := rC.below hb4a
  have rx4 : BoxT W4a W4.heap.size x := by rw [← hW4a]; exact World.alloc_heap_new W4 _
  clear hb4a
  have Htx4 := hide tx4
  have HvN4 := hide vN4
  have HrC := hide rC
  have Hrx4 := hide rx4
  have HB4 := hide hB4
  clear hb4 hB4 tx4 vN4 rC rx4 HB3 Htx3 HvN
  have t0 := (unhide Htx4).c0
  have t1 := (unhide Htx4).c1
  have t2 := (unhide Htx4).c2
  have t3 := (unhide Htx4).c3
  have hc := (unhide H4) W4a (unhide HB4)
  go_wp2_with fail
  refine hc.mono ?_
  clear hc t0 t1 t2 t3
  rintro e W5 ⟨y, q, rfl, hb5, aC⟩
  have hB5 := (unhide HB4).trans (hb5.mono (unhide HB4).size)
  have tx5 := (unhide Htx4).kept hb5
  have rx5 := (unhide Hrx4).kept hb5
  have vN5 := (unhide HvN4).below hb5
  have rC5 := (unhide HrC).below hb5
  obtain ⟨W5a, hW5a⟩ : ∃ V, W5.alloc (.cells #[.int .i64 y.k, .int .i64 y.N, .string y.s, .slice y.a y.len y.cap] 24) = V := ⟨_, rfl⟩
  have hb5a : Below W5.heap.size W5 W5a := by rw [← hW5a]; exact (Below.refl _ W5).alloc (Nat.le_refl _) _
  replace hB5 := hB5.trans (hb5a.mono hB5.size)
  replace tx5 := tx5.kept hb5a
  replace rx5 := rx5.kept hb5a
  replace vN5 := vN5.below hb5a
  replace rC5 := rC5.below hb5a
  replace aC := aC.below hb5a
  have sx5 : BoxT W5a W5.heap.size y := by rw [← hW5a]; exact World.alloc_heap_new W5 _
  clear hb5a
  have Htx5 := hide tx5
  have Hrx5 := hide rx5
  have HvN5 := hide vN5
  have HrC5 := hide rC5
  have HaC := hide aC
  have Hsx5 := hide sx5
  have HB5 := hide hB5
  clear hb5 hB5 tx5 rx5 vN5 rC5 aC sx5 HB4 Htx4 Hrx4 HvN4 HrC
  have t0 := (unhide Htx5).c0
  have t1 := (unhide Htx5).c1
  have t2 := (unhide Htx5).c2
  have t3 := (unhide Htx5).c3
  have hc := (unhide H5) W5a (unhide HB5)
  go_wp2_with fail
  refine hc.mono ?_
  clear hc t0 t1 t2 t3
  rintro e W6 ⟨ga, gc, rfl, hb6⟩
  have hB6 := (unhide HB5).trans (hb6.mono (unhide HB5).size)
  have tx6 := (unhide Htx5).kept hb6
  have rx6 := (unhide Hrx5).kept hb6
  have sx6 := (unhide Hsx5).kept hb6
  have vN6 := (unhide HvN5).below hb6
  have rC6 := (unhide HrC5).below hb6
  have aC6 := (unhide HaC).below hb6
  have Htx6 := hide tx6
  have Hrx6 := hide rx6
  have Hsx6 := hide sx6
  have HvN6 := hide vN6
  have HrC6 := hide rC6
  have HaC6 := hide aC6
  have HB6 := hide hB6
  clear hb6 hB6 tx6 rx6 sx6 vN6 rC6 aC6 HB5 Htx5 Hrx5 Hsx5 HvN5 HrC5 HaC
  have t0 := (unhide Htx6).c0
  have t1 := (unhide Htx6).c1
  have t2 := (unhide Htx6).c2
  have t3 := (unhide Htx6).c3
  have hc := (unhide H6) W6 (unhide HB6)
  go_wp2_with fail
  refine hc.mono ?_
  clear hc t0 t1 t2 t3
  rintro e W7 ⟨rfl, hb7⟩
  have hB7 := (unhide HB6).trans (hb7.mono (unhide HB6).size)
  have tx7 := (unhide Htx6).kept hb7
  have rx7 := (unhide Hrx6).kept hb7
  have sx7 := (unhide Hsx6).kept hb7
  have vN7 := (unhide HvN6).below hb7
  have rC7 := (unhide HrC6).below hb7
  have aC7 := (unhide HaC6).below hb7
  have Htx7 := hide tx7
  have Hrx7 := hide rx7
  have Hsx7 := hide sx7
  have HvN7 := hide vN7
  have HrC7 := hide rC7
  have HaC7 := hide aC7
  have HB7 := hide hB7
  clear hb7 hB7 tx7 rx7 sx7 vN7 rC7 aC7 HB6 Htx6 Hrx6 Hsx6 HvN6 HrC6 HaC6
  have t0 := (unhide Htx7).c0
  have t1 := (unhide Htx7).c1
  have t2 := (unhide Htx7).c2
  have t3 := (unhide Htx7).c3
  have hc := (unhide H7) W7 (unhide HB7)
  go_wp2_with fail
  refine hc.mono ?_
  clear hc t0 t1 t2 t3
  rintro e W8 ⟨ua, uc, rfl, hb8, uN⟩
  have hB8 := (unhide HB7).trans (hb8.mono (unhide HB7).size)
  have tx8 := (unhide Htx7).kept hb8
  have rx8 := (unhide Hrx7).kept hb8
  have sx8 := (unhide Hsx7).kept hb8
  have vN8 := (unhide HvN7).below hb8
  have rC8 := (unhide HrC7).below hb8
  have aC8 := (unhide HaC7).below hb8
  have Htx8 := hide tx8
  have Hrx8 := hide rx8
  have Hsx8 := hide sx8
  have HvN8 := hide vN8
  have HrC8 := hide rC8
  have HaC8 := hide aC8
  have HuN := hide uN
  have HB8 := hide hB8
  clear hb8 hB8 tx8 rx8 sx8 vN8 rC8 aC8 uN HB7 Htx7 Hrx7 Hsx7 HvN7 HrC7 HaC7
  have hc := (sameNumbers_any vs vs va ua vs.length vc vs.length uc W8 (unhide HvN8) (unhide HuN)).mono (R' := fun e W' => e = .returned (.bool true) ∧ Below W8.heap.size W8 W') (fun e W' h => ⟨h.1.trans (by simp), h.2⟩)
  try simp only [TV.val] at hc
  go_wp2_with fail
  refine hc.mono ?_
  clear hc 
  rintro e W9 ⟨rfl, hb9⟩
  have hB9 := (unhide HB8).trans (hb9.mono (unhide HB8).size)
  have tx9 := (unhide Htx8).kept hb9
  have rx9 := (unhide Hrx8).kept hb9
  have sx9 := (unhide Hsx8).kept hb9
  have vN9 := (unhide HvN8).below hb9
  have rC9 := (unhide HrC8).below hb9
  have aC9 := (unhide HaC8).below hb9
  have uN9 := (unhide HuN).below hb9
  have Htx9 := hide tx9
  have Hrx9 := hide rx9
  have Hsx9 := hide sx9
  have HvN9 := hide vN9
  have HrC9 := hide rC9
  have HaC9 := hide aC9
  have HuN9 := hide uN9
  have HB9 := hide hB9
  clear hb9 hB9 tx9 rx9 sx9 vN9 rC9 aC9 uN9 HB8 Htx8 Hrx8 Hsx8 HvN8 HrC8 HaC8 HuN
  have t0 := (unhide Htx9).c0
  have t1 := (unhide Htx9).c1
  have t2 := (unhide Htx9).c2
  have t3 := (unhide Htx9).c3
  have hc := (unhide H8) W9 (unhide HB9)
  go_wp2_with fail
  refine hc.mono ?_
  clear hc t0 t1 t2 t3
  rintro e W10 ⟨hb10, zC⟩
  rcases unhide HaC9 with ⟨rfl, rfl, rfl⟩ | ⟨d, rfl, rfl, hx⟩
  · rcases zC with ⟨-, rfl⟩ | ⟨y', d', h, -⟩
    rotate_left
    · cases h
    simp only [TV.val, zeroT]
    have hbz : Below W10.heap.size W10 (W10.alloc (.cells #[.int .i64 0, .int .i64 0, .string ⟨#[]⟩, .slice none 0 0] 24)) := (Below.refl _ W10).alloc (Nat.le_refl _) _
    replace hb10 := hb10.trans (hbz.mono hb10.size)
    clear hbz
    have hB10 := (unhide HB9).trans (hb10.mono (unhide HB9).size)
    have tx10 := (unhide Htx9).kept hb10
    have rx10 := (unhide Hrx9).kept hb10
    have sx10 := (unhide Hsx9).kept hb10
    have rC10 := (unhide HrC9).below hb10
    have Htx10 := hide tx10
    have Hrx10 := hide rx10
    have Hsx10 := hide sx10
    have HrC10 := hide rC10
    have HB10 := hide hB10
    clear hb10 hB10 tx10 rx10 sx10 rC10 HB9 Htx9 Hrx9 Hsx9 HrC9
    have s0 := (unhide Hsx10).c0
    have s1 := (unhide Hsx10).c1
    have s2 := (unhide Hsx10).c2
    have s3 := (unhide Hsx10).c3
    simp only [zeroT] at s0 s1 s2 s3
    have hc := (unhide H10) (W10.alloc (.cells #[.int .i64 0, .int .i64 0, .string ⟨#[]⟩, .slice none 0 0] 24))
    go_wp2_with fail
    refine hc.mono ?_
    clear hc s0 s1 s2 s3
    rintro e W11 ⟨rfl, hb11⟩
    have hB11 := (unhide HB10).trans (hb11.mono (unhide HB10).size)
    have tx11 := (unhide Htx10).kept hb11
    have rx11 := (unhide Hrx10).kept hb11
    have sx11 := (unhide Hsx10).kept hb11
    have rC11 := (unhide HrC10).below hb11
    have Htx11 := hide tx11
    have Hrx11 := hide rx11
    have Hsx11 := hide sx11
    have HrC11 := hide rC11
    have HB11 := hide hB11
    clear hb11 hB11 tx11 rx11 sx11 rC11 HB10 Htx10 Hrx10 Hsx10 HrC10
    rcases unhide HrC11 with ⟨hf0, hf1, hf2, rfl, rfl, hx⟩ | ⟨hf0, hf1, hf2, rfl, rfl, rfl⟩ | ⟨hf0, rfl, rfl, rfl⟩
    · have hff : ¬ f < 0 := by omega
      have hfg : ¬ 1099511627776 < f := by omega
      have hvl := unhide HVL
      have hwr : IntKind.i64.wrap (f + (vs.length : Nat)) = f + (vs.length : Nat) := by simp [IntKind.wrap, IntKind.bits, IntKind.signed]; omega
      have hgg : ¬ 1099511627777 < f + (vs.length : Nat) := by omega
      have HX := hide hx
      have HF0 := hide (And.intro hf0 hf1)
      clear hx hf0 hf1 hf2 hvl
      have t0 := (unhide Htx11).c0
      have t1 := (unhide Htx11).c1
      have t2 := (unhide Htx11).c2
      have t3 := (unhide Htx11).c3
      have hc := (unhide H7) W11 (unhide HB11)
      go_wp2_with fail
      refine hc.mono ?_
      clear hc t0 t1 t2 t3
      rintro e W12 ⟨pa, pc, rfl, hb12, pN⟩
      have hB12 := (unhide HB11).trans (hb12.mono (unhide HB11).size)
      have tx12 := (unhide Htx11).kept hb12
      have rx12 := (unhide Hrx11).kept hb12
      have sx12 := (unhide Hsx11).kept hb12
      have xC12 := (unhide HX).below hb12
      have Htx12 := hide tx12
      have Hrx12 := hide rx12
      have Hsx12 := hide sx12
      have HxC12 := hide xC12
      have HB12 := hide hB12
      clear hb12 hB12 tx12 rx12 sx12 xC12 HB11 Htx11 Hrx11 Hsx11 HX
      have r0 := (unhide Hrx12).c0
      have r1 := (unhide Hrx12).c1
      have r2 := (unhide Hrx12).c2
      have r3 := (unhide Hrx12).c3
      have t0 := (unhide Htx12).c0
      have t1 := (unhide Htx12).c1
      have t2 := (unhide Htx12).c2
      have t3 := (unhide Htx12).c3
      have hdr : Below W12.heap.size W12 W12.drew := (Below.refl _ W12).drew
      have hs1 := ((unhide H9) W12.drew ((unhide HB12).drew) (unhide HF0).1 (unhide HF0).2).mono (R' := fun e W2 => ∃ z : TV, e = .returned z.val ∧ Below W12.heap.size W12 W2 ∧ Calls Tryz.prog 41 #[x.val, z.val] W2 fun e W3 => e = .returned (.bool true) ∧ Below W12.heap.size W12 W3) (fun e W2 h => by
        obtain ⟨z, g1, g2, g3⟩ := h
        have g2' := hdr.trans g2
        refine ⟨z, g1, g2', (same_c ((unhide HxC12).below g2') g3.tc).mono fun e W3 h => ⟨h.1.trans (by simp), g2'.trans (h.2.mono g2'.size)⟩⟩)
      simp only [TV.val] at hs1
      have hy0 : w.heap.size < W12.heap.size := (unhide Htx12).lt
      have hy1 : W4.heap.size < W12.heap.size := (unhide Hrx12).lt
      clear hdr
      go_wp2_with fail
      go_region_held3 (fun w' => w'.cell? ⟨W4.heap.size, 0, none⟩ = some (.int .i64 x.k) ∧ w'.cell? ⟨W4.heap.size, 1, none⟩ = some (.int .i64 x.N) ∧ w'.cell? ⟨W4.heap.size, 2, none⟩ = some (.string x.s) ∧ w'.cell? ⟨W4.heap.size, 3, none⟩ = some (.slice x.a x.len x.cap) ∧ w'.cell? ⟨w.heap.size, 0, none⟩ = some (.int .i64 t.tv.k) ∧ w'.cell? ⟨w.heap.size, 1, none⟩ = some (.int .i64 t.tv.N) ∧ w'.cell? ⟨w.heap.size, 2, none⟩ = some (.string t.tv.s) ∧ w'.cell? ⟨w.heap.size, 3, none⟩ = some (.slice t.tv.a t.tv.len t.tv.cap)) (go_keep) (first | (go_at_call 42; refine hs1.mono ?_; clear hs1; rintro e Wx ⟨z, rfl, hbx, hs2⟩; have hbc := bcell hbx) | (go_at_call 41; refine hs2.mono ?_; clear hs2; rintro e Wy ⟨rfl, hby⟩; have hbd := bcell hby))
      clear hbc hbd
      have HBY := hide ((unhide HB12).trans (hby.mono (unhide HB12).size))
      clear hbx hby
      go_wp2_with fail
      exact bodyPost_ret (v := .bool true) (by simp [results, Tryz.results7, go_sem]) rfl ⟨rfl, unhide HBY⟩
    · have hff : ¬ f < 0 := by omega
      have hfg : ¬ 1099511627776 < f := by omega
      have hvl := unhide HVL
      have hwr : IntKind.i64.wrap (f + (vs.length : Nat)) = f + (vs.length : Nat) := by simp [IntKind.wrap, IntKind.bits, IntKind.signed]; omega
      have hgg : 1099511627777 < f + (vs.length : Nat) := by omega
      clear hf0 hf1 hf2 hvl
      have t0 := (unhide Htx11).c0
      have t1 := (unhide Htx11).c1
      have t2 := (unhide Htx11).c2
      have t3 := (unhide Htx11).c3
      have hc := (unhide H7) W11 (unhide HB11)
      go_wp2_with fail
      refine hc.mono ?_
      clear hc t0 t1 t2 t3
      rintro e W12 ⟨pa, pc, rfl, hb12, pN⟩
      have hB12 := (unhide HB11).trans (hb12.mono (unhide HB11).size)
      have tx12 := (unhide Htx11).kept hb12
      have rx12 := (unhide Hrx11).kept hb12
      have sx12 := (unhide Hsx11).kept hb12
      have Htx12 := hide tx12
      have Hrx12 := hide rx12
      have Hsx12 := hide sx12
      have HB12 := hide hB12
      clear hb12 hB12 tx12 rx12 sx12 HB11 Htx11 Hrx11 Hsx11
      have r0 := (unhide Hrx12).c0
      have r1 := (unhide Hrx12).c1
      have r2 := (unhide Hrx12).c2
      have r3 := (unhide Hrx12).c3
      simp only [zeroT] at r0 r1 r2 r3
      have hc := (unhide H10) W12
      go_wp2_with fail
      refine hc.mono ?_
      clear hc r0 r1 r2 r3
      rintro e W13 ⟨rfl, hb13⟩
      have hB13 := (unhide HB12).trans (hb13.mono (unhide HB12).size)
      have tx13 := (unhide Htx12).kept hb13
      have rx13 := (unhide Hrx12).kept hb13
      have sx13 := (unhide Hsx12).kept hb13
      have Htx13 := hide tx13
      have Hrx13 := hide rx13
      have Hsx13 := hide sx13
      have HB13 := hide hB13
      clear hb13 hB13 tx13 rx13 sx13 HB12 Htx12 Hrx12 Hsx12
      go_wp2_with fail
      exact bodyPost_ret (v := .bool true) (by simp [results, Tryz.results7, go_sem]) rfl ⟨rfl, unhide HB13⟩
    · have hff := hf0
      clear hf0
      by_cases hlt : f < 0
      · clear hff
        have r0 := (unhide Hrx11).c0
        have r1 := (unhide Hrx11).c1
        have r2 := (unhide Hrx11).c2
        have r3 := (unhide Hrx11).c3
        simp only [zeroT] at r0 r1 r2 r3
        have hc := (unhide H10) W11
        go_wp2_with fail
        refine hc.mono ?_
        clear hc r0 r1 r2 r3
        rintro e W12 ⟨rfl, hb12⟩
        have hB12 := (unhide HB11).trans (hb12.mono (unhide HB11).size)
        have tx12 := (unhide Htx11).kept hb12
        have rx12 := (unhide Hrx11).kept hb12
        have sx12 := (unhide Hsx11).kept hb12
        have Htx12 := hide tx12
        have Hrx12 := hide rx12
        have Hsx12 := hide sx12
        have HB12 := hide hB12
        clear hb12 hB12 tx12 rx12 sx12 HB11 Htx11 Hrx11 Hsx11
        go_wp2_with fail
        exact bodyPost_ret (v := .bool true) (by simp [results, Tryz.results7, go_sem]) rfl ⟨rfl, unhide HB12⟩
      · have hfg : 1099511627776 < f := by omega
        clear hff
        have r0 := (unhide Hrx11).c0
        have r1 := (unhide Hrx11).c1
        have r2 := (unhide Hrx11).c2
        have r3 := (unhide Hrx11).c3
        simp only [zeroT] at r0 r1 r2 r3
        have hc := (unhide H10) W11
        go_wp2_with fail
        refine hc.mono ?_
        clear hc r0 r1 r2 r3
        rintro e W12 ⟨rfl, hb12⟩
        have hB12 := (unhide HB11).trans (hb12.mono (unhide HB11).size)
        have tx12 := (unhide Htx11).kept hb12
        have rx12 := (unhide Hrx11).kept hb12
        have sx12 := (unhide Hsx11).kept hb12
        have Htx12 := hide tx12
        have Hrx12 := hide rx12
        have Hsx12 := hide sx12
        have HB12 := hide hB12
        clear hb12 hB12 tx12 rx12 sx12 HB11 Htx11 Hrx11 Hsx11
        go_wp2_with fail
        exact bodyPost_ret (v := .bool true) (by simp [results, Tryz.results7, go_sem]) rfl ⟨rfl, unhide HB12⟩
  · rcases zC with ⟨h, -⟩ | ⟨y', d', h, rfl, hy⟩
    · cases h
    cases h
    simp only [TV.val]
    have HSx := hide hx
    clear hx
    have hB10 := (unhide HB9).trans (hb10.mono (unhide HB9).size)
    have tx10 := (unhide Htx9).kept hb10
    have rx10 := (unhide Hrx9).kept hb10
    have sx10 := (unhide Hsx9).kept hb10
    have rC10 := (unhide HrC9).below hb10
    have sC10 := (unhide HSx).below hb10
    obtain ⟨W10a, hW10a⟩ : ∃ V, W10.alloc (.cells #[.int .i64 y'.k, .int .i64 y'.N, .string y'.s, .slice y'.a y'.len y'.cap] 24) = V := ⟨_, rfl⟩
    have hb10a : Below W10.heap.size W10 W10a := by rw [← hW10a]; exact (Below.refl _ W10).alloc (Nat.le_refl _) _
    replace hB10 := hB10.trans (hb10a.mono hB10.size)
    replace tx10 := tx10.kept hb10a
    replace rx10 := rx10.kept hb10a
    replace sx10 := sx10.kept hb10a
    replace rC10 := rC10.below hb10a
    replace sC10 := sC10.below hb10a
    replace hy := hy.below hb10a
    have zx10 : BoxT W10a W10.heap.size y' := by rw [← hW10a]; exact World.alloc_heap_new W10 _
    clear hb10a
    have Htx10 := hide tx10
    have Hrx10 := hide rx10
    have Hsx10 := hide sx10
    have HrC10 := hide rC10
    have HsC10 := hide sC10
    have Hhy := hide hy
    have Hzx10 := hide zx10
    have HB10 := hide hB10
    clear hb10 hB10 tx10 rx10 sx10 rC10 sC10 hy zx10 HB9 Htx9 Hrx9 Hsx9 HrC9 HSx
    have s0 := (unhide Hsx10).c0
    have s1 := (unhide Hsx10).c1
    have s2 := (unhide Hsx10).c2
    have s3 := (unhide Hsx10).c3
    have z0 := (unhide Hzx10).c0
    have z1 := (unhide Hzx10).c1
    have z2 := (unhide Hzx10).c2
    have z3 := (unhide Hzx10).c3
    have hc := (same_c (unhide HsC10) (unhide Hhy)).mono (R' := fun e W' => e = .returned (.bool true) ∧ Below W10a.heap.size W10a W') (fun e W' h => ⟨h.1.trans (by simp), h.2⟩)
    try simp only [TV.val] at hc
    go_wp2_with fail
    refine hc.mono ?_
    clear hc s0 s1 s2 s3 z0 z1 z2 z3
    rintro e W11 ⟨rfl, hb11⟩
    have hB11 := (unhide HB10).trans (hb11.mono (unhide HB10).size)
    have tx11 := (unhide Htx10).kept hb11
    have rx11 := (unhide Hrx10).kept hb11
    have sx11 := (unhide Hsx10).kept hb11
    have zx11 := (unhide Hzx10).kept hb11
    have rC11 := (unhide HrC10).below hb11
    have sC11 := (unhide HsC10).below hb11
    have hy11 := (unhide Hhy).below hb11
    have Htx11 := hide tx11
    have Hrx11 := hide rx11
    have Hsx11 := hide sx11
    have Hzx11 := hide zx11
    have HrC11 := hide rC11
    have HsC11 := hide sC11
    have Hhy11 := hide hy11
    have HB11 := hide hB11
    clear hb11 hB11 tx11 rx11 sx11 zx11 rC11 sC11 hy11 HB10 Htx10 Hrx10 Hsx10 Hzx10 HrC10 HsC10 Hhy
    rcases unhide HrC11 with ⟨hf0, hf1, hf2, rfl, rfl, hx⟩ | ⟨hf0, hf1, hf2, rfl, rfl, rfl⟩ | ⟨hf0, rfl, rfl, rfl⟩
    · have hff : ¬ f < 0 := by omega
      have hfg : ¬ 1099511627776 < f := by omega
      have hvl := unhide HVL
      have hwr : IntKind.i64.wrap (f + (vs.length : Nat)) = f + (vs.length : Nat) := by simp [IntKind.wrap, IntKind.bits, IntKind.signed]; omega
      have hgg : ¬ 1099511627777 < f + (vs.length : Nat) := by omega
      have HX := hide hx
      have HF0 := hide (And.intro hf0 hf1)
      clear hx hf0 hf1 hf2 hvl
      have t0 := (unhide Htx11).c0
      have t1 := (unhide Htx11).c1
      have t2 := (unhide Htx11).c2
      have t3 := (unhide Htx11).c3
      have hc := (unhide H7) W11 (unhide HB11)
      go_wp2_with fail
      refine hc.mono ?_
      clear hc t0 t1 t2 t3
      rintro e W12 ⟨pa, pc, rfl, hb12, pN⟩
      have hB12 := (unhide HB11).trans (hb12.mono (unhide HB11).size)
      have tx12 := (unhide Htx11).kept hb12
      have rx12 := (unhide Hrx11).kept hb12
      have sx12 := (unhide Hsx11).kept hb12
      have zx12 := (unhide Hzx11).kept hb12
      have xC12 := (unhide HX).below hb12
      have Htx12 := hide tx12
      have Hrx12 := hide rx12
      have Hsx12 := hide sx12
      have Hzx12 := hide zx12
      have HxC12 := hide xC12
      have HB12 := hide hB12
      clear hb12 hB12 tx12 rx12 sx12 zx12 xC12 HB11 Htx11 Hrx11 Hsx11 Hzx11 HX
      have r0 := (unhide Hrx12).c0
      have r1 := (unhide Hrx12).c1
      have r2 := (unhide Hrx12).c2
      have r3 := (unhide Hrx12).c3
      have t0 := (unhide Htx12).c0
      have t1 := (unhide Htx12).c1
      have t2 := (unhide Htx12).c2
      have t3 := (unhide Htx12).c3
      have hdr : Below W12.heap.size W12 W12.drew := (Below.refl _ W12).drew
      have hs1 := ((unhide H9) W12.drew ((unhide HB12).drew) (unhide HF0).1 (unhide HF0).2).mono (R' := fun e W2 => ∃ z : TV, e = .returned z.val ∧ Below W12.heap.size W12 W2 ∧ Calls Tryz.prog 41 #[x.val, z.val] W2 fun e W3 => e = .returned (.bool true) ∧ Below W12.heap.size W12 W3) (fun e W2 h => by
        obtain ⟨z, g1, g2, g3⟩ := h
        have g2' := hdr.trans g2
        refine ⟨z, g1, g2', (same_c ((unhide HxC12).below g2') g3.tc).mono fun e W3 h => ⟨h.1.trans (by simp), g2'.trans (h.2.mono g2'.size)⟩⟩)
      simp only [TV.val] at hs1
      have hy0 : w.heap.size < W12.heap.size := (unhide Htx12).lt
      have hy1 : W4.heap.size < W12.heap.size := (unhide Hrx12).lt
      clear hdr
      go_wp2_with fail
      go_region_held3 (fun w' => w'.cell? ⟨W4.heap.size, 0, none⟩ = some (.int .i64 x.k) ∧ w'.cell? ⟨W4.heap.size, 1, none⟩ = some (.int .i64 x.N) ∧ w'.cell? ⟨W4.heap.size, 2, none⟩ = some (.string x.s) ∧ w'.cell? ⟨W4.heap.size, 3, none⟩ = some (.slice x.a x.len x.cap) ∧ w'.cell? ⟨w.heap.size, 0, none⟩ = some (.int .i64 t.tv.k) ∧ w'.cell? ⟨w.heap.size, 1, none⟩ = some (.int .i64 t.tv.N) ∧ w'.cell? ⟨w.heap.size, 2, none⟩ = some (.string t.tv.s) ∧ w'.cell? ⟨w.heap.size, 3, none⟩ = some (.slice t.tv.a t.tv.len t.tv.cap)) (go_keep) (first | (go_at_call 42; refine hs1.mono ?_; clear hs1; rintro e Wx ⟨z, rfl, hbx, hs2⟩; have hbc := bcell hbx) | (go_at_call 41; refine hs2.mono ?_; clear hs2; rintro e Wy ⟨rfl, hby⟩; have hbd := bcell hby))
      clear hbc hbd
      have HBY := hide ((unhide HB12).trans (hby.mono (unhide HB12).size))
      clear hbx hby
      go_wp2_with fail
      exact bodyPost_ret (v := .bool true) (by simp [results, Tryz.results7, go_sem]) rfl ⟨rfl, unhide HBY⟩
    · have hff : ¬ f < 0 := by omega
      have hfg : ¬ 1099511627776 < f := by omega
      have hvl := unhide HVL
      have hwr : IntKind.i64.wrap (f + (vs.length : Nat)) = f + (vs.length : Nat) := by simp [IntKind.wrap, IntKind.bits, IntKind.signed]; omega
      have hgg : 1099511627777 < f + (vs.length : Nat) := by omega
      clear hf0 hf1 hf2 hvl
      have t0 := (unhide Htx11).c0
      have t1 := (unhide Htx11).c1
      have t2 := (unhide Htx11).c2
      have t3 := (unhide Htx11).c3
      have hc := (unhide H7) W11 (unhide HB11)
      go_wp2_with fail
      refine hc.mono ?_
      clear hc t0 t1 t2 t3
      rintro e W12 ⟨pa, pc, rfl, hb12, pN⟩
      have hB12 := (unhide HB11).trans (hb12.mono (unhide HB11).size)
      have tx12 := (unhide Htx11).kept hb12
      have rx12 := (unhide Hrx11).kept hb12
      have sx12 := (unhide Hsx11).kept hb12
      have zx12 := (unhide Hzx11).kept hb12
      have Htx12 := hide tx12
      have Hrx12 := hide rx12
      have Hsx12 := hide sx12
      have Hzx12 := hide zx12
      have HB12 := hide hB12
      clear hb12 hB12 tx12 rx12 sx12 zx12 HB11 Htx11 Hrx11 Hsx11 Hzx11
      have r0 := (unhide Hrx12).c0
      have r1 := (unhide Hrx12).c1
      have r2 := (unhide Hrx12).c2
      have r3 := (unhide Hrx12).c3
      simp only [zeroT] at r0 r1 r2 r3
      have hc := (unhide H10) W12
      go_wp2_with fail
      refine hc.mono ?_
      clear hc r0 r1 r2 r3
      rintro e W13 ⟨rfl, hb13⟩
      have hB13 := (unhide HB12).trans (hb13.mono (unhide HB12).size)
      have tx13 := (unhide Htx12).kept hb13
      have rx13 := (unhide Hrx12).kept hb13
      have sx13 := (unhide Hsx12).kept hb13
      have zx13 := (unhide Hzx12).kept hb13
      have Htx13 := hide tx13
      have Hrx13 := hide rx13
      have Hsx13 := hide sx13
      have Hzx13 := hide zx13
      have HB13 := hide hB13
      clear hb13 hB13 tx13 rx13 sx13 zx13 HB12 Htx12 Hrx12 Hsx12 Hzx12
      go_wp2_with fail
      exact bodyPost_ret (v := .bool true) (by simp [results, Tryz.results7, go_sem]) rfl ⟨rfl, unhide HB13⟩
    · have hff := hf0
      clear hf0
      by_cases hlt : f < 0
      · clear hff
        have r0 := (unhide Hrx11).c0
        have r1 := (unhide Hrx11).c1
        have r2 := (unhide Hrx11).c2
        have r3 := (unhide Hrx11).c3
        simp only [zeroT] at r0 r1 r2 r3
        have hc := (unhide H10) W11
        go_wp2_with fail
        refine hc.mono ?_
        clear hc r0 r1 r2 r3
        rintro e W12 ⟨rfl, hb12⟩
        have hB12 := (unhide HB11).trans (hb12.mono (unhide HB11).size)
        have tx12 := (unhide Htx11).kept hb12
        have rx12 := (unhide Hrx11).kept hb12
        have sx12 := (unhide Hsx11).kept hb12
        have zx12 := (unhide Hzx11).kept hb12
        have Htx12 := hide tx12
        have Hrx12 := hide rx12
        have Hsx12 := hide sx12
        have Hzx12 := hide zx12
        have HB12 := hide hB12
        clear hb12 hB12 tx12 rx12 sx12 zx12 HB11 Htx11 Hrx11 Hsx11 Hzx11
        go_wp2_with fail
        exact bodyPost_ret (v := .bool true) (by simp [results, Tryz.results7, go_sem]) rfl ⟨rfl, unhide HB12⟩
      · have hfg : 1099511627776 < f := by omega
        clear hff
        have r0 := (unhide Hrx11).c0
        have r1 := (unhide Hrx11).c1
        have r2 := (unhide Hrx11).c2
        have r3 := (unhide Hrx11).c3
        simp only [zeroT] at r0 r1 r2 r3
        have hc := (unhide H10) W11
        go_wp2_with fail
        refine hc.mono ?_
        clear hc r0 r1 r2 r3
        rintro e W12 ⟨rfl, hb12⟩
        have hB12 := (unhide HB11).trans (hb12.mono (unhide HB11).size)
        have tx12 := (unhide Htx11).kept hb12
        have rx12 := (unhide Hrx11).kept hb12
        have sx12 := (unhide Hsx11).kept hb12
        have zx12 := (unhide Hzx11).kept hb12
        have Htx12 := hide tx12
        have Hrx12 := hide rx12
        have Hsx12 := hide sx12
        have Hzx12 := hide zx12
        have HB12 := hide hB12
        clear hb12 hB12 tx12 rx12 sx12 zx12 HB11 Htx11 Hrx11 Hsx11 Hzx11
        go_wp2_with fail
        exact bodyPost_ret (v := .bool true) (by simp [results, Tryz.results7, go_sem]) rfl ⟨rfl, unhide HB12⟩
end Go.Proofs.YtcjeeagnfmipgaaGreatDoor

