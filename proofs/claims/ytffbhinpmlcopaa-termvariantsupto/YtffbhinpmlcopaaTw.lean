import Derived.Test.YtffbhinpmlcopaaMc
/- The law hornkeep.TermActs: it answers true, whatever the term and the three lists (within bounds of their lengths). -/
namespace Go.Proofs.Ytffbhinpmlcopaa
open Go.RowKit Go.Shelf Go.Maps

theorem apply_new {D : Nat} {W : World} {v lv : Value} {c : List Nd} {k : Nat} {cl : List (Int × List Nd)} (hv : TC D W v c) (hl : LV D W lv k cl) (hok : okC c) (hs : SubC cl) :
    Calls Try.prog 12 #[v, lv] W fun e W' => ∃ x : TV, e = .returned (.tuple #[x.val, .int .i64 0]) ∧ Below W.heap.size W W' ∧ HoldsT (D + (D + 1)) W.heap.size W' x.val (c.flatMap (subN (lookC cl))) := by
  obtain ⟨t, rfl, hT, _, rfl⟩ := hv.2 D (Nat.le_refl _) hv.1
  obtain ⟨a, len, cap, l, rfl, hsrc, _⟩ := hl
  obtain ⟨bs, hL, rfl, _⟩ := hsrc.2 D (Nat.le_refl _) hsrc.1
  obtain ⟨h1, h2⟩ := subC_iff.1 hs
  exact apply_ok t bs a len cap W hT hL (by rw [okT_code]; exact hok) h1 h2
theorem binds_c {n : Nat} {W : World} {a : Option Addr} {len cap : Nat} {bs : List (Int × Tm n)} (hL : IsL W.heap.size W a len bs) :
    Calls Try.prog 14 #[.slice a len cap] W fun e W' => ∃ p : Int, e = .returned (.int .i64 p) ∧ Below W.heap.size W W' ∧ (p = 0 ↔ SubC (cb bs)) := by
  refine (rbinds_any bs a len cap W hL).mono fun e W' h => ?_
  obtain ⟨h1, h2⟩ := h
  obtain ⟨p, rfl, h1⟩ := says_int h1
  have h3 := says_open h1
  simp only [List.mem_cons, List.not_mem_nil, or_false, forall_eq, okB] at h3
  refine ⟨p, rfl, h2, ?_⟩
  rw [subC_iff]
  constructor
  · intro h0
    by_cases ho : ∀ p ∈ bs, okT p.2 = true
    · by_cases hs : Subst bs
      · exact ⟨ho, hs⟩
      · have := h3.2.1 ho hs; omega
    · have := h3.1 ho; omega
  · rintro ⟨ho, hs⟩
    exact h3.2.2 ho hs
theorem lv_word {D : Nat} {W : World} {v : Value} {k : Nat} {c : List (Int × List Nd)} (h : LV D W v k c) : ∀ q ∈ c, Word q.2 := by
  obtain ⟨a, len, cap, l, rfl, hsrc, _⟩ := h
  obtain ⟨bs, hL, rfl, _⟩ := hsrc.2 D (Nat.le_refl _) hsrc.1
  intro q hq
  obtain ⟨p, hp, rfl⟩ := List.mem_map.1 hq
  exact word_code p.2 (isL_mem hL p hp).wl
theorem okC_vok {c : List Nd} (h : okC c) : ∀ x ∈ c, vOk x := fun x hx hk => by
  have h1 := (okNd_var (List.all_eq_true.1 h x hx) hk).2
  rw [h1]; rfl
theorem vok_look {c : List (Int × List Nd)} (h : ∀ q ∈ c, okC q.2) (N : Int) : ∀ x ∈ lookC c N, vOk x := by
  unfold lookC
  split
  · rename_i p hp; exact okC_vok (h p (List.mem_of_find?_eq_some hp))
  · intro x hx; simp at hx; subst hx; exact fun _ => rfl
theorem set4_box {W : World} {b : Nat} {x y : TV} (h : BoxT W b y) : cellsAt (set4 W b 0 x) b 0 x := set4_cells W b 0 x (by rw [h.c0]; rfl) (by rw [show 0 + 1 = 1 from rfl, h.c1]; rfl) (by rw [show 0 + 2 = 2 from rfl, h.c2]; rfl) (by rw [show 0 + 3 = 3 from rfl, h.c3]; rfl)
theorem BoxT.kept {W W' : World} {b : Nat} {x : TV} (h : BoxT W b x) (hb : Below W.heap.size W W') : BoxT W' b x := (hb.block _ h.lt).trans h

set_option maxRecDepth 100000 in
set_option maxHeartbeats 4000000 in
theorem termActs_ok {n : Nat} (t : Tm n) (ss us vs : List (Int × Tm n)) (a a' a'' : Option Addr) (len cap len' cap' len'' cap'' : Nat) (w : World) (hT : IsT w.heap.size w t) (hs : IsL w.heap.size w a len ss) (hu : IsL w.heap.size w a' len' us) (hv : IsL w.heap.size w a'' len'' vs)
    (hok : okT t = true) (hss : SubC (cb ss)) (hsu : SubC (cb us)) (hsv : SubC (cb vs)) (hbig : len + len' + len'' ≤ 4194304) (hbt : (code t).length ≤ 4194304) (hn40 : n ≤ 1048576) :
    Calls Try.prog 5 #[t.tv.val, .slice a len cap, .slice a' len' cap', .slice a'' len'' cap''] w fun e W' => e = .returned (.bool true) ∧ Below w.heap.size w W' := by
  have hB0 : Below w.heap.size w (w.alloc (.cells #[.int .i64 t.tv.k, .int .i64 t.tv.N, .string t.tv.s, .slice t.tv.a t.tv.len t.tv.cap] 24)) := (Below.refl _ w).alloc (Nat.le_refl _) _
  have hbx := BoxT.new w t.tv
  have hbs := fun (W : World) (hb : Below w.heap.size w W) => binds_c (cap := cap) ((hs.below hb).mono hb.size)
  have hbu := fun (W : World) (hb : Below w.heap.size w W) => binds_c (cap := cap') ((hu.below hb).mono hb.size)
  have hbv := fun (W : World) (hb : Below w.heap.size w W) => binds_c (cap := cap'') ((hv.below hb).mono hb.size)
  have hfo := fun (W : World) (hb : Below w.heap.size w W) => formed_any n t W ((hT.below hb).mono hb.size)
  rw [hok] at hfo
  have ht : TC n w t.tv.val (code t) := tc_of hT
  have ls : LV n w (.slice a len cap) len (cb ss) := lv_of hs
  have lu : LV n w (.slice a' len' cap') len' (cb us) := lv_of hu
  have lvv : LV n w (.slice a'' len'' cap'') len'' (cb vs) := lv_of hv
  have hokc : okC (code t) := by unfold okC; rw [← okT_code]; exact hok
  simp only [TV.val] at hfo ht ⊢
  have HFO := hide hfo
  have HBS := hide hbs
  have HBU := hide hbu
  have HBV := hide hbv
  have HT := hide ht
  have HLS := hide ls
  have HLU := hide lu
  have HLV := hide lvv
  have HOK := hide hokc
  have HSS := hide hss
  have HSU := hide hsu
  have HSV := hide hsv
  clear hfo hbs hbu hbv ht ls lu lvv hokc hss hsu hsv hT hs hu hv hok
  have c0 := hbx.c0
  have c1 := hbx.c1
  have c2 := hbx.c2
  have c3 := hbx.c3
  go_enter Try.func5, Try.ntmps5
  go_wp2_with fail
  refine ((unhide HFO) _ hB0).mono ?_
  obtain ⟨W0, hW0⟩ : ∃ W0, w.alloc (.cells #[.int .i64 t.tv.k, .int .i64 t.tv.N, .string t.tv.s, .slice t.tv.a t.tv.len t.tv.cap] 24) = W0 := ⟨_, rfl⟩
  rw [hW0] at hB0 hbx ⊢
  clear hW0 c0 c1 c2 c3 HFO
  rintro e W1 ⟨rfl, hb1⟩
  have hB1 := hB0.trans (hb1.mono hB0.size)
  replace hbx := hbx.kept hb1
  clear hb1 hB0
  go_wp2_with fail
  refine ((unhide HBS) W1 hB1).mono ?_
  rintro e W2 ⟨p, rfl, hb2, hp⟩
  obtain rfl : p = 0 := hp.2 (unhide HSS)
  have hB2 := hB1.trans (hb2.mono hB1.size)
  replace hbx := hbx.kept hb2
  clear hb2 hB1 hp HBS
  go_wp2_with fail
  refine ((unhide HBU) W2 hB2).mono ?_
  rintro e W3 ⟨p, rfl, hb3, hp⟩
  obtain rfl : p = 0 := hp.2 (unhide HSU)
  have hB3 := hB2.trans (hb3.mono hB2.size)
  replace hbx := hbx.kept hb3
  clear hb3 hB2 hp HBU
  go_wp2_with fail
  refine ((unhide HBV) W3 hB3).mono ?_
  rintro e W4 ⟨p, rfl, hb4, hp⟩
  obtain rfl : p = 0 := hp.2 (unhide HSV)
  have hB4 := hB3.trans (hb4.mono hB3.size)
  replace hbx := hbx.kept hb4
  clear hb4 hB3 hp HBV
  have c0 := hbx.c0
  have c1 := hbx.c1
  have c2 := hbx.c2
  have c3 := hbx.c3
  go_wp2_with fail
  have hap := apply_new ((unhide HT).below hB4) ((unhide HLS).below hB4) (unhide HOK) (unhide HSS)
  simp only [TV.val] at hap
  refine hap.mono ?_
  clear hap c0 c1 c2 c3
  rintro e W5 ⟨x, rfl, hb5, hx⟩
  have hB5 := hB4.trans (hb5.mono hB4.size)
  replace hbx := hbx.kept hb5
  have HX := hide hx
  clear hb5 hx hB4
  go_wp2_with fail
  have hb6 : Below W5.heap.size W5 (W5.alloc (.cells #[.int .i64 x.k, .int .i64 x.N, .string x.s, .slice x.a x.len x.cap] 24)) := (Below.refl _ W5).alloc (Nat.le_refl _) _
  have hbxx := BoxT.new W5 x
  obtain ⟨W6, hW6⟩ : ∃ W6, W5.alloc (.cells #[.int .i64 x.k, .int .i64 x.N, .string x.s, .slice x.a x.len x.cap] 24) = W6 := ⟨_, rfl⟩
  rw [hW6] at hb6 hbxx ⊢
  clear hW6
  have hB6 := hB5.trans (hb6.mono hB5.size)
  have hlt := hbxx.lt
  have hlw : w.heap.size < W5.heap.size := hbx.lt
  replace hbx := hbx.kept hb6
  have hx6 : TC (n + (n + 1)) W6 x.val ((code t).flatMap (subN (lookC (cb ss)))) := ((unhide HX).below hb6).holdsS.tc
  have hok6 : okC ((code t).flatMap (subN (lookC (cb ss)))) := okC_sub (fun N h0 h1 => okC_look (unhide HSS).ok h0 h1) (unhide HOK)
  have hap := apply_new hx6 (((unhide HLU).below hB6).mono (by omega)) hok6 (unhide HSU)
  rw [sub_sub] at hap
  simp only [TV.val] at hap
  refine hap.mono ?_
  clear hap hx6 hok6 HX hb6
  rintro e W7 ⟨x2, rfl, hb7, hx2⟩
  have hB7 := hB6.trans (hb7.mono hB6.size)
  replace hbx := hbx.kept hb7
  replace hbxx := hbxx.kept hb7
  obtain ⟨⟨z0, z1, z2, z3⟩, f0, f1, f2, f3⟩ := zbox_kept hbxx
  have HX2 := hide hx2
  clear hx2
  go_wp2_with fail
  have hx8 : HoldsT (n + (n + 1) + (n + (n + 1) + 1)) W6.heap.size (set4 W7 W5.heap.size 0 x2) x2.val ((code t).flatMap (subN (compN (cb ss) (cb us)))) := holds_set4 (unhide HX2) hlt 0 x2
  have hB8 : Below w.heap.size w (set4 W7 W5.heap.size 0 x2) := set4_below hB7 (by omega) 0 x2
  have hcx : cellsAt (set4 W7 W5.heap.size 0 x2) W5.heap.size 0 x2 := set4_box hbxx
  have hbx8 : BoxT (set4 W7 W5.heap.size 0 x2) w.heap.size t.tv := (set4_other W7 W5.heap.size 0 x2 (by omega)).trans hbx
  have hsz8 : (set4 W7 W5.heap.size 0 x2).heap.size = W7.heap.size := set4_size _ _ _ _
  have hlt8 : W5.heap.size < (set4 W7 W5.heap.size 0 x2).heap.size := by rw [hsz8]; exact hbxx.lt
  obtain ⟨W8, hW8⟩ : ∃ W8, set4 W7 W5.heap.size 0 x2 = W8 := ⟨_, rfl⟩
  have hW8' : (((W7.setCell ⟨W5.heap.size, 0, none⟩ (.int .i64 x2.k)).setCell ⟨W5.heap.size, 1, none⟩ (.int .i64 x2.N)).setCell ⟨W5.heap.size, 2, none⟩ (.string x2.s)).setCell ⟨W5.heap.size, 3, none⟩ (.slice x2.a x2.len x2.cap) = W8 := hW8
  rw [hW8] at hx8 hB8 hcx hbx8 hlt8
  rw [hW8']
  clear hW8 hW8' hsz8 HX2 z0 z1 z2 z3 f0 f1 f2 f3 hbx hbxx hb7 hB7 hB6 hB5
  have tx8 : TC (n + (n + 1) + (n + (n + 1) + 1)) W8 x2.val ((code t).flatMap (subN (compN (cb ss) (cb us)))) := hx8.holdsS.tc
  clear hx8
  have hco := compose_c ((unhide HLS).below hB8) ((unhide HLU).below hB8) (unhide HSS) (unhide HSU) (by omega)
  refine hco.mono ?_
  clear hco
  rintro e W9 ⟨la, ll, lc, rfl, hb9, hsu9⟩
  have hB9 := hB8.trans (hb9.mono hB8.size)
  have hcx9 : cellsAt W9 W5.heap.size 0 x2 := hcx.kept (hb9.block _ hlt8)
  have hbx9 := hbx8.kept hb9
  have tx9 := tx8.below hb9
  have hlt9 : W5.heap.size < W9.heap.size := by have := hb9.size; omega
  have c0 := hbx9.c0
  have c1 := hbx9.c1
  have c2 := hbx9.c2
  have c3 := hbx9.c3
  have LSU := hide hsu9
  have TX := hide tx9
  clear hcx hbx8 tx8 tx9 hsu9 hlt8 hb9 hB8
  go_wp2_with fail
  have hap := apply_new (((unhide HT).below hB9).mono (show n ≤ n + (n + 1) by omega)) (unhide LSU) (unhide HOK) (subC_made (unhide HSS) (unhide HSU))
  rw [sub_congr (look_made (unhide HSS).once (unhide HSU).once)] at hap
  simp only [TV.val] at hap
  refine hap.mono ?_
  clear hap c0 c1 c2 c3
  rintro e W10 ⟨y, rfl, hb10, hy⟩
  have hb11 : Below W10.heap.size W10 (W10.alloc (.cells #[.int .i64 y.k, .int .i64 y.N, .string y.s, .slice y.a y.len y.cap] 24)) := (Below.refl _ W10).alloc (Nat.le_refl _) _
  have hby := BoxT.new W10 y
  obtain ⟨W11, hW11⟩ : ∃ W11, W10.alloc (.cells #[.int .i64 y.k, .int .i64 y.N, .string y.s, .slice y.a y.len y.cap] 24) = W11 := ⟨_, rfl⟩
  rw [hW11] at hb11 hby
  have hb911 : Below W9.heap.size W9 W11 := hb10.trans (hb11.mono hb10.size)
  have ty11 : TC (n + (n + 1) + (n + (n + 1) + 1)) W11 y.val ((code t).flatMap (subN (compN (cb ss) (cb us)))) := (hy.below hb11).holdsS.tc
  have tx11 := (unhide TX).below hb911
  have hB11 := hB9.trans (hb911.mono hB9.size)
  have hcx11 : cellsAt W11 W5.heap.size 0 x2 := hcx9.kept (hb911.block _ hlt9)
  have hbx11 := hbx9.kept hb911
  have lsu11 := (unhide LSU).below hb911
  have hlt11 : W5.heap.size < W11.heap.size := by have := hb911.size; omega
  have hsa := same_c tx11 ty11
  rw [decide_eq_true rfl] at hsa
  obtain ⟨x0, x1, x2', x3⟩ := hcx11
  have y0 := hby.c0
  have y1 := hby.c1
  have y2 := hby.c2
  have y3 := hby.c3
  have TY := hide ty11
  have LSU2 := hide lsu11
  have HW11 := hide hW11
  simp only [TV.val] at hsa
  clear hy hb10 hb11 hb911 tx11 ty11 lsu11 TX LSU hB9 hcx9 hbx9 hlt9 hW11
  rw [← unhide HW11] at x0 x1 x2' x3 y0 y1 y2 y3 hsa
  go_wp2_with fail
  refine hsa.mono ?_
  clear hsa x0 x1 x2' x3 y0 y1 y2 y3
  rintro e W12 ⟨rfl, hb12⟩
  rw [unhide HW11] at hb12
  have hB12 := hB11.trans (hb12.mono hB11.size)
  have hbx12 := hbx11.kept hb12
  have hby12 := hby.kept hb12
  have TY12 := hide ((unhide TY).below hb12)
  have LSU12 := hide ((unhide LSU2).below hb12)
  clear hb12 hB11 hbx11 hby TY LSU2 HW11 hlt11 hlt
  go_wp2_with fail
  have hsubsu := subC_made (unhide HSS) (unhide HSU)
  have hsubuv := subC_made (unhide HSU) (unhide HSV)
  have HSSU := hide hsubsu
  have HSUV := hide hsubuv
  clear hsubsu hsubuv
  refine (compose_c (unhide LSU12) (((unhide HLV).below hB12).mono (show n ≤ n + (n + 1) by omega)) (unhide HSSU) (unhide HSV) (by omega)).mono ?_
  rintro e W13 ⟨aa, al, ac, rfl, hb13, ha13⟩
  have hB13 := hB12.trans (hb13.mono hB12.size)
  have hbx13 := hbx12.kept hb13
  have hby13 := hby12.kept hb13
  have TY13 := hide ((unhide TY12).below hb13)
  have LA13 := hide ha13
  clear hb13 hB12 hbx12 hby12 TY12 LSU12 ha13
  go_wp2_with fail
  refine (compose_c ((unhide HLU).below hB13) ((unhide HLV).below hB13) (unhide HSU) (unhide HSV) (by omega)).mono ?_
  rintro e W14 ⟨ua, ul, uc, rfl, hb14, hu14⟩
  have hB14 := hB13.trans (hb14.mono hB13.size)
  have hbx14 := hbx13.kept hb14
  have hby14 := hby13.kept hb14
  have TY14 := hide ((unhide TY13).below hb14)
  have LA14 := hide ((unhide LA13).below hb14)
  have LU14 := hide hu14
  clear hb14 hB13 hbx13 hby13 TY13 LA13 hu14
  go_wp2_with fail
  refine (compose_c (((unhide HLS).below hB14).mono (show n ≤ n + (n + 1) by omega)) (unhide LU14) (unhide HSS) (unhide HSUV) (by omega)).mono ?_
  rintro e W15 ⟨ba, bl, bc, rfl, hb15, hb'15⟩
  have hB15 := hB14.trans (hb15.mono hB14.size)
  have hbx15 := hbx14.kept hb15
  have hby15 := hby14.kept hb15
  have TY15 := hide ((unhide TY14).below hb15)
  have hsb := sameBinds_c ((unhide LA14).below hb15) hb'15 (made_assoc (unhide HSS).once (unhide HSU).once (unhide HSV).once)
  clear hb15 hB14 hbx14 hby14 TY14 LA14 LU14 hb'15
  go_wp2_with fail
  refine hsb.mono ?_
  clear hsb
  rintro e W16 ⟨rfl, hb16⟩
  have hB16 := hB15.trans (hb16.mono hB15.size)
  have hbx16 := hbx15.kept hb16
  have hby16 := hby15.kept hb16
  have ty16 := (unhide TY15).below hb16
  have hokm : okC ((code t).flatMap (subN (compN (cb ss) (cb us)))) := by
    rw [← sub_congr (look_made (unhide HSS).once (unhide HSU).once)]
    exact okC_sub (fun N h0 h1 => okC_look (unhide HSSU).ok h0 h1) (unhide HOK)
  have hwd : ∀ N, Word (compN (cb ss) (cb us) N) := fun N => word_sub (fun M => word_look (lv_word (unhide HLU)) M) (vok_look (unhide HSS).ok N) (word_look (lv_word (unhide HLS)) N)
  have hma := match_c (((unhide HT).below hB16).mono (show n ≤ n + (n + 1) + (n + (n + 1) + 1) by omega)) ty16 (unhide HOK) hokm hbt
  have c0 := hbx16.c0
  have c1 := hbx16.c1
  have c2 := hbx16.c2
  have c3 := hbx16.c3
  have y0 := hby16.c0
  have y1 := hby16.c1
  have y2 := hby16.c2
  have y3 := hby16.c3
  have TY16 := hide ty16
  have HWD := hide hwd
  simp only [TV.val] at hma
  clear hb16 hB15 hbx15 hby15 TY15 hokm hwd ty16
  go_wp2_with fail
  refine hma.mono ?_
  clear hma c0 c1 c2 c3 y0 y1 y2 y3
  rintro e W17 ⟨ma, ml, mc, is, rfl, hb17, his, hcm⟩
  obtain rfl : is = true := his.2 ⟨_, unhide HWD, rfl⟩
  obtain ⟨cm, hl17, hs17, he17⟩ := hcm rfl
  have hB17 := hB16.trans (hb17.mono hB16.size)
  have hbx17 := hbx16.kept hb17
  have hby17 := hby16.kept hb17
  have ty17 := (unhide TY16).below hb17
  have hap := apply_new (((unhide HT).below hB17).mono (show n ≤ n + (n + 1) + (n + (n + 1) + 1) + 1 by omega)) hl17 (unhide HOK) hs17
  rw [he17] at hap
  have c0 := hbx17.c0
  have c1 := hbx17.c1
  have c2 := hbx17.c2
  have c3 := hbx17.c3
  have TY17 := hide ty17
  simp only [TV.val] at hap
  clear hb17 hB16 hbx16 hby16 TY16 ty17 his hcm hl17 hs17 he17 HWD
  go_wp2_with fail
  refine hap.mono ?_
  clear hap c0 c1 c2 c3
  rintro e W18 ⟨z, rfl, hb18, hz⟩
  have hb19 : Below W18.heap.size W18 (W18.alloc (.cells #[.int .i64 z.k, .int .i64 z.N, .string z.s, .slice z.a z.len z.cap] 24)) := (Below.refl _ W18).alloc (Nat.le_refl _) _
  have hb1719 := hb18.trans (hb19.mono hb18.size)
  have hby19 := hby17.kept hb1719
  have hbz := BoxT.new W18 z
  have hsa := same_c (hz.below hb19).holdsS.tc (((unhide TY17).below hb1719).mono (show n + (n + 1) + (n + (n + 1) + 1) ≤ n + (n + 1) + (n + (n + 1) + 1) + 1 + (n + (n + 1) + (n + (n + 1) + 1) + 1 + 1) by omega))
  rw [decide_eq_true rfl] at hsa
  have hB19 := hB17.trans (hb1719.mono hB17.size)
  have y0 := hby19.c0
  have y1 := hby19.c1
  have y2 := hby19.c2
  have y3 := hby19.c3
  have z0 := hbz.c0
  have z1 := hbz.c1
  have z2 := hbz.c2
  have z3 := hbz.c3
  simp only [TV.val] at hsa
  have HB19 := hide hB19
  clear hb18 hz hb19 hb1719 hby17 hby19 hbz hB17 TY17 hB19 hbx17
  go_wp2_with fail
  refine hsa.mono ?_
  clear hsa y0 y1 y2 y3 z0 z1 z2 z3
  rintro e W20 ⟨rfl, hb20⟩
  have hBf := (unhide HB19).trans (hb20.mono (unhide HB19).size)
  clear hb20
  go_wp2_with fail
  exact bodyPost_ret (v := .bool true) (by simp [results, Try.results5, go_sem]) rfl ⟨rfl, hBf⟩

set_option maxRecDepth 100000 in
set_option maxHeartbeats 1000000 in
theorem termActs_no {n : Nat} (t : Tm n) (ss us vs : List (Int × Tm n)) (a a' a'' : Option Addr) (len cap len' cap' len'' cap'' : Nat) (w : World) (hT : IsT w.heap.size w t) (hs : IsL w.heap.size w a len ss) (hu : IsL w.heap.size w a' len' us) (hv : IsL w.heap.size w a'' len'' vs)
    (hno : ¬ (okT t = true ∧ SubC (cb ss) ∧ SubC (cb us) ∧ SubC (cb vs))) :
    Calls Try.prog 5 #[t.tv.val, .slice a len cap, .slice a' len' cap', .slice a'' len'' cap''] w fun e W' => e = .returned (.bool true) ∧ Below w.heap.size w W' := by
  have hB0 : Below w.heap.size w (w.alloc (.cells #[.int .i64 t.tv.k, .int .i64 t.tv.N, .string t.tv.s, .slice t.tv.a t.tv.len t.tv.cap] 24)) := (Below.refl _ w).alloc (Nat.le_refl _) _
  have hbx := BoxT.new w t.tv
  have hbs := fun (W : World) (hb : Below w.heap.size w W) => binds_c (cap := cap) ((hs.below hb).mono hb.size)
  have hbu := fun (W : World) (hb : Below w.heap.size w W) => binds_c (cap := cap') ((hu.below hb).mono hb.size)
  have hbv := fun (W : World) (hb : Below w.heap.size w W) => binds_c (cap := cap'') ((hv.below hb).mono hb.size)
  have hfo := fun (W : World) (hb : Below w.heap.size w W) => formed_any n t W ((hT.below hb).mono hb.size)
  simp only [TV.val] at hfo ⊢
  have HFO := hide hfo
  have HBS := hide hbs
  have HBU := hide hbu
  have HBV := hide hbv
  have HNO := hide hno
  clear hfo hbs hbu hbv hT hs hu hv hno
  have c0 := hbx.c0
  have c1 := hbx.c1
  have c2 := hbx.c2
  have c3 := hbx.c3
  go_enter Try.func5, Try.ntmps5
  go_wp2_with fail
  refine ((unhide HFO) _ hB0).mono ?_
  obtain ⟨W0, hW0⟩ : ∃ W0, w.alloc (.cells #[.int .i64 t.tv.k, .int .i64 t.tv.N, .string t.tv.s, .slice t.tv.a t.tv.len t.tv.cap] 24) = W0 := ⟨_, rfl⟩
  rw [hW0] at hB0 hbx ⊢
  clear hW0 c0 c1 c2 c3 HFO
  rintro e W1 ⟨rfl, hb1⟩
  have hB1 := hB0.trans (hb1.mono hB0.size)
  clear hb1 hB0
  cases hok : okT t with
  | false =>
    clear hok
    go_wp2_with fail
    exact bodyPost_ret (v := .bool true) (by simp [results, Try.results5, go_sem]) rfl ⟨rfl, hB1⟩
  | true =>
    have HOK := hide hok
    clear hok
    go_wp2_with fail
    refine ((unhide HBS) W1 hB1).mono ?_
    rintro e W2 ⟨p, rfl, hb2, hp⟩
    have hB2 := hB1.trans (hb2.mono hB1.size)
    have HP := hide hp
    clear hb2 hB1 hp
    by_cases h0 : p = 0
    · subst h0
      go_wp2_with fail
      refine ((unhide HBU) W2 hB2).mono ?_
      rintro e W3 ⟨p, rfl, hb3, hp⟩
      have hB3 := hB2.trans (hb3.mono hB2.size)
      have HQ := hide hp
      clear hb3 hB2 hp
      by_cases h0 : p = 0
      · subst h0
        go_wp2_with fail
        refine ((unhide HBV) W3 hB3).mono ?_
        rintro e W4 ⟨p, rfl, hb4, hp⟩
        have hB4 := hB3.trans (hb4.mono hB3.size)
        by_cases h0 : p = 0
        · exact ((unhide HNO) ⟨unhide HOK, (unhide HP).1 trivial, (unhide HQ).1 trivial, hp.1 h0⟩).elim
        · have h1 : (p != 0) = true := by rw [bne_iff_ne]; exact h0
          clear hb4 hB3 hp h0
          go_wp2_with fail
          exact bodyPost_ret (v := .bool true) (by simp [results, Try.results5, go_sem]) rfl ⟨rfl, hB4⟩
      · have h1 : (p != 0) = true := by rw [bne_iff_ne]; exact h0
        clear h0
        go_wp2_with fail
        exact bodyPost_ret (v := .bool true) (by simp [results, Try.results5, go_sem]) rfl ⟨rfl, hB3⟩
    · have h1 : (p != 0) = true := by rw [bne_iff_ne]; exact h0
      clear h0
      go_wp2_with fail
      exact bodyPost_ret (v := .bool true) (by simp [results, Try.results5, go_sem]) rfl ⟨rfl, hB2⟩
theorem termActs_any {n : Nat} (t : Tm n) (ss us vs : List (Int × Tm n)) (a a' a'' : Option Addr) (len cap len' cap' len'' cap'' : Nat) (w : World) (hT : IsT w.heap.size w t) (hs : IsL w.heap.size w a len ss) (hu : IsL w.heap.size w a' len' us) (hv : IsL w.heap.size w a'' len'' vs)
    (hbig : len + len' + len'' ≤ 4194304) (hbt : (code t).length ≤ 4194304) (hn40 : n ≤ 1048576) :
    Calls Try.prog 5 #[t.tv.val, .slice a len cap, .slice a' len' cap', .slice a'' len'' cap''] w fun e W' => e = .returned (.bool true) ∧ Below w.heap.size w W' := by
  by_cases h : okT t = true ∧ SubC (cb ss) ∧ SubC (cb us) ∧ SubC (cb vs)
  · exact termActs_ok t ss us vs a a' a'' len cap len' cap' len'' cap'' w hT hs hu hv h.1 h.2.1 h.2.2.1 h.2.2.2 hbig hbt hn40
  · exact termActs_no t ss us vs a a' a'' len cap len' cap' len'' cap'' w hT hs hu hv h
end Go.Proofs.Ytffbhinpmlcopaa

