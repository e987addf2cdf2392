import Derived.Test.YtcjeeagnfmipgaaGreatDoorTc
/- The law TermSays, its function two: two terms. -/
namespace Go.Proofs.YtcjeeagnfmipgaaGreatDoor
open Go.RowKit Go.Shelf Go.Maps

set_option maxRecDepth 100000 in
set_option maxHeartbeats 16000000 in
theorem two_ok {n : Nat} (t u : Tm n) (ns : List Int) (a : Option Addr) (len cap : Nat) (w : World) (ht : IsT w.heap.size w t) (hu : IsT w.heap.size w u) (okt : okT t = true) (oku : okT u = true) (hl : (parts t).length ≤ 4194304) (hm : (parts u).length ≤ 4194304) (pt : ∀ x ∈ parts t, Pw x) (pu : ∀ x ∈ parts u, Pw x) (htab : Tab w.heap.size w) (hN : IsN w a len ns) (hcap : len ≤ cap) (hn40 : n ≤ 1048576 := by omega) :
    Calls Tryz.prog 8 #[t.tv.val, u.tv.val, .slice a len cap, .bool true] w fun e W' => e = .returned (.bool true) ∧ Below w.heap.size w W' := by
  obtain ⟨W1, hW1, hB1, tx1, ux1, hs1⟩ := two_new w t.tv u.tv
  have h1 := fun (W : World) (hb : Below w.heap.size w W) => compare_any t u W ((ht.below hb).mono hb.size) ((hu.below hb).mono hb.size) okt oku
  have h2 := fun (W : World) (hb : Below w.heap.size w W) => variant_any t u W ((ht.below hb).mono hb.size) ((hu.below hb).mono hb.size) okt oku (by omega)
  have h3 := fun (W : World) (hb : Below w.heap.size w W) => (general_any t u W ((ht.below hb).mono hb.size) ((hu.below hb).mono hb.size) okt oku pt pu (by omega) (by omega) ((htab.on hb).mono hb.size)).mono (R' := fun e W' => ∃ x : TV, e = .returned (.tuple #[x.val, .int .i64 0]) ∧ Below W.heap.size W W' ∧ TC (n + 1) W' x.val (lgg t u)) (fun e W' h => by obtain ⟨x, g1, g2, g3⟩ := h; exact ⟨x, g1, g2, g3.tc⟩)
  have h4 := fun (W : World) (hb : Below w.heap.size w W) => put_s t u ns a len cap W ((ht.below hb).mono hb.size) ((hu.below hb).mono hb.size) okt oku (hN.below hb)
  have h5 := fun (W : World) (hb : Below w.heap.size w W) => match_s t u W ((ht.below hb).mono hb.size) ((hu.below hb).mono hb.size) okt oku hl
  have h6 := fun (W : World) (hb : Below w.heap.size w W) => rcompare_any t u W ((ht.below hb).mono hb.size) ((hu.below hb).mono hb.size) okt oku
  have h7 := fun (W : World) (hb : Below w.heap.size w W) => rvariant_any t u W ((ht.below hb).mono hb.size) ((hu.below hb).mono hb.size) okt oku hl hm
  have h8 := fun (W : World) (hb : Below w.heap.size w W) => rgeneral_any t u W ((ht.below hb).mono hb.size) ((hu.below hb).mono hb.size) okt oku (by rw [parts_code]; exact hl)
  have h9 := fun (W : World) (hb : Below w.heap.size w W) => rmatch_s t u W ((ht.below hb).mono hb.size) ((hu.below hb).mono hb.size) okt oku hl
  have h10 := fun (W : World) (hb : Below w.heap.size w W) => rat_s t ns a len cap W ((ht.below hb).mono hb.size) (hN.below hb) hcap
  have h11 := fun (W : World) (hb : Below w.heap.size w W) (hat : ∃ d, atCode (atT ns t) = some d) => rput_s t u ns a len cap W ((ht.below hb).mono hb.size) ((hu.below hb).mono hb.size) okt (hN.below hb) hcap hat
  have h12 := none_zero
  generalize atCode (atT ns t) = ac at *
  generalize putC ns t (code u) = pcc at *
  generalize lgg t u = gc at *
  generalize ordT t u = oo at *
  generalize decide (canon 0 (code t) = canon 0 (code u)) = vb at *
  generalize matT t u [] = mt at *
  obtain ⟨mb, ml⟩ := mt
  generalize (code t).length = kt at *
  simp only [TV.val, zeroT] at h1 h2 h3 h4 h5 h6 h7 h8 h9 h10 h11 h12 ⊢
  have H1 := hide h1
  have H2 := hide h2
  have H3 := hide h3
  have H4 := hide h4
  have H5 := hide h5
  have H6 := hide h6
  have H7 := hide h7
  have H8 := hide h8
  have H9 := hide h9
  have H10 := hide h10
  have H11 := hide h11
  have H12 := hide h12
  have HB1 := hide hB1
  have Htx1 := hide tx1
  have Hux1 := hide ux1
  clear h1 h2 h3 h4 h5 h6 h7 h8 h9 h10 h11 h12 ht hu okt oku hl hm pt pu htab hN hB1 tx1 ux1
  go_enter Tryz.func8, Tryz.ntmps8
  have t0 := (unhide Htx1).c0
  have t1 := (unhide Htx1).c1
  have t2 := (unhide Htx1).c2
  have t3 := (unhide Htx1).c3
  have u0 := (unhide Hux1).c0
  have u1 := (unhide Hux1).c1
  have u2 := (unhide Hux1).c2
  have u3 := (unhide Hux1).c3
  have hc := (unhide H1) W1 (unhide HB1)
  go_wp2_with fail
  refine hc.mono ?_
  clear hc t0 t1 t2 t3 u0 u1 u2 u3
  rintro e W2 ⟨rfl, hb2⟩
  have hB2 := (unhide HB1).trans (hb2.mono (unhide HB1).size)
  have tx2 := (unhide Htx1).kept hb2
  have ux2 := (unhide Hux1).kept hb2
  have Htx2 := hide tx2
  have Hux2 := hide ux2
  have HB2 := hide hB2
  clear hb2 hB2 tx2 ux2 HB1 Htx1 Hux1
  have t0 := (unhide Htx2).c0
  have t1 := (unhide Htx2).c1
  have t2 := (unhide Htx2).c2
  have t3 := (unhide Htx2).c3
  have u0 := (unhide Hux2).c0
  have u1 := (unhide Hux2).c1
  have u2 := (unhide Hux2).c2
  have u3 := (unhide Hux2).c3
  have hc := (unhide H2) W2 (unhide HB2)
  go_wp2_with fail
  refine hc.mono ?_
  clear hc t0 t1 t2 t3 u0 u1 u2 u3
  rintro e W3 ⟨rfl, hb3⟩
  have hB3 := (unhide HB2).trans (hb3.mono (unhide HB2).size)
  have tx3 := (unhide Htx2).kept hb3
  have ux3 := (unhide Hux2).kept hb3
  have Htx3 := hide tx3
  have Hux3 := hide ux3
  have HB3 := hide hB3
  clear hb3 hB3 tx3 ux3 HB2 Htx2 Hux2
  have t0 := (unhide Htx3).c0
  have t1 := (unhide Htx3).c1
  have t2 := (unhide Htx3).c2
  have t3 := (unhide Htx3).c3
  have u0 := (unhide Hux3).c0
  have u1 := (unhide Hux3).c1
  have u2 := (unhide Hux3).c2
  have u3 := (unhide Hux3).c3
  have hc := (unhide H3) W3 (unhide HB3)
  go_wp2_with fail
  refine hc.mono ?_
  clear hc t0 t1 t2 t3 u0 u1 u2 u3
  rintro e W4 ⟨x, rfl, hb4, gC⟩
  have hB4 := (unhide HB3).trans (hb4.mono (unhide HB3).size)
  have tx4 := (unhide Htx3).kept hb4
  have ux4 := (unhide Hux3).kept hb4
  obtain ⟨W4a, hW4a⟩ : ∃ V, W4.alloc (.cells #[.int .i64 x.k, .int .i64 x.N, .string x.s, .slice x.a x.len x.cap] 24) = V := ⟨_, rfl⟩
  have hb4a : Below W4.heap.size W4 W4a := by rw [← hW4a]; exact (Below.refl _ W4).alloc (Nat.le_refl _) _
  replace hB4 := hB4.trans (hb4a.mono hB4.size)
  replace tx4 := tx4.kept hb4a
  replace ux4 := ux4.kept hb4a
  replace gC := gC.below hb4a
  have lx4 : BoxT W4a W4.heap.size x := by rw [← hW4a]; exact World.alloc_heap_new W4 _
  clear hb4a
  have Htx4 := hide tx4
  have Hux4 := hide ux4
  have HgC := hide gC
  have Hlx4 := hide lx4
  have HB4 := hide hB4
  clear hb4 hB4 tx4 ux4 gC lx4 HB3 Htx3 Hux3
  have t0 := (unhide Htx4).c0
  have t1 := (unhide Htx4).c1
  have t2 := (unhide Htx4).c2
  have t3 := (unhide Htx4).c3
  have u0 := (unhide Hux4).c0
  have u1 := (unhide Hux4).c1
  have u2 := (unhide Hux4).c2
  have u3 := (unhide Hux4).c3
  have hc := (unhide H4) W4a (unhide HB4)
  go_wp2_with fail
  refine hc.mono ?_
  clear hc t0 t1 t2 t3 u0 u1 u2 u3
  rintro e W5 ⟨p, q, rfl, hb5, pC⟩
  have hB5 := (unhide HB4).trans (hb5.mono (unhide HB4).size)
  have tx5 := (unhide Htx4).kept hb5
  have ux5 := (unhide Hux4).kept hb5
  have lx5 := (unhide Hlx4).kept hb5
  have gC5 := (unhide HgC).below hb5
  obtain ⟨W5a, hW5a⟩ : ∃ V, W5.alloc (.cells #[.int .i64 p.k, .int .i64 p.N, .string p.s, .slice p.a p.len p.cap] 24) = V := ⟨_, rfl⟩
  have hb5a : Below W5.heap.size W5 W5a := by rw [← hW5a]; exact (Below.refl _ W5).alloc (Nat.le_refl _) _
  replace hB5 := hB5.trans (hb5a.mono hB5.size)
  replace tx5 := tx5.kept hb5a
  replace ux5 := ux5.kept hb5a
  replace lx5 := lx5.kept hb5a
  replace gC5 := gC5.below hb5a
  replace pC := pC.below hb5a
  have px5 : BoxT W5a W5.heap.size p := by rw [← hW5a]; exact World.alloc_heap_new W5 _
  clear hb5a
  have Htx5 := hide tx5
  have Hux5 := hide ux5
  have Hlx5 := hide lx5
  have HgC5 := hide gC5
  have HpC := hide pC
  have Hpx5 := hide px5
  have HB5 := hide hB5
  clear hb5 hB5 tx5 ux5 lx5 gC5 pC px5 HB4 Htx4 Hux4 Hlx4 HgC
  have t0 := (unhide Htx5).c0
  have t1 := (unhide Htx5).c1
  have t2 := (unhide Htx5).c2
  have t3 := (unhide Htx5).c3
  have u0 := (unhide Hux5).c0
  have u1 := (unhide Hux5).c1
  have u2 := (unhide Hux5).c2
  have u3 := (unhide Hux5).c3
  have hc := (unhide H5) W5a (unhide HB5)
  go_wp2_with fail
  refine hc.mono ?_
  clear hc t0 t1 t2 t3 u0 u1 u2 u3
  rintro e W6 ⟨la, ll, lc, rfl, hb6, mC⟩
  have hB6 := (unhide HB5).trans (hb6.mono (unhide HB5).size)
  have tx6 := (unhide Htx5).kept hb6
  have ux6 := (unhide Hux5).kept hb6
  have lx6 := (unhide Hlx5).kept hb6
  have px6 := (unhide Hpx5).kept hb6
  have gC6 := (unhide HgC5).below hb6
  have pC6 := (unhide HpC).below hb6
  have Htx6 := hide tx6
  have Hux6 := hide ux6
  have Hlx6 := hide lx6
  have Hpx6 := hide px6
  have HgC6 := hide gC6
  have HpC6 := hide pC6
  have HmC := hide mC
  have HB6 := hide hB6
  clear hb6 hB6 tx6 ux6 lx6 px6 gC6 pC6 mC HB5 Htx5 Hux5 Hlx5 Hpx5 HgC5 HpC
  have t0 := (unhide Htx6).c0
  have t1 := (unhide Htx6).c1
  have t2 := (unhide Htx6).c2
  have t3 := (unhide Htx6).c3
  have u0 := (unhide Hux6).c0
  have u1 := (unhide Hux6).c1
  have u2 := (unhide Hux6).c2
  have u3 := (unhide Hux6).c3
  have l0 := (unhide Hlx6).c0
  have l1 := (unhide Hlx6).c1
  have l2 := (unhide Hlx6).c2
  have l3 := (unhide Hlx6).c3
  have hdr : Below W6.heap.size W6 W6.drew := (Below.refl _ W6).drew
  have hq1 := ((unhide H6) W6.drew ((unhide HB6).drew)).mono (R' := fun e W2 => e = .returned (.int .i64 oo) ∧ Below W6.heap.size W6 W2) (fun e W2 h => ⟨h.1, hdr.trans h.2⟩)
  have hq2 := fun (V : World) (hv : Below W6.heap.size W6 V) => ((unhide H7) V ((unhide HB6).trans (hv.mono (unhide HB6).size))).mono (R' := fun e W2 => e = .returned (.bool vb) ∧ Below W6.heap.size W6 W2) (fun e W2 h => ⟨h.1, hv.trans (h.2.mono hv.size)⟩)
  have hq3 := fun (V : World) (hv : Below W6.heap.size W6 V) => ((unhide H8) V ((unhide HB6).trans (hv.mono (unhide HB6).size))).mono (R' := fun e W2 => ∃ z : TV, e = .returned z.val ∧ Below W6.heap.size W6 W2 ∧ Calls Tryz.prog 41 #[x.val, z.val] W2 fun e W3 => e = .returned (.bool true) ∧ Below W6.heap.size W6 W3) (fun e W2 h => by
    obtain ⟨z, g1, g2, g3⟩ := h
    have g2' := hv.trans (g2.mono hv.size)
    exact ⟨z, g1, g2', (same_c ((unhide HgC6).below g2') g3.tc).mono fun e W3 h => ⟨h.1.trans (by simp), g2'.trans (h.2.mono g2'.size)⟩⟩)
  simp only [TV.val] at hq1 hq2 hq3
  have hy0 : w.heap.size < W6.heap.size := (unhide Htx6).lt
  have hy1 : w.heap.size + 1 < W6.heap.size := (unhide Hux6).lt
  have hy2 : W4.heap.size < W6.heap.size := (unhide Hlx6).lt
  clear hdr
  go_wp2_with fail
  go_region_held3 (fun w' => w'.cell? ⟨W4.heap.size, 0, none⟩ = some (.int .i64 x.k) ∧ w'.cell? ⟨W4.heap.size, 1, none⟩ = some (.int .i64 x.N) ∧ w'.cell? ⟨W4.heap.size, 2, none⟩ = some (.string x.s) ∧ w'.cell? ⟨W4.heap.size, 3, none⟩ = some (.slice x.a x.len x.cap) ∧ w'.cell? ⟨w.heap.size, 0, none⟩ = some (.int .i64 t.tv.k) ∧ w'.cell? ⟨w.heap.size, 1, none⟩ = some (.int .i64 t.tv.N) ∧ w'.cell? ⟨w.heap.size, 2, none⟩ = some (.string t.tv.s) ∧ w'.cell? ⟨w.heap.size, 3, none⟩ = some (.slice t.tv.a t.tv.len t.tv.cap) ∧ w'.cell? ⟨w.heap.size + 1, 0, none⟩ = some (.int .i64 u.tv.k) ∧ w'.cell? ⟨w.heap.size + 1, 1, none⟩ = some (.int .i64 u.tv.N) ∧ w'.cell? ⟨w.heap.size + 1, 2, none⟩ = some (.string u.tv.s) ∧ w'.cell? ⟨w.heap.size + 1, 3, none⟩ = some (.slice u.tv.a u.tv.len u.tv.cap)) (go_keep) (first | (go_at_call 45; refine hq1.mono ?_; clear hq1; rintro e Wa ⟨rfl, hba⟩; have hbc := bcell hba) | (go_at_call 46; refine (hq2 Wa hba).mono ?_; clear hq2; rintro e Wb ⟨rfl, hbb⟩; have hbd := bcell hbb) | (go_at_call 47; refine (hq3 Wb hbb).mono ?_; clear hq3; rintro e Wc ⟨z, rfl, hbe, hq4⟩; have hbf := bcell hbe) | (go_at_call 41; refine hq4.mono ?_; clear hq4; rintro e Wd ⟨rfl, hb7⟩; have hbg := bcell hb7))
  clear hbc hbd hbf hbg hba hbb hbe hy0 hy1 hy2 t0 t1 t2 t3 u0 u1 u2 u3 l0 l1 l2 l3
  have hB7 := (unhide HB6).trans (hb7.mono (unhide HB6).size)
  have tx7 := (unhide Htx6).kept hb7
  have ux7 := (unhide Hux6).kept hb7
  have lx7 := (unhide Hlx6).kept hb7
  have px7 := (unhide Hpx6).kept hb7
  have gC7 := (unhide HgC6).below hb7
  have pC7 := (unhide HpC6).below hb7
  have mC7 := (unhide HmC).below hb7
  have Htx7 := hide tx7
  have Hux7 := hide ux7
  have Hlx7 := hide lx7
  have Hpx7 := hide px7
  have HgC7 := hide gC7
  have HpC7 := hide pC7
  have HmC7 := hide mC7
  have HB7 := hide hB7
  clear hb7 hB7 tx7 ux7 lx7 px7 gC7 pC7 mC7 HB6 Htx6 Hux6 Hlx6 Hpx6 HgC6 HpC6 HmC
  have t0 := (unhide Htx7).c0
  have t1 := (unhide Htx7).c1
  have t2 := (unhide Htx7).c2
  have t3 := (unhide Htx7).c3
  have u0 := (unhide Hux7).c0
  have u1 := (unhide Hux7).c1
  have u2 := (unhide Hux7).c2
  have u3 := (unhide Hux7).c3
  have hc := (unhide H9) Wd (unhide HB7)
  go_wp2_with fail
  refine hc.mono ?_
  clear hc t0 t1 t2 t3 u0 u1 u2 u3
  rintro e W8 ⟨la2, ll2, lc2, rfl, hb8, nC⟩
  have hB8 := (unhide HB7).trans (hb8.mono (unhide HB7).size)
  have tx8 := (unhide Htx7).kept hb8
  have ux8 := (unhide Hux7).kept hb8
  have lx8 := (unhide Hlx7).kept hb8
  have px8 := (unhide Hpx7).kept hb8
  have gC8 := (unhide HgC7).below hb8
  have pC8 := (unhide HpC7).below hb8
  have mC8 := (unhide HmC7).below hb8
  have Htx8 := hide tx8
  have Hux8 := hide ux8
  have Hlx8 := hide lx8
  have Hpx8 := hide px8
  have HgC8 := hide gC8
  have HpC8 := hide pC8
  have HmC8 := hide mC8
  have HnC := hide nC
  have HB8 := hide hB8
  clear hb8 hB8 tx8 ux8 lx8 px8 gC8 pC8 mC8 nC HB7 Htx7 Hux7 Hlx7 Hpx7 HgC7 HpC7 HmC7
  have hc := sameMat (unhide HmC8) (unhide HnC)
  try simp only [TV.val] at hc
  go_wp2_with fail
  refine hc.mono ?_
  clear hc 
  rintro e W9 ⟨rfl, hb9⟩
  have hB9 := (unhide HB8).trans (hb9.mono (unhide HB8).size)
  have tx9 := (unhide Htx8).kept hb9
  have ux9 := (unhide Hux8).kept hb9
  have lx9 := (unhide Hlx8).kept hb9
  have px9 := (unhide Hpx8).kept hb9
  have gC9 := (unhide HgC8).below hb9
  have pC9 := (unhide HpC8).below hb9
  have mC9 := (unhide HmC8).below hb9
  have nC9 := (unhide HnC).below hb9
  have Htx9 := hide tx9
  have Hux9 := hide ux9
  have Hlx9 := hide lx9
  have Hpx9 := hide px9
  have HgC9 := hide gC9
  have HpC9 := hide pC9
  have HmC9 := hide mC9
  have HnC9 := hide nC9
  have HB9 := hide hB9
  clear hb9 hB9 tx9 ux9 lx9 px9 gC9 pC9 mC9 nC9 HB8 Htx8 Hux8 Hlx8 Hpx8 HgC8 HpC8 HmC8 HnC
  have t0 := (unhide Htx9).c0
  have t1 := (unhide Htx9).c1
  have t2 := (unhide Htx9).c2
  have t3 := (unhide Htx9).c3
  have hc := (unhide H10) W9 (unhide HB9)
  go_wp2_with fail
  refine hc.mono ?_
  clear hc t0 t1 t2 t3
  rintro e W10 ⟨hb10, zC⟩
  rcases unhide HpC9 with ⟨rfl, rfl, rfl⟩ | ⟨⟨d, rfl⟩, rfl, hx⟩
  · rcases zC with ⟨-, rfl⟩ | ⟨y', d', h, -⟩
    rotate_left
    · cases h
    simp only [TV.val, zeroT]
    have hbz : Below W10.heap.size W10 (W10.alloc (.cells #[.int .i64 0, .int .i64 0, .string ⟨#[]⟩, .slice none 0 0] 24)) := (Below.refl _ W10).alloc (Nat.le_refl _) _
    replace hb10 := hb10.trans (hbz.mono hb10.size)
    clear hbz
    have hB10 := (unhide HB9).trans (hb10.mono (unhide HB9).size)
    have tx10 := (unhide Htx9).kept hb10
    have ux10 := (unhide Hux9).kept hb10
    have lx10 := (unhide Hlx9).kept hb10
    have px10 := (unhide Hpx9).kept hb10
    have Htx10 := hide tx10
    have Hux10 := hide ux10
    have Hlx10 := hide lx10
    have Hpx10 := hide px10
    have HB10 := hide hB10
    clear hb10 hB10 tx10 ux10 lx10 px10 HB9 Htx9 Hux9 Hlx9 Hpx9
    have p0 := (unhide Hpx10).c0
    have p1 := (unhide Hpx10).c1
    have p2 := (unhide Hpx10).c2
    have p3 := (unhide Hpx10).c3
    simp only [zeroT] at p0 p1 p2 p3
    have hc := (unhide H12) (W10.alloc (.cells #[.int .i64 0, .int .i64 0, .string ⟨#[]⟩, .slice none 0 0] 24))
    go_wp2_with fail
    refine hc.mono ?_
    clear hc p0 p1 p2 p3
    rintro e W11 ⟨rfl, hb11⟩
    have hB11 := (unhide HB10).trans (hb11.mono (unhide HB10).size)
    have tx11 := (unhide Htx10).kept hb11
    have ux11 := (unhide Hux10).kept hb11
    have lx11 := (unhide Hlx10).kept hb11
    have px11 := (unhide Hpx10).kept hb11
    have Htx11 := hide tx11
    have Hux11 := hide ux11
    have Hlx11 := hide lx11
    have Hpx11 := hide px11
    have HB11 := hide hB11
    clear hb11 hB11 tx11 ux11 lx11 px11 HB10 Htx10 Hux10 Hlx10 Hpx10
    go_wp2_with fail
    exact bodyPost_ret (v := .bool true) (by simp [results, Tryz.results8, go_sem]) rfl ⟨rfl, unhide HB11⟩
  · rcases zC with ⟨h, -⟩ | ⟨y', d', h, rfl, -⟩
    · cases h
    clear h
    simp only [TV.val]
    have HPx := hide hx
    clear hx
    have hB10 := (unhide HB9).trans (hb10.mono (unhide HB9).size)
    have tx10 := (unhide Htx9).kept hb10
    have ux10 := (unhide Hux9).kept hb10
    have lx10 := (unhide Hlx9).kept hb10
    have px10 := (unhide Hpx9).kept hb10
    have pX10 := (unhide HPx).below hb10
    obtain ⟨W10a, hW10a⟩ : ∃ V, W10.alloc (.cells #[.int .i64 y'.k, .int .i64 y'.N, .string y'.s, .slice y'.a y'.len y'.cap] 24) = V := ⟨_, rfl⟩
    have hb10a : Below W10.heap.size W10 W10a := by rw [← hW10a]; exact (Below.refl _ W10).alloc (Nat.le_refl _) _
    replace hB10 := hB10.trans (hb10a.mono hB10.size)
    replace tx10 := tx10.kept hb10a
    replace ux10 := ux10.kept hb10a
    replace lx10 := lx10.kept hb10a
    replace px10 := px10.kept hb10a
    replace pX10 := pX10.below hb10a
    have zx10 : BoxT W10a W10.heap.size y' := by rw [← hW10a]; exact World.alloc_heap_new W10 _
    clear hb10a
    have Htx10 := hide tx10
    have Hux10 := hide ux10
    have Hlx10 := hide lx10
    have Hpx10 := hide px10
    have HpX10 := hide pX10
    have Hzx10 := hide zx10
    have HB10 := hide hB10
    clear hb10 hB10 tx10 ux10 lx10 px10 pX10 zx10 HB9 Htx9 Hux9 Hlx9 Hpx9 HPx
    have t0 := (unhide Htx10).c0
    have t1 := (unhide Htx10).c1
    have t2 := (unhide Htx10).c2
    have t3 := (unhide Htx10).c3
    have u0 := (unhide Hux10).c0
    have u1 := (unhide Hux10).c1
    have u2 := (unhide Hux10).c2
    have u3 := (unhide Hux10).c3
    have p0 := (unhide Hpx10).c0
    have p1 := (unhide Hpx10).c1
    have p2 := (unhide Hpx10).c2
    have p3 := (unhide Hpx10).c3
    have hdr : Below W10a.heap.size W10a W10a.drew := (Below.refl _ W10a).drew
    have hq1 := ((unhide H11) W10a.drew ((unhide HB10).drew) ⟨d, rfl⟩).mono (R' := fun e W2 => ∃ z : TV, e = .returned z.val ∧ Below W10a.heap.size W10a W2 ∧ Calls Tryz.prog 41 #[p.val, z.val] W2 fun e W3 => e = .returned (.bool true) ∧ Below W10a.heap.size W10a W3) (fun e W2 h => by
      obtain ⟨z, g1, g2, g3⟩ := h
      have g2' := hdr.trans g2
      exact ⟨z, g1, g2', (same_c ((unhide HpX10).below g2') g3).mono fun e W3 h => ⟨h.1.trans (by simp), g2'.trans (h.2.mono g2'.size)⟩⟩)
    simp only [TV.val] at hq1
    have hy0 : w.heap.size < W10a.heap.size := (unhide Htx10).lt
    have hy1 : w.heap.size + 1 < W10a.heap.size := (unhide Hux10).lt
    have hy2 : W5.heap.size < W10a.heap.size := (unhide Hpx10).lt
    clear hdr
    go_wp2_with fail
    go_region_held3 (fun w' => w'.cell? ⟨W5.heap.size, 0, none⟩ = some (.int .i64 p.k) ∧ w'.cell? ⟨W5.heap.size, 1, none⟩ = some (.int .i64 p.N) ∧ w'.cell? ⟨W5.heap.size, 2, none⟩ = some (.string p.s) ∧ w'.cell? ⟨W5.heap.size, 3, none⟩ = some (.slice p.a p.len p.cap) ∧ w'.cell? ⟨w.heap.size, 0, none⟩ = some (.int .i64 t.tv.k) ∧ w'.cell? ⟨w.heap.size, 1, none⟩ = some (.int .i64 t.tv.N) ∧ w'.cell? ⟨w.heap.size, 2, none⟩ = some (.string t.tv.s) ∧ w'.cell? ⟨w.heap.size, 3, none⟩ = some (.slice t.tv.a t.tv.len t.tv.cap) ∧ w'.cell? ⟨w.heap.size + 1, 0, none⟩ = some (.int .i64 u.tv.k) ∧ w'.cell? ⟨w.heap.size + 1, 1, none⟩ = some (.int .i64 u.tv.N) ∧ w'.cell? ⟨w.heap.size + 1, 2, none⟩ = some (.string u.tv.s) ∧ w'.cell? ⟨w.heap.size + 1, 3, none⟩ = some (.slice u.tv.a u.tv.len u.tv.cap)) (go_keep) (first | (go_at_call 50; refine hq1.mono ?_; clear hq1; rintro e Wx ⟨z, rfl, hbx, hq2⟩; have hbc := bcell hbx) | (go_at_call 41; refine hq2.mono ?_; clear hq2; rintro e Wy ⟨rfl, hby⟩; have hbd := bcell hby))
    clear hbc hbd
    have HBY := hide ((unhide HB10).trans (hby.mono (unhide HB10).size))
    clear hbx hby
    go_wp2_with fail
    exact bodyPost_ret (v := .bool true) (by simp [results, Tryz.results8, go_sem]) rfl ⟨rfl, unhide HBY⟩
end Go.Proofs.YtcjeeagnfmipgaaGreatDoor

