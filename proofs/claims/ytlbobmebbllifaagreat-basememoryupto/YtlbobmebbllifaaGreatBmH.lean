import Derived.Test.YtlbobmebbllifaaGreatArYcs
import Derived.Test.YtlbobmebbllifaaGreatBcKs
import Derived.Deep.CutRange
/- The law BaseMemory. -/
namespace Go.Proofs.YtlbobmebbllifaaGreat
open Go.RowKit Go.Shelf Go.Maps
set_option maxRecDepth 100000 in
set_option maxHeartbeats 8000000 in
theorem baseMemory_any {n : Nat} (la : Option Addr) (ll lc : Nat) (kl : List (Tm (n + 1))) (tg : Tm (n + 1)) (W : World) (hl : RowT W.heap.size W la ll kl) (hT : IsT W.heap.size W tg)
  (fl : ∀ u ∈ kl, (code u).length ≤ 1048576 ∧ numC (code u)) (bl : ll ≤ 1048576) (hn : numC (code tg)) (hlg : (code tg).length ≤ 1048576) (hn20 : n ≤ 1048576 := by omega) :
  Calls Tryz.prog 3 #[.slice la ll lc, tg.tv.val] W fun e W' => e = .returned (.bool true) ∧ Below W.heap.size W W' := by
 obtain ⟨W1, eW1, gW1, lW1, bt⟩ : ∃ V', W.alloc (.cells #[.int .i64 tg.tv.k, .int .i64 tg.tv.N, .string tg.tv.s, .slice tg.tv.a tg.tv.len tg.tv.cap] 24) = V' ∧ Below W.heap.size W V' ∧ V'.heap.size = W.heap.size + 1 ∧ BoxT V' W.heap.size tg.tv := ⟨_, rfl, (Below.refl _ _).alloc (Nat.le_refl _) _, by simp, BoxT.new W tg.tv⟩
 have HW : Hid (∀ V, Below W1.heap.size W1 V → Below W.heap.size W V ∧ BoxT V W.heap.size tg.tv) := fun V hb => ⟨gW1.trans (hb.mono (by omega)), bt.below hb (by omega)⟩
 have HT : Hid (∀ V, Below W1.heap.size W1 V → IsT V.heap.size V tg) := fun V hb => (hT.below (HW.out V hb).1).mono (HW.out V hb).1.size
 have HL : Hid (∀ j, j < ll → ∃ (u : Tm (n + 1)) (b off : Nat), la = some ⟨b, off, none⟩ ∧ ((code u).length ≤ 1048576 ∧ numC (code u)) ∧ ∀ V, Below W1.heap.size W1 V → cellsAt V b (off + j * 4) u.tv ∧ IsT V.heap.size V u) := fun j hj => by
  obtain ⟨u, b, off, k1, k2, k3⟩ := rowT_all hl hj
  exact ⟨u, b, off, k2, fl u (List.mem_of_getElem? k1), fun V hb => k3 V (HW.out V hb).1⟩
 have HNUM := hide hn
 have HLG := hide hlg
 clear hl hT fl hn gW1 bt hlg
 have h1 := thereBase_any baseOps 0 W1 trivial (Nat.zero_le _)
 have hl1 := hide lW1
 clear lW1
 simp only [TV.val]
 go_enter Tryz.func3, Tryz.ntmps3
 go_wp2_with fail
 try rw [eW1]
 refine h1.mono ?_
 clear h1 eW1
 rintro e V1 ⟨rfl, g1⟩
 have h2 := stS_new (W := V1)
 have G1 := hide g1
 clear g1
 go_wp2_with fail
 refine h2.mono ?_
 clear h2
 rintro e V2 ⟨b, rfl, g2, M2, O2, m1, m2, m3⟩
 have h3 := stS_new2 (n₀ := W1.heap.size) (W₁ := W1) (V := V2) (b := b) (Nat.le_trans (unhide G1).size g2.size) ((unhide G1).trans (g2.mono (unhide G1).size)) ⟨M2, O2, fun k hk => Nat.le_trans (unhide G1).size (m1 k hk), m2, m3⟩
 clear g2 m1 m2 m3 G1
 go_wp2_with fail
 refine h3.mono ?_
 clear h3
 rintro e V3 ⟨u, rfl, S3⟩
 have HS3 := hide S3
 clear S3
 go_wp2_with fail
 go_loopw [41] (fun i wr => ∃ (j : Nat) (laid : Int) (Eb Eu : List En), j ≤ ll ∧ i = .int .i64 j ∧ laid ≤ j ∧ SameE Eb Eu ∧ StS W1.heap.size W1 b u laid laid Eb Eu (fun _ => False) wr) (fun i _ => ll - (intOf i).toNat)
 case atStart => exact ⟨0, 0, [], [], Nat.zero_le _, rfl, by simp, rfl, unhide HS3⟩
 case round =>
  clear HS3
  obtain ⟨j, laid, Eb, Eu, hj, rfl, hlaid, hEE, S⟩ := hrel
  have HSb : Hid (Below W1.heap.size W1 wr) := S.low.1
  have HLJ : Hid (laid ≤ (j : Int) ∧ SameE Eb Eu) := ⟨hlaid, hEE⟩
  clear hlaid hEE
  have HS := hide S
  clear S
  by_cases hlt : j < ll
  ·obtain ⟨t, kb, off, rfl, hF, hAt⟩ := HL.out j hlt
   obtain ⟨⟨c0, c1, c2, c3⟩, hTt⟩ := hAt wr HSb.out
   have hwt := hTt.wl
   have how := own_any _ t wr hTt (fun x hx => Nat.le_trans (wideLen hwt x hx) (by omega))
   have HAT := hide hAt
   have HF := hide hF
   have HWT := hide hwt
   clear hTt hF hwt hAt
   have hj1 : (j : Int) < ll := by omega
   simp only [TV.val] at how
   go_wp2_with fail
   refine how.mono ?_
   clear how c0 c1 c2 c3
   rintro e V4 ⟨x, rfl, g4, ox, cx⟩
   obtain ⟨U4, eU4, gU4, lU4, bx4⟩ : ∃ V', V4.alloc (.cells #[.int .i64 x.tv.k, .int .i64 x.tv.N, .string x.tv.s, .slice x.tv.a x.tv.len x.tv.cap] 24) = V' ∧ Below V4.heap.size V4 V' ∧ V'.heap.size = V4.heap.size + 1 ∧ BoxT V' V4.heap.size x.tv := ⟨_, rfl, (Below.refl _ _).alloc (Nat.le_refl _) _, by simp, BoxT.new V4 x.tv⟩
   have hmk := bmake_new x U4 ((ox.is.below gU4).mono gU4.size) (by rw [cx]; have := (unhide HF).1; omega)
   rw [makeR_copy ox.is.wl (unhide HWT) cx] at hmk
   have x0 := bx4.c0
   have x1 := bx4.c1
   have x2 := bx4.c2
   have x3 := bx4.c3
   have H4 := hide (And.intro ox (And.intro g4 (And.intro gU4 (And.intro lU4 bx4))))
   have HCX := hide cx
   clear ox g4 gU4 lU4 bx4 cx
   simp only [TV.val, clV] at hmk
   dsimp only [TV.val]
   by_cases hz : (makeR t).1 = 0
   ·have HZ := hide hz
    rw [hz] at hmk
    go_wp2_with fail
    try rw [eU4]
    refine hmk.mono ?_
    clear hmk x0 x1 x2 x3 eU4
    rintro e V5 ⟨⟨D5, x5, y5, rfl, q5, r5⟩, g5⟩
    obtain ⟨U5, eU5, gU5, lU5, bx5⟩ : ∃ V', V5.alloc (.cells #[.int .i64 x5.k, .int .i64 x5.N, .string x5.s, .slice x5.a x5.len x5.cap, .int .i64 y5.k, .int .i64 y5.N, .string y5.s, .slice y5.a y5.len y5.cap] 30) = V' ∧ Below V5.heap.size V5 V' ∧ V5.heap.size + 1 ≤ V'.heap.size ∧ BoxC V' V5.heap.size x5 y5 := ⟨_, rfl, (Below.refl _ _).alloc (Nat.le_refl _) _, by simp, BoxC.new V5 x5 y5⟩
    have H5 := hide (And.intro q5 (And.intro r5 (And.intro g5 (And.intro gU5 (And.intro lU5 bx5)))))
    have hb5 : Below W1.heap.size W1 U5 := by
     obtain ⟨-, g4, gU4, lU4, -⟩ := unhide H4
     have s4 := g4.size
     have s5 := g5.size
     have s0 := HSb.out.size
     exact ((HSb.out.trans (g4.mono s0)).trans (gU4.mono (by omega))).trans ((g5.trans (gU5.mono s5)).mono (by omega))
    have hmk := bmake_new t U5 ((unhide HAT) U5 hb5).2 (by have := (unhide HF).1; omega)
    obtain ⟨k0, k1, k2, k3⟩ := ((unhide HAT) U5 hb5).1
    rw [hz] at hmk
    clear q5 r5 g5 gU5 lU5 bx5 hb5 hz
    simp only [TV.val, clV] at hmk
    dsimp only [clV]
    go_wp2_with fail
    try rw [eU5]
    go_wp2_with fail
    refine hmk.mono ?_
    clear hmk k0 k1 k2 k3 eU5
    rintro e V6 ⟨⟨D6, x6, y6, rfl, q6, r6⟩, g6⟩
    obtain ⟨U6, eU6, gU6, lU6, bx6⟩ : ∃ V', V6.alloc (.cells #[.int .i64 x6.k, .int .i64 x6.N, .string x6.s, .slice x6.a x6.len x6.cap, .int .i64 y6.k, .int .i64 y6.N, .string y6.s, .slice y6.a y6.len y6.cap] 30) = V' ∧ Below V6.heap.size V6 V' ∧ V6.heap.size + 1 ≤ V'.heap.size ∧ BoxC V' V6.heap.size x6 y6 := ⟨_, rfl, (Below.refl _ _).alloc (Nat.le_refl _) _, by simp, BoxC.new V6 x6 y6⟩
    obtain ⟨ox, g4, gU4, lU4, bx4⟩ := unhide H4
    obtain ⟨q5, r5, g5, gU5, lU5, bx5⟩ := unhide H5
    obtain ⟨gW6, K6⟩ := itk_new ox g4 gU4 lU4 bx4 g5 q5 r5 gU5 lU5 bx5 g6 q6 r6 gU6 lU6 bx6
    have S6 := (unhide HS).more gW6
    clear ox g4 gU4 lU4 bx4 q5 r5 g5 gU5 lU5 bx5 q6 r6 g6 gU6 lU6 bx6 H4 H5 HS
    generalize (fun k => False ∨ (wr.heap.size ≤ k ∧ k < U6.heap.size ∧ NoFix U6 k)) = Sp at S6 K6
    generalize V4.heap.size = X at K6 ⊢
    generalize V5.heap.size = C at K6 ⊢
    have hbig : laid < 1099511627776 := by have := HLJ.out.1; omega
    have ha := S6.add hbig t (unhide HWT) (unhide HF).1 (unhide HF).2 (unhide HZ) K6.hc.s K6.hb.s
    obtain ⟨⟨k0, k1, k2, k3⟩, k4, k5, k6, k7⟩ := K6.bc.cs
    have HK6 := hide K6
    clear S6 K6 gW6
    simp only [clV] at ha
    dsimp only [clV]
    go_wp2_with fail
    try rw [eU6]
    go_wp2_with fail
    refine ha.mono ?_
    clear ha eU6 k0 k1 k2 k3 k4 k5 k6 k7
    rintro e V7 ⟨⟨v7, rfl⟩, ⟨z7, hz7, S7⟩, kp7, sz7⟩
    have K7 := (unhide HK6).kept kp7 sz7
    have ha := S7.swap.add hbig t (unhide HWT) (unhide HF).1 (unhide HF).2 (unhide HZ) K7.hd.s K7.he.s
    obtain ⟨⟨k0, k1, k2, k3⟩, k4, k5, k6, k7⟩ := K7.bd.cs
    have HK7 := hide K7
    have HB := hide hbig
    clear S7 K7 kp7 sz7 HK6 hbig
    simp only [clV] at ha
    go_wp2_with fail
    refine ha.mono ?_
    clear ha k0 k1 k2 k3 k4 k5 k6 k7
    rintro e V8 ⟨⟨v8, rfl⟩, ⟨z8, hz8, S8⟩, kp8, sz8⟩
    have K8 := (unhide HK7).kept kp8 sz8
    have hEE' : SameE (insE Eb z7) (insE Eu z8) := HLJ.out.2.ins (hz7.trans hz8.symm)
    have HS8 : Hid (StS W1.heap.size W1 b u (laid + 1) (laid + 1) (insE Eb z7) (insE Eu z8) Sp V8) := hide S8.swap
    have HEE := hide hEE'
    clear S8 kp8 sz8 HK7 hEE' hz7 hz8
    have hp := made_plain t (unhide HWT) (unhide HF).1 (unhide HZ) K8.hc.s K8.hb.s
    obtain ⟨⟨k0, k1, k2, k3⟩, k4, k5, k6, k7⟩ := K8.bc.cs
    have HK8 := hide K8
    clear K8
    simp only [clV] at hp
    go_wp2_with fail
    refine hp.mono ?_
    clear hp k0 k1 k2 k3 k4 k5 k6 k7
    rintro e V9 ⟨p9, r9, D9, c9, rfl, d9, q9, w9, g9⟩
    obtain ⟨U9, eU9, gU9, lU9, bx9⟩ : ∃ V', V9.alloc (.cells #[.int .i64 p9.k, .int .i64 p9.N, .string p9.s, .slice p9.a p9.len p9.cap] 24) = V' ∧ Below V9.heap.size V9 V' ∧ V'.heap.size = V9.heap.size + 1 ∧ BoxT V' V9.heap.size p9 := ⟨_, rfl, (Below.refl _ _).alloc (Nat.le_refl _) _, by simp, BoxT.new V9 p9⟩
    have gg9 : Below V8.heap.size V8 U9 := g9.trans (gU9.mono g9.size)
    have S9 := (unhide HS8).more gg9
    have hcan : CanSp (fun k => V8.heap.size ≤ k ∧ k < U9.heap.size ∧ NoFix U9 k) U9 p9.val := (((q9.below gU9).nofix).mono (Nat.le_refl _) (fun k hk => hk)).can d9 w9
    have hsp := hcan.call (fun k hk => hk.2.1)
    have K9 := (unhide HK8).below gg9
    have HSZ : Hid (∀ k, Sp k → k < V8.heap.size) := (unhide HK8).sz
    have p0 := bx9.c0
    have p1 := bx9.c1
    have p2 := bx9.c2
    have p3 := bx9.c3
    have HS9 := hide S9
    have HK9 := hide K9
    clear S9 K9 hcan q9 w9 g9 gU9 lU9 bx9 gg9 HS8 HK8 d9
    simp only [TV.val] at hsp
    dsimp only [TV.val]
    go_wp2_with fail
    try rw [eU9]
    go_wp2_with fail
    refine hsp.mono ?_
    clear hsp p0 p1 p2 p3 eU9
    rintro e V10 ⟨rfl, sp⟩
    have S10 := (unhide HS9).spoil sp (fun k hk => .inr hk)
    have K10 := (unhide HK9).kept (fun k hk => sp.other k ((unhide HK9).sz k hk) (fun hs => by have := (unhide HSZ) k hk; have := hs.1; omega)) sp.size
    have hlow := S10.low.1
    obtain ⟨⟨c0, c1, c2, c3⟩, hTt⟩ := (unhide HAT) V10 hlow
    have ST1 : Hid (∀ W, Below V10.heap.size V10 W → Calls Tryz.prog 11 #[x.tv.val, t.tv.val] W fun e W' => e = .returned (.bool true) ∧ Below V10.heap.size V10 W') := hide fun W hb => by
     have k := K10.below hb
     exact (stillM (lo := 0) ⟨k.is, k.rm, k.is.blk.mono fun _ _ => Nat.zero_le _⟩ ((hTt.below hb).mono hb.size) (unhide HCX) (by have := (unhide HF).1; omega)).mono fun e W' h => ⟨h.1, hb.trans (h.2.mono hb.size)⟩
    have ST2 : Hid (∀ W, Below V10.heap.size V10 W → Calls Tryz.prog 12 #[x5.val, x6.val] W fun e W' => e = .returned (.bool true) ∧ Below V10.heap.size V10 W') := hide fun W hb => by
     have k := K10.below hb
     exact (same_ll k.hc.s k.hd.s (by have := D5.2; omega) (by have := D6.2; omega)).mono fun e W' h => ⟨h.1, hb.trans (h.2.mono hb.size)⟩
    have ST3 : Hid (∀ W, Below V10.heap.size V10 W → Calls Tryz.prog 12 #[y5.val, y6.val] W fun e W' => e = .returned (.bool true) ∧ Below V10.heap.size V10 W') := hide fun W hb => by
     have k := K10.below hb
     exact (same_ll k.hb.s k.he.s (by have := D5.2; omega) (by have := D6.2; omega)).mono fun e W' h => ⟨h.1, hb.trans (h.2.mono hb.size)⟩
    obtain ⟨⟨k0, k1, k2, k3⟩, k4, k5, k6, k7⟩ := K10.bc.cs
    obtain ⟨⟨l0, l1, l2, l3⟩, l4, l5, l6, l7⟩ := K10.bd.cs
    have x0 := K10.bx.c0
    have x1 := K10.bx.c1
    have x2 := K10.bx.c2
    have x3 := K10.bx.c3
    have hXl := K10.bx.lt
    have hCl := K10.bc.lt
    have hQl := K10.bd.lt
    have hkl := cell_lt c0
    have HS10 := hide S10
    have HK10 := hide K10
    clear S10 K10 hTt hlow sp HS9 HK9 HSZ
    simp only [TV.val] at ST1 ST2 ST3
    dsimp only [TV.val]
    go_wp2_with fail
    go_region_held3 (fun w' => w'.cell? ⟨X, 0, none⟩ = some (.int .i64 x.tv.k) ∧ w'.cell? ⟨X, 1, none⟩ = some (.int .i64 x.tv.N) ∧ w'.cell? ⟨X, 2, none⟩ = some (.string x.tv.s) ∧ w'.cell? ⟨X, 3, none⟩ = some (.slice x.tv.a x.tv.len x.tv.cap) ∧ w'.cell? ⟨kb, off + j * 4, none⟩ = some (.int .i64 t.tv.k) ∧ w'.cell? ⟨kb, off + j * 4 + 1, none⟩ = some (.int .i64 t.tv.N) ∧ w'.cell? ⟨kb, off + j * 4 + 2, none⟩ = some (.string t.tv.s) ∧ w'.cell? ⟨kb, off + j * 4 + 3, none⟩ = some (.slice t.tv.a t.tv.len t.tv.cap) ∧ w'.cell? ⟨C, 0, none⟩ = some (.int .i64 x5.k) ∧ w'.cell? ⟨C, 1, none⟩ = some (.int .i64 x5.N) ∧ w'.cell? ⟨C, 2, none⟩ = some (.string x5.s) ∧ w'.cell? ⟨C, 3, none⟩ = some (.slice x5.a x5.len x5.cap) ∧ w'.cell? ⟨C, 4, none⟩ = some (.int .i64 y5.k) ∧ w'.cell? ⟨C, 5, none⟩ = some (.int .i64 y5.N) ∧ w'.cell? ⟨C, 6, none⟩ = some (.string y5.s) ∧ w'.cell? ⟨C, 7, none⟩ = some (.slice y5.a y5.len y5.cap) ∧ w'.cell? ⟨V6.heap.size, 0, none⟩ = some (.int .i64 x6.k) ∧ w'.cell? ⟨V6.heap.size, 1, none⟩ = some (.int .i64 x6.N) ∧ w'.cell? ⟨V6.heap.size, 2, none⟩ = some (.string x6.s) ∧ w'.cell? ⟨V6.heap.size, 3, none⟩ = some (.slice x6.a x6.len x6.cap) ∧ w'.cell? ⟨V6.heap.size, 4, none⟩ = some (.int .i64 y6.k) ∧ w'.cell? ⟨V6.heap.size, 5, none⟩ = some (.int .i64 y6.N) ∧ w'.cell? ⟨V6.heap.size, 6, none⟩ = some (.string y6.s) ∧ w'.cell? ⟨V6.heap.size, 7, none⟩ = some (.slice y6.a y6.len y6.cap)) (go_keep)
     (first | (go_at_call 11; refine (ST1.out _ (Below.refl _ V10).drew).mono ?_; clear ST1; rintro e Z1 ⟨rfl, hc1⟩; have kk1 := bcell hc1) | (go_at_call 12; refine (ST2.out Z1 hc1).mono ?_; clear ST2; rintro e Z2 ⟨rfl, hc2⟩; have kk2 := bcell hc2) | (go_at_call 12; refine (ST3.out Z2 hc2).mono ?_; clear ST3; rintro e Z3 ⟨rfl, hc3⟩; have kk3 := bcell hc3))
    have S13 := ((unhide HS10).below hc3).less (Sp' := Sp) (fun _ h => .inl h)
    have K13 := (unhide HK10).below hc3
    obtain ⟨wh, wb⟩ := made_wide t (unhide HWT) (unhide HF).1 (unhide HZ)
    have hsp := K13.canX.call (fun k hk => K13.is.blks_lt k hk)
    have hD5 : D5.1 ≤ 2199023255552 := by have := D5.2; omega
    have c1 := K13.hc.can hD5 wh
    have c2 := K13.hb.can hD5 wb
    have hlt13 := K13.lt.1
    have hsc : ∀ k, X < k ∧ k < C ∧ Sp k → k < Z3.heap.size := fun k hk => K13.sz k hk.2.2
    have hxx : ∀ k ∈ blks x, k < X ∧ Sp k := K13.xb
    have hbc := K13.bc
    have x0 := K13.bx.c0
    have x1 := K13.bx.c1
    have x2 := K13.bx.c2
    have x3 := K13.bx.c3
    have HC := hide (And.intro S13 (And.intro c1 (And.intro c2 (And.intro hlt13 (And.intro hsc (And.intro hxx hbc))))))
    clear S13 K13 wh wb hD5 c1 c2 hlt13 hsc hxx hbc HS10 HK10 hc1 hc2 hc3 kk1 kk2 kk3 k0 k1 k2 k3 k4 k5 k6 k7 l0 l1 l2 l3 l4 l5 l6 l7 c0 c3 hXl hCl hQl hkl
    simp only [TV.val] at hsp
    go_wp2_with fail
    refine hsp.mono ?_
    clear hsp x0 x1 x2 x3
    rintro e V14 ⟨rfl, sp⟩
    obtain ⟨S13, c1, c2, hlt13, hsc, hxx, hbc⟩ := unhide HC
    have S14 := S13.spoil sp (fun k hk => (hxx k hk).2)
    have d1 := c1.kept (V' := V14) (fun k hk => sp.other k (hsc k hk) (fun h => by have := (hxx k h).1; omega)) sp.size
    have d2 := c2.kept (V' := V14) (fun k hk => sp.other k (hsc k hk) (fun h => by have := (hxx k h).1; omega)) sp.size
    have hbc14 : BoxC V14 C x5 y5 := (sp.other C hbc.lt (fun h => by have := (hxx C h).1; omega)).trans hbc
    have hsc14 : ∀ k, X < k ∧ k < C ∧ Sp k → k < V14.heap.size := fun k hk => Nat.lt_of_lt_of_le (hsc k hk) sp.size
    have hsp := d1.call hsc14
    obtain ⟨⟨k0, k1, k2, k3⟩, k4, k5, k6, k7⟩ := hbc14.cs
    have HC14 := hide (And.intro S14 (And.intro d2 (And.intro hsc14 hbc14)))
    clear S13 c1 c2 hlt13 hsc hxx hbc HC sp S14 d1 d2 hsc14 hbc14
    simp only [TV.val] at hsp
    go_wp2_with fail
    refine hsp.mono ?_
    clear hsp k0 k1 k2 k3 k4 k5 k6 k7
    rintro e V15 ⟨rfl, sp⟩
    obtain ⟨S14, d2, hsc14, hbc14⟩ := unhide HC14
    have S15 := S14.spoil sp (fun k hk => hk.2.2)
    have d3 := d2.spoilt sp
    have hbc15 : BoxC V15 C x5 y5 := (sp.other C hbc14.lt (fun h => by have := h.2.1; omega)).trans hbc14
    have hsp := d3.call (fun k hk => Nat.lt_of_lt_of_le (hsc14 k hk) sp.size)
    obtain ⟨⟨k0, k1, k2, k3⟩, k4, k5, k6, k7⟩ := hbc15.cs
    have HC15 := hide S15
    clear S14 d2 hsc14 hbc14 HC14 sp S15 d3 hbc15
    simp only [TV.val] at hsp
    go_wp2_with fail
    refine hsp.mono ?_
    clear hsp k0 k1 k2 k3 k4 k5 k6 k7
    rintro e V16 ⟨rfl, sp⟩
    have HS16 : Hid (StS W1.heap.size W1 b u (laid + 1) (laid + 1) (insE Eb z7) (insE Eu z8) (fun _ => False) V16) := hide (((unhide HC15).spoil sp (fun k hk => hk.2.2)).less (fun _ h => h.elim))
    clear sp HC15
    go_wp2_with fail
    go_roundw
    case rel => exact ⟨j + 1, laid + 1, _, _, by omega, by go_num, by have := HLJ.out.1; omega, unhide HEE, unhide HS16⟩
    case measure => simp [intOf]; omega
   ·have hne' : ((makeR t).1 == 0) = false := by simpa using hz
    have hne'' : ((makeR t).1 != 0) = true := by simpa using hz
    generalize makeR t = mr at hmk hne' hne'' hz
    obtain ⟨mr1, mr2⟩ := mr
    simp only at hmk hne' hne'' hz
    go_wp2_with fail
    try rw [eU4]
    refine hmk.mono ?_
    clear hmk x0 x1 x2 x3 eU4
    rintro e V5 ⟨⟨D5, x5, y5, rfl, q5, r5⟩, g5⟩
    obtain ⟨U5, eU5, gU5⟩ : ∃ V', V5.alloc (.cells #[.int .i64 x5.k, .int .i64 x5.N, .string x5.s, .slice x5.a x5.len x5.cap, .int .i64 y5.k, .int .i64 y5.N, .string y5.s, .slice y5.a y5.len y5.cap] 30) = V' ∧ Below V5.heap.size V5 V' := ⟨_, rfl, (Below.refl _ _).alloc (Nat.le_refl _) _⟩
    have HS7 : Hid (StS W1.heap.size W1 b u laid laid Eb Eu (fun _ => False) U5) := by
     obtain ⟨-, g4, gU4, lU4, -⟩ := unhide H4
     have s4 := g4.size
     have s5 := g5.size
     exact (unhide HS).below ((g4.trans (gU4.mono s4)).trans ((g5.trans (gU5.mono s5)).mono (by omega)))
    clear q5 r5 g5 gU5 HS H4
    dsimp only [clV]
    go_wp2_with fail
    try rw [eU5]
    go_wp2_with fail
    go_roundw
    case rel => exact ⟨j + 1, laid, Eb, Eu, by omega, by go_num, by have := HLJ.out.1; omega, HLJ.out.2, unhide HS7⟩
    case measure => simp [intOf]; omega
  ·have HBIG : Hid (laid ≤ 1048576) := by have := HLJ.out.1; show laid ≤ 1048576; omega
   have HEE : Hid (SameE Eb Eu) := HLJ.out.2
   have HB0 : Hid (laid ≤ 1048576) := HBIG
   have hj1 : ¬ ((j : Int) < ll) := by omega
   clear HL HLJ HSb
   have hlow := (unhide HS).low.1
   have hTt := HT.out wr hlow
   have how := own_any _ tg wr hTt (fun x hx => Nat.le_trans (wideLen hTt.wl x hx) (by have := HLG.out; omega))
   have bg := (HW.out wr hlow).2
   have g0 := bg.c0
   have g1 := bg.c1
   have g2 := bg.c2
   have g3 := bg.c3
   clear bg hTt hlow
   simp only [TV.val] at how
   go_wp2_with fail
   refine how.mono ?_
   clear how g0 g1 g2 g3
   rintro e V4 ⟨x, rfl, g4, ox, cx⟩
   obtain ⟨U4, eU4, gU4, lU4, bx4⟩ : ∃ V', V4.alloc (.cells #[.int .i64 x.tv.k, .int .i64 x.tv.N, .string x.tv.s, .slice x.tv.a x.tv.len x.tv.cap] 24) = V' ∧ Below V4.heap.size V4 V' ∧ V'.heap.size = V4.heap.size + 1 ∧ BoxT V' V4.heap.size x.tv := ⟨_, rfl, (Below.refl _ _).alloc (Nat.le_refl _) _, by simp, BoxT.new V4 x.tv⟩
   have ox4 := ox.below gU4
   have gg4 : Below wr.heap.size wr U4 := g4.trans (gU4.mono g4.size)
   obtain ⟨Sp, S4, hxs⟩ : ∃ Sp, StS W1.heap.size W1 b u laid laid Eb Eu Sp U4 ∧ ∀ k ∈ blks x, k < V4.heap.size ∧ Sp k := ⟨_, (unhide HS).more gg4, fun k hk => ⟨ox.is.blks_lt k hk, .inr ⟨blk_in ox4.is ox4.blk k hk, ox4.is.blks_lt k hk, (spT_owned ox4.is ox4.rm).nofix k hk ox4.is⟩⟩⟩
   have HX4 := hide (And.intro ox4 (And.intro bx4 hxs))
   have hTx := ox4.is
   have x0 := bx4.c0
   have x1 := bx4.c1
   have x2 := bx4.c2
   have x3 := bx4.c3
   have HS4 := hide S4
   have hokx : okT x = okT tg := by rw [okT_m, okT_m, cx]
   have hndx : x.tv.k = tg.tv.k := by
    have e4 := cx
    obtain ⟨q, kq⟩ := x
    obtain ⟨q', kq'⟩ := tg
    rw [code_succ, code_succ] at e4
    exact (nd_parts (List.cons.inj e4).1).1
   have HCX := hide cx
   clear ox g4 gU4 lU4 bx4 ox4 gg4 S4 hxs cx HS
   cases hok : okT tg with
   | false =>
    have hv := view_bad b x U4 hTx (hokx.trans hok)
    have HK := hide hok
    clear hTx hokx hok hndx
    simp only [TV.val] at hv
    dsimp only [TV.val]
    go_wp2_with fail
    try rw [eU4]
    go_wp2_with fail
    refine hv.mono ?_
    clear hv x0 x1 x2 x3 eU4
    rintro e V5 ⟨rfl, g5⟩
    have S5 := (unhide HS4).below g5
    have hv := view_bad u tg V5 (HT.out V5 S5.low.1) (unhide HK)
    have bg := (HW.out V5 S5.low.1).2
    have g0 := bg.c0
    have g1 := bg.c1
    have g2 := bg.c2
    have g3 := bg.c3
    obtain ⟨ox, bx, hxs⟩ := unhide HX4
    have HX5 := hide (And.intro (ox.below g5) (And.intro (bx.below g5 bx.lt) hxs))
    have HS5 := hide S5
    clear bg g5 S5 ox bx hxs HX4 HS4
    simp only [TV.val] at hv
    go_wp2_with fail
    refine hv.mono ?_
    clear hv g0 g1 g2 g3
    rintro e V6 ⟨rfl, g6⟩
    have S6 := (unhide HS5).below g6
    obtain ⟨ox, bx, hxs⟩ := unhide HX5
    have ox6 := ox.below g6
    have bx6 := bx.below g6 bx.lt
    have hsp := ox6.can.call (fun k hk => ox6.is.blks_lt k hk)
    have x0 := bx6.c0
    have x1 := bx6.c1
    have x2 := bx6.c2
    have x3 := bx6.c3
    have HS6 := hide S6
    have HXS := hide hxs
    clear ox bx bx6 ox6 hxs S6 g6 HX5 HS5
    simp only [TV.val] at hsp
    go_wp2_with fail
    refine hsp.mono ?_
    clear hsp x0 x1 x2 x3
    rintro e V7 ⟨rfl, sp⟩
    have S7 := (unhide HS6).spoil sp (fun k hk => ((unhide HXS) k hk).2)
    have hal := S7.all (unhide HBIG)
    have HS7 := hide S7
    clear S7 sp HS6 HXS
    go_wp2_with fail
    refine hal.mono ?_
    clear hal
    rintro e V8 ⟨v8, ns8, rfl, q8, l8, g8⟩
    have hsp := spoiltN_own q8 l8 g8.size
    have HG8 := hide g8
    clear q8 l8 g8
    go_wp2_with fail
    refine hsp.mono ?_
    clear hsp
    rintro e V9 ⟨rfl, g9⟩
    have S9 := (unhide HS7).below ((unhide HG8).trans g9)
    clear g9 HG8 HS7
    have HB9 : Hid (Below W1.heap.size W1 V9) := S9.low.1
    clear S9
    go_wp2_with fail
    go_loopw [] (fun wr => Below W1.heap.size W1 wr) (fun _ => 0)
    case atStart => exact HB9.out
    case round =>
     have HBr : Hid (Below W1.heap.size W1 wr) := hrel
     clear hrel HB9
     have hTt := HT.out wr HBr.out
     have how := own_any _ tg wr hTt (fun x hx => Nat.le_trans (wideLen hTt.wl x hx) (by have := HLG.out; omega))
     have bg := (HW.out wr HBr.out).2
     have g0 := bg.c0
     have g1 := bg.c1
     have g2 := bg.c2
     have g3 := bg.c3
     clear bg hTt
     simp only [TV.val] at how
     go_wp2_with fail
     refine how.mono ?_
     clear how g0 g1 g2 g3
     rintro e T1 ⟨t, rfl, q1, ot, ct⟩
     obtain ⟨P1, eP1, gP1, lP1, bP1⟩ : ∃ V', T1.alloc (.cells #[.int .i64 t.tv.k, .int .i64 t.tv.N, .string t.tv.s, .slice t.tv.a t.tv.len t.tv.cap] 24) = V' ∧ Below T1.heap.size T1 V' ∧ V'.heap.size = T1.heap.size + 1 ∧ BoxT V' T1.heap.size t.tv := ⟨_, rfl, (Below.refl _ _).alloc (Nat.le_refl _) _, by simp, BoxT.new T1 t.tv⟩
     have ot1 := ot.below gP1
     have HB1 : Hid (Below W1.heap.size W1 P1) := HBr.out.trans ((q1.trans (gP1.mono q1.size)).mono HBr.out.size)
     have hb := bodyL t P1 ot1.is
     have t0 := bP1.c0
     have t1 := bP1.c1
     have t2 := bP1.c2
     have t3 := bP1.c3
     have HT1 := hide (And.intro ot1 (And.intro bP1 ct))
     clear ot q1 gP1 lP1 bP1 ot1 ct HBr
     simp only [TV.val] at hb
     dsimp only [TV.val]
     go_wp2_with fail
     try rw [eP1]
     go_wp2_with fail
     refine hb.mono ?_
     clear hb t0 t1 t2 t3 eP1
     rintro e T2 ⟨y, r2, rfl, ⟨D2, c2, hD2, hy, wy⟩, g2⟩
     obtain ⟨P2, eP2, gP2, lP2, bP2⟩ : ∃ V', T2.alloc (.cells #[.int .i64 y.k, .int .i64 y.N, .string y.s, .slice y.a y.len y.cap] 24) = V' ∧ Below T2.heap.size T2 V' ∧ V'.heap.size = T2.heap.size + 1 ∧ BoxT V' T2.heap.size y := ⟨_, rfl, (Below.refl _ _).alloc (Nat.le_refl _) _, by simp, BoxT.new T2 y⟩
     have can : CanSp (fun k => P1.heap.size ≤ k ∧ k < P2.heap.size ∧ NoFix P2 k) P2 y.val := (hy.below gP2).nofix.can hD2 wy
     have hsp := can.call (fun k hk => hk.2.1)
     have HG2 : Hid (Below P1.heap.size P1 P2) := g2.trans (gP2.mono g2.size)
     have y0 := bP2.c0
     have y1 := bP2.c1
     have y2 := bP2.c2
     have y3 := bP2.c3
     clear g2 gP2 lP2 bP2 can hy wy hD2
     simp only [TV.val] at hsp
     dsimp only [TV.val]
     go_wp2_with fail
     try rw [eP2]
     go_wp2_with fail
     refine hsp.mono ?_
     clear hsp y0 y1 y2 y3 eP2
     rintro e T3 ⟨rfl, sp⟩
     have g3 : Below P1.heap.size P1 T3 := (unhide HG2).trans (sp.grb.below (fun k hk => hk.1) (unhide HG2).size)
     obtain ⟨ot, bt, ct⟩ := unhide HT1
     have ot3 := ot.below g3
     have bt3 := bt.below g3 bt.lt
     have hb := foldL t T3 ot3.is (by rw [ct]; exact HNUM.out)
     have t0 := bt3.c0
     have t1 := bt3.c1
     have t2 := bt3.c2
     have t3 := bt3.c3
     have HT3 := hide (And.intro ot3 (And.intro bt3 ct))
     have HB3 : Hid (Below W1.heap.size W1 T3) := HB1.out.trans (g3.mono HB1.out.size)
     clear g3 sp ot bt ct ot3 bt3 HG2 HT1 HB1
     simp only [TV.val] at hb
     go_wp2_with fail
     refine hb.mono ?_
     clear hb t0 t1 t2 t3
     rintro e T4 ⟨z, r4, rfl, ⟨D4, c4, hD4, hz, wz⟩, g4⟩
     obtain ⟨P4, eP4, gP4, lP4, bP4⟩ : ∃ V', T4.alloc (.cells #[.int .i64 z.k, .int .i64 z.N, .string z.s, .slice z.a z.len z.cap] 24) = V' ∧ Below T4.heap.size T4 V' ∧ V'.heap.size = T4.heap.size + 1 ∧ BoxT V' T4.heap.size z := ⟨_, rfl, (Below.refl _ _).alloc (Nat.le_refl _) _, by simp, BoxT.new T4 z⟩
     have can : CanSp (fun k => T3.heap.size ≤ k ∧ k < P4.heap.size ∧ NoFix P4 k) P4 z.val := (hz.below gP4).nofix.can hD4 wz
     have hsp := can.call (fun k hk => hk.2.1)
     have HG4 : Hid (Below T3.heap.size T3 P4) := g4.trans (gP4.mono g4.size)
     have y0 := bP4.c0
     have y1 := bP4.c1
     have y2 := bP4.c2
     have y3 := bP4.c3
     clear g4 gP4 lP4 bP4 can hz wz hD4
     simp only [TV.val] at hsp
     dsimp only [TV.val]
     go_wp2_with fail
     try rw [eP4]
     go_wp2_with fail
     refine hsp.mono ?_
     clear hsp y0 y1 y2 y3 eP4
     rintro e T5 ⟨rfl, sp⟩
     have g5 : Below T3.heap.size T3 T5 := (unhide HG4).trans (sp.grb.below (fun k hk => hk.1) (unhide HG4).size)
     obtain ⟨ot, bt, ct⟩ := unhide HT3
     have hB5 : Below W1.heap.size W1 T5 := HB3.out.trans (g5.mono HB3.out.size)
     have ot5 := ot.below g5
     have bt5 := bt.below g5 bt.lt
     have hst := stillM ot5 (HT.out T5 hB5) ct (by have := HLG.out; omega)
     have t0 := bt5.c0
     have t1 := bt5.c1
     have t2 := bt5.c2
     have t3 := bt5.c3
     have bg := (HW.out T5 hB5).2
     have g0 := bg.c0
     have g1 := bg.c1
     have g2 := bg.c2
     have g3 := bg.c3
     have HF := hide (HW.out T5 hB5).1
     clear g5 sp ot bt ct ot5 bt5 bg hB5 HG4 HT3 HB3
     simp only [TV.val] at hst
     go_wp2_with fail
     refine hst.mono ?_
     clear hst t0 t1 t2 t3 g0 g1 g2 g3
     rintro e T6 ⟨rfl, g6⟩
     have HF6 : Hid (Below W.heap.size W T6) := HF.out.trans (g6.mono HF.out.size)
     clear g6 HF
     go_wp2_with fail
     go_ret
     exact ⟨rfl, HF6.out⟩
   | true =>
    cases hcall : (decide (tg.tv.k = 3) || decide (tg.tv.k = 4)) with
    | false =>
     have hv := view_none b x U4 hTx (hokx.trans hok) (by rw [hndx]; exact hcall)
     have HK := hide hok
     have HC := hide hcall
     clear hTx hokx hok hndx hcall
     simp only [TV.val] at hv
     dsimp only [TV.val]
     go_wp2_with fail
     try rw [eU4]
     go_wp2_with fail
     refine hv.mono ?_
     clear hv x0 x1 x2 x3 eU4
     rintro e V5 ⟨rfl, g5⟩
     have S5 := (unhide HS4).below g5
     have hv := view_none u tg V5 (HT.out V5 S5.low.1) (unhide HK) (unhide HC)
     have bg := (HW.out V5 S5.low.1).2
     have g0 := bg.c0
     have g1 := bg.c1
     have g2 := bg.c2
     have g3 := bg.c3
     obtain ⟨ox, bx, hxs⟩ := unhide HX4
     have HX5 := hide (And.intro (ox.below g5) (And.intro (bx.below g5 bx.lt) hxs))
     have HS5 := hide S5
     clear bg g5 S5 ox bx hxs HX4 HS4
     simp only [TV.val] at hv
     go_wp2_with fail
     refine hv.mono ?_
     clear hv g0 g1 g2 g3
     rintro e V6 ⟨rfl, g6⟩
     have S6 := (unhide HS5).below g6
     obtain ⟨ox, bx, hxs⟩ := unhide HX5
     have ox6 := ox.below g6
     have bx6 := bx.below g6 bx.lt
     have hsp := ox6.can.call (fun k hk => ox6.is.blks_lt k hk)
     have x0 := bx6.c0
     have x1 := bx6.c1
     have x2 := bx6.c2
     have x3 := bx6.c3
     have HS6 := hide S6
     have HXS := hide hxs
     clear ox bx bx6 ox6 hxs S6 g6 HX5 HS5
     simp only [TV.val] at hsp
     go_wp2_with fail
     refine hsp.mono ?_
     clear hsp x0 x1 x2 x3
     rintro e V7 ⟨rfl, sp⟩
     have S7 := (unhide HS6).spoil sp (fun k hk => ((unhide HXS) k hk).2)
     have hal := S7.all (unhide HBIG)
     have HS7 := hide S7
     clear S7 sp HS6 HXS
     go_wp2_with fail
     refine hal.mono ?_
     clear hal
     rintro e V8 ⟨v8, ns8, rfl, q8, l8, g8⟩
     have hsp := spoiltN_own q8 l8 g8.size
     have HG8 := hide g8
     clear q8 l8 g8
     go_wp2_with fail
     refine hsp.mono ?_
     clear hsp
     rintro e V9 ⟨rfl, g9⟩
     have S9 := (unhide HS7).below ((unhide HG8).trans g9)
     clear g9 HG8 HS7
     have HB9 : Hid (Below W1.heap.size W1 V9) := S9.low.1
     clear S9
     go_wp2_with fail
     go_loopw [] (fun wr => Below W1.heap.size W1 wr) (fun _ => 0)
     case atStart => exact HB9.out
     case round =>
      have HBr : Hid (Below W1.heap.size W1 wr) := hrel
      clear hrel HB9
      have hTt := HT.out wr HBr.out
      have how := own_any _ tg wr hTt (fun x hx => Nat.le_trans (wideLen hTt.wl x hx) (by have := HLG.out; omega))
      have bg := (HW.out wr HBr.out).2
      have g0 := bg.c0
      have g1 := bg.c1
      have g2 := bg.c2
      have g3 := bg.c3
      clear bg hTt
      simp only [TV.val] at how
      go_wp2_with fail
      refine how.mono ?_
      clear how g0 g1 g2 g3
      rintro e T1 ⟨t, rfl, q1, ot, ct⟩
      obtain ⟨P1, eP1, gP1, lP1, bP1⟩ : ∃ V', T1.alloc (.cells #[.int .i64 t.tv.k, .int .i64 t.tv.N, .string t.tv.s, .slice t.tv.a t.tv.len t.tv.cap] 24) = V' ∧ Below T1.heap.size T1 V' ∧ V'.heap.size = T1.heap.size + 1 ∧ BoxT V' T1.heap.size t.tv := ⟨_, rfl, (Below.refl _ _).alloc (Nat.le_refl _) _, by simp, BoxT.new T1 t.tv⟩
      have ot1 := ot.below gP1
      have HB1 : Hid (Below W1.heap.size W1 P1) := HBr.out.trans ((q1.trans (gP1.mono q1.size)).mono HBr.out.size)
      have hb := bodyL t P1 ot1.is
      have t0 := bP1.c0
      have t1 := bP1.c1
      have t2 := bP1.c2
      have t3 := bP1.c3
      have HT1 := hide (And.intro ot1 (And.intro bP1 ct))
      clear ot q1 gP1 lP1 bP1 ot1 ct HBr
      simp only [TV.val] at hb
      dsimp only [TV.val]
      go_wp2_with fail
      try rw [eP1]
      go_wp2_with fail
      refine hb.mono ?_
      clear hb t0 t1 t2 t3 eP1
      rintro e T2 ⟨y, r2, rfl, ⟨D2, c2, hD2, hy, wy⟩, g2⟩
      obtain ⟨P2, eP2, gP2, lP2, bP2⟩ : ∃ V', T2.alloc (.cells #[.int .i64 y.k, .int .i64 y.N, .string y.s, .slice y.a y.len y.cap] 24) = V' ∧ Below T2.heap.size T2 V' ∧ V'.heap.size = T2.heap.size + 1 ∧ BoxT V' T2.heap.size y := ⟨_, rfl, (Below.refl _ _).alloc (Nat.le_refl _) _, by simp, BoxT.new T2 y⟩
      have can : CanSp (fun k => P1.heap.size ≤ k ∧ k < P2.heap.size ∧ NoFix P2 k) P2 y.val := (hy.below gP2).nofix.can hD2 wy
      have hsp := can.call (fun k hk => hk.2.1)
      have HG2 : Hid (Below P1.heap.size P1 P2) := g2.trans (gP2.mono g2.size)
      have y0 := bP2.c0
      have y1 := bP2.c1
      have y2 := bP2.c2
      have y3 := bP2.c3
      clear g2 gP2 lP2 bP2 can hy wy hD2
      simp only [TV.val] at hsp
      dsimp only [TV.val]
      go_wp2_with fail
      try rw [eP2]
      go_wp2_with fail
      refine hsp.mono ?_
      clear hsp y0 y1 y2 y3 eP2
      rintro e T3 ⟨rfl, sp⟩
      have g3 : Below P1.heap.size P1 T3 := (unhide HG2).trans (sp.grb.below (fun k hk => hk.1) (unhide HG2).size)
      obtain ⟨ot, bt, ct⟩ := unhide HT1
      have ot3 := ot.below g3
      have bt3 := bt.below g3 bt.lt
      have hb := foldL t T3 ot3.is (by rw [ct]; exact HNUM.out)
      have t0 := bt3.c0
      have t1 := bt3.c1
      have t2 := bt3.c2
      have t3 := bt3.c3
      have HT3 := hide (And.intro ot3 (And.intro bt3 ct))
      have HB3 : Hid (Below W1.heap.size W1 T3) := HB1.out.trans (g3.mono HB1.out.size)
      clear g3 sp ot bt ct ot3 bt3 HG2 HT1 HB1
      simp only [TV.val] at hb
      go_wp2_with fail
      refine hb.mono ?_
      clear hb t0 t1 t2 t3
      rintro e T4 ⟨z, r4, rfl, ⟨D4, c4, hD4, hz, wz⟩, g4⟩
      obtain ⟨P4, eP4, gP4, lP4, bP4⟩ : ∃ V', T4.alloc (.cells #[.int .i64 z.k, .int .i64 z.N, .string z.s, .slice z.a z.len z.cap] 24) = V' ∧ Below T4.heap.size T4 V' ∧ V'.heap.size = T4.heap.size + 1 ∧ BoxT V' T4.heap.size z := ⟨_, rfl, (Below.refl _ _).alloc (Nat.le_refl _) _, by simp, BoxT.new T4 z⟩
      have can : CanSp (fun k => T3.heap.size ≤ k ∧ k < P4.heap.size ∧ NoFix P4 k) P4 z.val := (hz.below gP4).nofix.can hD4 wz
      have hsp := can.call (fun k hk => hk.2.1)
      have HG4 : Hid (Below T3.heap.size T3 P4) := g4.trans (gP4.mono g4.size)
      have y0 := bP4.c0
      have y1 := bP4.c1
      have y2 := bP4.c2
      have y3 := bP4.c3
      clear g4 gP4 lP4 bP4 can hz wz hD4
      simp only [TV.val] at hsp
      dsimp only [TV.val]
      go_wp2_with fail
      try rw [eP4]
      go_wp2_with fail
      refine hsp.mono ?_
      clear hsp y0 y1 y2 y3 eP4
      rintro e T5 ⟨rfl, sp⟩
      have g5 : Below T3.heap.size T3 T5 := (unhide HG4).trans (sp.grb.below (fun k hk => hk.1) (unhide HG4).size)
      obtain ⟨ot, bt, ct⟩ := unhide HT3
      have hB5 : Below W1.heap.size W1 T5 := HB3.out.trans (g5.mono HB3.out.size)
      have ot5 := ot.below g5
      have bt5 := bt.below g5 bt.lt
      have hst := stillM ot5 (HT.out T5 hB5) ct (by have := HLG.out; omega)
      have t0 := bt5.c0
      have t1 := bt5.c1
      have t2 := bt5.c2
      have t3 := bt5.c3
      have bg := (HW.out T5 hB5).2
      have g0 := bg.c0
      have g1 := bg.c1
      have g2 := bg.c2
      have g3 := bg.c3
      have HF := hide (HW.out T5 hB5).1
      clear g5 sp ot bt ct ot5 bt5 bg hB5 HG4 HT3 HB3
      simp only [TV.val] at hst
      go_wp2_with fail
      refine hst.mono ?_
      clear hst t0 t1 t2 t3 g0 g1 g2 g3
      rintro e T6 ⟨rfl, g6⟩
      have HF6 : Hid (Below W.heap.size W T6) := HF.out.trans (g6.mono HF.out.size)
      clear g6 HF
      go_wp2_with fail
      go_ret
      exact ⟨rfl, HF6.out⟩
    | true =>
     have hv := (unhide HS4).view (unhide HEE) (by have := HBIG.out; omega) x hTx (hokx.trans hok) (by rw [hndx]; exact hcall) (by rw [HCX.out]; exact HNUM.out)
     have HK := hide hok
     have HC := hide hcall
     clear hTx hokx hok hndx hcall
     simp only [TV.val] at hv
     dsimp only [TV.val]
     go_wp2_with fail
     try rw [eU4]
     go_wp2_with fail
     refine hv.mono ?_
     clear hv x0 x1 x2 x3 eU4
     rintro e V5 ⟨vb, rfl, g5, hv⟩
     have hB5 : Below W1.heap.size W1 V5 := (unhide HS4).low.1.trans (g5.mono (unhide HS4).low.2)
     have hv := hv tg (unhide HCX).symm (HT.out V5 hB5) (unhide HK) (unhide HC)
     have bg := (HW.out V5 hB5).2
     have g0 := bg.c0
     have g1 := bg.c1
     have g2 := bg.c2
     have g3 := bg.c3
     obtain ⟨ox, bx, hxs⟩ := unhide HX4
     have HX5 := hide (And.intro (ox.below g5) (And.intro (bx.below g5 bx.lt) hxs))
     clear bg g5 ox bx hxs HX4 HS4 hB5
     try simp only [TV.val] at hv
     go_wp2_with fail
     refine hv.mono ?_
     clear hv g0 g1 g2 g3
     rintro e V6 ⟨wb, B1, B2, rfl, sa1, sa2, g6, S6⟩
     have hin : ∀ e : En, e ∈ (goalN Eb (code x)).1 ++ (goalN Eb (code x)).2 → e ∈ Eb := fun e he => goalN_in he
     generalize (goalN Eb (code x)).1 = A1 at sa1 S6 hin
     generalize (goalN Eb (code x)).2 = A2 at sa2 S6 hin
     have HSA := hide (And.intro sa1 (And.intro sa2 hin))
     clear sa1 sa2 hin
     obtain ⟨ox, bx, hxs⟩ := unhide HX5
     have ox6 := ox.below g6
     have bx6 := bx.below g6 bx.lt
     have hsp := ox6.can.call (fun k hk => ox6.is.blks_lt k hk)
     have x0 := bx6.c0
     have x1 := bx6.c1
     have x2 := bx6.c2
     have x3 := bx6.c3
     have HS6 := hide S6
     have HXS := hide hxs
     clear ox bx bx6 ox6 hxs S6 g6 HX5
     simp only [TV.val] at hsp
     go_wp2_with fail
     refine hsp.mono ?_
     clear hsp x0 x1 x2 x3
     rintro e V7 ⟨rfl, sp⟩
     have S7 := (unhide HS6).spoil sp (fun k hk => ((unhide HXS) k hk).2)
     have hal := S7.all (unhide HBIG)
     have HS7 := hide S7
     clear S7 sp HS6 HXS
     go_wp2_with fail
     refine hal.mono ?_
     clear hal
     rintro e V8 ⟨v8, ns8, rfl, q8, l8, g8⟩
     have hsp := spoiltN_own q8 l8 g8.size
     have HG8 := hide g8
     clear q8 l8 g8
     go_wp2_with fail
     refine hsp.mono ?_
     clear hsp
     rintro e V9 ⟨rfl, g9⟩
     have S9 := (unhide HS7).below ((unhide HG8).trans g9)
     clear g9 HG8 HS7
     have HS9 := hide (S9.less (Sp' := fun _ => False) (fun _ h => h.elim))
     clear S9 HEE
     go_wp2_with fail
     go_loopw [] (fun wr => ∃ last, StV W1.heap.size W1 b vb wb laid Eb A1 A2 B1 B2 last last (fun _ => False) wr) (fun wr => restV A1 A2 (lastA wr vb))
     case atStart => exact ⟨_, unhide HS9⟩
     case round =>
      clear HS9
      obtain ⟨last, S⟩ := hrel
      have hlt := S.lt
      obtain ⟨s, hs⟩ : ∃ s, (stepN A1 A2 last).map En.say = s := ⟨_, rfl⟩
      have hs' : (stepN B1 B2 last).map En.say = s := (stepN_same (unhide HSA).1 (unhide HSA).2.1 last).symm.trans hs
      have HRA := hide (restA_ans hs)
      have HLAST := hide S.last
      have HS2 := hide hs'
      have h5 := S.next s hs
      have HLT := hide hlt
      clear hs hs' S hlt
      obtain ⟨nid, hnid⟩ : ∃ z, (ansS s).1 = z := ⟨_, rfl⟩
      obtain ⟨nb, hnb⟩ : ∃ z, (ansS s).2.1 = z := ⟨_, rfl⟩
      obtain ⟨nh, hnh⟩ : ∃ z, (ansS s).2.2.1 = z := ⟨_, rfl⟩
      obtain ⟨nt, hnt⟩ : ∃ z, (ansS s).2.2.2 = z := ⟨_, rfl⟩
      rw [hnid, hnb, hnh, hnt] at h5
      rw [hnid, hnb, hnh, hnt] at HRA
      have HN := hide (And.intro hnid (And.intro hnb (And.intro hnh hnt)))
      clear hnid hnb hnh hnt
      simp only [clV] at h5
      go_wp2_with fail
      refine h5.mono ?_
      clear h5
      rintro e V7 ⟨⟨D7, x7, y7, rfl, p7, q7⟩, S7, k7, s7⟩
      obtain ⟨U7, eU7, gU7, bU7⟩ : ∃ V', V7.alloc (.cells #[.int .i64 x7.k, .int .i64 x7.N, .string x7.s, .slice x7.a x7.len x7.cap, .int .i64 y7.k, .int .i64 y7.N, .string y7.s, .slice y7.a y7.len y7.cap] 30) = V' ∧ Below V7.heap.size V7 V' ∧ BoxC V' V7.heap.size x7 y7 := ⟨_, rfl, (Below.refl _ _).alloc (Nat.le_refl _) _, BoxC.new V7 x7 y7⟩
      have K7 := ClK.new p7 q7 gU7 bU7
      have h6 := (S7.below gU7).swap.next s (unhide HS2)
      rw [(unhide HN).1, (unhide HN).2.1, (unhide HN).2.2.1, (unhide HN).2.2.2] at h6
      have HS7 := hide (And.intro s7 gU7.size)
      have HK7 := hide K7
      clear p7 q7 S7 k7 s7 gU7 bU7 K7 HS2
      simp only [clV] at h6
      dsimp only [clV]
      go_wp2_with fail
      try rw [eU7]
      go_wp2_with fail
      refine h6.mono ?_
      clear h6 eU7
      rintro e V8 ⟨⟨D8, x8, y8, rfl, p8, q8⟩, S8, k8, s8⟩
      obtain ⟨U8, eU8, gU8, bU8⟩ : ∃ V', V8.alloc (.cells #[.int .i64 x8.k, .int .i64 x8.N, .string x8.s, .slice x8.a x8.len x8.cap, .int .i64 y8.k, .int .i64 y8.N, .string y8.s, .slice y8.a y8.len y8.cap] 30) = V' ∧ Below V8.heap.size V8 V' ∧ BoxC V' V8.heap.size x8 y8 := ⟨_, rfl, (Below.refl _ _).alloc (Nat.le_refl _) _, BoxC.new V8 x8 y8⟩
      have K8 := ClK.new p8 q8 gU8 bU8
      have hw := (unhide HLT).2
      have HSZ := hide (And.intro (unhide HS7).2 s8)
      obtain ⟨h7s, h7u⟩ := unhide HS7
      have hne7 : ∀ k, ((wr.heap.size ≤ k ∧ k < V7.heap.size ∧ NoFix V7 k ∧ NoFix U7 k) ∨ k = V7.heap.size) → k < U7.heap.size ∧ k ≠ wb := fun k hk => by
       have hb := (unhide HK7).box.lt
       rcases hk with hk | hk
       ·have h1 := hk.1
        exact ⟨(unhide HK7).sz k hk, by omega⟩
       ·exact ⟨by omega, by omega⟩
      have K7 := ((unhide HK7).kept (fun k hk => k8 k (hne7 k hk).1 (hne7 k hk).2) s8).below gU8
      have S8' := (S8.below gU8).swap
      obtain ⟨Sp, S8, hSp⟩ : ∃ Sp, StV W1.heap.size W1 b vb wb laid Eb A1 A2 B1 B2 (lastS last s) (lastS last s) Sp U8 ∧ ∀ k, (wr.heap.size ≤ k ∧ k < V7.heap.size ∧ NoFix V7 k ∧ NoFix U7 k) → Sp k := ⟨_, S8', fun k hk => .inl (.inr ⟨hk.1, hk.2.1, hk.2.2.1⟩)⟩
      have HX8 := hide (And.intro S8 (And.intro hSp (And.intro K7 K8)))
      obtain ⟨hS1, -⟩ := clK_same K7 K8
      have b7 := K7.box
      have b8 := K8.box
      obtain ⟨⟨k0, k1, k2, k3⟩, k4, k5, k6, k7⟩ := b7.cs
      obtain ⟨⟨d0, d1, d2, d3⟩, d4, d5, d6, d7⟩ := b8.cs
      clear HS7 HK7 p8 q8 S8' k8 s8 hw h7s h7u hne7 HLT bU8 gU8 K7 K8 S8 hSp b7 b8
      simp only [TV.val] at hS1
      dsimp only [clV]
      go_wp2_with fail
      try rw [eU8]
      try go_wp2_with fail
      refine hS1.mono ?_
      clear hS1 eU8 k0 k1 k2 k3 k4 k5 k6 k7 d0 d1 d2 d3 d4 d5 d6 d7
      rintro e X1 ⟨rfl, g1⟩
      obtain ⟨S8, hSp, K7, K8⟩ := unhide HX8
      have K71 := K7.below g1
      have K81 := K8.below g1
      obtain ⟨-, hS1⟩ := clK_same K71 K81
      have b7 := K71.box
      have b8 := K81.box
      obtain ⟨⟨k0, k1, k2, k3⟩, k4, k5, k6, k7⟩ := b7.cs
      obtain ⟨⟨d0, d1, d2, d3⟩, d4, d5, d6, d7⟩ := b8.cs
      have HX9 := hide (And.intro (S8.below g1) (And.intro hSp (And.intro K71 K81)))
      clear g1 S8 hSp K7 K8 K71 K81 b7 b8 HX8
      simp only [TV.val] at hS1
      go_wp2_with fail
      refine hS1.mono ?_
      clear hS1 k0 k1 k2 k3 k4 k5 k6 k7 d0 d1 d2 d3 d4 d5 d6 d7
      rintro e X2 ⟨rfl, g2⟩
      obtain ⟨S9, hSp, K7, K8⟩ := unhide HX9
      have S10 := S9.below g2
      have K72 := K7.below g2
      have K82 := K8.below g2
      have HB10 : Hid (Below W1.heap.size W1 X2) := S10.low.1
      have HX10 := hide (And.intro S10 (And.intro hSp (And.intro K72 K82)))
      have b7 := K72.box
      obtain ⟨⟨k0, k1, k2, k3⟩, k4, k5, k6, k7⟩ := b7.cs
      clear g2 S9 S10 hSp K7 K8 K72 K82 b7 HX9
      cases nb with
      | false =>
       clear k0 k1 k2 k3 k4 k5 k6 k7 HX10 HRA HN HLAST HSA HK HC HCX
       have HBr := HB10
       clear HB10
       have hTt := HT.out X2 HBr.out
       have how := own_any _ tg X2 hTt (fun x hx => Nat.le_trans (wideLen hTt.wl x hx) (by have := HLG.out; omega))
       have bg := (HW.out X2 HBr.out).2
       have g0 := bg.c0
       have g1 := bg.c1
       have g2 := bg.c2
       have g3 := bg.c3
       clear bg hTt
       simp only [TV.val] at how
       go_wp2_with fail
       refine how.mono ?_
       clear how g0 g1 g2 g3
       rintro e T1 ⟨t, rfl, q1, ot, ct⟩
       obtain ⟨P1, eP1, gP1, lP1, bP1⟩ : ∃ V', T1.alloc (.cells #[.int .i64 t.tv.k, .int .i64 t.tv.N, .string t.tv.s, .slice t.tv.a t.tv.len t.tv.cap] 24) = V' ∧ Below T1.heap.size T1 V' ∧ V'.heap.size = T1.heap.size + 1 ∧ BoxT V' T1.heap.size t.tv := ⟨_, rfl, (Below.refl _ _).alloc (Nat.le_refl _) _, by simp, BoxT.new T1 t.tv⟩
       have ot1 := ot.below gP1
       have HB1 : Hid (Below W1.heap.size W1 P1) := HBr.out.trans ((q1.trans (gP1.mono q1.size)).mono HBr.out.size)
       have hb := bodyL t P1 ot1.is
       have t0 := bP1.c0
       have t1 := bP1.c1
       have t2 := bP1.c2
       have t3 := bP1.c3
       have HT1 := hide (And.intro ot1 (And.intro bP1 ct))
       clear ot q1 gP1 lP1 bP1 ot1 ct HBr
       simp only [TV.val] at hb
       dsimp only [TV.val]
       go_wp2_with fail
       try rw [eP1]
       go_wp2_with fail
       refine hb.mono ?_
       clear hb t0 t1 t2 t3 eP1
       rintro e T2 ⟨y, r2, rfl, ⟨D2, c2, hD2, hy, wy⟩, g2⟩
       obtain ⟨P2, eP2, gP2, lP2, bP2⟩ : ∃ V', T2.alloc (.cells #[.int .i64 y.k, .int .i64 y.N, .string y.s, .slice y.a y.len y.cap] 24) = V' ∧ Below T2.heap.size T2 V' ∧ V'.heap.size = T2.heap.size + 1 ∧ BoxT V' T2.heap.size y := ⟨_, rfl, (Below.refl _ _).alloc (Nat.le_refl _) _, by simp, BoxT.new T2 y⟩
       have can : CanSp (fun k => P1.heap.size ≤ k ∧ k < P2.heap.size ∧ NoFix P2 k) P2 y.val := (hy.below gP2).nofix.can hD2 wy
       have hsp := can.call (fun k hk => hk.2.1)
       have HG2 : Hid (Below P1.heap.size P1 P2) := g2.trans (gP2.mono g2.size)
       have y0 := bP2.c0
       have y1 := bP2.c1
       have y2 := bP2.c2
       have y3 := bP2.c3
       clear g2 gP2 lP2 bP2 can hy wy hD2
       simp only [TV.val] at hsp
       dsimp only [TV.val]
       go_wp2_with fail
       try rw [eP2]
       go_wp2_with fail
       refine hsp.mono ?_
       clear hsp y0 y1 y2 y3 eP2
       rintro e T3 ⟨rfl, sp⟩
       have g3 : Below P1.heap.size P1 T3 := (unhide HG2).trans (sp.grb.below (fun k hk => hk.1) (unhide HG2).size)
       obtain ⟨ot, bt, ct⟩ := unhide HT1
       have ot3 := ot.below g3
       have bt3 := bt.below g3 bt.lt
       have hb := foldL t T3 ot3.is (by rw [ct]; exact HNUM.out)
       have t0 := bt3.c0
       have t1 := bt3.c1
       have t2 := bt3.c2
       have t3 := bt3.c3
       have HT3 := hide (And.intro ot3 (And.intro bt3 ct))
       have HB3 : Hid (Below W1.heap.size W1 T3) := HB1.out.trans (g3.mono HB1.out.size)
       clear g3 sp ot bt ct ot3 bt3 HG2 HT1 HB1
       simp only [TV.val] at hb
       go_wp2_with fail
       refine hb.mono ?_
       clear hb t0 t1 t2 t3
       rintro e T4 ⟨z, r4, rfl, ⟨D4, c4, hD4, hz, wz⟩, g4⟩
       obtain ⟨P4, eP4, gP4, lP4, bP4⟩ : ∃ V', T4.alloc (.cells #[.int .i64 z.k, .int .i64 z.N, .string z.s, .slice z.a z.len z.cap] 24) = V' ∧ Below T4.heap.size T4 V' ∧ V'.heap.size = T4.heap.size + 1 ∧ BoxT V' T4.heap.size z := ⟨_, rfl, (Below.refl _ _).alloc (Nat.le_refl _) _, by simp, BoxT.new T4 z⟩
       have can : CanSp (fun k => T3.heap.size ≤ k ∧ k < P4.heap.size ∧ NoFix P4 k) P4 z.val := (hz.below gP4).nofix.can hD4 wz
       have hsp := can.call (fun k hk => hk.2.1)
       have HG4 : Hid (Below T3.heap.size T3 P4) := g4.trans (gP4.mono g4.size)
       have y0 := bP4.c0
       have y1 := bP4.c1
       have y2 := bP4.c2
       have y3 := bP4.c3
       clear g4 gP4 lP4 bP4 can hz wz hD4
       simp only [TV.val] at hsp
       dsimp only [TV.val]
       go_wp2_with fail
       try rw [eP4]
       go_wp2_with fail
       refine hsp.mono ?_
       clear hsp y0 y1 y2 y3 eP4
       rintro e T5 ⟨rfl, sp⟩
       have g5 : Below T3.heap.size T3 T5 := (unhide HG4).trans (sp.grb.below (fun k hk => hk.1) (unhide HG4).size)
       obtain ⟨ot, bt, ct⟩ := unhide HT3
       have hB5 : Below W1.heap.size W1 T5 := HB3.out.trans (g5.mono HB3.out.size)
       have ot5 := ot.below g5
       have bt5 := bt.below g5 bt.lt
       have hst := stillM ot5 (HT.out T5 hB5) ct (by have := HLG.out; omega)
       have t0 := bt5.c0
       have t1 := bt5.c1
       have t2 := bt5.c2
       have t3 := bt5.c3
       have bg := (HW.out T5 hB5).2
       have g0 := bg.c0
       have g1 := bg.c1
       have g2 := bg.c2
       have g3 := bg.c3
       have HF := hide (HW.out T5 hB5).1
       clear g5 sp ot bt ct ot5 bt5 bg hB5 HG4 HT3 HB3
       simp only [TV.val] at hst
       go_wp2_with fail
       refine hst.mono ?_
       clear hst t0 t1 t2 t3 g0 g1 g2 g3
       rintro e T6 ⟨rfl, g6⟩
       have HF6 : Hid (Below W.heap.size W T6) := HF.out.trans (g6.mono HF.out.size)
       clear g6 HF
       go_wp2_with fail
       go_ret
       exact ⟨rfl, HF6.out⟩
      | true =>
       obtain ⟨r1, en, e1, e2, e3, e4⟩ := (unhide HRA) rfl
       have hen : en ∈ Eb := (unhide HSA).2.2 en e1
       subst e3 e4
       obtain ⟨S10, hSp, K7, K8⟩ := unhide HX10
       obtain ⟨wh, wb'⟩ := S10.wide hen
       have hsp := K7.spoil wh wb'
       have HEN := hide (And.intro hen (And.intro e2 (And.intro r1 (And.intro wh wb'))))
       clear e1 e2 hen r1 wh wb' S10 hSp K7 K8 HRA HN HB10
       try simp only [TV.val] at hsp
       go_wp2_with fail
       refine hsp.mono ?_
       clear hsp k0 k1 k2 k3 k4 k5 k6 k7
       rintro e Y1 ⟨rfl, sp, bc, hsp⟩
       obtain ⟨S10, hSp, K7, K8⟩ := unhide HX10
       have S11 := S10.spoil sp hSp
       have hoff : ∀ k, (wr.heap.size ≤ k ∧ k < V7.heap.size ∧ NoFix V7 k ∧ NoFix U7 k) → ¬ (U7.heap.size ≤ k ∧ k < V8.heap.size ∧ NoFix V8 k ∧ NoFix U8 k) ∧ k ≠ V8.heap.size := fun k hk => by
        have h1 := hk.2.1
        obtain ⟨z1, z2⟩ := unhide HSZ
        exact ⟨fun h => by have h2 := h.1; omega, by omega⟩
       have K81 := K8.off sp hoff
       obtain ⟨⟨k0, k1, k2, k3⟩, k4, k5, k6, k7⟩ := bc.cs
       have HX11 := hide (And.intro S11 (And.intro hSp (And.intro hoff K81)))
       clear bc S10 hSp K7 K8 S11 hoff K81 sp HX10 HSZ
       try simp only [TV.val] at hsp
       go_wp2_with fail
       refine hsp.mono ?_
       clear hsp k0 k1 k2 k3 k4 k5 k6 k7
       rintro e Y2 ⟨rfl, sp⟩
       obtain ⟨S11, hSp, hoff, K81⟩ := unhide HX11
       have S12 : StV W1.heap.size W1 b vb wb laid Eb A1 A2 B1 B2 (lastS last s) (lastS last s) (fun _ => False) Y2 := (S11.spoil sp hSp).less (fun _ h => h.elim)
       have K82 := K81.off sp hoff
       have hg := S12.get (unhide HBIG) (unhide HEN).1
       rw [← (unhide HEN).2.1] at hg
       have HX12 := hide (And.intro S12 K82)
       clear S11 hSp hoff K81 sp S12 K82 HX11
       simp only [clV] at hg
       go_wp2_with fail
       refine hg.mono ?_
       clear hg
       rintro e Y3 ⟨⟨D3, x3, y3, rfl, p3, q3⟩, g3⟩
       obtain ⟨Z3, eZ3, gZ3, bZ3⟩ : ∃ V', Y3.alloc (.cells #[.int .i64 x3.k, .int .i64 x3.N, .string x3.s, .slice x3.a x3.len x3.cap, .int .i64 y3.k, .int .i64 y3.N, .string y3.s, .slice y3.a y3.len y3.cap] 30) = V' ∧ Below Y3.heap.size Y3 V' ∧ BoxC V' Y3.heap.size x3 y3 := ⟨_, rfl, (Below.refl _ _).alloc (Nat.le_refl _) _, BoxC.new Y3 x3 y3⟩
       have K3 := ClK.new p3 q3 gZ3 bZ3
       have gg3 : Below Y2.heap.size Y2 Z3 := g3.trans (gZ3.mono g3.size)
       obtain ⟨S12, K82⟩ := unhide HX12
       have K83 := K82.below gg3
       obtain ⟨Sp3, S13, hSp3⟩ : ∃ Sp, StV W1.heap.size W1 b vb wb laid Eb A1 A2 B1 B2 (lastS last s) (lastS last s) Sp Z3 ∧ ∀ k, (Y2.heap.size ≤ k ∧ k < Y3.heap.size ∧ NoFix Y3 k ∧ NoFix Z3 k) → Sp k := ⟨_, S12.more gg3, fun k hk => .inr ⟨hk.1, Nat.lt_of_lt_of_le hk.2.1 gZ3.size, hk.2.2.2⟩⟩
       have hoff : ∀ k, (Y2.heap.size ≤ k ∧ k < Y3.heap.size ∧ NoFix Y3 k ∧ NoFix Z3 k) → ¬ (U7.heap.size ≤ k ∧ k < V8.heap.size ∧ NoFix V8 k ∧ NoFix U8 k) ∧ k ≠ V8.heap.size := fun k hk => by
        have h1 := hk.1
        have h2 := K82.box.lt
        exact ⟨fun h => by have h2 := h.2.1; omega, by omega⟩
       have hsp := K3.spoil (unhide HEN).2.2.2.1 (unhide HEN).2.2.2.2
       have b3 := K3.box
       obtain ⟨⟨k0, k1, k2, k3⟩, k4, k5, k6, k7⟩ := b3.cs
       have HX13 := hide (And.intro S13 (And.intro hSp3 (And.intro hoff K83)))
       clear p3 q3 g3 gZ3 bZ3 K3 gg3 S12 K82 K83 S13 hSp3 hoff b3 HX12
       try simp only [TV.val] at hsp
       dsimp only [clV]
       go_wp2_with fail
       try rw [eZ3]
       try go_wp2_with fail
       refine hsp.mono ?_
       clear hsp k0 k1 k2 k3 k4 k5 k6 k7 eZ3
       rintro e Y4 ⟨rfl, sp, bc, hsp⟩
       obtain ⟨S13, hSp, hoff, K83⟩ := unhide HX13
       have S14 := S13.spoil sp hSp
       have K84 := K83.off sp hoff
       obtain ⟨⟨k0, k1, k2, k3⟩, k4, k5, k6, k7⟩ := bc.cs
       have HX14 := hide (And.intro S14 (And.intro hSp (And.intro hoff K84)))
       clear bc S13 hSp hoff K83 S14 K84 sp HX13
       try simp only [TV.val] at hsp
       go_wp2_with fail
       refine hsp.mono ?_
       clear hsp k0 k1 k2 k3 k4 k5 k6 k7
       rintro e Y5 ⟨rfl, sp⟩
       obtain ⟨S14, hSp, hoff, K84⟩ := unhide HX14
       have S15 : StV W1.heap.size W1 b vb wb laid Eb A1 A2 B1 B2 (lastS last s) (lastS last s) (fun _ => False) Y5 := (S14.spoil sp hSp).less (fun _ h => h.elim)
       have K85 := K84.off sp hoff
       have hg := S15.get (unhide HBIG) (unhide HEN).1
       rw [← (unhide HEN).2.1] at hg
       have HX15 := hide (And.intro S15 K85)
       clear S14 hSp hoff K84 sp S15 K85 HX14
       simp only [clV] at hg
       go_wp2_with fail
       refine hg.mono ?_
       clear hg
       rintro e Y6 ⟨⟨D6, x6, y6, rfl, p6, q6⟩, g6⟩
       obtain ⟨Z6, eZ6, gZ6, bZ6⟩ : ∃ V', Y6.alloc (.cells #[.int .i64 x6.k, .int .i64 x6.N, .string x6.s, .slice x6.a x6.len x6.cap, .int .i64 y6.k, .int .i64 y6.N, .string y6.s, .slice y6.a y6.len y6.cap] 30) = V' ∧ Below Y6.heap.size Y6 V' ∧ BoxC V' Y6.heap.size x6 y6 := ⟨_, rfl, (Below.refl _ _).alloc (Nat.le_refl _) _, BoxC.new Y6 x6 y6⟩
       have K6 := ClK.new p6 q6 gZ6 bZ6
       have gg6 : Below Y5.heap.size Y5 Z6 := g6.trans (gZ6.mono g6.size)
       obtain ⟨S15, K85⟩ := unhide HX15
       have K86 := K85.below gg6
       have S16 := S15.below gg6
       obtain ⟨hS1, -⟩ := clK_same K6 K86
       have b6 := K6.box
       have b8 := K86.box
       obtain ⟨⟨k0, k1, k2, k3⟩, k4, k5, k6, k7⟩ := b6.cs
       obtain ⟨⟨d0, d1, d2, d3⟩, d4, d5, d6, d7⟩ := b8.cs
       have HX16 := hide (And.intro S16 (And.intro K6 K86))
       clear p6 q6 g6 gZ6 bZ6 gg6 S15 K85 S16 K6 K86 b6 b8 HX15
       simp only [TV.val] at hS1
       dsimp only [clV]
       go_wp2_with fail
       try rw [eZ6]
       try go_wp2_with fail
       refine hS1.mono ?_
       clear hS1 eZ6 k0 k1 k2 k3 k4 k5 k6 k7 d0 d1 d2 d3 d4 d5 d6 d7
       rintro e Y7 ⟨rfl, g7⟩
       obtain ⟨S16, K6, K86⟩ := unhide HX16
       have K67 := K6.below g7
       have K87 := K86.below g7
       obtain ⟨-, hS1⟩ := clK_same K67 K87
       have b6 := K67.box
       have b8 := K87.box
       obtain ⟨⟨k0, k1, k2, k3⟩, k4, k5, k6, k7⟩ := b6.cs
       obtain ⟨⟨d0, d1, d2, d3⟩, d4, d5, d6, d7⟩ := b8.cs
       have HX17 := hide (S16.below g7)
       clear g7 S16 K6 K86 K67 K87 b6 b8 HX16
       simp only [TV.val] at hS1
       go_wp2_with fail
       refine hS1.mono ?_
       clear hS1 k0 k1 k2 k3 k4 k5 k6 k7 d0 d1 d2 d3 d4 d5 d6 d7
       rintro e Y8 ⟨rfl, g8⟩
       have HX18 := hide ((unhide HX17).below g8)
       clear g8 HX17
       go_wp2_with fail
       go_roundw
       case rel => exact ⟨lastS last s, unhide HX18⟩
       case measure =>
        rw [(unhide HX18).last, unhide HLAST]
        exact (unhide HEN).2.2.1
end Go.Proofs.YtlbobmebbllifaaGreat
