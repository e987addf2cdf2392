import Derived.Test.YtcjeeagnfmipgaaGreatDoorOa
/- The law TermSays, its function two: not two terms. -/
namespace Go.Proofs.YtcjeeagnfmipgaaGreatDoor
open Go.RowKit Go.Shelf Go.Maps

set_option maxRecDepth 100000 in
set_option maxHeartbeats 4000000 in
theorem two_bad {n : Nat} (t u : Tm n) (a : Option Addr) (len cap : Nat) (w : World) (ht : IsT w.heap.size w t) (hu : IsT w.heap.size w u) (hok : (okT t && okT u) = false) :
    Calls Tryz.prog 8 #[t.tv.val, u.tv.val, .slice a len cap, .bool false] w fun e W' => e = .returned (.bool true) ∧ Below w.heap.size w W' := by
  obtain ⟨W1, hW1, hB1, bxa, bxb, hs1⟩ := two_new w t.tv u.tv
  have hall : [t, u].all okT = false := by simpa using hok
  have h1 := fun (W : World) (hb : Below w.heap.size w W) => compare_no t u W ((ht.below hb).mono hb.size) ((hu.below hb).mono hb.size) hok
  have h2 := fun (W : World) (hb : Below w.heap.size w W) => variant_no t u W ((ht.below hb).mono hb.size) ((hu.below hb).mono hb.size) hok
  have h3 := fun (W : World) (hb : Below w.heap.size w W) => general_bad t u W ((ht.below hb).mono hb.size) ((hu.below hb).mono hb.size) hall
  have h4 := fun (W : World) (hb : Below w.heap.size w W) => put_bad t u a len cap W ((ht.below hb).mono hb.size) ((hu.below hb).mono hb.size) hall
  have h5 := fun (W : World) (hb : Below w.heap.size w W) => match_bad t u W ((ht.below hb).mono hb.size) ((hu.below hb).mono hb.size) hall
  have h6 := none_zero
  simp only [TV.val, zeroT] at h1 h2 h3 h4 h5 h6 ⊢
  have H1 := hide h1
  have H2 := hide h2
  have H3 := hide h3
  have H4 := hide h4
  have H5 := hide h5
  have H6 := hide h6
  have HB1 := hide hB1
  have HA1 := hide bxa
  have HC1 := hide bxb
  clear h1 h2 h3 h4 h5 h6 ht hu hok hall hB1 bxa bxb
  go_enter Tryz.func8, Tryz.ntmps8
  have a0 := (unhide HA1).c0
  have a1 := (unhide HA1).c1
  have a2 := (unhide HA1).c2
  have a3 := (unhide HA1).c3
  have b0 := (unhide HC1).c0
  have b1 := (unhide HC1).c1
  have b2 := (unhide HC1).c2
  have b3 := (unhide HC1).c3
  have hc := (unhide H1) W1 (unhide HB1)
  go_wp2_with fail
  refine hc.mono ?_
  clear hc a0 a1 a2 a3 b0 b1 b2 b3
  rintro e W2 ⟨rfl, hb2⟩
  have hB2 := (unhide HB1).trans (hb2.mono (unhide HB1).size)
  have ax2 := (unhide HA1).kept hb2
  have bx2 := (unhide HC1).kept hb2
  have Hax2 := hide ax2
  have Hbx2 := hide bx2
  have HB2 := hide hB2
  clear hb2 hB2 ax2 bx2 HB1 HA1 HC1
  have a0 := (unhide Hax2).c0
  have a1 := (unhide Hax2).c1
  have a2 := (unhide Hax2).c2
  have a3 := (unhide Hax2).c3
  have b0 := (unhide Hbx2).c0
  have b1 := (unhide Hbx2).c1
  have b2 := (unhide Hbx2).c2
  have b3 := (unhide Hbx2).c3
  have hc := (unhide H2) W2 (unhide HB2)
  go_wp2_with fail
  refine hc.mono ?_
  clear hc a0 a1 a2 a3 b0 b1 b2 b3
  rintro e W3 ⟨rfl, hb3⟩
  have hB3 := (unhide HB2).trans (hb3.mono (unhide HB2).size)
  have ax3 := (unhide Hax2).kept hb3
  have bx3 := (unhide Hbx2).kept hb3
  have Hax3 := hide ax3
  have Hbx3 := hide bx3
  have HB3 := hide hB3
  clear hb3 hB3 ax3 bx3 HB2 Hax2 Hbx2
  have a0 := (unhide Hax3).c0
  have a1 := (unhide Hax3).c1
  have a2 := (unhide Hax3).c2
  have a3 := (unhide Hax3).c3
  have b0 := (unhide Hbx3).c0
  have b1 := (unhide Hbx3).c1
  have b2 := (unhide Hbx3).c2
  have b3 := (unhide Hbx3).c3
  have hc := (unhide H3) W3 (unhide HB3)
  go_wp2_with fail
  refine hc.mono ?_
  clear hc a0 a1 a2 a3 b0 b1 b2 b3
  rintro e W4 ⟨rfl, hb4⟩
  have hB4 := (unhide HB3).trans (hb4.mono (unhide HB3).size)
  have ax4 := (unhide Hax3).kept hb4
  have bx4 := (unhide Hbx3).kept hb4
  have hb4' : Below W4.heap.size W4 (W4.alloc (.cells #[.int .i64 0, .int .i64 0, .string ⟨#[]⟩, .slice none 0 0] 24)) := (Below.refl _ W4).alloc (Nat.le_refl _) _
  have hs4 := hB4.size
  replace hB4 : Below w.heap.size w (W4.alloc (.cells #[.int .i64 0, .int .i64 0, .string ⟨#[]⟩, .slice none 0 0] 24)) := hB4.trans (hb4'.mono hs4)
  replace ax4 := ax4.kept hb4'
  replace bx4 := bx4.kept hb4'
  have lx4 : BoxT (W4.alloc (.cells #[.int .i64 0, .int .i64 0, .string ⟨#[]⟩, .slice none 0 0] 24)) W4.heap.size zeroT := World.alloc_heap_new W4 _
  clear hb4'
  have Hax4 := hide ax4
  have Hbx4 := hide bx4
  have Hlx4 := hide lx4
  have HB4 := hide hB4
  clear hb4 hB4 ax4 bx4 lx4 HB3 Hax3 Hbx3
  have a0 := (unhide Hax4).c0
  have a1 := (unhide Hax4).c1
  have a2 := (unhide Hax4).c2
  have a3 := (unhide Hax4).c3
  have b0 := (unhide Hbx4).c0
  have b1 := (unhide Hbx4).c1
  have b2 := (unhide Hbx4).c2
  have b3 := (unhide Hbx4).c3
  have hc := (unhide H4) (W4.alloc (.cells #[.int .i64 0, .int .i64 0, .string ⟨#[]⟩, .slice none 0 0] 24)) (unhide HB4)
  go_wp2_with fail
  refine hc.mono ?_
  clear hc a0 a1 a2 a3 b0 b1 b2 b3
  rintro e W5 ⟨rfl, hb5⟩
  have hB5 := (unhide HB4).trans (hb5.mono (unhide HB4).size)
  have ax5 := (unhide Hax4).kept hb5
  have bx5 := (unhide Hbx4).kept hb5
  have lx5 := (unhide Hlx4).kept hb5
  have hb5' : Below W5.heap.size W5 (W5.alloc (.cells #[.int .i64 0, .int .i64 0, .string ⟨#[]⟩, .slice none 0 0] 24)) := (Below.refl _ W5).alloc (Nat.le_refl _) _
  have hs5 := hB5.size
  replace hB5 : Below w.heap.size w (W5.alloc (.cells #[.int .i64 0, .int .i64 0, .string ⟨#[]⟩, .slice none 0 0] 24)) := hB5.trans (hb5'.mono hs5)
  replace ax5 := ax5.kept hb5'
  replace bx5 := bx5.kept hb5'
  replace lx5 := lx5.kept hb5'
  have px5 : BoxT (W5.alloc (.cells #[.int .i64 0, .int .i64 0, .string ⟨#[]⟩, .slice none 0 0] 24)) W5.heap.size zeroT := World.alloc_heap_new W5 _
  clear hb5'
  have Hax5 := hide ax5
  have Hbx5 := hide bx5
  have Hlx5 := hide lx5
  have Hpx5 := hide px5
  have HB5 := hide hB5
  clear hb5 hB5 ax5 bx5 lx5 px5 HB4 Hax4 Hbx4 Hlx4
  have a0 := (unhide Hax5).c0
  have a1 := (unhide Hax5).c1
  have a2 := (unhide Hax5).c2
  have a3 := (unhide Hax5).c3
  have b0 := (unhide Hbx5).c0
  have b1 := (unhide Hbx5).c1
  have b2 := (unhide Hbx5).c2
  have b3 := (unhide Hbx5).c3
  have hc := (unhide H5) (W5.alloc (.cells #[.int .i64 0, .int .i64 0, .string ⟨#[]⟩, .slice none 0 0] 24)) (unhide HB5)
  go_wp2_with fail
  refine hc.mono ?_
  clear hc a0 a1 a2 a3 b0 b1 b2 b3
  rintro e W6 ⟨rfl, hb6⟩
  have hB6 := (unhide HB5).trans (hb6.mono (unhide HB5).size)
  have ax6 := (unhide Hax5).kept hb6
  have bx6 := (unhide Hbx5).kept hb6
  have lx6 := (unhide Hlx5).kept hb6
  have px6 := (unhide Hpx5).kept hb6
  have Hax6 := hide ax6
  have Hbx6 := hide bx6
  have Hlx6 := hide lx6
  have Hpx6 := hide px6
  have HB6 := hide hB6
  clear hb6 hB6 ax6 bx6 lx6 px6 HB5 Hax5 Hbx5 Hlx5 Hpx5
  have l0 := (unhide Hlx6).c0
  have l1 := (unhide Hlx6).c1
  have l2 := (unhide Hlx6).c2
  have l3 := (unhide Hlx6).c3
  simp only [zeroT] at l0 l1 l2 l3
  have hc := (unhide H6) W6
  go_wp2_with fail
  refine hc.mono ?_
  clear hc l0 l1 l2 l3
  rintro e W7 ⟨rfl, hb7⟩
  have hB7 := (unhide HB6).trans (hb7.mono (unhide HB6).size)
  have ax7 := (unhide Hax6).kept hb7
  have bx7 := (unhide Hbx6).kept hb7
  have lx7 := (unhide Hlx6).kept hb7
  have px7 := (unhide Hpx6).kept hb7
  have Hax7 := hide ax7
  have Hbx7 := hide bx7
  have Hlx7 := hide lx7
  have Hpx7 := hide px7
  have HB7 := hide hB7
  clear hb7 hB7 ax7 bx7 lx7 px7 HB6 Hax6 Hbx6 Hlx6 Hpx6
  have p0 := (unhide Hpx7).c0
  have p1 := (unhide Hpx7).c1
  have p2 := (unhide Hpx7).c2
  have p3 := (unhide Hpx7).c3
  simp only [zeroT] at p0 p1 p2 p3
  have hc := (unhide H6) W7
  go_wp2_with fail
  refine hc.mono ?_
  clear hc p0 p1 p2 p3
  rintro e W8 ⟨rfl, hb8⟩
  have hB8 := (unhide HB7).trans (hb8.mono (unhide HB7).size)
  have ax8 := (unhide Hax7).kept hb8
  have bx8 := (unhide Hbx7).kept hb8
  have lx8 := (unhide Hlx7).kept hb8
  have px8 := (unhide Hpx7).kept hb8
  have Hax8 := hide ax8
  have Hbx8 := hide bx8
  have Hlx8 := hide lx8
  have Hpx8 := hide px8
  have HB8 := hide hB8
  clear hb8 hB8 ax8 bx8 lx8 px8 HB7 Hax7 Hbx7 Hlx7 Hpx7
  go_wp2_with fail
  exact bodyPost_ret (v := .bool true) (by simp [results, Tryz.results8, go_sem]) rfl ⟨rfl, unhide HB8⟩
end Go.Proofs.YtcjeeagnfmipgaaGreatDoor

