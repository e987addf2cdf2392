import Derived.Test.YtkgebdljfmgmiaaGreatDoorPqs
import Derived.Test.YtkgebdljfmgmiaaGreatDoorDps
import Derived.Test.YtkgebdljfmgmiaaGreatDoorSws
import Derived.Test.YtkgebdljfmgmiaaGreatDoorVw
import Derived.Test.YtkgebdljfmgmiaaGreatDoorSz
/- The law TermSays, its function one: no term. -/
namespace Go.Proofs.YtkgebdljfmgmiaaGreatDoor
open Go.RowKit Go.Shelf Go.Maps

theorem none_zero (w : World) : Calls Tryz.prog 35 #[zeroT.val] w fun e W' => e = .returned (.bool true) ∧ Below w.heap.size w W' :=
  (none_any zeroT w).mono fun e W' h => ⟨h.1.trans (by simp [zeroT]), h.2⟩

set_option maxRecDepth 100000 in
set_option maxHeartbeats 4000000 in
theorem one_bad {n : Nat} (t : Tm n) (f : Int) (a : Option Addr) (len cap : Nat) (w : World) (hT : IsT w.heap.size w t) (hok : okT t = false) :
    Calls Tryz.prog 7 #[t.tv.val, .int .i64 f, .slice a len cap, .bool false] w fun e W' => e = .returned (.bool true) ∧ Below w.heap.size w W' := by
  obtain ⟨W1, hW1⟩ : ∃ W1, w.alloc (.cells #[.int .i64 t.tv.k, .int .i64 t.tv.N, .string t.tv.s, .slice t.tv.a t.tv.len t.tv.cap] 24) = W1 := ⟨_, rfl⟩
  have hB1 : Below w.heap.size w W1 := by rw [← hW1]; exact (Below.refl _ w).alloc (Nat.le_refl _) _
  have bx : BoxT W1 w.heap.size t.tv := by rw [← hW1]; exact World.alloc_heap_new w _
  have h1 := fun (W : World) (hb : Below w.heap.size w W) => measure_bad t W ((hT.below hb).mono hb.size) hok
  have h2 := fun (W : World) (hb : Below w.heap.size w W) => vars_bad t W ((hT.below hb).mono hb.size) hok
  have h3 := fun (W : World) (hb : Below w.heap.size w W) => rename_bad t f W ((hT.below hb).mono hb.size) hok
  have h4 := fun (W : World) (hb : Below w.heap.size w W) => at_bad t a len cap W ((hT.below hb).mono hb.size) hok
  have h5 := none_zero
  simp only [TV.val, zeroT] at h1 h2 h3 h4 h5 ⊢
  have H2 := hide h2
  have H3 := hide h3
  have H4 := hide h4
  have H5 := hide h5
  have hc := h1 W1 hB1
  have HB := hide hB1
  have HX := hide bx
  have c0 := bx.c0
  have c1 := bx.c1
  have c2 := bx.c2
  have c3 := bx.c3
  clear h1 h2 h3 h4 h5 hT hok hB1 bx
  go_enter Tryz.func7, Tryz.ntmps7
  go_wp2_with fail
  refine hc.mono ?_
  clear hc c0 c1 c2 c3
  rintro e W2 ⟨rfl, hb2⟩
  have hB2 := (unhide HB).trans (hb2.mono (unhide HB).size)
  have bx2 := (unhide HX).kept hb2
  have hc := (unhide H2) W2 hB2
  have c0 := bx2.c0
  have c1 := bx2.c1
  have c2 := bx2.c2
  have c3 := bx2.c3
  have HB2 := hide hB2
  have HX2 := hide bx2
  clear HB HX H2 hb2 hB2 bx2
  go_wp2_with fail
  refine hc.mono ?_
  clear hc c0 c1 c2 c3
  rintro e W3 ⟨rfl, hb3⟩
  have hB3 := (unhide HB2).trans (hb3.mono (unhide HB2).size)
  have bx3 := (unhide HX2).kept hb3
  have hc := (unhide H3) W3 hB3
  have c0 := bx3.c0
  have c1 := bx3.c1
  have c2 := bx3.c2
  have c3 := bx3.c3
  have HB3 := hide hB3
  have HX3 := hide bx3
  clear HB2 HX2 H3 hb3 hB3 bx3
  go_wp2_with fail
  refine hc.mono ?_
  clear hc c0 c1 c2 c3
  rintro e W4 ⟨rfl, hb4⟩
  have hB4 := (unhide HB3).trans (hb4.mono (unhide HB3).size)
  have hs4 := hB4.size
  have hb5 : Below W4.heap.size W4 (W4.alloc (.cells #[.int .i64 0, .int .i64 0, .string ⟨#[]⟩, .slice none 0 0] 24)) := by exact (Below.refl _ W4).alloc (Nat.le_refl _) _
  have hB5 : Below w.heap.size w (W4.alloc (.cells #[.int .i64 0, .int .i64 0, .string ⟨#[]⟩, .slice none 0 0] 24)) := hB4.trans (hb5.mono hs4)
  have bx5 := ((unhide HX3).kept hb4).kept hb5
  have bz5 : BoxT (W4.alloc (.cells #[.int .i64 0, .int .i64 0, .string ⟨#[]⟩, .slice none 0 0] 24)) W4.heap.size zeroT := by exact World.alloc_heap_new W4 _
  have hc := (unhide H4) (W4.alloc (.cells #[.int .i64 0, .int .i64 0, .string ⟨#[]⟩, .slice none 0 0] 24)) hB5
  have c0 := bx5.c0
  have c1 := bx5.c1
  have c2 := bx5.c2
  have c3 := bx5.c3
  have HB5 := hide hB5
  have HZ5 := hide bz5
  clear HB3 HX3 H4 hb4 hB4 hb5 hB5 bx5 bz5
  go_wp2_with fail
  refine hc.mono ?_
  clear hc c0 c1 c2 c3
  rintro e W6 ⟨rfl, hb6⟩
  have hB6 := (unhide HB5).trans (hb6.mono (unhide HB5).size)
  have hs6 := hB6.size
  have hb7 : Below W6.heap.size W6 (W6.alloc (.cells #[.int .i64 0, .int .i64 0, .string ⟨#[]⟩, .slice none 0 0] 24)) := by exact (Below.refl _ W6).alloc (Nat.le_refl _) _
  have hB7 : Below w.heap.size w (W6.alloc (.cells #[.int .i64 0, .int .i64 0, .string ⟨#[]⟩, .slice none 0 0] 24)) := hB6.trans (hb7.mono hs6)
  have bz7 := ((unhide HZ5).kept hb6).kept hb7
  have by7 : BoxT (W6.alloc (.cells #[.int .i64 0, .int .i64 0, .string ⟨#[]⟩, .slice none 0 0] 24)) W6.heap.size zeroT := by exact World.alloc_heap_new W6 _
  have hc := (unhide H5) (W6.alloc (.cells #[.int .i64 0, .int .i64 0, .string ⟨#[]⟩, .slice none 0 0] 24))
  have c0 := bz7.c0
  have c1 := bz7.c1
  have c2 := bz7.c2
  have c3 := bz7.c3
  simp only [zeroT] at c0 c1 c2 c3
  have HB7 := hide hB7
  have HY7 := hide by7
  clear HB5 HZ5 hb6 hB6 hb7 hB7 bz7 by7
  go_wp2_with fail
  refine hc.mono ?_
  clear hc c0 c1 c2 c3
  rintro e W8 ⟨rfl, hb8⟩
  have hB8 := (unhide HB7).trans (hb8.mono (unhide HB7).size)
  have by8 := (unhide HY7).kept hb8
  have hc := (unhide H5) W8
  have c0 := by8.c0
  have c1 := by8.c1
  have c2 := by8.c2
  have c3 := by8.c3
  simp only [zeroT] at c0 c1 c2 c3
  have HB8 := hide hB8
  clear HB7 HY7 hb8 hB8 by8 H5
  go_wp2_with fail
  refine hc.mono ?_
  clear hc c0 c1 c2 c3
  rintro e W9 ⟨rfl, hb9⟩
  have hB9 := (unhide HB8).trans (hb9.mono (unhide HB8).size)
  have HB9 := hide hB9
  clear hB9 hb9 HB8
  go_wp2_with fail
  exact bodyPost_ret (v := .bool true) (by simp [results, Tryz.results7, go_sem]) rfl ⟨rfl, unhide HB9⟩
end Go.Proofs.YtkgebdljfmgmiaaGreatDoor

/- The law TermSays, its function two: not two terms. -/
namespace Go.Proofs.YtkgebdljfmgmiaaGreatDoor
open Go.RowKit Go.Shelf Go.Maps

set_option maxRecDepth 100000 in
set_option maxHeartbeats 4000000 in
theorem two_bad {n : Nat} (t u : Tm n) (a : Option Addr) (len cap : Nat) (w : World) (ht : IsT w.heap.size w t) (hu : IsT w.heap.size w u) (hok : (okT t && okT u) = false) :
    Calls Tryz.prog 8 #[t.tv.val, u.tv.val, .slice a len cap, .bool false] w fun e W' => e = .returned (.bool true) ∧ Below w.heap.size w W' := by
  obtain ⟨W1, hW1, hB1, bxa, bxb, hs1⟩ := two_new w t.tv u.tv
  have hall : [t, u].all okT = false := by simpa using hok
  have h1 := fun (W : World) (hb : Below w.heap.size w W) => compare_no t u W ((ht.below hb).mono hb.size) ((hu.below hb).mono hb.size) hok
  have h2 := fun (W : World) (hb : Below w.heap.size w W) => variant_no t u W ((ht.below hb).mono hb.size) ((hu.below hb).mono hb.size) hok
  have h3 := fun (W : World) (hb : Below w.heap.size w W) => general_bad t u W ((ht.below hb).mono hb.size) ((hu.below hb).mono hb.size) hall
  have h4 := fun (W : World) (hb : Below w.heap.size w W) => put_bad t u a len cap W ((ht.below hb).mono hb.size) ((hu.below hb).mono hb.size) hall
  have h5 := fun (W : World) (hb : Below w.heap.size w W) => match_bad t u W ((ht.below hb).mono hb.size) ((hu.below hb).mono hb.size) hall
  have h6 := none_zero
  simp only [TV.val, zeroT] at h1 h2 h3 h4 h5 h6 ⊢
  have H1 := hide h1
  have H2 := hide h2
  have H3 := hide h3
  have H4 := hide h4
  have H5 := hide h5
  have H6 := hide h6
  have HB1 := hide hB1
  have HA1 := hide bxa
  have HC1 := hide bxb
  clear h1 h2 h3 h4 h5 h6 ht hu hok hall hB1 bxa bxb
  go_enter Tryz.func8, Tryz.ntmps8
  have a0 := (unhide HA1).c0
  have a1 := (unhide HA1).c1
  have a2 := (unhide HA1).c2
  have a3 := (unhide HA1).c3
  have b0 := (unhide HC1).c0
  have b1 := (unhide HC1).c1
  have b2 := (unhide HC1).c2
  have b3 := (unhide HC1).c3
  have hc := (unhide H1) W1 (unhide HB1)
  go_wp2_with fail
  refine hc.mono ?_
  clear hc a0 a1 a2 a3 b0 b1 b2 b3
  rintro e W2 ⟨rfl, hb2⟩
  have hB2 := (unhide HB1).trans (hb2.mono (unhide HB1).size)
  have ax2 := (unhide HA1).kept hb2
  have bx2 := (unhide HC1).kept hb2
  have Hax2 := hide ax2
  have Hbx2 := hide bx2
  have HB2 := hide hB2
  clear hb2 hB2 ax2 bx2 HB1 HA1 HC1
  have a0 := (unhide Hax2).c0
  have a1 := (unhide Hax2).c1
  have a2 := (unhide Hax2).c2
  have a3 := (unhide Hax2).c3
  have b0 := (unhide Hbx2).c0
  have b1 := (unhide Hbx2).c1
  have b2 := (unhide Hbx2).c2
  have b3 := (unhide Hbx2).c3
  have hc := (unhide H2) W2 (unhide HB2)
  go_wp2_with fail
  refine hc.mono ?_
  clear hc a0 a1 a2 a3 b0 b1 b2 b3
  rintro e W3 ⟨rfl, hb3⟩
  have hB3 := (unhide HB2).trans (hb3.mono (unhide HB2).size)
  have ax3 := (unhide Hax2).kept hb3
  have bx3 := (unhide Hbx2).kept hb3
  have Hax3 := hide ax3
  have Hbx3 := hide bx3
  have HB3 := hide hB3
  clear hb3 hB3 ax3 bx3 HB2 Hax2 Hbx2
  have a0 := (unhide Hax3).c0
  have a1 := (unhide Hax3).c1
  have a2 := (unhide Hax3).c2
  have a3 := (unhide Hax3).c3
  have b0 := (unhide Hbx3).c0
  have b1 := (unhide Hbx3).c1
  have b2 := (unhide Hbx3).c2
  have b3 := (unhide Hbx3).c3
  have hc := (unhide H3) W3 (unhide HB3)
  go_wp2_with fail
  refine hc.mono ?_
  clear hc a0 a1 a2 a3 b0 b1 b2 b3
  rintro e W4 ⟨rfl, hb4⟩
  have hB4 := (unhide HB3).trans (hb4.mono (unhide HB3).size)
  have ax4 := (unhide Hax3).kept hb4
  have bx4 := (unhide Hbx3).kept hb4
  have hb4' : Below W4.heap.size W4 (W4.alloc (.cells #[.int .i64 0, .int .i64 0, .string ⟨#[]⟩, .slice none 0 0] 24)) := (Below.refl _ W4).alloc (Nat.le_refl _) _
  have hs4 := hB4.size
  replace hB4 : Below w.heap.size w (W4.alloc (.cells #[.int .i64 0, .int .i64 0, .string ⟨#[]⟩, .slice none 0 0] 24)) := hB4.trans (hb4'.mono hs4)
  replace ax4 := ax4.kept hb4'
  replace bx4 := bx4.kept hb4'
  have lx4 : BoxT (W4.alloc (.cells #[.int .i64 0, .int .i64 0, .string ⟨#[]⟩, .slice none 0 0] 24)) W4.heap.size zeroT := World.alloc_heap_new W4 _
  clear hb4'
  have Hax4 := hide ax4
  have Hbx4 := hide bx4
  have Hlx4 := hide lx4
  have HB4 := hide hB4
  clear hb4 hB4 ax4 bx4 lx4 HB3 Hax3 Hbx3
  have a0 := (unhide Hax4).c0
  have a1 := (unhide Hax4).c1
  have a2 := (unhide Hax4).c2
  have a3 := (unhide Hax4).c3
  have b0 := (unhide Hbx4).c0
  have b1 := (unhide Hbx4).c1
  have b2 := (unhide Hbx4).c2
  have b3 := (unhide Hbx4).c3
  have hc := (unhide H4) (W4.alloc (.cells #[.int .i64 0, .int .i64 0, .string ⟨#[]⟩, .slice none 0 0] 24)) (unhide HB4)
  go_wp2_with fail
  refine hc.mono ?_
  clear hc a0 a1 a2 a3 b0 b1 b2 b3
  rintro e W5 ⟨rfl, hb5⟩
  have hB5 := (unhide HB4).trans (hb5.mono (unhide HB4).size)
  have ax5 := (unhide Hax4).kept hb5
  have bx5 := (unhide Hbx4).kept hb5
  have lx5 := (unhide Hlx4).kept hb5
  have hb5' : Below W5.heap.size W5 (W5.alloc (.cells #[.int .i64 0, .int .i64 0, .string ⟨#[]⟩, .slice none 0 0] 24)) := (Below.refl _ W5).alloc (Nat.le_refl _) _
  have hs5 := hB5.size
  replace hB5 : Below w.heap.size w (W5.alloc (.cells #[.int .i64 0, .int .i64 0, .string ⟨#[]⟩, .slice none 0 0] 24)) := hB5.trans (hb5'.mono hs5)
  replace ax5 := ax5.kept hb5'
  replace bx5 := bx5.kept hb5'
  replace lx5 := lx5.kept hb5'
  have px5 : BoxT (W5.alloc (.cells #[.int .i64 0, .int .i64 0, .string ⟨#[]⟩, .slice none 0 0] 24)) W5.heap.size zeroT := World.alloc_heap_new W5 _
  clear hb5'
  have Hax5 := hide ax5
  have Hbx5 := hide bx5
  have Hlx5 := hide lx5
  have Hpx5 := hide px5
  have HB5 := hide hB5
  clear hb5 hB5 ax5 bx5 lx5 px5 HB4 Hax4 Hbx4 Hlx4
  have a0 := (unhide Hax5).c0
  have a1 := (unhide Hax5).c1
  have a2 := (unhide Hax5).c2
  have a3 := (unhide Hax5).c3
  have b0 := (unhide Hbx5).c0
  have b1 := (unhide Hbx5).c1
  have b2 := (unhide Hbx5).c2
  have b3 := (unhide Hbx5).c3
  have hc := (unhide H5) (W5.alloc (.cells #[.int .i64 0, .int .i64 0, .string ⟨#[]⟩, .slice none 0 0] 24)) (unhide HB5)
  go_wp2_with fail
  refine hc.mono ?_
  clear hc a0 a1 a2 a3 b0 b1 b2 b3
  rintro e W6 ⟨rfl, hb6⟩
  have hB6 := (unhide HB5).trans (hb6.mono (unhide HB5).size)
  have ax6 := (unhide Hax5).kept hb6
  have bx6 := (unhide Hbx5).kept hb6
  have lx6 := (unhide Hlx5).kept hb6
  have px6 := (unhide Hpx5).kept hb6
  have Hax6 := hide ax6
  have Hbx6 := hide bx6
  have Hlx6 := hide lx6
  have Hpx6 := hide px6
  have HB6 := hide hB6
  clear hb6 hB6 ax6 bx6 lx6 px6 HB5 Hax5 Hbx5 Hlx5 Hpx5
  have l0 := (unhide Hlx6).c0
  have l1 := (unhide Hlx6).c1
  have l2 := (unhide Hlx6).c2
  have l3 := (unhide Hlx6).c3
  simp only [zeroT] at l0 l1 l2 l3
  have hc := (unhide H6) W6
  go_wp2_with fail
  refine hc.mono ?_
  clear hc l0 l1 l2 l3
  rintro e W7 ⟨rfl, hb7⟩
  have hB7 := (unhide HB6).trans (hb7.mono (unhide HB6).size)
  have ax7 := (unhide Hax6).kept hb7
  have bx7 := (unhide Hbx6).kept hb7
  have lx7 := (unhide Hlx6).kept hb7
  have px7 := (unhide Hpx6).kept hb7
  have Hax7 := hide ax7
  have Hbx7 := hide bx7
  have Hlx7 := hide lx7
  have Hpx7 := hide px7
  have HB7 := hide hB7
  clear hb7 hB7 ax7 bx7 lx7 px7 HB6 Hax6 Hbx6 Hlx6 Hpx6
  have p0 := (unhide Hpx7).c0
  have p1 := (unhide Hpx7).c1
  have p2 := (unhide Hpx7).c2
  have p3 := (unhide Hpx7).c3
  simp only [zeroT] at p0 p1 p2 p3
  have hc := (unhide H6) W7
  go_wp2_with fail
  refine hc.mono ?_
  clear hc p0 p1 p2 p3
  rintro e W8 ⟨rfl, hb8⟩
  have hB8 := (unhide HB7).trans (hb8.mono (unhide HB7).size)
  have ax8 := (unhide Hax7).kept hb8
  have bx8 := (unhide Hbx7).kept hb8
  have lx8 := (unhide Hlx7).kept hb8
  have px8 := (unhide Hpx7).kept hb8
  have Hax8 := hide ax8
  have Hbx8 := hide bx8
  have Hlx8 := hide lx8
  have Hpx8 := hide px8
  have HB8 := hide hB8
  clear hb8 hB8 ax8 bx8 lx8 px8 HB7 Hax7 Hbx7 Hlx7 Hpx7
  go_wp2_with fail
  exact bodyPost_ret (v := .bool true) (by simp [results, Tryz.results8, go_sem]) rfl ⟨rfl, unhide HB8⟩
end Go.Proofs.YtkgebdljfmgmiaaGreatDoor

/- Contracts for the law TermSays' function one, in the form that its walk takes. -/
namespace Go.Proofs.YtkgebdljfmgmiaaGreatDoor
open Go.RowKit Go.Shelf Go.Maps

theorem parts_code {n : Nat} (t : Tm n) : (code t).length = (parts t).length := by simp [code]
theorem vars_s {n : Nat} (t : Tm n) (W : World) (hT : IsT W.heap.size W t) (hok : okT t = true) (hl : (parts t).length ≤ 4194304) :
    Calls Tryz.prog 26 #[t.tv.val] W fun e W' => ∃ va vc, e = .returned (.tuple #[.slice va (varsC [] (code t)).length vc, .int .i64 0]) ∧ Below W.heap.size W W' ∧ IsN W' va (varsC [] (code t)).length (varsC [] (code t)) :=
  (vars_any t W hT hok hl).mono fun e W' h => by
    obtain ⟨v, h1, h2, h3⟩ := h
    have hv := varsC_len [] (code t)
    rw [parts_code] at hv
    obtain ⟨va, vc, rfl, hN⟩ := h2.isN (by simp at hv; omega)
    exact ⟨va, vc, h1, h3, hN⟩
theorem rvars_s {n : Nat} (t : Tm n) (W : World) (hT : IsT W.heap.size W t) (hok : okT t = true) (hl : (parts t).length ≤ 4194304) :
    Calls Tryz.prog 39 #[.slice (some ⟨W.heap.size, 0, none⟩) 1 1] (W.alloc (.cells #[.int .i64 t.tv.k, .int .i64 t.tv.N, .string t.tv.s, .slice t.tv.a t.tv.len t.tv.cap] 24)) fun e W' => ∃ va vc, e = .returned (.slice va (varsC [] (code t)).length vc) ∧ Below W.heap.size W W' ∧ IsN W' va (varsC [] (code t)).length (varsC [] (code t)) := by
  have hbA : Below W.heap.size W (W.alloc (.cells #[.int .i64 t.tv.k, .int .i64 t.tv.N, .string t.tv.s, .slice t.tv.a t.tv.len t.tv.cap] 24)) := (Below.refl _ W).alloc (Nat.le_refl _) _
  have hb := BoxT.new W t.tv
  refine (rVars_one t W.heap.size 0 1 _ ((hT.below hbA).mono hbA.size) ⟨hb.c0, hb.c1, hb.c2, hb.c3⟩ hok (by rw [parts_code]; exact hl)).mono fun e W' h => ?_
  obtain ⟨v, h1, h2, h3⟩ := h
  have hv := varsC_len [] (code t)
  rw [parts_code] at hv
  obtain ⟨va, vc, rfl, hN⟩ := h3.isN (by simp at hv; omega)
  exact ⟨va, vc, h1, hbA.trans (h2.mono hbA.size), hN⟩
theorem flat_s {n : Nat} (t : Tm n) (W : World) (hT : IsT W.heap.size W t) (hl : (parts t).length ≤ 4194304) :
    Calls Tryz.prog 36 #[t.tv.val] W fun e W' => ∃ ga gc, e = .returned (.slice ga (parts t).length gc) ∧ Below W.heap.size W W' :=
  (flat_any n t W hT (by omega)).mono fun e W' h => by
    obtain ⟨v, h1, h2, h3⟩ := h
    obtain ⟨ga, gc, rfl⟩ := row_slice h3
    exact ⟨ga, gc, h1, h2⟩
theorem HoldsT.tc {D lo : Nat} {W : World} {v : Value} {c : List Nd} (h : HoldsT D lo W v c) : TC D W v c := fun m hm => by
  obtain ⟨t, h1, h2, h3, h4⟩ := h m hm
  exact ⟨t, h1, h2, h2.blk.mono fun _ _ => trivial, h4⟩
/-- What Rename answers, by codes. -/
def RenC (D : Nat) (c : List Nd) (L : Nat) (f : Int) (W : World) (x : TV) (k r : Int) : Prop :=
  (0 ≤ f ∧ f ≤ 1099511627776 ∧ f + (L : Nat) ≤ 1099511627777 ∧ r = 0 ∧ k = f + (L : Nat) ∧ TC D W x.val c) ∨
  (0 ≤ f ∧ f ≤ 1099511627776 ∧ ¬ f + (L : Nat) ≤ 1099511627777 ∧ r = 9 ∧ k = 0 ∧ x = zeroT) ∨
  (¬ (0 ≤ f ∧ f ≤ 1099511627776) ∧ r = 1 ∧ k = 0 ∧ x = zeroT)
theorem RenC.below {D : Nat} {c : List Nd} {L : Nat} {f : Int} {W W' : World} {x : TV} {k r : Int} (h : RenC D c L f W x k r) (hb : Below W.heap.size W W') : RenC D c L f W' x k r := by
  rcases h with ⟨h1, h2, h3, h4, h5, h6⟩ | h | h
  · exact .inl ⟨h1, h2, h3, h4, h5, h6.below hb⟩
  · exact .inr (.inl h)
  · exact .inr (.inr h)
theorem rename_s {n : Nat} (t : Tm n) (f : Int) (W : World) (hT : IsT W.heap.size W t) (hok : okT t = true) :
    Calls Tryz.prog 15 #[t.tv.val, .int .i64 f] W fun e W' => ∃ (x : TV) (k r : Int), e = .returned (.tuple #[x.val, .int .i64 k, .int .i64 r]) ∧ Below W.heap.size W W' ∧ RenC (n + 1) (canon f (code t)) (varsC [] (code t)).length f W' x k r :=
  (rename_full t f W hT hok).mono fun e W' h => by
    obtain ⟨x, k, r, h1, h2, h3⟩ := h
    refine ⟨x, k, r, h1, h2, ?_⟩
    rcases h3 with ⟨g1, g2, g3, g4, g5, g6⟩ | h | h
    · exact .inl ⟨g1, g2, g3, g4, g5, g6.tc⟩
    · exact .inr (.inl h)
    · exact .inr (.inr h)
/-- What At answers, by codes. -/
def AtC (D : Nat) (c : Option (List Nd)) (W : World) (x : TV) (r : Int) : Prop :=
  (c = none ∧ x = zeroT ∧ r = 8) ∨ ∃ d, c = some d ∧ r = 0 ∧ TC D W x.val d
theorem AtC.below {D : Nat} {c : Option (List Nd)} {W W' : World} {x : TV} {r : Int} (h : AtC D c W x r) (hb : Below W.heap.size W W') : AtC D c W' x r := by
  rcases h with h | ⟨d, h1, h2, h3⟩
  · exact .inl h
  · exact .inr ⟨d, h1, h2, h3.below hb⟩
def atCode (r : Option (Σ m, Tm m)) : Option (List Nd) := r.map fun p => code p.2
end Go.Proofs.YtkgebdljfmgmiaaGreatDoor

