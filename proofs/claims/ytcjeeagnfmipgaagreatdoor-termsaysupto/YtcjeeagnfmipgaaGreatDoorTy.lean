import Derived.Test.YtcjeeagnfmipgaaGreatDoorTd
/- The law TermSays. -/
namespace Go.Proofs.YtcjeeagnfmipgaaGreatDoor
open Go.RowKit Go.Shelf Go.Maps

set_option maxRecDepth 100000 in
set_option maxHeartbeats 8000000 in
theorem says_no {n : Nat} (t u : Tm n) (f : Int) (a : Option Addr) (len cap : Nat) (w : World) (ht : IsT w.heap.size w t) (hu : IsT w.heap.size w u) (okt : okT t = false) (oku : okT u = true)
    (h1 : ∀ W, Below w.heap.size w W → Calls Tryz.prog 7 #[t.tv.val, .int .i64 f, .slice a len cap, .bool false] W fun e W' => e = .returned (.bool true) ∧ Below W.heap.size W W')
    (h2 : ∀ W, Below w.heap.size w W → Calls Tryz.prog 8 #[t.tv.val, u.tv.val, .slice a len cap, .bool false] W fun e W' => e = .returned (.bool true) ∧ Below W.heap.size W W') :
    Calls Tryz.prog 3 #[t.tv.val, u.tv.val, .int .i64 f, .slice a len cap] w fun e W' => e = .returned (.bool true) ∧ Below w.heap.size w W' := by
  obtain ⟨W1, hW1, hB1, tx1, ux1, hs1⟩ := two_new w t.tv u.tv
  have hdr : Below W1.heap.size W1 W1.drew := (Below.refl _ W1).drew
  have hq1 := (formed_any n t W1.drew (((ht.below hB1).mono hB1.size).below hdr)).mono (R' := fun e W2 => e = .returned (.bool false) ∧ Below W1.heap.size W1 W2) (fun e W2 h => ⟨h.1.trans (by rw [okt]), hdr.trans h.2⟩)
  have hq2 := fun (V : World) (hv : Below W1.heap.size W1 V) => (formed_any n u V ((((hu.below hB1).mono hB1.size).below hv).mono hv.size)).mono (R' := fun e W2 => e = .returned (.bool true) ∧ Below W1.heap.size W1 W2) (fun e W2 h => ⟨h.1.trans (by rw [oku]), hv.trans (h.2.mono hv.size)⟩)
  have h3 := fun (W : World) (hb : Below w.heap.size w W) => check_any t W ((ht.below hb).mono hb.size)
  rw [chk_no okt] at h3
  have t0 := tx1.c0
  have t1 := tx1.c1
  have t2 := tx1.c2
  have t3 := tx1.c3
  have u0 := ux1.c0
  have u1 := ux1.c1
  have u2 := ux1.c2
  have u3 := ux1.c3
  simp only [TV.val] at hq1 hq2 h1 h2 h3 ⊢
  have hy0 : w.heap.size < W1.heap.size := tx1.lt
  have hy1 : w.heap.size + 1 < W1.heap.size := ux1.lt
  have H1 := hide h1
  have H2 := hide h2
  have H3 := hide h3
  have HB1 := hide hB1
  have Htx1 := hide tx1
  have Hux1 := hide ux1
  clear h1 h2 h3 ht hu okt oku hdr hB1 tx1 ux1
  go_enter Tryz.func3, Tryz.ntmps3
  go_wp2_with fail
  go_region_held3 (fun w' => w'.cell? ⟨w.heap.size, 0, none⟩ = some (.int .i64 t.tv.k) ∧ w'.cell? ⟨w.heap.size, 1, none⟩ = some (.int .i64 t.tv.N) ∧ w'.cell? ⟨w.heap.size, 2, none⟩ = some (.string t.tv.s) ∧ w'.cell? ⟨w.heap.size, 3, none⟩ = some (.slice t.tv.a t.tv.len t.tv.cap) ∧ w'.cell? ⟨w.heap.size + 1, 0, none⟩ = some (.int .i64 u.tv.k) ∧ w'.cell? ⟨w.heap.size + 1, 1, none⟩ = some (.int .i64 u.tv.N) ∧ w'.cell? ⟨w.heap.size + 1, 2, none⟩ = some (.string u.tv.s) ∧ w'.cell? ⟨w.heap.size + 1, 3, none⟩ = some (.slice u.tv.a u.tv.len u.tv.cap)) (go_keep) (first | (go_at_call 5; refine hq1.mono ?_; clear hq1; rintro e Wa ⟨rfl, hba⟩; have hbc := bcell hba) | (go_at_call 5; refine (hq2 Wa hba).mono ?_; clear hq2; rintro e W2 ⟨rfl, hb2⟩; have hbd := bcell hb2))
  clear hbc hbd hba hy0 hy1 t0 t1 t2 t3 u0 u1 u2 u3
  have hB2 := (unhide HB1).trans (hb2.mono (unhide HB1).size)
  have tx2 := (unhide Htx1).kept hb2
  have ux2 := (unhide Hux1).kept hb2
  have HB2 := hide hB2
  have Htx2 := hide tx2
  have Hux2 := hide ux2
  have t0 := tx2.c0
  have t1 := tx2.c1
  have t2 := tx2.c2
  have t3 := tx2.c3
  have u0 := ux2.c0
  have u1 := ux2.c1
  have u2 := ux2.c2
  have u3 := ux2.c3
  clear hb2 hB2 tx2 ux2 HB1 Htx1 Hux1
  have hc := (unhide H3) W2 (unhide HB2)
  go_wp2_with fail
  refine hc.mono ?_
  clear hc t0 t1 t2 t3 u0 u1 u2 u3
  rintro e W3 ⟨rfl, hb3⟩
  have hB3 := (unhide HB2).trans (hb3.mono (unhide HB2).size)
  have tx3 := (unhide Htx2).kept hb3
  have ux3 := (unhide Hux2).kept hb3
  have HB3 := hide hB3
  have Htx3 := hide tx3
  have Hux3 := hide ux3
  have t0 := tx3.c0
  have t1 := tx3.c1
  have t2 := tx3.c2
  have t3 := tx3.c3
  have u0 := ux3.c0
  have u1 := ux3.c1
  have u2 := ux3.c2
  have u3 := ux3.c3
  clear hb3 hB3 tx3 ux3 HB2 Htx2 Hux2
  have hc := (unhide H3) W3 (unhide HB3)
  go_wp2_with fail
  refine hc.mono ?_
  clear hc t0 t1 t2 t3 u0 u1 u2 u3
  rintro e W4 ⟨rfl, hb4⟩
  have hB4 := (unhide HB3).trans (hb4.mono (unhide HB3).size)
  have tx4 := (unhide Htx3).kept hb4
  have ux4 := (unhide Hux3).kept hb4
  have HB4 := hide hB4
  have Htx4 := hide tx4
  have Hux4 := hide ux4
  have t0 := tx4.c0
  have t1 := tx4.c1
  have t2 := tx4.c2
  have t3 := tx4.c3
  have u0 := ux4.c0
  have u1 := ux4.c1
  have u2 := ux4.c2
  have u3 := ux4.c3
  clear hb4 hB4 tx4 ux4 HB3 Htx3 Hux3
  have hc := (unhide H1) W4 (unhide HB4)
  go_wp2_with fail
  refine hc.mono ?_
  clear hc t0 t1 t2 t3 u0 u1 u2 u3
  rintro e W5 ⟨rfl, hb5⟩
  have hB5 := (unhide HB4).trans (hb5.mono (unhide HB4).size)
  have tx5 := (unhide Htx4).kept hb5
  have ux5 := (unhide Hux4).kept hb5
  have HB5 := hide hB5
  have Htx5 := hide tx5
  have Hux5 := hide ux5
  have t0 := tx5.c0
  have t1 := tx5.c1
  have t2 := tx5.c2
  have t3 := tx5.c3
  have u0 := ux5.c0
  have u1 := ux5.c1
  have u2 := ux5.c2
  have u3 := ux5.c3
  clear hb5 hB5 tx5 ux5 HB4 Htx4 Hux4
  have hc := (unhide H2) W5 (unhide HB5)
  go_wp2_with fail
  refine hc.mono ?_
  clear hc t0 t1 t2 t3 u0 u1 u2 u3
  rintro e W6 ⟨rfl, hb6⟩
  have hBZ := hide ((unhide HB5).trans (hb6.mono (unhide HB5).size))
  clear hb6
  go_wp2_with fail
  exact bodyPost_ret (v := .bool true) (by simp [results, Tryz.results3, go_sem]) rfl ⟨rfl, unhide hBZ⟩

set_option maxRecDepth 100000 in
set_option maxHeartbeats 8000000 in
theorem says_no2 {n : Nat} (t u : Tm n) (f : Int) (a : Option Addr) (len cap : Nat) (w : World) (ht : IsT w.heap.size w t) (hu : IsT w.heap.size w u) (okt : okT t = false) (oku : okT u = false)
    (h1 : ∀ W, Below w.heap.size w W → Calls Tryz.prog 7 #[t.tv.val, .int .i64 f, .slice a len cap, .bool false] W fun e W' => e = .returned (.bool true) ∧ Below W.heap.size W W')
    (h2 : ∀ W, Below w.heap.size w W → Calls Tryz.prog 8 #[t.tv.val, u.tv.val, .slice a len cap, .bool false] W fun e W' => e = .returned (.bool true) ∧ Below W.heap.size W W') :
    Calls Tryz.prog 3 #[t.tv.val, u.tv.val, .int .i64 f, .slice a len cap] w fun e W' => e = .returned (.bool true) ∧ Below w.heap.size w W' := by
  obtain ⟨W1, hW1, hB1, tx1, ux1, hs1⟩ := two_new w t.tv u.tv
  have hdr : Below W1.heap.size W1 W1.drew := (Below.refl _ W1).drew
  have hq1 := (formed_any n t W1.drew (((ht.below hB1).mono hB1.size).below hdr)).mono (R' := fun e W2 => e = .returned (.bool false) ∧ Below W1.heap.size W1 W2) (fun e W2 h => ⟨h.1.trans (by rw [okt]), hdr.trans h.2⟩)
  have hq2 := fun (V : World) (hv : Below W1.heap.size W1 V) => (formed_any n u V ((((hu.below hB1).mono hB1.size).below hv).mono hv.size)).mono (R' := fun e W2 => e = .returned (.bool false) ∧ Below W1.heap.size W1 W2) (fun e W2 h => ⟨h.1.trans (by rw [oku]), hv.trans (h.2.mono hv.size)⟩)
  have h3 := fun (W : World) (hb : Below w.heap.size w W) => check_any t W ((ht.below hb).mono hb.size)
  rw [chk_no okt] at h3
  have t0 := tx1.c0
  have t1 := tx1.c1
  have t2 := tx1.c2
  have t3 := tx1.c3
  have u0 := ux1.c0
  have u1 := ux1.c1
  have u2 := ux1.c2
  have u3 := ux1.c3
  simp only [TV.val] at hq1 hq2 h1 h2 h3 ⊢
  have hy0 : w.heap.size < W1.heap.size := tx1.lt
  have hy1 : w.heap.size + 1 < W1.heap.size := ux1.lt
  have H1 := hide h1
  have H2 := hide h2
  have H3 := hide h3
  have HB1 := hide hB1
  have Htx1 := hide tx1
  have Hux1 := hide ux1
  clear h1 h2 h3 ht hu okt oku hdr hB1 tx1 ux1
  go_enter Tryz.func3, Tryz.ntmps3
  go_wp2_with fail
  go_region_held3 (fun w' => w'.cell? ⟨w.heap.size, 0, none⟩ = some (.int .i64 t.tv.k) ∧ w'.cell? ⟨w.heap.size, 1, none⟩ = some (.int .i64 t.tv.N) ∧ w'.cell? ⟨w.heap.size, 2, none⟩ = some (.string t.tv.s) ∧ w'.cell? ⟨w.heap.size, 3, none⟩ = some (.slice t.tv.a t.tv.len t.tv.cap) ∧ w'.cell? ⟨w.heap.size + 1, 0, none⟩ = some (.int .i64 u.tv.k) ∧ w'.cell? ⟨w.heap.size + 1, 1, none⟩ = some (.int .i64 u.tv.N) ∧ w'.cell? ⟨w.heap.size + 1, 2, none⟩ = some (.string u.tv.s) ∧ w'.cell? ⟨w.heap.size + 1, 3, none⟩ = some (.slice u.tv.a u.tv.len u.tv.cap)) (go_keep) (first | (go_at_call 5; refine hq1.mono ?_; clear hq1; rintro e Wa ⟨rfl, hba⟩; have hbc := bcell hba) | (go_at_call 5; refine (hq2 Wa hba).mono ?_; clear hq2; rintro e W2 ⟨rfl, hb2⟩; have hbd := bcell hb2))
  clear hbc hbd hba hy0 hy1 t0 t1 t2 t3 u0 u1 u2 u3
  have hB2 := (unhide HB1).trans (hb2.mono (unhide HB1).size)
  have tx2 := (unhide Htx1).kept hb2
  have ux2 := (unhide Hux1).kept hb2
  have HB2 := hide hB2
  have Htx2 := hide tx2
  have Hux2 := hide ux2
  have t0 := tx2.c0
  have t1 := tx2.c1
  have t2 := tx2.c2
  have t3 := tx2.c3
  have u0 := ux2.c0
  have u1 := ux2.c1
  have u2 := ux2.c2
  have u3 := ux2.c3
  clear hb2 hB2 tx2 ux2 HB1 Htx1 Hux1
  have hc := (unhide H3) W2 (unhide HB2)
  go_wp2_with fail
  refine hc.mono ?_
  clear hc t0 t1 t2 t3 u0 u1 u2 u3
  rintro e W3 ⟨rfl, hb3⟩
  have hB3 := (unhide HB2).trans (hb3.mono (unhide HB2).size)
  have tx3 := (unhide Htx2).kept hb3
  have ux3 := (unhide Hux2).kept hb3
  have HB3 := hide hB3
  have Htx3 := hide tx3
  have Hux3 := hide ux3
  have t0 := tx3.c0
  have t1 := tx3.c1
  have t2 := tx3.c2
  have t3 := tx3.c3
  have u0 := ux3.c0
  have u1 := ux3.c1
  have u2 := ux3.c2
  have u3 := ux3.c3
  clear hb3 hB3 tx3 ux3 HB2 Htx2 Hux2
  have hc := (unhide H3) W3 (unhide HB3)
  go_wp2_with fail
  refine hc.mono ?_
  clear hc t0 t1 t2 t3 u0 u1 u2 u3
  rintro e W4 ⟨rfl, hb4⟩
  have hB4 := (unhide HB3).trans (hb4.mono (unhide HB3).size)
  have tx4 := (unhide Htx3).kept hb4
  have ux4 := (unhide Hux3).kept hb4
  have HB4 := hide hB4
  have Htx4 := hide tx4
  have Hux4 := hide ux4
  have t0 := tx4.c0
  have t1 := tx4.c1
  have t2 := tx4.c2
  have t3 := tx4.c3
  have u0 := ux4.c0
  have u1 := ux4.c1
  have u2 := ux4.c2
  have u3 := ux4.c3
  clear hb4 hB4 tx4 ux4 HB3 Htx3 Hux3
  have hc := (unhide H1) W4 (unhide HB4)
  go_wp2_with fail
  refine hc.mono ?_
  clear hc t0 t1 t2 t3 u0 u1 u2 u3
  rintro e W5 ⟨rfl, hb5⟩
  have hB5 := (unhide HB4).trans (hb5.mono (unhide HB4).size)
  have tx5 := (unhide Htx4).kept hb5
  have ux5 := (unhide Hux4).kept hb5
  have HB5 := hide hB5
  have Htx5 := hide tx5
  have Hux5 := hide ux5
  have t0 := tx5.c0
  have t1 := tx5.c1
  have t2 := tx5.c2
  have t3 := tx5.c3
  have u0 := ux5.c0
  have u1 := ux5.c1
  have u2 := ux5.c2
  have u3 := ux5.c3
  clear hb5 hB5 tx5 ux5 HB4 Htx4 Hux4
  have hc := (unhide H2) W5 (unhide HB5)
  go_wp2_with fail
  refine hc.mono ?_
  clear hc t0 t1 t2 t3 u0 u1 u2 u3
  rintro e W6 ⟨rfl, hb6⟩
  have hBZ := hide ((unhide HB5).trans (hb6.mono (unhide HB5).size))
  clear hb6
  go_wp2_with fail
  exact bodyPost_ret (v := .bool true) (by simp [results, Tryz.results3, go_sem]) rfl ⟨rfl, unhide hBZ⟩

set_option maxRecDepth 100000 in
set_option maxHeartbeats 8000000 in
theorem says_half {n : Nat} (t u : Tm n) (f : Int) (a : Option Addr) (len cap : Nat) (w : World) (ht : IsT w.heap.size w t) (hu : IsT w.heap.size w u) (okt : okT t = true) (oku : okT u = false)
    (h1 : ∀ W, Below w.heap.size w W → Calls Tryz.prog 7 #[t.tv.val, .int .i64 f, .slice a len cap, .bool true] W fun e W' => e = .returned (.bool true) ∧ Below W.heap.size W W')
    (h2 : ∀ W, Below w.heap.size w W → Calls Tryz.prog 8 #[t.tv.val, u.tv.val, .slice a len cap, .bool false] W fun e W' => e = .returned (.bool true) ∧ Below W.heap.size W W') :
    Calls Tryz.prog 3 #[t.tv.val, u.tv.val, .int .i64 f, .slice a len cap] w fun e W' => e = .returned (.bool true) ∧ Below w.heap.size w W' := by
  obtain ⟨W1, hW1, hB1, tx1, ux1, hs1⟩ := two_new w t.tv u.tv
  have hdr : Below W1.heap.size W1 W1.drew := (Below.refl _ W1).drew
  have hq1 := (formed_any n t W1.drew (((ht.below hB1).mono hB1.size).below hdr)).mono (R' := fun e W2 => e = .returned (.bool true) ∧ Below W1.heap.size W1 W2) (fun e W2 h => ⟨h.1.trans (by rw [okt]), hdr.trans h.2⟩)
  have hq2 := fun (V : World) (hv : Below W1.heap.size W1 V) => (formed_any n u V ((((hu.below hB1).mono hB1.size).below hv).mono hv.size)).mono (R' := fun e W2 => e = .returned (.bool false) ∧ Below W1.heap.size W1 W2) (fun e W2 h => ⟨h.1.trans (by rw [oku]), hv.trans (h.2.mono hv.size)⟩)
  have h3 := fun (W : World) (hb : Below w.heap.size w W) => check_any t W ((ht.below hb).mono hb.size)
  rw [chk_yes okt] at h3
  have t0 := tx1.c0
  have t1 := tx1.c1
  have t2 := tx1.c2
  have t3 := tx1.c3
  have u0 := ux1.c0
  have u1 := ux1.c1
  have u2 := ux1.c2
  have u3 := ux1.c3
  simp only [TV.val] at hq1 hq2 h1 h2 h3 ⊢
  have hy0 : w.heap.size < W1.heap.size := tx1.lt
  have hy1 : w.heap.size + 1 < W1.heap.size := ux1.lt
  have H1 := hide h1
  have H2 := hide h2
  have H3 := hide h3
  have HB1 := hide hB1
  have Htx1 := hide tx1
  have Hux1 := hide ux1
  clear h1 h2 h3 ht hu okt oku hdr hB1 tx1 ux1
  go_enter Tryz.func3, Tryz.ntmps3
  go_wp2_with fail
  go_region_held3 (fun w' => w'.cell? ⟨w.heap.size, 0, none⟩ = some (.int .i64 t.tv.k) ∧ w'.cell? ⟨w.heap.size, 1, none⟩ = some (.int .i64 t.tv.N) ∧ w'.cell? ⟨w.heap.size, 2, none⟩ = some (.string t.tv.s) ∧ w'.cell? ⟨w.heap.size, 3, none⟩ = some (.slice t.tv.a t.tv.len t.tv.cap) ∧ w'.cell? ⟨w.heap.size + 1, 0, none⟩ = some (.int .i64 u.tv.k) ∧ w'.cell? ⟨w.heap.size + 1, 1, none⟩ = some (.int .i64 u.tv.N) ∧ w'.cell? ⟨w.heap.size + 1, 2, none⟩ = some (.string u.tv.s) ∧ w'.cell? ⟨w.heap.size + 1, 3, none⟩ = some (.slice u.tv.a u.tv.len u.tv.cap)) (go_keep) (first | (go_at_call 5; refine hq1.mono ?_; clear hq1; rintro e Wa ⟨rfl, hba⟩; have hbc := bcell hba) | (go_at_call 5; refine (hq2 Wa hba).mono ?_; clear hq2; rintro e W2 ⟨rfl, hb2⟩; have hbd := bcell hb2))
  clear hbc hbd hba hy0 hy1 t0 t1 t2 t3 u0 u1 u2 u3
  have hB2 := (unhide HB1).trans (hb2.mono (unhide HB1).size)
  have tx2 := (unhide Htx1).kept hb2
  have ux2 := (unhide Hux1).kept hb2
  have HB2 := hide hB2
  have Htx2 := hide tx2
  have Hux2 := hide ux2
  have t0 := tx2.c0
  have t1 := tx2.c1
  have t2 := tx2.c2
  have t3 := tx2.c3
  have u0 := ux2.c0
  have u1 := ux2.c1
  have u2 := ux2.c2
  have u3 := ux2.c3
  clear hb2 hB2 tx2 ux2 HB1 Htx1 Hux1
  have hc := (unhide H3) W2 (unhide HB2)
  go_wp2_with fail
  refine hc.mono ?_
  clear hc t0 t1 t2 t3 u0 u1 u2 u3
  rintro e W3 ⟨rfl, hb3⟩
  have hB3 := (unhide HB2).trans (hb3.mono (unhide HB2).size)
  have tx3 := (unhide Htx2).kept hb3
  have ux3 := (unhide Hux2).kept hb3
  have HB3 := hide hB3
  have Htx3 := hide tx3
  have Hux3 := hide ux3
  have t0 := tx3.c0
  have t1 := tx3.c1
  have t2 := tx3.c2
  have t3 := tx3.c3
  have u0 := ux3.c0
  have u1 := ux3.c1
  have u2 := ux3.c2
  have u3 := ux3.c3
  clear hb3 hB3 tx3 ux3 HB2 Htx2 Hux2
  have hc := (unhide H1) W3 (unhide HB3)
  go_wp2_with fail
  refine hc.mono ?_
  clear hc t0 t1 t2 t3 u0 u1 u2 u3
  rintro e W4 ⟨rfl, hb4⟩
  have hB4 := (unhide HB3).trans (hb4.mono (unhide HB3).size)
  have tx4 := (unhide Htx3).kept hb4
  have ux4 := (unhide Hux3).kept hb4
  have HB4 := hide hB4
  have Htx4 := hide tx4
  have Hux4 := hide ux4
  have t0 := tx4.c0
  have t1 := tx4.c1
  have t2 := tx4.c2
  have t3 := tx4.c3
  have u0 := ux4.c0
  have u1 := ux4.c1
  have u2 := ux4.c2
  have u3 := ux4.c3
  clear hb4 hB4 tx4 ux4 HB3 Htx3 Hux3
  have hc := (unhide H2) W4 (unhide HB4)
  go_wp2_with fail
  refine hc.mono ?_
  clear hc t0 t1 t2 t3 u0 u1 u2 u3
  rintro e W5 ⟨rfl, hb5⟩
  have hBZ := hide ((unhide HB4).trans (hb5.mono (unhide HB4).size))
  clear hb5
  go_wp2_with fail
  exact bodyPost_ret (v := .bool true) (by simp [results, Tryz.results3, go_sem]) rfl ⟨rfl, unhide hBZ⟩

set_option maxRecDepth 100000 in
set_option maxHeartbeats 8000000 in
theorem says_both {n : Nat} (t u : Tm n) (f : Int) (a : Option Addr) (len cap : Nat) (w : World) (ht : IsT w.heap.size w t) (hu : IsT w.heap.size w u) (okt : okT t = true) (oku : okT u = true)
    (h1 : ∀ W, Below w.heap.size w W → Calls Tryz.prog 7 #[t.tv.val, .int .i64 f, .slice a len cap, .bool true] W fun e W' => e = .returned (.bool true) ∧ Below W.heap.size W W')
    (h2 : ∀ W, Below w.heap.size w W → Calls Tryz.prog 8 #[t.tv.val, u.tv.val, .slice a len cap, .bool true] W fun e W' => e = .returned (.bool true) ∧ Below W.heap.size W W') :
    Calls Tryz.prog 3 #[t.tv.val, u.tv.val, .int .i64 f, .slice a len cap] w fun e W' => e = .returned (.bool true) ∧ Below w.heap.size w W' := by
  obtain ⟨W1, hW1, hB1, tx1, ux1, hs1⟩ := two_new w t.tv u.tv
  have hdr : Below W1.heap.size W1 W1.drew := (Below.refl _ W1).drew
  have hq1 := (formed_any n t W1.drew (((ht.below hB1).mono hB1.size).below hdr)).mono (R' := fun e W2 => e = .returned (.bool true) ∧ Below W1.heap.size W1 W2) (fun e W2 h => ⟨h.1.trans (by rw [okt]), hdr.trans h.2⟩)
  have hq2 := fun (V : World) (hv : Below W1.heap.size W1 V) => (formed_any n u V ((((hu.below hB1).mono hB1.size).below hv).mono hv.size)).mono (R' := fun e W2 => e = .returned (.bool true) ∧ Below W1.heap.size W1 W2) (fun e W2 h => ⟨h.1.trans (by rw [oku]), hv.trans (h.2.mono hv.size)⟩)
  have h3 := fun (W : World) (hb : Below w.heap.size w W) => check_any t W ((ht.below hb).mono hb.size)
  rw [chk_yes okt] at h3
  have t0 := tx1.c0
  have t1 := tx1.c1
  have t2 := tx1.c2
  have t3 := tx1.c3
  have u0 := ux1.c0
  have u1 := ux1.c1
  have u2 := ux1.c2
  have u3 := ux1.c3
  simp only [TV.val] at hq1 hq2 h1 h2 h3 ⊢
  have hy0 : w.heap.size < W1.heap.size := tx1.lt
  have hy1 : w.heap.size + 1 < W1.heap.size := ux1.lt
  have H1 := hide h1
  have H2 := hide h2
  have H3 := hide h3
  have HB1 := hide hB1
  have Htx1 := hide tx1
  have Hux1 := hide ux1
  clear h1 h2 h3 ht hu okt oku hdr hB1 tx1 ux1
  go_enter Tryz.func3, Tryz.ntmps3
  go_wp2_with fail
  go_region_held3 (fun w' => w'.cell? ⟨w.heap.size, 0, none⟩ = some (.int .i64 t.tv.k) ∧ w'.cell? ⟨w.heap.size, 1, none⟩ = some (.int .i64 t.tv.N) ∧ w'.cell? ⟨w.heap.size, 2, none⟩ = some (.string t.tv.s) ∧ w'.cell? ⟨w.heap.size, 3, none⟩ = some (.slice t.tv.a t.tv.len t.tv.cap) ∧ w'.cell? ⟨w.heap.size + 1, 0, none⟩ = some (.int .i64 u.tv.k) ∧ w'.cell? ⟨w.heap.size + 1, 1, none⟩ = some (.int .i64 u.tv.N) ∧ w'.cell? ⟨w.heap.size + 1, 2, none⟩ = some (.string u.tv.s) ∧ w'.cell? ⟨w.heap.size + 1, 3, none⟩ = some (.slice u.tv.a u.tv.len u.tv.cap)) (go_keep) (first | (go_at_call 5; refine hq1.mono ?_; clear hq1; rintro e Wa ⟨rfl, hba⟩; have hbc := bcell hba) | (go_at_call 5; refine (hq2 Wa hba).mono ?_; clear hq2; rintro e W2 ⟨rfl, hb2⟩; have hbd := bcell hb2))
  clear hbc hbd hba hy0 hy1 t0 t1 t2 t3 u0 u1 u2 u3
  have hB2 := (unhide HB1).trans (hb2.mono (unhide HB1).size)
  have tx2 := (unhide Htx1).kept hb2
  have ux2 := (unhide Hux1).kept hb2
  have HB2 := hide hB2
  have Htx2 := hide tx2
  have Hux2 := hide ux2
  have t0 := tx2.c0
  have t1 := tx2.c1
  have t2 := tx2.c2
  have t3 := tx2.c3
  have u0 := ux2.c0
  have u1 := ux2.c1
  have u2 := ux2.c2
  have u3 := ux2.c3
  clear hb2 hB2 tx2 ux2 HB1 Htx1 Hux1
  have hc := (unhide H3) W2 (unhide HB2)
  go_wp2_with fail
  refine hc.mono ?_
  clear hc t0 t1 t2 t3 u0 u1 u2 u3
  rintro e W3 ⟨rfl, hb3⟩
  have hB3 := (unhide HB2).trans (hb3.mono (unhide HB2).size)
  have tx3 := (unhide Htx2).kept hb3
  have ux3 := (unhide Hux2).kept hb3
  have HB3 := hide hB3
  have Htx3 := hide tx3
  have Hux3 := hide ux3
  have t0 := tx3.c0
  have t1 := tx3.c1
  have t2 := tx3.c2
  have t3 := tx3.c3
  have u0 := ux3.c0
  have u1 := ux3.c1
  have u2 := ux3.c2
  have u3 := ux3.c3
  clear hb3 hB3 tx3 ux3 HB2 Htx2 Hux2
  have hc := (unhide H1) W3 (unhide HB3)
  go_wp2_with fail
  refine hc.mono ?_
  clear hc t0 t1 t2 t3 u0 u1 u2 u3
  rintro e W4 ⟨rfl, hb4⟩
  have hB4 := (unhide HB3).trans (hb4.mono (unhide HB3).size)
  have tx4 := (unhide Htx3).kept hb4
  have ux4 := (unhide Hux3).kept hb4
  have HB4 := hide hB4
  have Htx4 := hide tx4
  have Hux4 := hide ux4
  have t0 := tx4.c0
  have t1 := tx4.c1
  have t2 := tx4.c2
  have t3 := tx4.c3
  have u0 := ux4.c0
  have u1 := ux4.c1
  have u2 := ux4.c2
  have u3 := ux4.c3
  clear hb4 hB4 tx4 ux4 HB3 Htx3 Hux3
  have hc := (unhide H2) W4 (unhide HB4)
  go_wp2_with fail
  refine hc.mono ?_
  clear hc t0 t1 t2 t3 u0 u1 u2 u3
  rintro e W5 ⟨rfl, hb5⟩
  have hBZ := hide ((unhide HB4).trans (hb5.mono (unhide HB4).size))
  clear hb5
  go_wp2_with fail
  exact bodyPost_ret (v := .bool true) (by simp [results, Tryz.results3, go_sem]) rfl ⟨rfl, unhide hBZ⟩

/-- The law, whatever the terms. -/
theorem says_any {n : Nat} (t u : Tm n) (f : Int) (ns : List Int) (a : Option Addr) (len cap : Nat) (w : World) (ht : IsT w.heap.size w t) (hu : IsT w.heap.size w u) (hl : (parts t).length ≤ 4194304) (hm : (parts u).length ≤ 4194304) (pt : okT t = true → ∀ x ∈ parts t, Pw x) (pu : okT u = true → ∀ x ∈ parts u, Pw x) (htab : Tab w.heap.size w) (hN : IsN w a len ns) (hcap : len ≤ cap) (hn40 : n ≤ 1048576 := by omega) :
    Calls Tryz.prog 3 #[t.tv.val, u.tv.val, .int .i64 f, .slice a len cap] w fun e W' => e = .returned (.bool true) ∧ Below w.heap.size w W' := by
  have hT := fun (W : World) (hb : Below w.heap.size w W) => (ht.below hb).mono hb.size
  have hU := fun (W : World) (hb : Below w.heap.size w W) => (hu.below hb).mono hb.size
  cases okt : okT t with
  | false =>
    have h1 := fun W hb => one_bad t f a len cap W (hT W hb) okt
    have h2 := fun W hb => two_bad t u a len cap W (hT W hb) (hU W hb) (by rw [okt]; rfl)
    cases oku : okT u with
    | false => exact says_no2 t u f a len cap w ht hu okt oku h1 h2
    | true => exact says_no t u f a len cap w ht hu okt oku h1 h2
  | true =>
    have h1 := fun W hb => one_ok t f ns a len cap W (hT W hb) okt hl (hN.below hb) hcap
    cases oku : okT u with
    | false => exact says_half t u f a len cap w ht hu okt oku h1 (fun W hb => two_bad t u a len cap W (hT W hb) (hU W hb) (by rw [okt, oku]; rfl))
    | true => exact says_both t u f a len cap w ht hu okt oku h1 (fun W hb => two_ok t u ns a len cap W (hT W hb) (hU W hb) okt oku hl hm (pt okt) (pu oku) ((htab.on hb).mono hb.size) (hN.below hb) hcap)
end Go.Proofs.YtcjeeagnfmipgaaGreatDoor

