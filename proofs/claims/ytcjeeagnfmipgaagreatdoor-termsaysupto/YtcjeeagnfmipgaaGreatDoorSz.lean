import Derived.Test.YtcjeeagnfmipgaaGreatDoorSy
import Derived.Test.YtcjeeagnfmipgaaGreatDoorMas
/- The contract of hornref.Match: as ours. -/
namespace Go.Proofs.YtcjeeagnfmipgaaGreatDoor
open Go.RowKit Go.Shelf Go.Maps

theorem three_b (w : World) (x y : TV) : ∃ W3, ((w.alloc (.cells #[.int .i64 x.k, .int .i64 x.N, .string x.s, .slice x.a x.len x.cap] 24)).alloc (.cells #[.int .i64 y.k, .int .i64 y.N, .string y.s, .slice y.a y.len y.cap] 24)).alloc (.cells #[.slice none 0 0] 32) = W3 ∧ Below w.heap.size w W3 ∧ BoxT W3 w.heap.size x ∧ BoxT W3 (w.heap.size + 1) y ∧ Boxed W3 (w.heap.size + 2) 32 (.slice none 0 0) ∧ W3.heap.size = w.heap.size + 3 := by
  obtain ⟨W2, h1, h2, h3, h4, h5⟩ := two_new w x y
  rw [h1]
  refine ⟨_, rfl, h2.alloc (by omega) _, h3.alloc _, h4.alloc _, ?_, by simp [h5]⟩
  have := Boxed.new W2 32 (.slice none 0 0)
  rw [h5] at this
  exact this

/-- What the document's Match answers. -/
def RMSays {n : Nat} (p t : Tm n) (m : Bool) (w : World) (e : Ending) (W' : World) : Prop :=
  ∃ (la : Option Addr) (ll lc : Nat), e = .returned (.tuple #[.slice la ll lc, .bool m]) ∧ Below w.heap.size w W' ∧ (m = true → OutB n W' (.slice la ll lc) (code p).length (insF (matT p t []).2)) ∧ (m = false → ll = 0)

set_option maxRecDepth 100000 in
set_option maxHeartbeats 4000000 in
theorem rmatch_any {n : Nat} (p t : Tm n) (w : World) (hp : IsT w.heap.size w p) (ht : IsT w.heap.size w t) (okp : okT p = true) (okt : okT t = true) (hbig : (code p).length ≤ 4194304) (hn40 : n ≤ 1048576 := by omega) :
    Calls Tryz.prog 48 #[p.tv.val, t.tv.val] w (RMSays p t (matT p t []).1 w) := by
  obtain ⟨W3, hW3, hB3, hba, hbb, hbs, hsz⟩ := three_b w p.tv t.tv
  have hiff := sh_mat hp.wl okp ht.wl okt
  have hlen := sh_len p t []
  have hshe : (matT p t []).1 = true → insF (matT p t []).2 = (shT p t []).2 := fun h => by
    have h1 : shT p t [] = (true, insF (matT p t []).2) := mat_sh p t [] h
    rw [h1]
  have hS0 : ShI n (w.heap.size + 2) [] W3.drew := ⟨none, 0, 0, hbs, OutB.zero _ _⟩
  have hsh := (shapes_any (D := n) (n₀ := w.heap.size) (sb := w.heap.size + 2) n p t W3.drew [] (Nat.le_refl _) hS0 (hp.below hB3.drew) (ht.below hB3.drew) (by omega) (by simpa using hbig)).mono
    (R' := fun e W4 => e = .returned (.bool (shT p t []).1) ∧ GrB (fun k => k = w.heap.size + 2) W3.heap.size W3 W4 ∧ ∃ a l cp, Boxed W4 (w.heap.size + 2) 32 (.slice a l cp) ∧ OutB n W4 (.slice a l cp) (shT p t []).2.length (shT p t []).2 ∧
      Calls Tryz.prog 84 #[p.tv.val, .slice a l cp] W4 fun e W5 => ∃ x : TV, e = .returned x.val ∧ Below W4.heap.size W4 W5 ∧
        Calls Tryz.prog 41 #[x.val, t.tv.val] W5 fun e W6 => e = .returned (.bool (decide ((code p).flatMap (subN (lookC (shT p t []).2)) = code t))) ∧ Below W4.heap.size W4 W6)
    (fun e W4 h => by
      obtain ⟨h1, h2, a, l, cp, h3, h4⟩ := h
      have hg : GrB (fun k => k = w.heap.size + 2) W3.heap.size W3 W4 := (GrB.of_below (Below.refl _ W3).drew).trans h2
      have hB4 : Below w.heap.size w W4 := hB3.trans (hg.below (fun k e => by omega) (by omega))
      refine ⟨h1, hg, a, l, cp, h3, h4, ?_⟩
      obtain ⟨a1, len1, cap1, l1, e1, hsrc, _⟩ := id h4
      simp only [Value.slice.injEq] at e1
      obtain ⟨rfl, rfl, rfl⟩ := e1
      obtain ⟨bs, hL, hcb, _⟩ := hsrc.2 n (Nat.le_refl _) hsrc.1
      have hp4 : IsT W4.heap.size W4 p := (hp.below hB4).mono hB4.size
      refine (rapply_any bs a l cp W4.heap.size n p W4 hL (Nat.le_refl _) hp4 okp).mono fun e W5 h => ?_
      obtain ⟨x, q1, q2, q3⟩ := h
      refine ⟨x, q1, q2, ?_⟩
      rw [hcb] at q3
      have ht4 : IsT W4.heap.size W4 t := (ht.below hB4).mono hB4.size
      refine (same_c q3.tc (((tc_of ht4).below q2).mono (by omega))).mono fun e W6 h => ?_
      exact ⟨h.1, q2.trans (h.2.mono q2.size)⟩)
  obtain ⟨S, hSe⟩ : ∃ S, shT p t [] = S := ⟨_, rfl⟩
  rw [hSe] at hiff hlen hshe hsh
  have c0 := hba.c0
  have c1 := hba.c1
  have c2 := hba.c2
  have c3 := hba.c3
  have d0 := hbb.c0
  have d1 := hbb.c1
  have d2 := hbb.c2
  have d3 := hbb.c3
  obtain ⟨m, hm⟩ : ∃ m, (matT p t []).1 = m := ⟨_, rfl⟩
  rw [hm] at hiff hshe ⊢
  have hy0 : w.heap.size < W3.heap.size := by omega
  have hy1 : w.heap.size + 1 < W3.heap.size := by omega
  have hne0 : w.heap.size ≠ w.heap.size + 2 := by omega
  have hne1 : w.heap.size + 1 ≠ w.heap.size + 2 := by omega
  have HSHE := hide hshe
  have HB3 := hide hB3
  have HIFF := hide hiff
  have HLEN := hide hlen
  have hle3 : w.heap.size + 3 ≤ W3.heap.size := by omega
  clear hm hSe hp ht okp okt hba hbb hbs hS0 hiff hshe hB3 hsz hlen
  simp only [TV.val] at hsh ⊢
  obtain ⟨S1, S2⟩ := S
  simp only at hsh HSHE HIFF HLEN
  obtain ⟨dd, hdd⟩ : ∃ dd, decide ((code p).flatMap (subN (lookC S2)) = code t) = dd := ⟨_, rfl⟩
  rw [hdd] at hsh
  have HDD := hide hdd
  clear hdd
  cases S1 with
  | false =>
    have hmf : m = false := by
      cases m with
      | false => rfl
      | true => exact absurd ((unhide HIFF).1 rfl).1 (by simp)
    subst hmf
    go_enter Tryz.func48, Tryz.ntmps48
    go_wp2_with fail
    clear hW3
    go_region_with (first | (go_at_call 83; refine hsh.mono ?_; clear hsh; rintro e W4 ⟨rfl, hg4, a4, l4, cp4, hbx4, hout4, hap⟩))
    all_goals
      have hB4 : Below w.heap.size w W4 := (unhide HB3).trans (hg4.below (n₀ := w.heap.size) (fun k e => by omega) (by omega))
      clear hg4 hbx4 hout4 hap
      go_wp2_with fail
      exact bodyPost_ret (v := .tuple #[.slice none 0 0, .bool false]) (by simp [results, Tryz.results48, go_sem]) rfl ⟨none, 0, 0, rfl, hB4, (fun h => by cases h), fun _ => rfl⟩
  | true =>
    go_enter Tryz.func48, Tryz.ntmps48
    go_wp2_with fail
    clear hW3
    go_region_with (first | (go_at_call 83; refine hsh.mono ?_; clear hsh; rintro e W4 ⟨rfl, hg4, a4, l4, cp4, hbx4, hout4, hap⟩; have hg4s := hg4.size; have hgc := grb_cell hg4; have e0 := (hgc _ 0 hy0 hne0).trans c0; have e1 := (hgc _ 1 hy0 hne0).trans c1; have e2 := (hgc _ 2 hy0 hne0).trans c2; have e3 := (hgc _ 3 hy0 hne0).trans c3; have f0 := (hgc _ 0 hy1 hne1).trans d0; have f1 := (hgc _ 1 hy1 hne1).trans d1; have f2 := (hgc _ 2 hy1 hne1).trans d2; have f3 := (hgc _ 3 hy1 hne1).trans d3; have s0 := hbx4.cell; have hz1 : w.heap.size + 1 < W4.heap.size := (by omega); clear hgc) | (go_at_call 84; refine hap.mono ?_; clear hap; rintro e W5 ⟨x, rfl, hb5, hsm⟩; have hgd := bcell hb5; have k0 := (hgd _ 0 hz1).trans f0; have k1 := (hgd _ 1 hz1).trans f1; have k2 := (hgd _ 2 hz1).trans f2; have k3 := (hgd _ 3 hz1).trans f3; clear hgd) | (go_at_call 41; refine hsm.mono ?_; clear hsm; rintro e W6 ⟨rfl, hb6⟩))
    all_goals
      have hB4 : Below w.heap.size w W4 := (unhide HB3).trans (hg4.below (n₀ := w.heap.size) (fun k e => by omega) (by omega))
      have hB6 : Below w.heap.size w W6 := hB4.trans (hb6.mono hB4.size)
      have hmd : m = dd := by
        rw [← unhide HDD, Bool.eq_iff_iff, decide_eq_true_eq]
        exact ⟨fun h => ((unhide HIFF).1 h).2, fun h => (unhide HIFF).2 ⟨by simp, h⟩⟩
      have hs6 := (hb6.cell (p := ⟨w.heap.size + 2, 0, none⟩) hbx4.lt).trans s0
      have hout6 := hout4.below hb6
      have HOUT := hide hout6
      clear hg4 hbx4 hout4 hb6 hB4 hout6 e0 e1 e2 e3 f0 f1 f2 f3 s0 k0 k1 k2 k3
      subst hmd
      cases m with
      | false =>
        go_wp2_with fail
        exact bodyPost_ret (v := .tuple #[.slice none 0 0, .bool false]) (by simp [results, Tryz.results48, go_sem]) rfl ⟨none, 0, 0, rfl, hB6, (fun h => by cases h), fun _ => rfl⟩
      | true =>
        go_wp2_with fail
        exact bodyPost_ret (v := .tuple #[.slice a4 l4 cp4, .bool true]) (by simp [results, Tryz.results48, go_sem]) rfl ⟨a4, l4, cp4, rfl, hB6, (fun _ => by rw [(unhide HSHE) (by simp)]; exact (unhide HOUT).more (by have := unhide HLEN; simpa using this)), (fun h => by cases h)⟩
end Go.Proofs.YtcjeeagnfmipgaaGreatDoor

