import Derived.Test.YtcjeeagnfmipgaaGreatDoorSh
import Derived.Test.YtcjeeagnfmipgaaGreatDoorNss
import Derived.Test.YtcjeeagnfmipgaaGreatDoorKbs
/- The contracts of hornref.shapes and hornref.Match. -/
namespace Go.Proofs.YtcjeeagnfmipgaaGreatDoor
open Go.RowKit Go.Shelf Go.Maps

theorem bfroz {W w1 : World} (hb : Below W.heap.size W w1) : ∀ b o, b < W.heap.size → w1.frozen? ⟨b, o, none⟩ = W.frozen? ⟨b, o, none⟩ := fun b o h => hb.frozen (p := ⟨b, o, none⟩) h
theorem grb_cell {sb : Nat} {A W : World} (h : GrB (fun k => k = sb) A.heap.size A W) : ∀ b o, b < A.heap.size → b ≠ sb → W.cell? ⟨b, o, none⟩ = A.cell? ⟨b, o, none⟩ := fun _ _ hb hne => h.cell hb hne

set_option maxRecDepth 100000 in
set_option maxHeartbeats 2000000 in
theorem shapes_var {D n₀ sb : Nat} {n : Nat} (N : Int) (s : ByteArray) (a : Option Addr) (len cap : Nat) (t : Tm n) (w : World) (c : List (Int × List Nd)) (hD : n ≤ D) (hS : ShI D sb c w) (ht : IsT n₀ w t) (hn : n₀ ≤ sb) (hbig : c.length < 4194304) :
    Calls Tryz.prog 83 #[.agg #[.int .i64 1, .int .i64 N, .string s, .slice a len cap], t.tv.val, .pointer (some ⟨sb, 0, none⟩)] w fun e W' => e = .returned (.bool true) ∧ GrB (fun k => k = sb) w.heap.size w W' ∧ ShI D sb (shV N (code t) c) W' := by
  obtain ⟨W2, hW2, hB2, hba, hbb, hsz⟩ := two_new w ⟨1, N, s, a, len, cap⟩ t.tv
  have hsl := hS.lt
  have hS2 := hS.below hB2
  obtain ⟨la, ll, lc, hbx, hout⟩ := hS2
  obtain ⟨a1, len1, cap1, l1, e1, hsrc, hlen1, _⟩ := id hout
  simp only [Value.slice.injEq] at e1
  obtain ⟨rfl, rfl, rfl⟩ := e1
  obtain ⟨bs, hL, hcb, _⟩ := hsrc.2 D (Nat.le_refl _) hsrc.1
  have hfd : ∀ X, Below W2.heap.size W2 X → Calls Tryz.prog 98 #[.slice la ll lc, .int .i64 N] X fun e W3 => ∃ (x : TV) (f : Bool), e = .returned (.tuple #[x.val, .bool f]) ∧ Below X.heap.size X W3 ∧ (f = true ↔ ∃ p ∈ bs, p.1 = N) := fun X hX => by
    refine (rfind_any bs la ll lc N X.heap.size X ((hL.below hX).mono hX.size) (Nat.le_refl _)).mono fun e W3 h => ?_
    obtain ⟨x, f, h1, h2, _, h4⟩ := h
    exact ⟨x, f, h1, h2, h4⟩
  have hXb : Below W2.heap.size W2 (W2.alloc (.cells #[.int .i64 0, .int .i64 0, .string ⟨#[]⟩, .slice none 0 0] 24)).drew := ((Below.refl _ W2).alloc (Nat.le_refl _) _).drew
  have hany : c.any (fun q => decide (q.1 = N)) = true ↔ ∃ p ∈ bs, p.1 = N := by
    rw [← hcb, List.any_eq_true]
    constructor
    · rintro ⟨q, hq, h⟩
      exact cb_has.1 ⟨q, hq, of_decide_eq_true h⟩
    · rintro h
      obtain ⟨q, hq, h⟩ := cb_has.2 h
      exact ⟨q, hq, decide_eq_true h⟩
  have hpl : ∀ W4, Below W2.heap.size W2 W4 → Calls Tryz.prog 99 #[.slice la ll lc, .int .i64 N, t.tv.val] W4.drew fun e W5 => ∃ la' ll' lc', e = .returned (.slice la' ll' lc') ∧ Below W4.heap.size W4 W5 ∧ OutB D W5 (.slice la' ll' lc') (c.length + 1) (insK c N (code t)) := fun W4 h4 => by
    have h4' : Below W2.heap.size W2 W4.drew := h4.drew
    have hB4 : Below w.heap.size w W4.drew := hB2.trans (h4'.mono hB2.size)
    have hT4 : IsT W4.drew.heap.size W4.drew t := (ht.below (hB4.mono (by omega))).mono (by have := hB4.size; omega)
    refine (place_out N (hout.below h4') ((holdsS_of hT4 hT4.blk).mono hD (fun _ h => h)) (by omega)).mono fun e W5 h => ?_
    obtain ⟨v', q1, q2, q3⟩ := h
    obtain ⟨a', l', c', _, rfl, _⟩ := id q3
    exact ⟨a', l', c', q1, (Below.refl _ W4).drew.trans q2, q3⟩
  have hsb2 : sb < W2.heap.size := hbx.lt
  have hne1 : w.heap.size ≠ sb := by omega
  have hne2 : w.heap.size + 1 ≠ sb := by omega
  have b0 := hba.c0
  have b1 := hba.c1
  have t0 := hbb.c0
  have t1 := hbb.c1
  have t2 := hbb.c2
  have t3 := hbb.c3
  have s0 := hbx.cell
  have s1 := hbx.frozen
  have hy1 : w.heap.size < W2.heap.size := hba.lt
  have hy2 : w.heap.size + 1 < W2.heap.size := hbb.lt
  have hy1' : w.heap.size < W2.heap.size + 1 := by omega
  have hy2' : w.heap.size + 1 < W2.heap.size + 1 := by omega
  have hsb3 : sb < W2.heap.size + 1 := by omega
  have hne3 : W2.heap.size ≠ w.heap.size := by omega
  have hne4 : W2.heap.size ≠ sb := by omega
  simp only at b0 b1
  have HPL := hide hpl
  have HB2 := hide hB2
  have HOUT := hide hout
  have HBX := hide hbx
  simp only [TV.val] at hfd ⊢
  clear hS hsrc hL hcb hba hbb ht hpl hB2 hout hbx hsz
  by_cases hin : ∃ p ∈ bs, p.1 = N
  · have hsv : shV N (code t) c = c := if_pos (hany.2 hin)
    rw [hsv]
    have hfd' : Calls Tryz.prog 98 #[.slice la ll lc, .int .i64 N] (W2.alloc (.cells #[.int .i64 0, .int .i64 0, .string ⟨#[]⟩, .slice none 0 0] 24)).drew fun e W3 => ∃ (x : TV), e = .returned (.tuple #[.agg #[.int .i64 x.k, .int .i64 x.N, .string x.s, .slice x.a x.len x.cap], .bool true]) ∧ Below W2.heap.size W2 W3 ∧ W3.heap[W2.heap.size]? = some (.cells #[.int .i64 0, .int .i64 0, .string ⟨#[]⟩, .slice none 0 0] 24 (0, 0)) := (hfd _ hXb).mono fun e W3 h => by
      obtain ⟨x, f, h1, h2, h3⟩ := h
      have : f = true := h3.2 hin
      subst this
      exact ⟨x, h1, hXb.trans (h2.mono hXb.size), (h2.block W2.heap.size (by show W2.heap.size < (W2.alloc _).heap.size; simp)).trans (zbox_new W2)⟩
    have hfd2 : Calls Tryz.prog 98 #[.slice la ll lc, .int .i64 N] W2.drew fun e W3 => ∃ (x : TV), e = .returned (.tuple #[.agg #[.int .i64 x.k, .int .i64 x.N, .string x.s, .slice x.a x.len x.cap], .bool true]) ∧ Below W2.heap.size W2 W3 := (hfd _ (Below.refl _ W2).drew).mono fun e W3 h => by
      obtain ⟨x, f, h1, h2, h3⟩ := h
      have : f = true := h3.2 hin
      subst this
      exact ⟨x, h1, (Below.refl _ W2).drew.trans h2⟩
    clear hfd hin hsv hany hXb
    go_enter Tryz.func83, Tryz.ntmps83
    go_wp2_with fail
    clear hW2
    go_region_held3 (fun w' => w'.cell? ⟨w.heap.size, 1, none⟩ = some (.int .i64 N) ∧ w'.cell? ⟨sb, 0, none⟩ = some (.slice la ll lc)) (go_keep)
      (first | (go_at_call 98; refine hfd'.mono ?_; clear hfd'; rintro e W3 ⟨x, rfl, hb3, hz3⟩; have hbc := bcell hb3; obtain ⟨⟨z0, z1, z2, z3⟩, y0, y1, y2, y3⟩ := zbox_kept hz3) | (go_at_call 98; refine hfd2.mono ?_; clear hfd2; rintro e W3 ⟨x, rfl, hb3⟩; have hbc := bcell hb3; have hs3 := hb3.size; have hne5 : W3.heap.size ≠ w.heap.size := (by omega); have hne6 : W3.heap.size ≠ sb := (by omega)))
    · have hbX : Below W2.heap.size W2 (W3.alloc (.cells #[.int .i64 x.k, .int .i64 x.N, .string x.s, .slice x.a x.len x.cap] 24)) := hb3.alloc hs3 _
      obtain ⟨X, hX⟩ : ∃ X, W3.alloc (.cells #[.int .i64 x.k, .int .i64 x.N, .string x.s, .slice x.a x.len x.cap] 24) = X := ⟨_, rfl⟩
      rw [hX] at hbX ⊢
      clear hX hbc hb3 hs3 hne5 hne6 hfd'
      have hBX : Below w.heap.size w X := (unhide HB2).trans (hbX.mono (unhide HB2).size)
      have hfin : ShI D sb c X := ⟨la, ll, lc, (hbX.block sb hsb2).trans (unhide HBX), (unhide HOUT).below hbX⟩
      have HF := hide hfin
      clear hfin hbX
      go_wp2_with fail
      go_ret
      exact ⟨rfl, GrB.of_below hBX, unhide HF⟩
    · have hbX : Below W2.heap.size W2 (set4 W3 W2.heap.size 0 x) := set4_below hb3 (Nat.le_refl _) 0 x
      unfold set4 at hbX
      obtain ⟨X, hX⟩ : ∃ X, (((W3.setCell ⟨W2.heap.size, 0, none⟩ (.int .i64 x.k)).setCell ⟨W2.heap.size, 0 + 1, none⟩ (.int .i64 x.N)).setCell ⟨W2.heap.size, 0 + 2, none⟩ (.string x.s)).setCell ⟨W2.heap.size, 0 + 3, none⟩ (.slice x.a x.len x.cap) = X := ⟨_, rfl⟩
      rw [hX] at hbX
      simp only [Nat.zero_add] at hX
      rw [hX]
      clear hX hbc hb3 hz3 z0 z1 z2 z3 y0 y1 y2 y3 hfd2
      have hBX : Below w.heap.size w X := (unhide HB2).trans (hbX.mono (unhide HB2).size)
      have hfin : ShI D sb c X := ⟨la, ll, lc, (hbX.block sb hsb2).trans (unhide HBX), (unhide HOUT).below hbX⟩
      have HF := hide hfin
      clear hfin hbX
      go_wp2_with fail
      go_ret
      exact ⟨rfl, GrB.of_below hBX, unhide HF⟩
  · have hsv : shV N (code t) c = insK c N (code t) := if_neg (fun e => hin (hany.1 e))
    rw [hsv]
    have hfd' : Calls Tryz.prog 98 #[.slice la ll lc, .int .i64 N] (W2.alloc (.cells #[.int .i64 0, .int .i64 0, .string ⟨#[]⟩, .slice none 0 0] 24)).drew fun e W3 => ∃ (x : TV), e = .returned (.tuple #[.agg #[.int .i64 x.k, .int .i64 x.N, .string x.s, .slice x.a x.len x.cap], .bool false]) ∧ Below W2.heap.size W2 W3 ∧ W3.heap[W2.heap.size]? = some (.cells #[.int .i64 0, .int .i64 0, .string ⟨#[]⟩, .slice none 0 0] 24 (0, 0)) := (hfd _ hXb).mono fun e W3 h => by
      obtain ⟨x, f, h1, h2, h3⟩ := h
      have : f = false := by
        cases f with
        | false => rfl
        | true => exact (hin (h3.1 rfl)).elim
      subst this
      exact ⟨x, h1, hXb.trans (h2.mono hXb.size), (h2.block W2.heap.size (by show W2.heap.size < (W2.alloc _).heap.size; simp)).trans (zbox_new W2)⟩
    have hfd2 : Calls Tryz.prog 98 #[.slice la ll lc, .int .i64 N] W2.drew fun e W3 => ∃ (x : TV), e = .returned (.tuple #[.agg #[.int .i64 x.k, .int .i64 x.N, .string x.s, .slice x.a x.len x.cap], .bool false]) ∧ Below W2.heap.size W2 W3 := (hfd _ (Below.refl _ W2).drew).mono fun e W3 h => by
      obtain ⟨x, f, h1, h2, h3⟩ := h
      have : f = false := by
        cases f with
        | false => rfl
        | true => exact (hin (h3.1 rfl)).elim
      subst this
      exact ⟨x, h1, (Below.refl _ W2).drew.trans h2⟩
    clear hfd hin hsv hany hXb
    go_enter Tryz.func83, Tryz.ntmps83
    go_wp2_with fail
    clear hW2
    go_region_held3 (fun w' => w'.cell? ⟨w.heap.size, 1, none⟩ = some (.int .i64 N) ∧ w'.cell? ⟨sb, 0, none⟩ = some (.slice la ll lc)) (go_keep)
      (first | (go_at_call 98; refine hfd'.mono ?_; clear hfd'; rintro e W3 ⟨x, rfl, hb3, hz3⟩; have hbc := bcell hb3; obtain ⟨⟨z0, z1, z2, z3⟩, y0, y1, y2, y3⟩ := zbox_kept hz3) | (go_at_call 98; refine hfd2.mono ?_; clear hfd2; rintro e W3 ⟨x, rfl, hb3⟩; have hbc := bcell hb3; have hs3 := hb3.size; have hne5 : W3.heap.size ≠ w.heap.size := (by omega); have hne6 : W3.heap.size ≠ sb := (by omega)))
    · have hbX : Below W2.heap.size W2 (W3.alloc (.cells #[.int .i64 x.k, .int .i64 x.N, .string x.s, .slice x.a x.len x.cap] 24)) := hb3.alloc hs3 _
      obtain ⟨X, hX⟩ : ∃ X, W3.alloc (.cells #[.int .i64 x.k, .int .i64 x.N, .string x.s, .slice x.a x.len x.cap] 24) = X := ⟨_, rfl⟩
      rw [hX] at hbX ⊢
      clear hX hbc hb3 hs3 hne5 hne6 hfd'
      have hBX : Below w.heap.size w X := (unhide HB2).trans (hbX.mono (unhide HB2).size)
      have hxs := hbX.size
      have hp1 := (unhide HPL) X hbX
      have hbxX : Boxed X sb 32 (.slice la ll lc) := (hbX.block sb hsb2).trans (unhide HBX)
      have g0 := hbxX.cell
      have g1 := hbxX.frozen
      have hgg := bcell hbX
      have p1 : X.cell? ⟨w.heap.size, 1, none⟩ = some (.int .i64 N) := (hgg _ _ hy1).trans b1
      have q0 := (hgg (w.heap.size + 1) 0 hy2).trans t0
      have q1 := (hgg (w.heap.size + 1) 1 hy2).trans t1
      have q2 := (hgg (w.heap.size + 1) 2 hy2).trans t2
      have q3 := (hgg (w.heap.size + 1) 3 hy2).trans t3
      have hu1 : w.heap.size < X.heap.size := by omega
      have hu2 : w.heap.size + 1 < X.heap.size := by omega
      have hu3 : sb < X.heap.size := by omega
      have hune1 : sb ≠ w.heap.size := by omega
      have hune2 : sb ≠ w.heap.size + 1 := by omega
      simp only [TV.val] at hp1
      have HBXX := hide hbxX
      clear hgg b0 b1 t0 t1 t2 t3 s0 s1 hbX hbxX hy1 hy2 hy1' hy2' hsb2 hsb3
      go_wp2_with fail
      go_region_with
        (first | (go_at_call 99; refine hp1.mono ?_; clear hp1; rintro e W5 ⟨la', ll', lc', rfl, hb5, hout5⟩; have hbd := bcell hb5; have g2 := (hb5.frozen (p := ⟨sb, 0, none⟩) hu3).trans g1))
      all_goals
        have hbx5x : Boxed W5 sb 32 (.slice la ll lc) := (hb5.block sb hu3).trans (unhide HBXX)
        have hfin : ShI D sb (insK c N (code t)) (W5.setCell ⟨sb, 0, none⟩ (.slice la' ll' lc')) := ⟨la', ll', lc', hbx5x.set _, by rw [insK_len]; exact out_set hbx5x _ hout5⟩
        have hgf : GrB (fun k => k = sb) w.heap.size w (W5.setCell ⟨sb, 0, none⟩ (.slice la' ll' lc')) := by
          have hB5 := hBX.trans (hb5.mono (by omega))
          refine (GrB.of_below hB5).trans ⟨rfl, rfl, rfl, by simp, fun k _ hk => ?_⟩
          exact Below.heap_setCell _ _ _ _ (by simpa using hk)
        have HF := hide hfin
        have HG := hide hgf
        clear hfin hgf hbx5x hout5 hbd hb5
        go_wp2_with fail
        go_ret
        exact ⟨rfl, unhide HG, unhide HF⟩
    · have hbX : Below W2.heap.size W2 (set4 W3 W2.heap.size 0 x) := set4_below hb3 (Nat.le_refl _) 0 x
      unfold set4 at hbX
      obtain ⟨X, hX⟩ : ∃ X, (((W3.setCell ⟨W2.heap.size, 0, none⟩ (.int .i64 x.k)).setCell ⟨W2.heap.size, 0 + 1, none⟩ (.int .i64 x.N)).setCell ⟨W2.heap.size, 0 + 2, none⟩ (.string x.s)).setCell ⟨W2.heap.size, 0 + 3, none⟩ (.slice x.a x.len x.cap) = X := ⟨_, rfl⟩
      rw [hX] at hbX
      simp only [Nat.zero_add] at hX
      rw [hX]
      clear hX hbc hb3 hz3 z0 z1 z2 z3 y0 y1 y2 y3 hfd2
      have hBX : Below w.heap.size w X := (unhide HB2).trans (hbX.mono (unhide HB2).size)
      have hxs := hbX.size
      have hp1 := (unhide HPL) X hbX
      have hbxX : Boxed X sb 32 (.slice la ll lc) := (hbX.block sb hsb2).trans (unhide HBX)
      have g0 := hbxX.cell
      have g1 := hbxX.frozen
      have hgg := bcell hbX
      have p1 : X.cell? ⟨w.heap.size, 1, none⟩ = some (.int .i64 N) := (hgg _ _ hy1).trans b1
      have q0 := (hgg (w.heap.size + 1) 0 hy2).trans t0
      have q1 := (hgg (w.heap.size + 1) 1 hy2).trans t1
      have q2 := (hgg (w.heap.size + 1) 2 hy2).trans t2
      have q3 := (hgg (w.heap.size + 1) 3 hy2).trans t3
      have hu1 : w.heap.size < X.heap.size := by omega
      have hu2 : w.heap.size + 1 < X.heap.size := by omega
      have hu3 : sb < X.heap.size := by omega
      have hune1 : sb ≠ w.heap.size := by omega
      have hune2 : sb ≠ w.heap.size + 1 := by omega
      simp only [TV.val] at hp1
      have HBXX := hide hbxX
      clear hgg b0 b1 t0 t1 t2 t3 s0 s1 hbX hbxX hy1 hy2 hy1' hy2' hsb2 hsb3
      go_wp2_with fail
      go_region_with
        (first | (go_at_call 99; refine hp1.mono ?_; clear hp1; rintro e W5 ⟨la', ll', lc', rfl, hb5, hout5⟩; have hbd := bcell hb5; have g2 := (hb5.frozen (p := ⟨sb, 0, none⟩) hu3).trans g1))
      all_goals
        have hbx5x : Boxed W5 sb 32 (.slice la ll lc) := (hb5.block sb hu3).trans (unhide HBXX)
        have hfin : ShI D sb (insK c N (code t)) (W5.setCell ⟨sb, 0, none⟩ (.slice la' ll' lc')) := ⟨la', ll', lc', hbx5x.set _, by rw [insK_len]; exact out_set hbx5x _ hout5⟩
        have hgf : GrB (fun k => k = sb) w.heap.size w (W5.setCell ⟨sb, 0, none⟩ (.slice la' ll' lc')) := by
          have hB5 := hBX.trans (hb5.mono (by omega))
          refine (GrB.of_below hB5).trans ⟨rfl, rfl, rfl, by simp, fun k _ hk => ?_⟩
          exact Below.heap_setCell _ _ _ _ (by simpa using hk)
        have HF := hide hfin
        have HG := hide hgf
        clear hfin hgf hbx5x hout5 hbd hb5
        go_wp2_with fail
        go_ret
        exact ⟨rfl, unhide HG, unhide HF⟩
end Go.Proofs.YtcjeeagnfmipgaaGreatDoor

