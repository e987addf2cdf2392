import Derived.Test.YtcdgmjpgmiehcaaGqD
/- grammar's reach: the walk. -/
namespace Go.Proofs.Ytcdgmjpgmiehcaa
open Go.RowKit Go.Shelf

set_option maxRecDepth 100000 in
set_option maxHeartbeats 8000000 in
theorem reach_any {D w0 wb n : Nat} {f0 : Int} {vs : List Int} {V : World} {s r : List Nd} {lf : Value} (t : Tm n) (E : Task) (hT : IsT V.heap.size V t) (ok : okT t = true) (hD1 : 1 ≤ D) (hlim : n + D + 3 ≤ 2199023255552)
    (hp : PtK D w0 f0 vs V E.pf s) (hq : PtIs D w0 f0 vs V E.pt r) (hw : WrB V wb (f0 + vs.length) lf) (hw0 : w0 ≤ wb) (hp0 : w0 ≤ E.pf) (hq0 : w0 ≤ E.pt) (h0 : 0 ≤ f0) (h40 : ¬ Come f0 vs r → f0 + vs.length ≤ 1099511627776) :
    Calls Try.prog 50 #[.pointer (some ⟨wb, 0, none⟩), t.tv.val, E.val] V fun e V' => ∃ y : TV, e = .returned y.val ∧ HoldsG anyP (n + D + 3) V.heap.size V' y.val (eqC (renC (newR f0 (extV f0 vs r)) s) (endC t (renC (newR f0 (extV f0 vs r)) r))) ∧ PtK D w0 f0 (extV f0 vs r) V' E.pf s ∧ PtK D w0 f0 (extV f0 vs r) V' E.pt r ∧ WrB V' wb (f0 + (extV f0 vs r).length) lf ∧ GrB (fun k => k = wb ∨ k = E.pt) V.heap.size V V' := by
  have HIS : Hid (∀ (V : World) (x : TV) (s : ByteArray) (m : Int), Calls Try.prog 20 #[.agg #[.int .i64 x.k, .int .i64 x.N, .string x.s, .slice x.a x.len x.cap], .string s, .int .i64 m] V fun e W' => e = .returned (.bool (isB x s.toList m)) ∧ Below V.heap.size V W') := hide fun V x s m => gis_any x s m V
  have hptl := hq.lt
  have hwl := hw.lt
  obtain ⟨W3, hW3⟩ : ∃ W3, ((V.alloc (.cells #[.int .i64 t.tv.k, .int .i64 t.tv.N, .string t.tv.s, .slice t.tv.a t.tv.len t.tv.cap] 24)).alloc (.cells #[.int .i64 E.x.k, .int .i64 E.x.N, .string E.x.s, .slice E.x.a E.x.len E.x.cap, .pointer (some ⟨E.pf, 0, none⟩), .pointer (some ⟨E.pt, 0, none⟩), .pointer (some E.pl)] 64)).alloc (.cells #[.int .i64 0, .int .i64 0, .string ⟨#[]⟩, .slice none 0 0] 24) = W3 := ⟨_, rfl⟩
  have hs3 : W3.heap.size = V.heap.size + 3 := by rw [← hW3]; simp
  have g3 : Below V.heap.size V W3 := by rw [← hW3]; exact (((Below.refl _ V).alloc (Nat.le_refl _) _).alloc (by simp) _).alloc (by simp; omega) _
  have b0 : BoxT W3 V.heap.size t.tv := by rw [← hW3]; exact ((BoxT.new V t.tv).alloc _).alloc _
  have b1 : W3.heap[V.heap.size + 1]? = some (.cells #[.int .i64 E.x.k, .int .i64 E.x.N, .string E.x.s, .slice E.x.a E.x.len E.x.cap, .pointer (some ⟨E.pf, 0, none⟩), .pointer (some ⟨E.pt, 0, none⟩), .pointer (some E.pl)] 64 (0, 0)) := by
    rw [← hW3]
    have h0 := World.alloc_heap_new (V.alloc (.cells #[.int .i64 t.tv.k, .int .i64 t.tv.N, .string t.tv.s, .slice t.tv.a t.tv.len t.tv.cap] 24)) (.cells #[.int .i64 E.x.k, .int .i64 E.x.N, .string E.x.s, .slice E.x.a E.x.len E.x.cap, .pointer (some ⟨E.pf, 0, none⟩), .pointer (some ⟨E.pt, 0, none⟩), .pointer (some E.pl)] 64)
    rw [World.size_alloc] at h0
    exact (Below.heap_alloc _ _ _ (by simp)).trans h0
  have bZ : BoxT W3 (V.heap.size + 2) noTerm := by
    rw [← hW3]
    have h0 := BoxT.new ((V.alloc (.cells #[.int .i64 t.tv.k, .int .i64 t.tv.N, .string t.tv.s, .slice t.tv.a t.tv.len t.tv.cap] 24)).alloc (.cells #[.int .i64 E.x.k, .int .i64 E.x.N, .string E.x.s, .slice E.x.a E.x.len E.x.cap, .pointer (some ⟨E.pf, 0, none⟩), .pointer (some ⟨E.pt, 0, none⟩), .pointer (some E.pl)] 64)) noTerm
    rw [World.size_alloc, World.size_alloc] at h0
    exact h0
  have HT3 := (hT.below g3).mono g3.size
  have H1 : ∀ U, Below W3.heap.size W3 U → Calls Try.prog 47 #[.pointer (some ⟨wb, 0, none⟩), .pointer (some ⟨E.pf, 0, none⟩)] U fun e V' => ∃ y : TV, e = .returned y.val ∧ Below U.heap.size U V' ∧ HoldsT (D + 1) U.heap.size V' y.val (renC (newR f0 vs) s) := fun U hU => by
    have gU := g3.trans (hU.mono g3.size)
    refine (written_known (by omega) (hp.low hp0 gU) (hw.kept (gU.block wb hwl)) hp0).mono fun e V' h => ?_
    obtain ⟨y, h1, h2, _, _, h5⟩ := h
    exact ⟨y, h1, h5, h2⟩
  have H2 : ∀ U, Below W3.heap.size W3 U → Calls Try.prog 35 #[.agg #[.int .i64 t.tv.k, .int .i64 t.tv.N, .string t.tv.s, .slice t.tv.a t.tv.len t.tv.cap]] U fun e V' => ∃ y : TV, e = .returned y.val ∧ Below U.heap.size U V' ∧ HoldsT (n + 1) U.heap.size V' y.val (code t) := fun U hU =>
    copy_any t U ((HT3.below hU).mono hU.size) ok
  have hxc := cell_of (j := 4) b1 rfl
  have hxc5 := cell_of (j := 5) b1 rfl
  have HEND : Hid (∀ (W : World) (b1 b2 : Nat) (t1 : Tm (D + 1)) (t2 : Tm (n + 1)), Below W3.heap.size W3 W → W3.heap.size ≤ b1 → W3.heap.size ≤ b2 → b1 ≠ b2 → BoxT W b1 t1.tv → BoxT W b2 t2.tv → Rs W3.heap.size W t1 (renC (newR f0 vs) s) t1.tv.val → Rs W3.heap.size W t2 (code t) t2.tv.val → b1 ∉ blks t1 → b2 ∉ blks t1 → b1 ∉ blks t2 → b2 ∉ blks t2 → (∀ k ∈ blks t1, k ∉ blks t2) → ∀ U, Below W.heap.size W U →
      Calls Try.prog 47 #[.pointer (some ⟨wb, 0, none⟩), .pointer (some ⟨E.pt, 0, none⟩)] U fun e U2 => ∃ y : TV, e = .returned y.val ∧ Spot U2 (endA t2 b2 0).1 (endA t2 b2 0).2 ∧ V.heap.size + 3 ≤ (endA t2 b2 0).1 ∧ ReachS D w0 wb E.pf E.pt n b1 b2 (V.heap.size + 2) f0 vs s r lf (renC (newR f0 (extV f0 vs r)) s) (endC t (renC (newR f0 (extV f0 vs r)) r)) t1.tv V (set4 U2 (endA t2 b2 0).1 (endA t2 b2 0).2 y)) := hide fun W b1 b2 t1 t2 k1 k2 k3 k4 k5 k6 k7 k8 k9 k10 k11 k12 k13 U hU => by
    have gU : Below V.heap.size V U := (g3.trans (k1.mono (by omega))).trans (hU.mono (by have := k1.size; omega))
    refine (written_two hD1 (by omega) (hp.low hp0 gU) (hq.low hq0 gU) (hw.kept (gU.block wb hwl)) hw0 hp0 hq0 h0 h40).mono fun e U2 h => ?_
    obtain ⟨y, e1, e2, e3, e4, e5, e6⟩ := h
    exact ⟨y, e1, reach_end ok hT.wl hs3 g3 bZ k1 k2 k3 k4 k5 k6 k7 k8 k9 k10 k11 k12 k13 hp hwl hptl hw0 hq0 hp0 hU e2 e3 e4 e5 e6⟩
  have HC : Hid (∀ (R : Nat) (X : World), Calls Try.prog 24 #[.string ⟨#[61]⟩, .slice (some ⟨R, 0, none⟩) 2 2] X fun e W' => e = .returned (compV ⟨#[61]⟩ (some ⟨R, 0, none⟩) 2 2).val ∧ Below X.heap.size X W') := hide fun R X => gcomp_any _ _ _ _ X
  have HFIN : Hid (∀ (S X2 : World) (b1 b2 : Nat) (x1 z : TV), ReachS D w0 wb E.pf E.pt n b1 b2 (V.heap.size + 2) f0 vs s r lf (renC (newR f0 (extV f0 vs r)) s) (endC t (renC (newR f0 (extV f0 vs r)) r)) x1 V S → HoldsG anyP (n + D + 2) (V.heap.size + 3) S z.val (endC t (renC (newR f0 (extV f0 vs r)) r)) → Below (S.heap.size + 1) (S.alloc (.cells #[.int .i64 x1.k, .int .i64 x1.N, .string x1.s, .slice x1.a x1.len x1.cap, .int .i64 z.k, .int .i64 z.N, .string z.s, .slice z.a z.len z.cap] 24)) X2 → BoxT X2 (V.heap.size + 2) noTerm ∧ HoldsG anyP (n + D + 3) V.heap.size (set4 X2 (V.heap.size + 2) 0 (compV ⟨#[61]⟩ (some ⟨S.heap.size, 0, none⟩) 2 2)) (compV ⟨#[61]⟩ (some ⟨S.heap.size, 0, none⟩) 2 2).val (eqC (renC (newR f0 (extV f0 vs r)) s) (endC t (renC (newR f0 (extV f0 vs r)) r))) ∧ PtK D w0 f0 (extV f0 vs r) (set4 X2 (V.heap.size + 2) 0 (compV ⟨#[61]⟩ (some ⟨S.heap.size, 0, none⟩) 2 2)) E.pf s ∧ PtK D w0 f0 (extV f0 vs r) (set4 X2 (V.heap.size + 2) 0 (compV ⟨#[61]⟩ (some ⟨S.heap.size, 0, none⟩) 2 2)) E.pt r ∧ WrB (set4 X2 (V.heap.size + 2) 0 (compV ⟨#[61]⟩ (some ⟨S.heap.size, 0, none⟩) 2 2)) wb (f0 + (extV f0 vs r).length) lf ∧ GrB (fun k => k = wb ∨ k = E.pt) V.heap.size V (set4 X2 (V.heap.size + 2) 0 (compV ⟨#[61]⟩ (some ⟨S.heap.size, 0, none⟩) 2 2))) := hide fun S X2 b1 b2 x1 z hR hz hb => by
    have hsS : V.heap.size + 3 ≤ S.heap.size := by have := hR.bx.lt; omega
    have hb' : Below S.heap.size S X2 := ((Below.refl _ S).alloc (o := .cells #[.int .i64 x1.k, .int .i64 x1.N, .string x1.s, .slice x1.a x1.len x1.cap, .int .i64 z.k, .int .i64 z.N, .string z.s, .slice z.a z.len z.cap] 24) (Nat.le_refl _)).trans (hb.mono (by omega))
    have hG := row_two (s := ⟨#[61]⟩) (by decide) hR.x.2 hz hsS
    rw [show (⟨#[61]⟩ : ByteArray).toList = [61] by decide +kernel] at hG
    have o := fun k (hk : k ≠ V.heap.size + 2) => set4_other X2 (V.heap.size + 2) 0 (compV ⟨#[61]⟩ (some ⟨S.heap.size, 0, none⟩) 2 2) hk
    have hG2 := HoldsG.below hG (by rw [World.size_alloc]; exact hb)
    have hG3 := (HoldsG.move hG2 (fun k _ hk => o k (by have := hk.1; omega)) (by rw [set4_size]; exact Nat.le_refl _)).mono (Nat.le_refl _) (show V.heap.size ≤ V.heap.size + 3 by omega) (fun _ h => h)
    have kf := hR.kf.low hp0 hb'
    have kt := hR.kt.low hq0 hb'
    have hpfl := hp.lt
    refine ⟨hR.bx.below hb' hR.bx.lt, hG3, kf.kept (o _ (by omega)) (fun b hb => o b (by omega)) (by rw [set4_size]; exact Nat.le_refl _) [], kt.kept (o _ (by omega)) (fun b hb => o b (by omega)) (by rw [set4_size]; exact Nat.le_refl _) [], (hR.wr.kept (hb'.block wb (by omega))).kept (o wb (by omega)), ?_⟩
    exact (hR.gr.trans (GrB.of_below (hb'.mono (by omega)))).set4 (b := V.heap.size + 2) (by omega) _ _
  clear hT hp hq hw g3 h0 h40
  have OK := hide ok
  clear ok
  simp only [TV.val, Task.val]
  have hrow : E.row.toArray = #[.int .i64 E.x.k, .int .i64 E.x.N, .string E.x.s, .slice E.x.a E.x.len E.x.cap, .pointer (some ⟨E.pf, 0, none⟩), .pointer (some ⟨E.pt, 0, none⟩), .pointer (some E.pl)] := rfl
  rw [hrow]
  clear hrow
  go_enter Try.func50, Try.ntmps50
  go_wp2_with fail
  try rw [hW3]
  go_wp2_with fail
  refine wp_reach1' (m1 := D + 1) (m2 := n + 1) (D1 := D + 1) (D2 := n + 1) hxc (by omega) b0 (by omega) (by omega) (Nat.le_refl _) (Nat.le_refl _) H1 H2 ?_
  intro W c1 c2 t1 t2 u10 u11 u12 u13 u14 u15 k1 k2 k3 k4 k5 k6 k7 k8 k9 k10 k11 k12 k13
  have hxW := (k1.cell (p := ⟨V.heap.size + 1, 5, none⟩) (show V.heap.size + 1 < _ by omega)).trans hxc5
  have HE := hide ((unhide HEND) W c1 c2 t1 t2 k1 k2 k3 k4 k5 k6 k7 k8 k9 k10 k11 k12 k13)
  have hWs := k1.size
  have HU := hide (And.intro k8 (And.intro k6 (show okT t2 = true by rw [okT_m, k8.cd, ← okT_m]; exact unhide OK)))
  have hxl : V.heap.size + 1 < W.heap.size := by omega
  clear HEND H1 H2 k1 k4 k5 k6 k7 k8 k9 k10 k11 k12 k13 b0 b1 bZ hxc hxc5 HT3 OK hW3
  go_wp2_with fail
  refine wp_loop_cps (fun R hR => ?_)
  have HR := hide hR
  clear hR
  have key : ∀ (n' : Nat) (u : Tm n') (U : World) (b' o' : Nat) (p16 p17 p18 p19 p20 p21 p22 p23 p24 p25 p26 p27 p28 p29 p30 p31 p32 p33 p34 : Value), okT u = true → IsT W.heap.size U u → cellsAt U b' o' u.tv → b' < W.heap.size → Below W.heap.size W U → endA u b' o' = endA t2 c2 0 → R n' { tmps := #[.pointer (some ⟨wb, 0, none⟩), .agg #[.int .i64 t.tv.k, .int .i64 t.tv.N, .string t.tv.s, .slice t.tv.a t.tv.len t.tv.cap], .agg #[.int .i64 E.x.k, .int .i64 E.x.N, .string E.x.s, .slice E.x.a E.x.len E.x.cap, .pointer (some ⟨E.pf, 0, none⟩), .pointer (some ⟨E.pt, 0, none⟩), .pointer (some E.pl)], undef, .pointer (some ⟨V.heap.size, 0, none⟩), .pointer (some ⟨V.heap.size + 1, 0, none⟩), .pointer (some ⟨V.heap.size + 2, 0, none⟩), .pointer (some ⟨c1, 0, none⟩), .pointer (some ⟨c2, 0, none⟩), .pointer (some ⟨b', o', none⟩), u10, u11, u12, u13, u14, u15, p16, p17, p18, p19, p20, p21, p22, p23, p24, p25, p26, p27, p28, p29, p30, p31, p32, p33, p34], defers := [] } U := by
    intro n'
    induction n' with
    | zero => intro u; exact Empty.elim u
    | succ n' ih =>
      intro u U b' o' p16 p17 p18 p19 p20 p21 p22 p23 p24 p25 p26 p27 p28 p29 p30 p31 p32 p33 p34 ok hT hc hbl gU hend
      have HIH := hide ih
      clear ih
      obtain ⟨x, kids⟩ := u
      cases hb : isB x [46] 2 with
      | false =>
        rw [endA_no hb] at hend
        obtain ⟨d0, d1, d2, d3⟩ := hc
        simp only [Tm.tv] at d0 d1 d2 d3
        have HG := hide gU
        have HD := hide hend
        clear gU hT HIH ok hend
        refine (unhide HR) _ _ _ ?_
        go_wp2_with fail
        refine ((unhide HIS) U x _ _).mono ?_
        rintro e U1 ⟨rfl, h1⟩
        rw [ldo, hb]
        have gU1 := (unhide HG).trans (h1.mono (unhide HG).size)
        have hx5 := (gU1.cell (p := ⟨V.heap.size + 1, 5, none⟩) hxl).trans hxW
        have HE1 := hide ((unhide HE) U1 gU1)
        clear gU1 h1 HG HE d0 d1 d2 d3
        go_wp2_with fail
        refine (unhide HE1).mono ?_
        rintro e U2 ⟨y, rfl, hsp, hge, hRS⟩
        rw [← unhide HD] at hsp hge hRS
        simp only at hsp hge hRS
        obtain ⟨q0, y0⟩ := hsp.cell (q := o') (by omega)
        obtain ⟨q1, y1⟩ := hsp.cell (q := o' + 1) (by omega)
        obtain ⟨q2, y2⟩ := hsp.cell (q := o' + 2) (by omega)
        obtain ⟨q3, y3⟩ := hsp.cell (q := o' + 3) (by omega)
        obtain ⟨a0, z0⟩ := Option.isSome_iff_exists.1 q0
        obtain ⟨a1, z1⟩ := Option.isSome_iff_exists.1 q1
        obtain ⟨a2, z2⟩ := Option.isSome_iff_exists.1 q2
        obtain ⟨a3, z3⟩ := Option.isSome_iff_exists.1 q3
        obtain ⟨S, hS⟩ : ∃ S, set4 U2 b' o' y = S := ⟨_, rfl⟩
        rw [hS] at hRS
        obtain ⟨z, hz1, hz2⟩ := hRS.z
        obtain ⟨j0, j1, j2, j3⟩ := hz1
        obtain ⟨i0, i1, i2, i3⟩ := hRS.x.1
        have HF := hide ((unhide HFIN) S)
        have HRS := hide (And.intro hRS hz2)
        unfold set4 at hS
        clear q0 q1 q2 q3 hsp hge hRS hz2 HE1 HD hx5
        simp only [TV.val]
        go_wp2_with fail
        try rw [hS]
        go_wp2_with fail
        clear z0 z1 z2 z3 y0 y1 y2 y3 hS
        refine ((unhide HC) S.heap.size _).mono ?_
        rintro e X2 ⟨rfl, hX2⟩
        rw [World.size_alloc] at hX2
        obtain ⟨bx, hfin⟩ := (unhide HF) X2 c1 c2 t1.tv z (unhide HRS).1 (unhide HRS).2 hX2
        obtain ⟨f0', f1', f2', f3'⟩ := bx.frz
        have e0 := bx.c0
        have e1 := bx.c1
        have e2 := bx.c2
        have e3 := bx.c3
        have b6 := set4_box bx (compV ⟨#[61]⟩ (some ⟨S.heap.size, 0, none⟩) 2 2)
        have g0 := b6.c0
        have g1 := b6.c1
        have g2 := b6.c2
        have g3 := b6.c3
        have HFF := hide hfin
        clear hX2 bx hfin b6 HF HRS i0 i1 i2 i3 j0 j1 j2 j3
        simp only [TV.val, compV]
        go_wp2_with fail
        exact bodyPost_ret (v := (compV ⟨#[61]⟩ (some ⟨S.heap.size, 0, none⟩) 2 2).val) (by
          have e : (((X2.setCell ⟨V.heap.size + 2, 0, none⟩ (.int .i64 4)).setCell ⟨V.heap.size + 2, 1, none⟩ (.int .i64 0)).setCell ⟨V.heap.size + 2, 2, none⟩ (.string ⟨#[61]⟩)).setCell ⟨V.heap.size + 2, 3, none⟩ (.slice (some ⟨S.heap.size, 0, none⟩) 2 2) = set4 X2 (V.heap.size + 2) 0 (compV ⟨#[61]⟩ (some ⟨S.heap.size, 0, none⟩) 2 2) := rfl
          rw [e]
          simp [results, Try.results50, go_sem, TV.val, g0, g1, g2, g3]) rfl ⟨_, rfl, unhide HFF⟩
      | true =>
        have hl : x.len = 2 := by have := isB_len hb; omega
        obtain ⟨a, v, rfl⟩ := two_kids hT.wl hl
        have hk := (ok_kids ok).2 v (by simp)
        rcases hT.2.2.2 with h4 | ⟨B, off, ha, hBl, hcs⟩
        · cases h4
        obtain ⟨hcv, hTv⟩ := hcs 1 v rfl
        rw [endA_yes hb ha] at hend
        obtain ⟨d0, d1, d2, d3⟩ := hc
        obtain ⟨k, N, sx, a', len, cap⟩ := x
        simp only [Tm.tv] at d0 d1 d2 d3 ha hl
        have ha' : a' = some ⟨B, off, none⟩ := ha
        subst ha' hl
        have HG := hide (And.intro gU (And.intro hk (And.intro hTv (And.intro hcv hend))))
        clear gU hT ok hk hTv hcv hend hcs ha
        refine (unhide HR) _ _ _ ?_
        go_wp2_with fail
        refine ((unhide HIS) U ⟨k, N, sx, some ⟨B, off, none⟩, 2, cap⟩ _ _).mono ?_
        rintro e U1 ⟨rfl, h1⟩
        rw [ldo, hb]
        have hsU := (unhide HG).1.size
        have d3' := (h1.cell (p := ⟨b', o' + 3, none⟩) (show b' < _ by omega)).trans d3
        have HH := hide h1
        clear h1 d0 d1 d2 d3
        go_wp2_with fail
        have gB := (unhide HH).mono hsU
        exact (unhide HIH) v U1 B (off + 4) _ _ _ _ _ _ _ _ _ _ _ _ _ _ _ _ _ _ _ (unhide HG).2.1 ((unhide HG).2.2.1.below gB) (((unhide HG).2.2.2.1).kept ((unhide HH).block B (by omega))) hBl ((unhide HG).1.trans gB) (unhide HG).2.2.2.2
  exact ⟨n + 1, key (n + 1) t2 W c2 0 _ _ _ _ _ _ _ _ _ _ _ _ _ _ _ _ _ _ _ (unhide HU).2.2 (unhide HU).1.is ⟨(unhide HU).2.1.c0, (unhide HU).2.1.c1, (unhide HU).2.1.c2, (unhide HU).2.1.c3⟩ (unhide HU).2.1.lt (Below.refl _ _) rfl⟩
end Go.Proofs.Ytcdgmjpgmiehcaa

/- What holds of the writer ahead of and behind a goal; reach of no words. -/
namespace Go.Proofs.Ytcdgmjpgmiehcaa
open Go.RowKit Go.Shelf

/-- Ahead: the first point is known, the second is known or new. -/
structure Wst (D w0 wb pf pt : Nat) (f0 : Int) (vs : List Int) (s r : List Nd) (lf : Value) (V : World) : Prop where
  kf : PtK D w0 f0 vs V pf s
  kt : PtIs D w0 f0 vs V pt r
  wr : WrB V wb (f0 + vs.length) lf
  d1 : 1 ≤ D
  w0b : w0 ≤ wb
  w0f : w0 ≤ pf
  w0t : w0 ≤ pt
  f00 : 0 ≤ f0
  n40 : ¬ Come f0 vs r → f0 + vs.length ≤ 1099511627776
/-- Behind: both are known. -/
structure Wen (D w0 wb pf pt : Nat) (f0 : Int) (vs : List Int) (s r : List Nd) (lf : Value) (V V' : World) : Prop where
  kf : PtK D w0 f0 (extV f0 vs r) V' pf s
  kt : PtK D w0 f0 (extV f0 vs r) V' pt r
  wr : WrB V' wb (f0 + (extV f0 vs r).length) lf
  gr : GrB (fun k => k = wb ∨ k = pt) V.heap.size V V'
section
variable {D w0 wb pf pt : Nat} {f0 : Int} {vs : List Int} {s r : List Nd} {lf : Value} {V U V' W' : World}
theorem Wst.below (h : Wst D w0 wb pf pt f0 vs s r lf V) (hb : Below V.heap.size V U) : Wst D w0 wb pf pt f0 vs s r lf U :=
  ⟨h.kf.low h.w0f hb, h.kt.low h.w0t hb, h.wr.kept (hb.block wb h.wr.lt), h.d1, h.w0b, h.w0f, h.w0t, h.f00, h.n40⟩
theorem Wst.lts (h : Wst D w0 wb pf pt f0 vs s r lf V) : wb < V.heap.size ∧ pf < V.heap.size ∧ pt < V.heap.size := ⟨h.wr.lt, h.kf.lt, h.kt.lt⟩
theorem Wen.below (h : Wen D w0 wb pf pt f0 vs s r lf V V') (hs : Wst D w0 wb pf pt f0 vs s r lf V) (hb : Below V'.heap.size V' W') : Wen D w0 wb pf pt f0 vs s r lf V W' :=
  ⟨h.kf.low hs.w0f hb, h.kt.low hs.w0t hb, h.wr.kept (hb.block wb h.wr.lt), h.gr.trans (GrB.of_below (hb.mono h.gr.size))⟩
theorem Wen.pre (h : Wen D w0 wb pf pt f0 vs s r lf U V') (hb : Below V.heap.size V U) : Wen D w0 wb pf pt f0 vs s r lf V V' :=
  ⟨h.kf, h.kt, h.wr, (GrB.of_below hb).trans (h.gr.mono hb.size)⟩
theorem Wen.set4 (h : Wen D w0 wb pf pt f0 vs s r lf V V') (hs : Wst D w0 wb pf pt f0 vs s r lf V) {b : Nat} (hb : V.heap.size ≤ b) (o : Nat) (x : TV) : Wen D w0 wb pf pt f0 vs s r lf V (set4 V' b o x) := by
  obtain ⟨l1, l2, l3⟩ := hs.lts
  have w1 := hs.w0f
  have ot := fun k (hk : k ≠ b) => set4_other V' b o x hk
  refine ⟨h.kf.kept (ot _ (by omega)) (fun k hk => ot k (by omega)) (by rw [set4_size]; exact Nat.le_refl _) [], h.kt.kept (ot _ (by omega)) (fun k hk => ot k (by omega)) (by rw [set4_size]; exact Nat.le_refl _) [], h.wr.kept (ot wb (by omega)), h.gr.set4 hb o x⟩
/-- What lies between is as it was. -/
theorem Wen.mid (h : Wen D w0 wb pf pt f0 vs s r lf U V') (hs : Wst D w0 wb pf pt f0 vs s r lf V) {k : Nat} (h1 : V.heap.size ≤ k) (h2 : k < U.heap.size) : V'.heap[k]? = U.heap[k]? := by
  obtain ⟨l1, l2, l3⟩ := hs.lts
  exact h.gr.block k h2 (fun e => by rcases e with e | e <;> omega)
end
theorem HoldsG.set4 {P : Nat → Prop} {D lo : Nat} {W : World} {v : Value} {c : List Nd} (h : HoldsG P D lo W v c) {b : Nat} (hb : b < lo) (o : Nat) (x : TV) : HoldsG P D lo (set4 W b o x) v c :=
  HoldsG.move h (fun k _ hk => set4_other W b o x (by have := hk.1; omega)) (by rw [set4_size]; exact Nat.le_refl _)
/-- A goal is answered. -/
def LeafP (Dd D w0 wb pf pt : Nat) (f0 : Int) (vs : List Int) (s r : List Nd) (lf : Value) (c : List Nd) (V : World) (e : Ending) (V' : World) : Prop :=
  ∃ y : TV, e = .returned y.val ∧ HoldsG anyP Dd V.heap.size V' y.val c ∧ Wen D w0 wb pf pt f0 vs s r lf V V'
theorem reach_w {D w0 wb n : Nat} {f0 : Int} {vs : List Int} {V : World} {s r : List Nd} {lf : Value} (t : Tm n) (E : Task) (hT : IsT V.heap.size V t) (ok : okT t = true) (hlim : n + D + 3 ≤ 2199023255552) (h : Wst D w0 wb E.pf E.pt f0 vs s r lf V) :
    Calls Try.prog 50 #[.pointer (some ⟨wb, 0, none⟩), t.tv.val, E.val] V fun e V' => LeafP (n + D + 3) D w0 wb E.pf E.pt f0 vs s r lf (eqC (renC (newR f0 (extV f0 vs r)) s) (endC t (renC (newR f0 (extV f0 vs r)) r))) V e V' :=
  (reach_any t E hT ok h.d1 hlim h.kf h.kt h.wr h.w0b h.w0f h.w0t h.f00 h.n40).mono fun e V' h => by
    obtain ⟨y, h1, h2, h3, h4, h5, h6⟩ := h
    exact ⟨y, h1, h2, h3, h4, h5, h6⟩
theorem nil_is (W : World) : IsT (n := 1) W.heap.size W ((nilT, []) : TV × List (Tm 0)) ∧ okT (n := 1) ((nilT, []) : TV × List (Tm 0)) = true :=
  ⟨⟨rfl, ⟨by simp [Tm.tv, nilT, atomT], by simp [Tm.tv, nilT, atomT], by simp⟩, by decide, .inl rfl⟩, by decide +kernel⟩
theorem reach_nil {D w0 wb : Nat} {f0 : Int} {vs : List Int} {V : World} {s r : List Nd} {lf : Value} (E : Task) (hlim : D + 4 ≤ 2199023255552) (h : Wst D w0 wb E.pf E.pt f0 vs s r lf V) :
    Calls Try.prog 50 #[.pointer (some ⟨wb, 0, none⟩), nilT.val, E.val] V fun e V' => LeafP (D + 4) D w0 wb E.pf E.pt f0 vs s r lf (eqC (renC (newR f0 (extV f0 vs r)) s) (renC (newR f0 (extV f0 vs r)) r)) V e V' := by
  have h1 := reach_w (n := 1) ((nilT, []) : TV × List (Tm 0)) E (nil_is V).1 (nil_is V).2 (by omega) h
  have e : ∀ c, endC (n := 1) ((nilT, []) : TV × List (Tm 0)) c = c := fun c => by
    rw [endC_succ, if_neg (by decide +kernel)]
  rw [e, show 1 + D + 3 = D + 4 by omega] at h1
  exact h1
/-- A task in its box. -/
def TkB (W : World) (b : Nat) (E : Task) : Prop := W.heap[b]? = some (.cells #[.int .i64 E.x.k, .int .i64 E.x.N, .string E.x.s, .slice E.x.a E.x.len E.x.cap, .pointer (some ⟨E.pf, 0, none⟩), .pointer (some ⟨E.pt, 0, none⟩), .pointer (some E.pl)] 64 (0, 0))
theorem TkB.cells {W : World} {b : Nat} {E : Task} (h : TkB W b E) : W.cell? ⟨b, 0, none⟩ = some (.int .i64 E.x.k) ∧ W.cell? ⟨b, 1, none⟩ = some (.int .i64 E.x.N) ∧ W.cell? ⟨b, 2, none⟩ = some (.string E.x.s) ∧ W.cell? ⟨b, 3, none⟩ = some (.slice E.x.a E.x.len E.x.cap) ∧ W.cell? ⟨b, 4, none⟩ = some (.pointer (some ⟨E.pf, 0, none⟩)) ∧ W.cell? ⟨b, 5, none⟩ = some (.pointer (some ⟨E.pt, 0, none⟩)) ∧ W.cell? ⟨b, 6, none⟩ = some (.pointer (some E.pl)) :=
  ⟨cell_of h rfl, cell_of h rfl, cell_of h rfl, cell_of h rfl, cell_of h rfl, cell_of h rfl, cell_of h rfl⟩
/-- A term, a task and an answer in their boxes. -/
theorem box_trio (V : World) (x : TV) (E : Task) : ∃ W3, ((V.alloc (.cells #[.int .i64 x.k, .int .i64 x.N, .string x.s, .slice x.a x.len x.cap] 24)).alloc (.cells #[.int .i64 E.x.k, .int .i64 E.x.N, .string E.x.s, .slice E.x.a E.x.len E.x.cap, .pointer (some ⟨E.pf, 0, none⟩), .pointer (some ⟨E.pt, 0, none⟩), .pointer (some E.pl)] 64)).alloc (.cells #[.int .i64 0, .int .i64 0, .string ⟨#[]⟩, .slice none 0 0] 24) = W3 ∧
    Below V.heap.size V W3 ∧ W3.heap.size = V.heap.size + 3 ∧ BoxT W3 V.heap.size x ∧ TkB W3 (V.heap.size + 1) E ∧ BoxT W3 (V.heap.size + 2) noTerm := by
  refine ⟨_, rfl, (((Below.refl _ V).alloc (Nat.le_refl _) _).alloc (by simp) _).alloc (by simp; omega) _, by simp, ((BoxT.new V x).alloc _).alloc _, ?_, ?_⟩
  · have h0 := World.alloc_heap_new (V.alloc (.cells #[.int .i64 x.k, .int .i64 x.N, .string x.s, .slice x.a x.len x.cap] 24)) (.cells #[.int .i64 E.x.k, .int .i64 E.x.N, .string E.x.s, .slice E.x.a E.x.len E.x.cap, .pointer (some ⟨E.pf, 0, none⟩), .pointer (some ⟨E.pt, 0, none⟩), .pointer (some E.pl)] 64)
    rw [World.size_alloc] at h0
    exact (Below.heap_alloc _ _ _ (by simp)).trans h0
  · have h0 := BoxT.new ((V.alloc (.cells #[.int .i64 x.k, .int .i64 x.N, .string x.s, .slice x.a x.len x.cap] 24)).alloc (.cells #[.int .i64 E.x.k, .int .i64 E.x.N, .string E.x.s, .slice E.x.a E.x.len E.x.cap, .pointer (some ⟨E.pf, 0, none⟩), .pointer (some ⟨E.pt, 0, none⟩), .pointer (some E.pl)] 64)) noTerm
    rw [World.size_alloc, World.size_alloc] at h0
    exact h0
end Go.Proofs.Ytcdgmjpgmiehcaa

