import Derived.Test.YtcdgmjpgmiehcaaGmK
/- grammar's both. (Written by wip/grbothgen.py.) -/
namespace Go.Proofs.Ytcdgmjpgmiehcaa
open Go.RowKit Go.Shelf

theorem cell_of {W : World} {k j : Nat} {arr : Array Value} {t : TypeId} {v : Value} (h : W.heap[k]? = some (.cells arr t (0, 0))) (hj : arr[j]? = some v) : W.cell? ⟨k, j, none⟩ = some v := by simp [World.cell?, h, hj]
theorem GrB.drew {X : Nat → Prop} {A W W' : World} (hb : Below A.heap.size A W) (h : GrB X W.heap.size W W') : GrB X A.heap.size A W' := (GrB.of_below hb).trans (h.mono hb.size)
set_option maxRecDepth 100000 in
set_option maxHeartbeats 8000000 in
theorem both_any {B wb Bk off pf1 pt1 pf2 pt2 : Nat} {V : World} {nx : Int} {lf pl1 pl2 : Value} {S : List Task} {x y1 y2 a b : TV} (hw : WrB V wb nx lf) (hS : StkK B V lf S) (hl : S.length + 2 ≤ 1099511627776) (hB : B ≤ V.heap.size) (hwB : B ≤ wb) (hBk : Bk < B)
    (hxa : x.a = some ⟨Bk, off, none⟩) (hxl : x.len = 2) (ha : cellsAt V Bk off a) (hb : cellsAt V Bk (off + 4) b) :
    Calls Try.prog 48 #[.pointer (some ⟨wb, 0, none⟩), x.val, .agg #[.int .i64 y1.k, .int .i64 y1.N, .string y1.s, .slice y1.a y1.len y1.cap, .pointer (some ⟨pf1, 0, none⟩), .pointer (some ⟨pt1, 0, none⟩), pl1], .agg #[.int .i64 y2.k, .int .i64 y2.N, .string y2.s, .slice y2.a y2.len y2.cap, .pointer (some ⟨pf2, 0, none⟩), .pointer (some ⟨pt2, 0, none⟩), pl2]] V fun e V' => ∃ R lf', e = .returned (compV x.s (some ⟨R, 0, none⟩) 2 2).val ∧ V.heap.size ≤ R ∧ Row4 V' R 2 ∧ WrB V' wb nx lf' ∧ StkK B V' lf' (S ++ [⟨b, pf2, pt2, ⟨R, 4, none⟩⟩] ++ [⟨a, pf1, pt1, ⟨R, 0, none⟩⟩]) ∧ FrG B (fun k => k = wb) V V' ∧ GrB (fun k => k = wb ∨ lf.ownBlock = some k) V.heap.size V V' := by
  obtain ⟨W4, hW4⟩ : ∃ W4, (((V.alloc (.cells #[.int .i64 x.k, .int .i64 x.N, .string x.s, .slice x.a x.len x.cap] 24)).alloc (.cells #[.int .i64 y1.k, .int .i64 y1.N, .string y1.s, .slice y1.a y1.len y1.cap, .pointer (some ⟨pf1, 0, none⟩), .pointer (some ⟨pt1, 0, none⟩), pl1] 64)).alloc (.cells #[.int .i64 y2.k, .int .i64 y2.N, .string y2.s, .slice y2.a y2.len y2.cap, .pointer (some ⟨pf2, 0, none⟩), .pointer (some ⟨pt2, 0, none⟩), pl2] 64)).alloc (.cells #[.int .i64 0, .int .i64 0, .string ⟨#[]⟩, .slice none 0 0] 24) = W4 := ⟨_, rfl⟩
  have hs4 : W4.heap.size = V.heap.size + 4 := by rw [← hW4]; simp
  have g4 : Below V.heap.size V W4 := by rw [← hW4]; exact ((((Below.refl _ V).alloc (Nat.le_refl _) _).alloc (by simp) _).alloc (by simp; omega) _).alloc (by simp; omega) _
  have b0 : W4.heap[V.heap.size]? = some (.cells #[.int .i64 x.k, .int .i64 x.N, .string x.s, .slice x.a x.len x.cap] 24 (0, 0)) := by rw [← hW4]; exact (((BoxT.new V x).alloc _).alloc _).alloc _
  have b1 : W4.heap[V.heap.size + 1]? = some (.cells #[.int .i64 y1.k, .int .i64 y1.N, .string y1.s, .slice y1.a y1.len y1.cap, .pointer (some ⟨pf1, 0, none⟩), .pointer (some ⟨pt1, 0, none⟩), pl1] 64 (0, 0)) := by
    rw [← hW4]
    have h0 := World.alloc_heap_new (V.alloc (.cells #[.int .i64 x.k, .int .i64 x.N, .string x.s, .slice x.a x.len x.cap] 24)) (.cells #[.int .i64 y1.k, .int .i64 y1.N, .string y1.s, .slice y1.a y1.len y1.cap, .pointer (some ⟨pf1, 0, none⟩), .pointer (some ⟨pt1, 0, none⟩), pl1] 64)
    rw [World.size_alloc] at h0
    refine (Below.heap_alloc _ _ _ (by simp)).trans ((Below.heap_alloc _ _ _ (by simp)).trans h0)
  have b2 : W4.heap[V.heap.size + 1 + 1]? = some (.cells #[.int .i64 y2.k, .int .i64 y2.N, .string y2.s, .slice y2.a y2.len y2.cap, .pointer (some ⟨pf2, 0, none⟩), .pointer (some ⟨pt2, 0, none⟩), pl2] 64 (0, 0)) := by
    rw [← hW4]
    have h0 := World.alloc_heap_new ((V.alloc (.cells #[.int .i64 x.k, .int .i64 x.N, .string x.s, .slice x.a x.len x.cap] 24)).alloc (.cells #[.int .i64 y1.k, .int .i64 y1.N, .string y1.s, .slice y1.a y1.len y1.cap, .pointer (some ⟨pf1, 0, none⟩), .pointer (some ⟨pt1, 0, none⟩), pl1] 64)) (.cells #[.int .i64 y2.k, .int .i64 y2.N, .string y2.s, .slice y2.a y2.len y2.cap, .pointer (some ⟨pf2, 0, none⟩), .pointer (some ⟨pt2, 0, none⟩), pl2] 64)
    rw [World.size_alloc, World.size_alloc] at h0
    exact (Below.heap_alloc _ _ _ (by simp)).trans h0
  have b3 : W4.heap[V.heap.size + 1 + 1 + 1]? = some (.cells #[.int .i64 0, .int .i64 0, .string ⟨#[]⟩, .slice none 0 0] 24 (0, 0)) := by
    rw [← hW4]
    have h0 := World.alloc_heap_new (((V.alloc (.cells #[.int .i64 x.k, .int .i64 x.N, .string x.s, .slice x.a x.len x.cap] 24)).alloc (.cells #[.int .i64 y1.k, .int .i64 y1.N, .string y1.s, .slice y1.a y1.len y1.cap, .pointer (some ⟨pf1, 0, none⟩), .pointer (some ⟨pt1, 0, none⟩), pl1] 64)).alloc (.cells #[.int .i64 y2.k, .int .i64 y2.N, .string y2.s, .slice y2.a y2.len y2.cap, .pointer (some ⟨pf2, 0, none⟩), .pointer (some ⟨pt2, 0, none⟩), pl2] 64)) (.cells #[.int .i64 0, .int .i64 0, .string ⟨#[]⟩, .slice none 0 0] 24)
    rw [World.size_alloc, World.size_alloc, World.size_alloc] at h0
    exact h0
  obtain ⟨R, hR⟩ : ∃ R, W4.heap.size = R := ⟨_, rfl⟩
  have hm := make_terms 2 (by omega) W4
  obtain ⟨W5, hW5⟩ : ∃ W5, W4.alloc (.cells (madeCells #[.int .i64 0, .int .i64 0, .string ⟨#[]⟩, .slice none 0 0] (2 * 4)) 24) = W5 := ⟨_, rfl⟩
  rw [hR, hW5] at hm
  have hm2 : (Instr.makeSlice 22 (.int .i64 2) (.int .i64 2)).run Try.prog W4 = .ok (.slice (some ⟨R, 0, none⟩) 2 2) W5 := hm
  clear hm
  have g5 : Below W4.heap.size W4 W5 := by rw [← hW5]; exact (Below.refl _ W4).alloc (Nat.le_refl _) _
  have hs5 : W5.heap.size = R + 1 := by rw [← hW5, ← hR]; simp
  have bR : Row4 W5 R 2 := ⟨_, by rw [← hW5, ← hR]; exact World.alloc_heap_new W4 _, by simp [madeCells]⟩
  have hown : ∀ g, lf.ownBlock = some g → B ≤ g ∧ g < V.heap.size := fun g hg => ⟨(StkW.lt hS hg).1, (StkW.lt hS hg).2.1⟩
  have hwl := hw.lt
  have hcell2 : ∀ U : World, (∀ k, k < W5.heap.size → (V.heap.size ≤ k ∨ k < B) → U.heap[k]? = W5.heap[k]?) → ((U.cell? ⟨V.heap.size, 3, none⟩ = some (.slice (some ⟨Bk, off, none⟩) 2 x.cap) ∧ U.cell? ⟨Bk, off + 4, none⟩ = some (.int .i64 b.k) ∧ U.cell? ⟨Bk, off + 4 + 1, none⟩ = some (.int .i64 b.N) ∧ U.cell? ⟨Bk, off + 4 + 2, none⟩ = some (.string b.s) ∧ U.cell? ⟨Bk, off + 4 + 3, none⟩ = some (.slice b.a b.len b.cap) ∧ U.cell? ⟨V.heap.size + 1 + 1, 4, none⟩ = some (.pointer (some ⟨pf2, 0, none⟩)) ∧ U.cell? ⟨V.heap.size + 1 + 1, 5, none⟩ = some (.pointer (some ⟨pt2, 0, none⟩))) ∧ (U.cell? ⟨V.heap.size, 3, none⟩ = some (.slice (some ⟨Bk, off, none⟩) 2 x.cap) ∧ U.cell? ⟨Bk, off, none⟩ = some (.int .i64 a.k) ∧ U.cell? ⟨Bk, off + 1, none⟩ = some (.int .i64 a.N) ∧ U.cell? ⟨Bk, off + 2, none⟩ = some (.string a.s) ∧ U.cell? ⟨Bk, off + 3, none⟩ = some (.slice a.a a.len a.cap) ∧ U.cell? ⟨V.heap.size + 1, 4, none⟩ = some (.pointer (some ⟨pf1, 0, none⟩)) ∧ U.cell? ⟨V.heap.size + 1, 5, none⟩ = some (.pointer (some ⟨pt1, 0, none⟩)))) ∧ U.cell? ⟨V.heap.size, 2, none⟩ = some (.string x.s) ∧ BoxT U (V.heap.size + 1 + 1 + 1) noTerm ∧ Row4 U R 2 := fun U hU => by
    have e0 := ((hU V.heap.size (by omega) (.inl (Nat.le_refl _))).trans (g5.block _ (by omega))).trans b0
    have e1 := ((hU (V.heap.size + 1) (by omega) (.inl (by omega))).trans (g5.block _ (by omega))).trans b1
    have e2 := ((hU (V.heap.size + 1 + 1) (by omega) (.inl (by omega))).trans (g5.block _ (by omega))).trans b2
    have e3 := ((hU (V.heap.size + 1 + 1 + 1) (by omega) (.inl (by omega))).trans (g5.block _ (by omega))).trans b3
    have eB : U.heap[Bk]? = V.heap[Bk]? := (hU Bk (by omega) (.inr hBk)).trans ((g5.block _ (by omega)).trans (g4.block _ (by omega)))
    have ca := ha.kept eB
    have cb := hb.kept eB
    rw [hxa, hxl] at e0
    exact ⟨⟨⟨cell_of e0 rfl, cb.1, cb.2.1, cb.2.2.1, cb.2.2.2, cell_of e2 rfl, cell_of e2 rfl⟩, cell_of e0 rfl, ca.1, ca.2.1, ca.2.2.1, ca.2.2.2, cell_of e1 rfl, cell_of e1 rfl⟩, cell_of e0 rfl, e3, bR.kept (hU R (by omega) (.inl (by omega)))⟩
  obtain ⟨D1, hD1⟩ : ∃ D1, W5.drew = D1 := ⟨_, rfl⟩
  have hDB1 : Below W5.heap.size W5 D1 := by rw [← hD1]; exact (Below.refl _ W5).drew
  have hDs1 : D1.heap.size = W5.heap.size := by rw [← hD1]; rfl
  have g45 : Below V.heap.size V W5 := g4.trans (g5.mono (by omega))
  have gD1 : Below V.heap.size V D1 := g45.trans (hDB1.mono (by omega))
  have w1 := hw.kept (gD1.block wb hwl)
  have s1 : StkK B D1 lf S := hS.below gD1
  have kD1 := (hcell2 D1 (fun k hk _ => hDB1.block k hk)).1.1
  have L1 := hide (leave_any (⟨b, pf2, pt2, ⟨R, 4, none⟩⟩ : Task) w1 s1 (by omega) (by omega))
  have HK1 : Hid (∀ V1, (∃ lf1, WrB V1 wb nx lf1 ∧ StkK B V1 lf1 (S ++ [⟨b, pf2, pt2, ⟨R, 4, none⟩⟩]) ∧ FrG B (fun k => k = wb) D1 V1 ∧ GrB (fun k => k = wb ∨ lf.ownBlock = some k) D1.heap.size D1 V1 ∧ (lf1.ownBlock = lf.ownBlock ∨ ∃ g, lf1.ownBlock = some g ∧ D1.heap.size ≤ g)) → ∀ k, k < W5.heap.size → (V.heap.size ≤ k ∨ k < B) → V1.heap[k]? = W5.heap[k]?) := hide fun V1 h k hk hc => by
    obtain ⟨lf1, _, _, _, h4, _⟩ := h
    refine (h4.block k (by omega) (fun e => ?_)).trans (hDB1.block k hk)
    rcases e with e | e
    · omega
    · have := hown k e; omega
  have HC := hide hcell2
  have HO := hide hown
  have HG := hide (And.intro gD1 (And.intro g45 (And.intro hDB1 hDs1)))
  have hRl : V.heap.size + 4 ≤ R ∧ R ≤ V.heap.size + 4 := by omega
  have hs5l : R + 1 ≤ W5.heap.size ∧ W5.heap.size ≤ R + 1 := by omega
  have c0 := b0
  have d3 := cell_of (j := 3) ((g5.block V.heap.size (by omega)).trans b0) rfl
  clear b0 b1 b2 b3 hcell2 hown gD1 g45 hDB1 hDs1 g4 g5 bR ha hb w1 s1 hs4 hR hs5 hW5 c0 hw hS hxa hxl
  simp only [TV.val]
  go_enter Try.func48, Try.ntmps48
  go_wp2_with fail
  try rw [hW4]
  go_wp2_with fail
  refine wp_region_noPanic ?_
  refine wp_region_held_drew (S := fun w' => w'.cell? ⟨V.heap.size, 3, none⟩ = some (.slice (some ⟨Bk, off, none⟩) 2 x.cap) ∧ w'.cell? ⟨Bk, off + 4, none⟩ = some (.int .i64 b.k) ∧ w'.cell? ⟨Bk, off + 4 + 1, none⟩ = some (.int .i64 b.N) ∧ w'.cell? ⟨Bk, off + 4 + 2, none⟩ = some (.string b.s) ∧ w'.cell? ⟨Bk, off + 4 + 3, none⟩ = some (.slice b.a b.len b.cap) ∧ w'.cell? ⟨V.heap.size + 1 + 1, 4, none⟩ = some (.pointer (some ⟨pf2, 0, none⟩)) ∧ w'.cell? ⟨V.heap.size + 1 + 1, 5, none⟩ = some (.pointer (some ⟨pt2, 0, none⟩))) (by kernel_rfl) ?_ (fun hHeld => ?_)
  · rw [hD1]; exact kD1
  rw [hD1] at hHeld ⊢
  clear hD1
  refine tk 0 rfl hHeld ?_
  refine tk 1 rfl hHeld ?_
  refine tk 2 rfl hHeld ?_
  refine tk 3 rfl hHeld ?_
  refine tk 4 rfl hHeld ?_
  refine tk 5 rfl hHeld ?_
  refine tk 6 rfl hHeld ?_
  refine tk 7 rfl hHeld ?_
  refine tk 8 rfl hHeld ?_
  refine tk 9 rfl hHeld ?_
  refine tk 10 rfl hHeld ?_
  refine tk 11 rfl hHeld ?_
  refine rd 12 rfl fun K hK => ?_
  have hHold := hHeld
  clear hHeld
  go_simp
  refine (unhide L1).mono ?_
  rintro e V1 ⟨rfl, h1⟩
  have H1 := hide h1
  have kk := ((unhide HC) V1 ((unhide HK1) V1 h1)).1.1
  clear h1
  go_wp2_with fail
  refine hK.out _ _ ?_ (fun hHeld => ?_)
  · ((try dsimp only); exact kk)
  clear kk
  clear hK K hHold
  try simp only [pu]
  refine wpAnyH_done (by kernel_rfl) ?_ _
  refine NoPanic.normal ?_
  clear hHeld
  go_wp2_with fail
  obtain ⟨lf1, wV1, sV1, fV1, gV1, oV1⟩ := unhide H1
  have kp1 := (unhide HK1) V1 (unhide H1)
  obtain ⟨D2, hD2⟩ : ∃ D2, V1.drew = D2 := ⟨_, rfl⟩
  have hDB2 : Below V1.heap.size V1 D2 := by rw [← hD2]; exact (Below.refl _ V1).drew
  have hDs2 : D2.heap.size = V1.heap.size := by rw [← hD2]; rfl
  have hsV1 : W5.heap.size ≤ V1.heap.size := by have := gV1.size; have := (unhide HG).2.2.2; omega
  have kpD : ∀ k, k < W5.heap.size → (V.heap.size ≤ k ∨ k < B) → D2.heap[k]? = W5.heap[k]? := fun k hk hc => (hDB2.block k (by omega)).trans (kp1 k hk hc)
  have kD2 := ((unhide HC) D2 kpD).1.2
  have L2 := hide (leave_any (⟨a, pf1, pt1, ⟨R, 0, none⟩⟩ : Task) (wV1.kept (hDB2.block wb wV1.lt)) (sV1.below hDB2) (by simp only [List.length_append, List.length_cons, List.length_nil]; omega) (by omega))
  have HK2 : Hid (∀ V2, (∃ lf2, WrB V2 wb nx lf2 ∧ StkK B V2 lf2 (S ++ [⟨b, pf2, pt2, ⟨R, 4, none⟩⟩] ++ [⟨a, pf1, pt1, ⟨R, 0, none⟩⟩]) ∧ FrG B (fun k => k = wb) D2 V2 ∧ GrB (fun k => k = wb ∨ lf1.ownBlock = some k) D2.heap.size D2 V2 ∧ (lf2.ownBlock = lf1.ownBlock ∨ ∃ g, lf2.ownBlock = some g ∧ D2.heap.size ≤ g)) → (∀ k, k < W5.heap.size → (V.heap.size ≤ k ∨ k < B) → V2.heap[k]? = W5.heap[k]?) ∧ W5.heap.size ≤ V2.heap.size ∧ FrG B (fun k => k = wb) V V2 ∧ GrB (fun k => k = wb ∨ lf.ownBlock = some k) V.heap.size V V2 ∧ ∀ lf2 : Value, (lf2.ownBlock = lf1.ownBlock ∨ ∃ g, lf2.ownBlock = some g ∧ D2.heap.size ≤ g) → ∀ g, lf2.ownBlock = some g → g ≠ V.heap.size + 1 + 1 + 1) := hide fun V2 h => by
    obtain ⟨lf2, _, _, h3, h4, _⟩ := h
    have hno : ∀ g, lf1.ownBlock = some g → g < V.heap.size ∨ W5.heap.size ≤ g := fun g hg => by
      rcases oV1 with e | ⟨g', e, e'⟩
      · exact .inl ((unhide HO) g (e.symm.trans hg)).2
      · rw [e] at hg
        have : g' = g := by simpa using hg
        have := (unhide HG).2.2.2
        exact .inr (by omega)
    have hnB : ∀ g, lf1.ownBlock = some g → B ≤ g := fun g hg => (StkW.lt sV1 hg).1
    refine ⟨fun k hk hc => (h4.block k (by omega) (fun e => ?_)).trans (kpD k hk hc), by have := h4.size; omega, ((FrG.of_below (unhide HG).1).trans fV1).trans ((FrG.of_below hDB2).trans h3), ?_, fun lf2 h5 g hg e => ?_⟩
    · rcases e with e | e
      · omega
      · have := hno k e; have := hnB k e; omega
    · have gg := (GrB.of_below (X := fun k => k = wb ∨ lf.ownBlock = some k) (unhide HG).1).trans (gV1.mono (unhide HG).1.size)
      have gg2 := gg.trans (GrB.of_below (hDB2.mono gg.size))
      refine ⟨h4.os.trans gg2.os, h4.tape.trans gg2.tape, h4.output.trans gg2.output, Nat.le_trans gg2.size h4.size, fun k hk hx => (h4.block k (by have := gg2.size; omega) (fun e => ?_)).trans (gg2.block k hk hx)⟩
      rcases e with e | e
      · exact hx (.inl e)
      · rcases oV1 with o | ⟨g', o, o'⟩
        · exact hx (.inr (o.symm.trans e))
        · rw [o] at e
          have : g' = k := by simpa using e
          have := (unhide HG).1.size
          omega
    · rcases h5 with h5 | ⟨g', h5, h6⟩
      · have := hno g (h5.symm.trans hg); omega
      · rw [h5] at hg
        have : g' = g := by simpa using hg
        omega
  clear wV1 sV1 fV1 gV1 oV1 kp1 kpD hDB2 hDs2 hsV1 HK1 H1 HO d3
  refine wp_region_noPanic ?_
  refine wp_region_held_drew (S := fun w' => w'.cell? ⟨V.heap.size, 3, none⟩ = some (.slice (some ⟨Bk, off, none⟩) 2 x.cap) ∧ w'.cell? ⟨Bk, off, none⟩ = some (.int .i64 a.k) ∧ w'.cell? ⟨Bk, off + 1, none⟩ = some (.int .i64 a.N) ∧ w'.cell? ⟨Bk, off + 2, none⟩ = some (.string a.s) ∧ w'.cell? ⟨Bk, off + 3, none⟩ = some (.slice a.a a.len a.cap) ∧ w'.cell? ⟨V.heap.size + 1, 4, none⟩ = some (.pointer (some ⟨pf1, 0, none⟩)) ∧ w'.cell? ⟨V.heap.size + 1, 5, none⟩ = some (.pointer (some ⟨pt1, 0, none⟩))) (by kernel_rfl) ?_ (fun hHeld => ?_)
  · rw [hD2]; exact kD2
  rw [hD2] at hHeld ⊢
  clear hD2
  refine tk 0 rfl hHeld ?_
  refine tk 1 rfl hHeld ?_
  refine tk 2 rfl hHeld ?_
  refine tk 3 rfl hHeld ?_
  refine tk 4 rfl hHeld ?_
  refine tk 5 rfl hHeld ?_
  refine tk 6 rfl hHeld ?_
  refine tk 7 rfl hHeld ?_
  refine tk 8 rfl hHeld ?_
  refine tk 9 rfl hHeld ?_
  refine tk 10 rfl hHeld ?_
  refine tk 11 rfl hHeld ?_
  refine rd 12 rfl fun K hK => ?_
  have hHold := hHeld
  clear hHeld
  go_simp
  refine (unhide L2).mono ?_
  rintro e V2 ⟨rfl, h1⟩
  have H2 := hide h1
  have kk := ((unhide HC) V2 ((unhide HK2) V2 h1).1).1.2
  clear h1
  go_wp2_with fail
  refine hK.out _ _ ?_ (fun hHeld => ?_)
  · ((try dsimp only); exact kk)
  clear kk
  clear hK K hHold
  try simp only [pu]
  refine wpAnyH_done (by kernel_rfl) ?_ _
  refine NoPanic.normal ?_
  clear hHeld
  obtain ⟨kp2, hs2, fr2, gr2, ow2⟩ := (unhide HK2) V2 (unhide H2)
  obtain ⟨lf2, wV2, sV2, _, _, oV2⟩ := unhide H2
  obtain ⟨_, n2, br, rR⟩ := (unhide HC) V2 kp2
  have HP : Hid (Calls Try.prog 24 #[.string x.s, .slice (some ⟨R, 0, none⟩) 2 2] V2 fun e W' => e = .returned (compV x.s (some ⟨R, 0, none⟩) 2 2).val ∧ Below V2.heap.size V2 W') := hide (gcomp_any _ _ _ _ V2)
  have HE : Hid (∀ X2, Below V2.heap.size V2 X2 → BoxT X2 (V.heap.size + 1 + 1 + 1) noTerm ∧ Row4 (set4 X2 (V.heap.size + 1 + 1 + 1) 0 (compV x.s (some ⟨R, 0, none⟩) 2 2)) R 2 ∧ WrB (set4 X2 (V.heap.size + 1 + 1 + 1) 0 (compV x.s (some ⟨R, 0, none⟩) 2 2)) wb nx lf2 ∧ StkK B (set4 X2 (V.heap.size + 1 + 1 + 1) 0 (compV x.s (some ⟨R, 0, none⟩) 2 2)) lf2 (S ++ [⟨b, pf2, pt2, ⟨R, 4, none⟩⟩] ++ [⟨a, pf1, pt1, ⟨R, 0, none⟩⟩]) ∧ FrG B (fun k => k = wb) V (set4 X2 (V.heap.size + 1 + 1 + 1) 0 (compV x.s (some ⟨R, 0, none⟩) 2 2)) ∧ GrB (fun k => k = wb ∨ lf.ownBlock = some k) V.heap.size V (set4 X2 (V.heap.size + 1 + 1 + 1) 0 (compV x.s (some ⟨R, 0, none⟩) 2 2))) := hide fun X2 h2 => by
    have o := fun k (hk : k ≠ V.heap.size + 1 + 1 + 1) => set4_other X2 (V.heap.size + 1 + 1 + 1) 0 (compV x.s (some ⟨R, 0, none⟩) 2 2) hk
    refine ⟨br.below h2 br.lt, (rR.kept (h2.block R rR.lt)).kept (o R (by omega)), (wV2.kept (h2.block wb wV2.lt)).kept (o wb (by omega)), (sV2.below h2).frame (fun g hg => o g (ow2 lf2 oV2 g hg)), ?_, (gr2.trans (GrB.of_below (h2.mono gr2.size))).set4 (b := V.heap.size + 1 + 1 + 1) (by omega) _ _⟩
    have f := fr2.trans (FrG.of_below h2)
    exact ⟨f.os, f.tape, f.output, by rw [set4_size]; exact f.size, fun k hk hx hc => (o k (by omega)).trans (f.block k hk hx hc)⟩
  clear kp2 fr2 gr2 ow2 wV2 sV2 oV2 rR br HC HK2 H2 HG
  go_wp2_with fail
  refine (unhide HP).mono ?_
  rintro e X2 ⟨rfl, h2⟩
  obtain ⟨bX, hF⟩ := (unhide HE) X2 h2
  have HF := hide hF
  obtain ⟨k0, k1, k2, k3⟩ := bX.frz
  have c0 := bX.c0
  have c1 := bX.c1
  have c2 := bX.c2
  have c3 := bX.c3
  have b6 := set4_box bX (compV x.s (some ⟨R, 0, none⟩) 2 2)
  have z0 := b6.c0
  have z1 := b6.c1
  have z2 := b6.c2
  have z3 := b6.c3
  clear HP HE hF bX b6 h2 n2
  simp only [TV.val, compV]
  go_wp2_with fail
  exact bodyPost_ret (v := (compV x.s (some ⟨R, 0, none⟩) 2 2).val) (by
    have e : (((X2.setCell ⟨V.heap.size + 1 + 1 + 1, 0, none⟩ (.int .i64 4)).setCell ⟨V.heap.size + 1 + 1 + 1, 1, none⟩ (.int .i64 0)).setCell ⟨V.heap.size + 1 + 1 + 1, 2, none⟩ (.string x.s)).setCell ⟨V.heap.size + 1 + 1 + 1, 3, none⟩ (.slice (some ⟨R, 0, none⟩) 2 2) = set4 X2 (V.heap.size + 1 + 1 + 1) 0 (compV x.s (some ⟨R, 0, none⟩) 2 2) := rfl
    rw [e]
    simp [results, Try.results48, go_sem, TV.val, z0, z1, z2, z3]) rfl ⟨R, lf2, rfl, by omega, unhide HF⟩
end Go.Proofs.Ytcdgmjpgmiehcaa

