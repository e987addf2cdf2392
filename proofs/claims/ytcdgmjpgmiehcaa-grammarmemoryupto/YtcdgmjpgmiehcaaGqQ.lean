import Derived.Test.YtcdgmjpgmiehcaaGqP
/- grammar's goal. (Written by wip/gqgoalgen.py.) -/
namespace Go.Proofs.Ytcdgmjpgmiehcaa
open Go.RowKit Go.Shelf

/-- The frame of goal at the head of its loop. -/
def GlA (wb b : Nat) (pt0 pt1 pt2 : Value) (a : Act) : Prop := ∃ f : Nat → Value, a = { tmps := #[.pointer (some ⟨wb, 0, none⟩), pt0, pt1, pt2, undef, .pointer (some ⟨b, 0, none⟩), .pointer (some ⟨b + 1, 0, none⟩), .pointer (some ⟨b + 1 + 1, 0, none⟩), .pointer (some ⟨b + 1 + 1 + 1, 0, none⟩), .pointer (some ⟨b + 1 + 1 + 1 + 1, 0, none⟩), f 10, f 11, f 12, f 13, f 14, f 15, f 16, f 17, f 18, f 19, f 20, f 21, f 22, f 23, f 24, f 25, f 26, f 27, f 28, f 29, f 30, f 31, f 32, f 33, f 34, f 35, f 36, f 37, f 38, f 39, f 40, f 41, f 42, f 43, f 44, f 45, f 46, f 47, f 48, f 49, f 50, f 51, f 52, f 53, f 54, f 55, f 56], defers := [] }
theorem glA_of {wb b : Nat} {pt0 pt1 pt2 u10 u11 u12 u13 u14 u15 u16 u17 u18 u19 u20 u21 u22 u23 u24 u25 u26 u27 u28 u29 u30 u31 u32 u33 u34 u35 u36 u37 u38 u39 u40 u41 u42 u43 u44 u45 u46 u47 u48 u49 u50 u51 u52 u53 u54 u55 u56 : Value} : GlA wb b pt0 pt1 pt2 { tmps := #[.pointer (some ⟨wb, 0, none⟩), pt0, pt1, pt2, undef, .pointer (some ⟨b, 0, none⟩), .pointer (some ⟨b + 1, 0, none⟩), .pointer (some ⟨b + 1 + 1, 0, none⟩), .pointer (some ⟨b + 1 + 1 + 1, 0, none⟩), .pointer (some ⟨b + 1 + 1 + 1 + 1, 0, none⟩), u10, u11, u12, u13, u14, u15, u16, u17, u18, u19, u20, u21, u22, u23, u24, u25, u26, u27, u28, u29, u30, u31, u32, u33, u34, u35, u36, u37, u38, u39, u40, u41, u42, u43, u44, u45, u46, u47, u48, u49, u50, u51, u52, u53, u54, u55, u56], defers := [] } := ⟨fun i => ([u10, u11, u12, u13, u14, u15, u16, u17, u18, u19, u20, u21, u22, u23, u24, u25, u26, u27, u28, u29, u30, u31, u32, u33, u34, u35, u36, u37, u38, u39, u40, u41, u42, u43, u44, u45, u46, u47, u48, u49, u50, u51, u52, u53, u54, u55, u56][i - 10]?).getD undef, rfl⟩
theorem pop_of {wb g cp : Nat} {nx : Int} {S : List Task} {E : Task} {V VA : World} (hw : WrB V wb nx (.slice (some ⟨g, 0, none⟩) (S.length + 1) cp)) (hS : StkK wb V (.slice (some ⟨g, 0, none⟩) (S.length + 1) cp) (S ++ [E])) (hVA : V.alloc (.cells #[.int .i64 E.x.k, .int .i64 E.x.N, .string E.x.s, .slice E.x.a E.x.len E.x.cap, .pointer (some ⟨E.pf, 0, none⟩), .pointer (some ⟨E.pt, 0, none⟩), .pointer (some E.pl)] 64) = VA) :
    PopS wb nx (.slice (some ⟨g, 0, none⟩) (S.length + 1) cp) (.slice (some ⟨g, 0, none⟩) S.length cp) S E V (VA.setCell ⟨wb, 1, none⟩ (.slice (some ⟨g, 0, none⟩) S.length cp)) := by
  have gA : Below V.heap.size V VA := by rw [← hVA]; exact (Below.refl _ V).alloc (Nat.le_refl _) _
  have hsA : VA.heap.size = V.heap.size + 1 := by rw [← hVA]; simp
  have hwl := hw.lt
  have wA := hw.kept (gA.block wb hwl)
  have ot : ∀ k, k ≠ wb → (VA.setCell ⟨wb, 1, none⟩ (.slice (some ⟨g, 0, none⟩) S.length cp)).heap[k]? = VA.heap[k]? := fun k hk => Below.heap_setCell _ _ _ _ hk
  have hbA : TkB VA V.heap.size E := by rw [← hVA]; exact World.alloc_heap_new V _
  refine ⟨(GrB.of_below (X := fun k => k = wb) gA).cellIn (b := wb) rfl 1 _, by simp [hsA], setL_box wA _, ?_, (ot _ (by omega)).trans hbA, rfl⟩
  exact (hS.pop.below gA).frame (fun g' hg' => ot g' (hS.ne_wr hw g' hg'))
set_option maxRecDepth 100000 in
set_option maxHeartbeats 8000000 in
theorem goal_any {D wb n : Nat} {f0 : Int} (t : Tm n) (xs xr : TV) {s r : List Nd} (V : World) (hT : IsT wb V t) (ok : okT t = true) (he : berr t = 0) (hv : ∀ N, IsVarOf (code t) N → N < f0) (hs : HoldsS D (· < wb) V xs.val s) (hso : s.all okM = true) (hsv : ∀ N, IsVarOf s N → N < f0) (hr : HoldsS D (· < wb) V xr.val r) (hro : r.all okM = true) (hrv : ∀ N, IsVarOf r N → N < f0)
    (hw : WrB V wb f0 (.slice none 0 0)) (h0 : 0 ≤ f0) (hc : f0 + cntT t ≤ 1099511627777) (hD1 : 1 ≤ D) (hn : n ≤ 274877906944) (hlim : 3 * n + D + 12 ≤ 2199023255552) :
    Calls Try.prog 26 #[.pointer (some ⟨wb, 0, none⟩), t.tv.val, xs.val, xr.val] V fun e V' => ∃ y : TV, e = .returned y.val ∧ HoldsG anyP (3 * n + D + 12) V.heap.size V' y.val (renC (newR f0 (extV f0 [] (btwC t s r f0))) (btwC t s r f0)) ∧ FrG wb (fun k => k = wb) V V' := by
  obtain ⟨W5, hW5⟩ : ∃ W5, ((((V.alloc (.cells #[.int .i64 t.tv.k, .int .i64 t.tv.N, .string t.tv.s, .slice t.tv.a t.tv.len t.tv.cap] 24)).alloc (.cells #[.int .i64 xs.k, .int .i64 xs.N, .string xs.s, .slice xs.a xs.len xs.cap] 24)).alloc (.cells #[.int .i64 xr.k, .int .i64 xr.N, .string xr.s, .slice xr.a xr.len xr.cap] 24)).alloc (.cells #[.int .i64 0, .int .i64 0, .string ⟨#[]⟩, .slice none 0 0] 24)).alloc (.cells #[.int .i64 0, .int .i64 0, .string ⟨#[]⟩, .slice none 0 0] 24) = W5 := ⟨_, rfl⟩
  have hs5 : W5.heap.size = V.heap.size + 1 + 1 + 1 + 1 + 1 := by rw [← hW5]; simp
  have g5 : Below V.heap.size V W5 := by rw [← hW5]; exact (((((Below.refl _ V).alloc (Nat.le_refl _) _).alloc (by simp) _).alloc (by simp; omega) _).alloc (by simp; omega) _).alloc (by simp; omega) _
  have b0 : BoxT W5 V.heap.size t.tv := by rw [← hW5]; exact ((((BoxT.new V t.tv).alloc _).alloc _).alloc _).alloc _
  have b1 : BoxT W5 (V.heap.size + 1) xs := by
    rw [← hW5]
    have h0 := BoxT.new (V.alloc (.cells #[.int .i64 t.tv.k, .int .i64 t.tv.N, .string t.tv.s, .slice t.tv.a t.tv.len t.tv.cap] 24)) xs
    rw [World.size_alloc] at h0
    exact ((h0.alloc _).alloc _).alloc _
  have b2 : BoxT W5 (V.heap.size + 1 + 1) xr := by
    rw [← hW5]
    have h0 := BoxT.new ((V.alloc (.cells #[.int .i64 t.tv.k, .int .i64 t.tv.N, .string t.tv.s, .slice t.tv.a t.tv.len t.tv.cap] 24)).alloc (.cells #[.int .i64 xs.k, .int .i64 xs.N, .string xs.s, .slice xs.a xs.len xs.cap] 24)) xr
    rw [World.size_alloc, World.size_alloc] at h0
    exact (h0.alloc _).alloc _
  have b3 : BoxT W5 (V.heap.size + 1 + 1 + 1) noTerm := by
    rw [← hW5]
    have h0 := BoxT.new (((V.alloc (.cells #[.int .i64 t.tv.k, .int .i64 t.tv.N, .string t.tv.s, .slice t.tv.a t.tv.len t.tv.cap] 24)).alloc (.cells #[.int .i64 xs.k, .int .i64 xs.N, .string xs.s, .slice xs.a xs.len xs.cap] 24)).alloc (.cells #[.int .i64 xr.k, .int .i64 xr.N, .string xr.s, .slice xr.a xr.len xr.cap] 24)) noTerm
    rw [World.size_alloc, World.size_alloc, World.size_alloc] at h0
    exact h0.alloc _
  have b4 : BoxT W5 (V.heap.size + 1 + 1 + 1 + 1) noTerm := by
    rw [← hW5]
    have h0 := BoxT.new ((((V.alloc (.cells #[.int .i64 t.tv.k, .int .i64 t.tv.N, .string t.tv.s, .slice t.tv.a t.tv.len t.tv.cap] 24)).alloc (.cells #[.int .i64 xs.k, .int .i64 xs.N, .string xs.s, .slice xs.a xs.len xs.cap] 24)).alloc (.cells #[.int .i64 xr.k, .int .i64 xr.N, .string xr.s, .slice xr.a xr.len xr.cap] 24)).alloc (.cells #[.int .i64 0, .int .i64 0, .string ⟨#[]⟩, .slice none 0 0] 24)) noTerm
    rw [World.size_alloc, World.size_alloc, World.size_alloc, World.size_alloc] at h0
    exact h0
  obtain ⟨W6, hW6⟩ : ∃ W6, W5.alloc (.cells #[.int .i64 xs.k, .int .i64 xs.N, .string xs.s, .slice xs.a xs.len xs.cap, .bool true] 61) = W6 := ⟨_, rfl⟩
  obtain ⟨W7, hW7⟩ : ∃ W7, W6.alloc (.cells #[.int .i64 xr.k, .int .i64 xr.N, .string xr.s, .slice xr.a xr.len xr.cap, .bool true] 61) = W7 := ⟨_, rfl⟩
  have hs6 : W6.heap.size = V.heap.size + 1 + 1 + 1 + 1 + 1 + 1 := by rw [← hW6]; simp [hs5]
  have g56 : Below W5.heap.size W5 W6 := by rw [← hW6]; exact (Below.refl _ W5).alloc (Nat.le_refl _) _
  have g67 : Below W6.heap.size W6 W7 := by rw [← hW7]; exact (Below.refl _ W6).alloc (Nat.le_refl _) _
  have hs7 : W7.heap.size = V.heap.size + 7 := by rw [← hW7]; simp [hs6]
  have g7 : Below V.heap.size V W7 := (g5.trans (g56.mono (by omega))).trans (g67.mono (by omega))
  have g57 : Below W5.heap.size W5 W7 := g56.trans (g67.mono (by omega))
  have pA : PtB W7 (V.heap.size + 1 + 1 + 1 + 1 + 1) xs true := (g67.block _ (by omega)).trans (by
    have h0 := World.alloc_heap_new W5 (.cells #[.int .i64 xs.k, .int .i64 xs.N, .string xs.s, .slice xs.a xs.len xs.cap, .bool true] 61)
    rw [hW6, hs5] at h0
    exact h0)
  have pB : PtB W7 (V.heap.size + 1 + 1 + 1 + 1 + 1 + 1) xr true := by
    have h0 := World.alloc_heap_new W6 (.cells #[.int .i64 xr.k, .int .i64 xr.N, .string xr.s, .slice xr.a xr.len xr.cap, .bool true] 61)
    rw [hW7, hs6] at h0
    exact h0
  have hwl := hw.lt
  have c0 := b0.c0
  have c1 := b0.c1
  have c2 := b0.c2
  have c3 := b0.c3
  have d0 := b1.c0
  have d1 := b1.c1
  have d2 := b1.c2
  have d3 := b1.c3
  have e0 := (b2.below g56 (by omega)).c0
  have e1 := (b2.below g56 (by omega)).c1
  have e2 := (b2.below g56 (by omega)).c2
  have e3 := (b2.below g56 (by omega)).c3
  have kA : ∀ {vs : List Int}, PtK D wb f0 vs W7 (V.heap.size + 1 + 1 + 1 + 1 + 1) s := fun {vs} => ⟨xs, pA, by
    rw [ren_old hso hsv]
    exact hs.fromS (fun k hk _ => g7.block k (by have : k < wb := hk; omega)) g7.size, by rw [ren_old hso hsv]; exact hso, fun N h1 h2 => by have := hsv N h1; omega⟩
  have kB : ∀ {vs : List Int}, PtK D wb f0 vs W7 (V.heap.size + 1 + 1 + 1 + 1 + 1 + 1) r := fun {vs} => ⟨xr, pB, by
    rw [ren_old hro hrv]
    exact hr.fromS (fun k hk _ => g7.block k (by have : k < wb := hk; omega)) g7.size, by rw [ren_old hro hrv]; exact hro, fun N h1 h2 => by have := hrv N h1; omega⟩
  have L0 := hide (leave_any (B := wb) (S := []) (⟨t.tv, V.heap.size + 1 + 1 + 1 + 1 + 1, V.heap.size + 1 + 1 + 1 + 1 + 1 + 1, ⟨V.heap.size + 1 + 1 + 1 + 1, 0, none⟩⟩ : Task) (hw.kept (g7.block wb hwl)) (⟨fun r hr => by simp at hr, by simp, .inl ⟨rfl, rfl⟩⟩ : StkK wb W7 (.slice none 0 0) []) (by simp) (by omega))
  have HT0 : Hid (∀ V1, (∃ lf', WrB V1 wb f0 lf' ∧ StkK wb V1 lf' ([] ++ [(⟨t.tv, V.heap.size + 1 + 1 + 1 + 1 + 1, V.heap.size + 1 + 1 + 1 + 1 + 1 + 1, ⟨V.heap.size + 1 + 1 + 1 + 1, 0, none⟩⟩ : Task)]) ∧ FrG wb (fun k => k = wb) W7 V1 ∧ GrB (fun k => k = wb ∨ (Value.slice none 0 0).ownBlock = some k) W7.heap.size W7 V1 ∧ (lf'.ownBlock = (Value.slice none 0 0).ownBlock ∨ ∃ g, lf'.ownBlock = some g ∧ W7.heap.size ≤ g)) → ∃ lf1, Tin D wb f0 f0 [] s r [] ⟨t.tv, V.heap.size + 1 + 1 + 1 + 1 + 1, V.heap.size + 1 + 1 + 1 + 1 + 1 + 1, ⟨V.heap.size + 1 + 1 + 1 + 1, 0, none⟩⟩ (V.heap.size + 1 + 1 + 1 + 1) 0 t lf1 V1 ∧ GrB (fun k => k = wb) V.heap.size V V1 ∧ BoxT V1 (V.heap.size + 1 + 1 + 1) noTerm ∧ V.heap.size + 7 ≤ V1.heap.size) := hide fun V1 h => by
    obtain ⟨lf', w1, s1, _, g1, _⟩ := h
    have hno : ∀ k, k ≠ wb → ¬ (k = wb ∨ (Value.slice none 0 0).ownBlock = some k) := fun k hk e => e.elim hk (fun e => by simp [Value.ownBlock] at e)
    have kk : ∀ k, k < W7.heap.size → k ≠ wb → V1.heap[k]? = W7.heap[k]? := fun k hk hne => g1.block k hk (hno k hne)
    have z1 := g1.size
    have b4' : BoxT V1 (V.heap.size + 1 + 1 + 1 + 1) noTerm := (kk _ (by omega) (by omega)).trans (b4.below g57 (by omega))
    refine ⟨lf', ⟨⟨(kA (vs := [])).moved (kk _ (by omega) (by omega)) (fun k hk => kk k (by omega) (by omega)) z1, .inl ((kB (vs := [])).moved (kk _ (by omega) (by omega)) (fun k hk => kk k (by omega) (by omega)) z1), by simpa using w1, hD1, Nat.le_refl _, by show wb ≤ V.heap.size + 1 + 1 + 1 + 1 + 1; omega, by show wb ≤ V.heap.size + 1 + 1 + 1 + 1 + 1 + 1; omega, h0, fun hn => absurd (fun N h1 h2 => by have := hrv N h1; omega) hn⟩, s1, rfl, isT_low (isT_low hT (fun k hk => g7.block k (by omega))) (fun k hk => kk k (by omega) (by omega)), ok, he, hv, rfl, ⟨_, b4', by simp⟩, by omega, by show V.heap.size + 1 + 1 + 1 + 1 + 1 ≠ V.heap.size + 1 + 1 + 1 + 1 + 1 + 1; omega, List.nodup_nil, fun N hN => by (cases hN), fun N h1 h2 => by have := hsv N h1; omega, fun N h1 h2 => by have := hrv N h1; omega, Int.le_refl _, hc⟩, ?_, (kk _ (by omega) (by omega)).trans (b3.below g57 (by omega)), by omega⟩
    exact (GrB.of_below g7).trans ⟨g1.os, g1.tape, g1.output, g1.size, fun k hk hx => kk k (by omega) hx⟩
  clear hT ok he hv hs hso hsv hr hro hrv hw h0 hc g5 b0 b1 b2 b3 b4 g56 g67 g7 g57 pA pB kA kB hs7
  simp only [TV.val]
  go_enter Try.func26, Try.ntmps26
  go_wp2_with fail
  try rw [hW5]
  go_wp2_with fail
  try rw [hW6]
  go_wp2_with fail
  try rw [hW7]
  go_wp2_with fail
  refine (unhide L0).mono ?_
  rintro e V1 ⟨rfl, h1⟩
  have H1 := hide ((unhide HT0) V1 h1)
  clear h1 HT0 L0 hW5 hW6 hW7 c0 c1 c2 c3 d0 d1 d2 d3 e0 e1 e2 e3 hs5 hs6
  obtain ⟨pt0, hp0⟩ : ∃ p, (Value.agg #[.int .i64 t.tv.k, .int .i64 t.tv.N, .string t.tv.s, .slice t.tv.a t.tv.len t.tv.cap]) = p := ⟨_, rfl⟩
  obtain ⟨pt1, hp1⟩ : ∃ p, (Value.agg #[.int .i64 xs.k, .int .i64 xs.N, .string xs.s, .slice xs.a xs.len xs.cap]) = p := ⟨_, rfl⟩
  obtain ⟨pt2, hp2⟩ : ∃ p, (Value.agg #[.int .i64 xr.k, .int .i64 xr.N, .string xr.s, .slice xr.a xr.len xr.cap]) = p := ⟨_, rfl⟩
  rw [hp0, hp1, hp2]
  clear hp0 hp1 hp2
  go_wp2_with fail
  refine wp_loop_cps (fun R hR => ?_)
  have HR := hide hR
  clear hR
  have last : ∀ (k : Nat) (nx : Int) (lf : Value) (U : World) (act : Act) (y : TV), GlA wb V.heap.size pt0 pt1 pt2 act → WrB U wb nx lf → StkK wb U lf [] → cellsAt U (V.heap.size + 1 + 1 + 1 + 1) 0 y → BoxT U (V.heap.size + 1 + 1 + 1) noTerm → HoldsG anyP (3 * n + D + 12) V.heap.size (set4 U (V.heap.size + 1 + 1 + 1) 0 y) y.val (renC (newR f0 (extV f0 [] (btwC t s r f0))) (btwC t s r f0)) ∧ FrG wb (fun k => k = wb) V (set4 U (V.heap.size + 1 + 1 + 1) 0 y) → R (k + 1) act U := by
    intro k nx lf U act y hA hw hS hy bx hfin
    obtain ⟨f, rfl⟩ := hA
    have HF := hide hfin
    obtain ⟨n0, n1⟩ := hw.cells
    have hlf : ∃ a cp, lf = .slice a 0 cp := by
      obtain ⟨_, _, h2⟩ := hS
      rcases h2 with ⟨h2, _⟩ | ⟨g, cp, cur, h2, _⟩
      · exact ⟨none, 0, h2⟩
      · exact ⟨_, cp, h2⟩
    obtain ⟨a, cp, rfl⟩ := hlf
    obtain ⟨i0, i1, i2, i3⟩ := hy
    simp only [Nat.zero_add] at i1 i2 i3
    obtain ⟨f0', f1', f2', f3'⟩ := bx.frz
    have e0 := bx.c0
    have e1 := bx.c1
    have e2 := bx.c2
    have e3 := bx.c3
    have b6 := set4_box bx y
    have g0 := b6.c0
    have g1 := b6.c1
    have g2 := b6.c2
    have g3 := b6.c3
    clear hfin hw hS bx b6 H1
    refine (unhide HR) _ _ _ ?_
    go_wp2_with fail
    exact bodyPost_ret (v := y.val) (by
      have e : (((U.setCell ⟨V.heap.size + 1 + 1 + 1, 0, none⟩ (.int .i64 y.k)).setCell ⟨V.heap.size + 1 + 1 + 1, 1, none⟩ (.int .i64 y.N)).setCell ⟨V.heap.size + 1 + 1 + 1, 2, none⟩ (.string y.s)).setCell ⟨V.heap.size + 1 + 1 + 1, 3, none⟩ (.slice y.a y.len y.cap) = set4 U (V.heap.size + 1 + 1 + 1) 0 y := rfl
      rw [e]
      simp [results, Try.results26, go_sem, TV.val, g0, g1, g2, g3]) rfl ⟨y, rfl, (unhide HF).1, (unhide HF).2⟩
  have step : Steps D wb 1099511627774 R (GlA wb V.heap.size pt0 pt1 pt2) := by
    intro k S E pb po X nx lf act TP hA hw hS hpl hSL hpbX hTop hK
    clear last H1
    obtain ⟨f, rfl⟩ := hA
    obtain ⟨g, cp, cur, rfl, hgB, hgV, hcap, hcm, hgc⟩ := hS.slice
    have hcap' : cp ≤ 9223372036854775807 := by unfold maxLen at hcm; omega
    have t0 := hS.top (j := 0) rfl
    have t1 := hS.top (j := 1) rfl
    have t2 := hS.top (j := 2) rfl
    have t3 := hS.top (j := 3) rfl
    have t4 := hS.top (j := 4) rfl
    have t5 := hS.top (j := 5) rfl
    have t6 := hS.top (j := 6) rfl
    rw [Nat.add_zero] at t0
    obtain ⟨n0, n1⟩ := hw.cells
    obtain ⟨bx, hbx⟩ : ∃ bx, X.heap.size = bx := ⟨_, rfl⟩
    obtain ⟨VA, hVA⟩ : ∃ VA, X.alloc (.cells #[.int .i64 E.x.k, .int .i64 E.x.N, .string E.x.s, .slice E.x.a E.x.len E.x.cap, .pointer (some ⟨E.pf, 0, none⟩), .pointer (some ⟨E.pt, 0, none⟩), .pointer (some E.pl)] 64) = VA := ⟨_, rfl⟩
    have hpop := pop_of hw hS hVA
    have gA : Below X.heap.size X VA := by rw [← hVA]; exact (Below.refl _ X).alloc (Nat.le_refl _) _
    have wA := hw.kept (gA.block wb hw.lt)
    obtain ⟨m0, m1⟩ := wA.cells
    have mz := wA.frz 1
    obtain ⟨U, hU⟩ : ∃ U, VA.setCell ⟨wb, 1, none⟩ (.slice (some ⟨g, 0, none⟩) S.length cp) = U := ⟨_, rfl⟩
    rw [hU] at hpop
    obtain ⟨D1, hD1'⟩ : ∃ D1, U.drew = D1 := ⟨_, rfl⟩
    have hD1 : U.drew = D1 := hD1'
    have hDB : Below U.heap.size U D1 := by rw [← hD1']; exact (Below.refl _ U).drew
    clear hD1'
    have hpD : PopS wb nx (.slice (some ⟨g, 0, none⟩) (S.length + 1) cp) (.slice (some ⟨g, 0, none⟩) S.length cp) S E X D1 := ⟨hpop.gr.trans (GrB.of_below (hDB.mono hpop.gr.size)), Nat.lt_of_lt_of_le hpop.sz hDB.size, hpop.wr.kept (hDB.block wb hpop.wr.lt), hpop.st.below hDB, (hDB.block _ hpop.sz).trans hpop.tk, rfl⟩
    have kD := hpD.tk.cells
    rw [hbx, hpl] at kD
    have hTU := hTop D1 _ hpD
    have hval : E.val = .agg #[.int .i64 E.x.k, .int .i64 E.x.N, .string E.x.s, .slice E.x.a E.x.len E.x.cap, .pointer (some ⟨E.pf, 0, none⟩), .pointer (some ⟨E.pt, 0, none⟩), .pointer (some ⟨pb, po, none⟩)] := by unfold Task.val Task.row; rw [hpl]
    rw [hbx, hval] at hTU
    have HTU := hide hTU
    have HPL := hide hpl
    have HKK := hide hK
    have HKS : Hid (∀ (V' : World) (y : TV), TkB V' bx E → Spot V' pb po → (set4 V' pb po y).cell? ⟨bx, 0, none⟩ = some (.int .i64 E.x.k) ∧ (set4 V' pb po y).cell? ⟨bx, 1, none⟩ = some (.int .i64 E.x.N) ∧ (set4 V' pb po y).cell? ⟨bx, 2, none⟩ = some (.string E.x.s) ∧ (set4 V' pb po y).cell? ⟨bx, 3, none⟩ = some (.slice E.x.a E.x.len E.x.cap) ∧ (set4 V' pb po y).cell? ⟨bx, 4, none⟩ = some (.pointer (some ⟨E.pf, 0, none⟩)) ∧ (set4 V' pb po y).cell? ⟨bx, 5, none⟩ = some (.pointer (some ⟨E.pt, 0, none⟩)) ∧ (set4 V' pb po y).cell? ⟨bx, 6, none⟩ = some (.pointer (some ⟨pb, po, none⟩))) := hide fun V' y h1 _ => by
      have hc : TkB (set4 V' pb po y) bx E := (set4_other V' pb po y (by omega)).trans h1
      have := hc.cells
      rw [hpl] at this
      exact this
    have hbxl : bx < VA.heap.size := by rw [← hVA, ← hbx]; simp
    have kV : VA.heap[bx]? = some (.cells #[.int .i64 E.x.k, .int .i64 E.x.N, .string E.x.s, .slice E.x.a E.x.len E.x.cap, .pointer (some ⟨E.pf, 0, none⟩), .pointer (some ⟨E.pt, 0, none⟩), .pointer (some E.pl)] 64 (0, 0)) := by rw [← hVA, ← hbx]; exact World.alloc_heap_new X _
    rw [hpl] at t6 hVA kV
    clear hval hTop hK hpop hpD hTU hw hS gA wA hpl hgB hgV hgc hDB kV hbxl
    refine (unhide HR) _ _ _ ?_
    go_wp2_with fail
    try rw [hVA]
    go_wp2_with fail
    try rw [hU]
    clear hVA hU t0 t1 t2 t3 t4 t5 t6 n0 n1 m0 m1 mz
    go_wp2_with fail
    refine wp_region_noPanic ?_
    refine wp_region_held_drew (S := fun w' => w'.cell? ⟨bx, 0, none⟩ = some (.int .i64 E.x.k) ∧ w'.cell? ⟨bx, 1, none⟩ = some (.int .i64 E.x.N) ∧ w'.cell? ⟨bx, 2, none⟩ = some (.string E.x.s) ∧ w'.cell? ⟨bx, 3, none⟩ = some (.slice E.x.a E.x.len E.x.cap) ∧ w'.cell? ⟨bx, 4, none⟩ = some (.pointer (some ⟨E.pf, 0, none⟩)) ∧ w'.cell? ⟨bx, 5, none⟩ = some (.pointer (some ⟨E.pt, 0, none⟩)) ∧ w'.cell? ⟨bx, 6, none⟩ = some (.pointer (some ⟨pb, po, none⟩))) (by kernel_rfl) ?_ (fun hHeld => ?_)
    · (try rw [hD1]); exact kD
    rw [hD1] at hHeld ⊢
    clear hD1
    refine tk 0 rfl hHeld ?_
    refine tk 1 rfl hHeld ?_
    refine tk 2 rfl hHeld ?_
    refine tk 3 rfl hHeld ?_
    refine rd 4 rfl fun K hK => ?_
    have hHold := hHeld
    clear hHeld
    go_simp
    refine (unhide HTU).mono ?_
    rintro e V' ⟨y, rfl, htk, hsp, hTP⟩
    have k2 := htk.cells
    rw [unhide HPL] at k2
    obtain ⟨q0, y0⟩ := hsp.cell (q := po) (by omega)
    obtain ⟨q1, y1⟩ := hsp.cell (q := po + 1) (by omega)
    obtain ⟨q2, y2⟩ := hsp.cell (q := po + 2) (by omega)
    obtain ⟨q3, y3⟩ := hsp.cell (q := po + 3) (by omega)
    obtain ⟨a0, z0⟩ := Option.isSome_iff_exists.1 q0
    obtain ⟨a1, z1⟩ := Option.isSome_iff_exists.1 q1
    obtain ⟨a2, z2⟩ := Option.isSome_iff_exists.1 q2
    obtain ⟨a3, z3⟩ := Option.isSome_iff_exists.1 q3
    have HTP := hide hTP
    have k3 : (set4 V' pb po y).cell? ⟨bx, 0, none⟩ = some (.int .i64 E.x.k) ∧ (set4 V' pb po y).cell? ⟨bx, 1, none⟩ = some (.int .i64 E.x.N) ∧ (set4 V' pb po y).cell? ⟨bx, 2, none⟩ = some (.string E.x.s) ∧ (set4 V' pb po y).cell? ⟨bx, 3, none⟩ = some (.slice E.x.a E.x.len E.x.cap) ∧ (set4 V' pb po y).cell? ⟨bx, 4, none⟩ = some (.pointer (some ⟨E.pf, 0, none⟩)) ∧ (set4 V' pb po y).cell? ⟨bx, 5, none⟩ = some (.pointer (some ⟨E.pt, 0, none⟩)) ∧ (set4 V' pb po y).cell? ⟨bx, 6, none⟩ = some (.pointer (some ⟨pb, po, none⟩)) := (unhide HKS) V' y htk hsp
    clear htk hsp hTP q0 q1 q2 q3
    simp only [TV.val]
    go_wp2_with fail
    refine hK.out _ _ ?_ (fun hHeld => ?_)
    · ((try dsimp only); exact k2)
    clear hK K hHold
    try simp only [pu]
    refine tk 5 rfl hHeld ?_
    refine rd 6 rfl fun K hK => ?_
    have hHold := hHeld
    clear hHeld
    go_simp
    refine hK.out _ _ ?_ (fun hHeld => ?_)
    · ((try dsimp only); exact k3)
    clear hK K hHold
    try simp only [pu]
    refine wpAnyH_done (by kernel_rfl) ?_ _
    refine NoPanic.normal ?_
    clear hHeld
    go_wp2_with fail
    exact (unhide HKK) y V' _ glA_of (unhide HTP)
  obtain ⟨lf1, tin, gr1, br1, hz1⟩ := unhide H1
  obtain ⟨cnt, hcnt⟩ := key_all (f0 := f0) step hD1 (by omega) t (by omega) hlim
  refine ⟨cnt + 1, hcnt 1 [] _ _ _ V1 lf1 [] s r f0 _ glA_of tin (by simp; omega) (fun lf2 V2 act2 hA2 t2 => ?_)⟩
  obtain ⟨y, y1, y2⟩ := t2.y
  have z2 := t2.fr.fr.size
  have hpt : V.heap.size + 1 + 1 + 1 + 1 + 1 + 1 < V1.heap.size := by omega
  have br2 : BoxT V2 (V.heap.size + 1 + 1 + 1) noTerm := (FrT.terms t2.fr (show V1.heap[V.heap.size + 1 + 1 + 1]? = _ from br1) (by omega) (by show V.heap.size + 1 + 1 + 1 ≠ V.heap.size + 1 + 1 + 1 + 1 + 1 + 1; omega) (by omega)).trans br1
  refine last 0 _ lf2 V2 act2 y hA2 t2.wr t2.st y1 br2 ⟨(y2.set4 (by omega) 0 y).mono (Nat.le_refl _) (by omega) (fun _ h => h), ?_⟩
  have hY : FrG wb (fun k => k = wb ∨ V.heap.size ≤ k) V V2 := ((FrG.of_grb gr1).wide (fun k hk => .inl hk)).trans (t2.fr.fr.wide (fun k hk => by
    rcases hk with e | e | e
    · exact .inl e
    · have : k = V.heap.size + 1 + 1 + 1 + 1 + 1 + 1 := e
      exact .inr (by omega)
    · exact .inr (by omega)))
  refine FrG.set4 (b := V.heap.size + 1 + 1 + 1) ⟨hY.os, hY.tape, hY.output, hY.size, fun k hk hx hc => hY.block k hk (fun e => e.elim hx (fun e => by omega)) hc⟩ (by omega) 0 y
end Go.Proofs.Ytcdgmjpgmiehcaa

