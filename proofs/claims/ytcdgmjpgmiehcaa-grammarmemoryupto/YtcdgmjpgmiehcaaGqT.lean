import Derived.Test.YtcdgmjpgmiehcaaGmYs
/- grammar's Phrase. (Written by wip/gqphrasegen.py.) -/
namespace Go.Proofs.Ytcdgmjpgmiehcaa
open Go.RowKit Go.Shelf

/-- What Phrase answers: its error, and its goal. -/
def phrE {n : Nat} (tb tl tr : Tm n) : Int := if okT tb = true ∧ okT tl = true ∧ okT tr = true then (if berr tb = 0 then (if 1099511627777 < freeC [tb, tl, tr] + cntT tb then 9 else 0) else berr tb) else 2
def phrC {n : Nat} (tb tl tr : Tm n) : List Nd := if phrE tb tl tr = 0 then renC (newR (freeC [tb, tl, tr]) (extV (freeC [tb, tl, tr]) [] (btwC tb (code tl) (code tr) (freeC [tb, tl, tr])))) (btwC tb (code tl) (code tr) (freeC [tb, tl, tr])) else noC
theorem box_three (V : World) (x y z : TV) : ∃ W4 W5, (((V.alloc (.cells #[.int .i64 x.k, .int .i64 x.N, .string x.s, .slice x.a x.len x.cap] 24)).alloc (.cells #[.int .i64 y.k, .int .i64 y.N, .string y.s, .slice y.a y.len y.cap] 24)).alloc (.cells #[.int .i64 z.k, .int .i64 z.N, .string z.s, .slice z.a z.len z.cap] 24)).alloc (.cells #[.int .i64 0, .int .i64 0, .string ⟨#[]⟩, .slice none 0 0] 24) = W4 ∧ W4.alloc (.cells #[.int .i64 x.k, .int .i64 x.N, .string x.s, .slice x.a x.len x.cap, .int .i64 y.k, .int .i64 y.N, .string y.s, .slice y.a y.len y.cap, .int .i64 z.k, .int .i64 z.N, .string z.s, .slice z.a z.len z.cap] 24) = W5 ∧ Below V.heap.size V W4 ∧ W4.heap.size = V.heap.size + 1 + 1 + 1 + 1 ∧ BoxT W4 V.heap.size x ∧ BoxT W4 (V.heap.size + 1) y ∧ BoxT W4 (V.heap.size + 1 + 1) z ∧ BoxT W4 (V.heap.size + 1 + 1 + 1) noTerm ∧ Below W4.heap.size W4 W5 ∧ W5.heap.size = V.heap.size + 5 ∧ cellsAt W5 (V.heap.size + 1 + 1 + 1 + 1) 0 x ∧ cellsAt W5 (V.heap.size + 1 + 1 + 1 + 1) 4 y ∧ cellsAt W5 (V.heap.size + 1 + 1 + 1 + 1) 8 z := by
  obtain ⟨W4, hW4⟩ : ∃ W4, (((V.alloc (.cells #[.int .i64 x.k, .int .i64 x.N, .string x.s, .slice x.a x.len x.cap] 24)).alloc (.cells #[.int .i64 y.k, .int .i64 y.N, .string y.s, .slice y.a y.len y.cap] 24)).alloc (.cells #[.int .i64 z.k, .int .i64 z.N, .string z.s, .slice z.a z.len z.cap] 24)).alloc (.cells #[.int .i64 0, .int .i64 0, .string ⟨#[]⟩, .slice none 0 0] 24) = W4 := ⟨_, rfl⟩
  have hs4 : W4.heap.size = V.heap.size + 1 + 1 + 1 + 1 := by rw [← hW4]; simp
  have hn := World.alloc_heap_new W4 (.cells #[.int .i64 x.k, .int .i64 x.N, .string x.s, .slice x.a x.len x.cap, .int .i64 y.k, .int .i64 y.N, .string y.s, .slice y.a y.len y.cap, .int .i64 z.k, .int .i64 z.N, .string z.s, .slice z.a z.len z.cap] 24)
  rw [hs4] at hn
  refine ⟨W4, _, hW4, rfl, ?_, hs4, ?_, ?_, ?_, ?_, (Below.refl _ W4).alloc (Nat.le_refl _) _, by simp [hs4], ⟨cell_of hn rfl, cell_of hn rfl, cell_of hn rfl, cell_of hn rfl⟩, ⟨cell_of hn rfl, cell_of hn rfl, cell_of hn rfl, cell_of hn rfl⟩, ⟨cell_of hn rfl, cell_of hn rfl, cell_of hn rfl, cell_of hn rfl⟩⟩
  · rw [← hW4]; exact ((((Below.refl _ V).alloc (Nat.le_refl _) _).alloc (by simp) _).alloc (by simp; omega) _).alloc (by simp; omega) _
  · rw [← hW4]; exact (((BoxT.new V x).alloc _).alloc _).alloc _
  · rw [← hW4]
    have h0 := BoxT.new (V.alloc (.cells #[.int .i64 x.k, .int .i64 x.N, .string x.s, .slice x.a x.len x.cap] 24)) y
    rw [World.size_alloc] at h0
    exact (h0.alloc _).alloc _
  · rw [← hW4]
    have h0 := BoxT.new ((V.alloc (.cells #[.int .i64 x.k, .int .i64 x.N, .string x.s, .slice x.a x.len x.cap] 24)).alloc (.cells #[.int .i64 y.k, .int .i64 y.N, .string y.s, .slice y.a y.len y.cap] 24)) z
    rw [World.size_alloc, World.size_alloc] at h0
    exact h0.alloc _
  · rw [← hW4]
    have h0 := BoxT.new (((V.alloc (.cells #[.int .i64 x.k, .int .i64 x.N, .string x.s, .slice x.a x.len x.cap] 24)).alloc (.cells #[.int .i64 y.k, .int .i64 y.N, .string y.s, .slice y.a y.len y.cap] 24)).alloc (.cells #[.int .i64 z.k, .int .i64 z.N, .string z.s, .slice z.a z.len z.cap] 24)) noTerm
    rw [World.size_alloc, World.size_alloc, World.size_alloc] at h0
    exact h0
set_option maxRecDepth 100000 in
set_option maxHeartbeats 8000000 in
theorem phrase_bad {n : Nat} (tb tl tr : Tm n) (V : World) (hb : IsT V.heap.size V tb) (hl : IsT V.heap.size V tl) (hr : IsT V.heap.size V tr) (pb : (parts tb).length ≤ 4194304) (pl : (parts tl).length ≤ 4194304) (pr : (parts tr).length ≤ 4194304) (_hn : n ≤ 274877906944) (hbad : ∃ u ∈ [tb, tl, tr], okT u = false) :
    Calls Try.prog 10 #[tb.tv.val, tl.tv.val, tr.tv.val] V fun e V' => e = .returned (.tuple #[noTerm.val, .int .i64 2]) ∧ Below V.heap.size V V' := by
  obtain ⟨W4, W5, hW4, hW5, g4, hs4, b0, b1, b2, b3, g5, hs5, x0, x1, x2⟩ := box_three V tb.tv tl.tv tr.tv
  have g45 : Below V.heap.size V W5 := g4.trans (g5.mono (by omega))
  have hts : [tb, tl, tr] = [] ∨ ∃ b off, (some ⟨V.heap.size + 1 + 1 + 1 + 1, 0, none⟩ : Option Addr) = some ⟨b, off, none⟩ ∧ b < W5.heap.size ∧ ∀ j u, [tb, tl, tr][j]? = some u → cellsAt W5 b (off + j * 4) u.tv ∧ IsT W5.heap.size W5 u := .inr ⟨_, 0, rfl, by omega, fun j u hu => by
    match j, hu with
    | 0, hu => simp at hu; subst hu; exact ⟨by simpa using x0, (hb.below g45).mono g45.size⟩
    | 1, hu => simp at hu; subst hu; exact ⟨by simpa using x1, (hl.below g45).mono g45.size⟩
    | 2, hu => simp at hu; subst hu; exact ⟨by simpa using x2, (hr.below g45).mono g45.size⟩
    | j + 3, hu => simp at hu⟩
  have hps : ∀ u ∈ [tb, tl, tr], (parts u).length ≤ 4194304 := fun u hu => by
    simp at hu
    rcases hu with rfl | rfl | rfl <;> assumption
  have HFF := hide (free_bad [tb, tl, tr] (some ⟨V.heap.size + 1 + 1 + 1 + 1, 0, none⟩) 3 3 W5 rfl (by omega) hbad hps hts)
  clear hbad
  have c0 := b0.c0
  have c1 := b0.c1
  have c2 := b0.c2
  have c3 := b0.c3
  have d0 := b1.c0
  have d1 := b1.c1
  have d2 := b1.c2
  have d3 := b1.c3
  have e0 := b2.c0
  have e1 := b2.c1
  have e2 := b2.c2
  have e3 := b2.c3
  have HBX := hide (And.intro g4 (And.intro g5 (And.intro b0 (And.intro b1 (And.intro b2 b3)))))
  clear hts hps x0 x1 x2 g45 g4 g5 b0 b1 b2 b3 hb hl hr pb pl pr
  simp only [TV.val]
  go_enter Try.func10, Try.ntmps10
  go_wp2_with fail
  try rw [hW4]
  go_wp2_with fail
  try rw [hW5]
  go_wp2_with fail
  clear hW4 hW5 c0 c1 c2 c3 d0 d1 d2 d3 e0 e1 e2 e3
  refine (unhide HFF).mono ?_
  rintro e U ⟨rfl, hU⟩
  obtain ⟨g4, g5, b0, b1, b2, b3⟩ := unhide HBX
  have hU4 : Below W4.heap.size W4 U := g5.trans (hU.mono g5.size)
  have hVU : Below V.heap.size V U := g4.trans (hU4.mono g4.size)
  have hUs := hU.size
  have u0 := b0.below hU4 (by omega)
  have u1 := b1.below hU4 (by omega)
  have u2 := b2.below hU4 (by omega)
  have u3 := b3.below hU4 (by omega)
  clear b0 b1 b2 b3 g4 g5 hU hU4 HBX HFF
  obtain ⟨f0', f1', f2', f3'⟩ := u3.frz
  have m0 := u3.c0
  have m1 := u3.c1
  have m2 := u3.c2
  have m3 := u3.c3
  have b6 := set4_box u3 noTerm
  have z0 := b6.c0
  have z1 := b6.c1
  have z2 := b6.c2
  have z3 := b6.c3
  have HF := hide (set4_below hVU (show V.heap.size ≤ V.heap.size + 1 + 1 + 1 by omega) 0 noTerm)
  clear u0 u1 u2 u3 hVU b6
  go_wp2_with fail
  exact bodyPost_ret (v := .tuple #[noTerm.val, .int .i64 2]) (by simp [results, Try.results10, go_sem, TV.val, noTerm, m0, m1, m2, m3]) rfl ⟨rfl, unhide HF⟩
set_option maxRecDepth 100000 in
set_option maxHeartbeats 8000000 in
theorem phrase_err {n : Nat} (tb tl tr : Tm n) (V : World) (hb : IsT V.heap.size V tb) (hl : IsT V.heap.size V tl) (hr : IsT V.heap.size V tr) (pb : (parts tb).length ≤ 4194304) (pl : (parts tl).length ≤ 4194304) (pr : (parts tr).length ≤ 4194304) (hn : n ≤ 274877906944) (ok : ∀ u ∈ [tb, tl, tr], okT u = true) (he : berr tb ≠ 0) :
    Calls Try.prog 10 #[tb.tv.val, tl.tv.val, tr.tv.val] V fun e V' => e = .returned (.tuple #[noTerm.val, .int .i64 (berr tb)]) ∧ Below V.heap.size V V' := by
  obtain ⟨W4, W5, hW4, hW5, g4, hs4, b0, b1, b2, b3, g5, hs5, x0, x1, x2⟩ := box_three V tb.tv tl.tv tr.tv
  have g45 : Below V.heap.size V W5 := g4.trans (g5.mono (by omega))
  have hts : [tb, tl, tr] = [] ∨ ∃ b off, (some ⟨V.heap.size + 1 + 1 + 1 + 1, 0, none⟩ : Option Addr) = some ⟨b, off, none⟩ ∧ b < W5.heap.size ∧ ∀ j u, [tb, tl, tr][j]? = some u → cellsAt W5 b (off + j * 4) u.tv ∧ IsT W5.heap.size W5 u := .inr ⟨_, 0, rfl, by omega, fun j u hu => by
    match j, hu with
    | 0, hu => simp at hu; subst hu; exact ⟨by simpa using x0, (hb.below g45).mono g45.size⟩
    | 1, hu => simp at hu; subst hu; exact ⟨by simpa using x1, (hl.below g45).mono g45.size⟩
    | 2, hu => simp at hu; subst hu; exact ⟨by simpa using x2, (hr.below g45).mono g45.size⟩
    | j + 3, hu => simp at hu⟩
  have hps : ∀ u ∈ [tb, tl, tr], (parts u).length ≤ 4194304 := fun u hu => by
    simp at hu
    rcases hu with rfl | rfl | rfl <;> assumption
  have HFF := hide (free_ok [tb, tl, tr] (some ⟨V.heap.size + 1 + 1 + 1 + 1, 0, none⟩) 3 3 W5 rfl (by omega) ok hps hts)
  have okb := ok tb (by simp)
  have hfl := free_le ok
  have hcnt : cntT tb ≤ 4194304 := by have h1 := cnt_le tb hb.wl; have h2 : (code tb).length = (parts tb).length := (by unfold code; rw [List.length_map]); omega
  have HCB : Hid (∀ U, Below V.heap.size V U → Calls Try.prog 22 #[.agg #[.int .i64 tb.tv.k, .int .i64 tb.tv.N, .string tb.tv.s, .slice tb.tv.a tb.tv.len tb.tv.cap]] U fun e W' => e = .returned (.tuple #[.int .i64 (if berr tb = 0 then cntT tb else 0), .int .i64 (berr tb)]) ∧ Below U.heap.size U W') := hide fun U hU => gcheck_any tb U ((hb.below hU).mono hU.size) okb hn (by omega)
  clear ok okb hcnt
  have c0 := b0.c0
  have c1 := b0.c1
  have c2 := b0.c2
  have c3 := b0.c3
  have d0 := b1.c0
  have d1 := b1.c1
  have d2 := b1.c2
  have d3 := b1.c3
  have e0 := b2.c0
  have e1 := b2.c1
  have e2 := b2.c2
  have e3 := b2.c3
  have HBX := hide (And.intro g4 (And.intro g5 (And.intro b0 (And.intro b1 (And.intro b2 b3)))))
  clear hts hps x0 x1 x2 g45 g4 g5 b0 b1 b2 b3 hb hl hr pb pl pr
  simp only [TV.val]
  go_enter Try.func10, Try.ntmps10
  go_wp2_with fail
  try rw [hW4]
  go_wp2_with fail
  try rw [hW5]
  go_wp2_with fail
  clear hW4 hW5 c0 c1 c2 c3 d0 d1 d2 d3 e0 e1 e2 e3
  refine (unhide HFF).mono ?_
  rintro e U ⟨rfl, hU⟩
  obtain ⟨g4, g5, b0, b1, b2, b3⟩ := unhide HBX
  have hU4 : Below W4.heap.size W4 U := g5.trans (hU.mono g5.size)
  have hVU : Below V.heap.size V U := g4.trans (hU4.mono g4.size)
  have hUs := hU.size
  have u0 := b0.below hU4 (by omega)
  have u1 := b1.below hU4 (by omega)
  have u2 := b2.below hU4 (by omega)
  have u3 := b3.below hU4 (by omega)
  clear b0 b1 b2 b3 g4 g5 hU hU4 HBX HFF
  have v0 := u0.c0
  have v1 := u0.c1
  have v2 := u0.c2
  have v3 := u0.c3
  have HCU := hide ((unhide HCB) U hVU)
  have HUU := hide (And.intro hVU (And.intro u0 (And.intro u1 (And.intro u2 u3))))
  clear u0 u1 u2 u3 hVU HCB
  go_wp2_with fail
  refine (unhide HCU).mono ?_
  rintro e U2 ⟨rfl, h2⟩
  obtain ⟨hVU, u0, u1, u2, u3⟩ := unhide HUU
  have hV2 : Below V.heap.size V U2 := hVU.trans (h2.mono hVU.size)
  have p0 := u0.below h2 u0.lt
  have p1 := u1.below h2 u1.lt
  have p2 := u2.below h2 u2.lt
  have p3 := u3.below h2 u3.lt
  have hU2s := h2.size
  have hp3l := p3.lt
  clear u0 u1 u2 u3 hVU HUU HCU h2 v0 v1 v2 v3
  rw [if_neg he]
  have he' : (berr tb == 0) = false := by simpa using he
  obtain ⟨f0', f1', f2', f3'⟩ := p3.frz
  have m0 := p3.c0
  have m1 := p3.c1
  have m2 := p3.c2
  have m3 := p3.c3
  have b6 := set4_box p3 noTerm
  have z0 := b6.c0
  have z1 := b6.c1
  have z2 := b6.c2
  have z3 := b6.c3
  have HF := hide (set4_below hV2 (show V.heap.size ≤ V.heap.size + 1 + 1 + 1 by omega) 0 noTerm)
  clear p0 p1 p2 p3 hV2 b6 he
  go_wp2_with fail
  exact bodyPost_ret (v := .tuple #[noTerm.val, .int .i64 (berr tb)]) (by simp [results, Try.results10, go_sem, TV.val, noTerm, m0, m1, m2, m3]) rfl ⟨rfl, unhide HF⟩
set_option maxRecDepth 100000 in
set_option maxHeartbeats 8000000 in
theorem phrase_large {n : Nat} (tb tl tr : Tm n) (V : World) (hb : IsT V.heap.size V tb) (hl : IsT V.heap.size V tl) (hr : IsT V.heap.size V tr) (pb : (parts tb).length ≤ 4194304) (pl : (parts tl).length ≤ 4194304) (pr : (parts tr).length ≤ 4194304) (hn : n ≤ 274877906944) (ok : ∀ u ∈ [tb, tl, tr], okT u = true) (he : berr tb = 0) (hL : 1099511627777 < freeC [tb, tl, tr] + cntT tb) :
    Calls Try.prog 10 #[tb.tv.val, tl.tv.val, tr.tv.val] V fun e V' => e = .returned (.tuple #[noTerm.val, .int .i64 9]) ∧ Below V.heap.size V V' := by
  obtain ⟨W4, W5, hW4, hW5, g4, hs4, b0, b1, b2, b3, g5, hs5, x0, x1, x2⟩ := box_three V tb.tv tl.tv tr.tv
  have g45 : Below V.heap.size V W5 := g4.trans (g5.mono (by omega))
  have hts : [tb, tl, tr] = [] ∨ ∃ b off, (some ⟨V.heap.size + 1 + 1 + 1 + 1, 0, none⟩ : Option Addr) = some ⟨b, off, none⟩ ∧ b < W5.heap.size ∧ ∀ j u, [tb, tl, tr][j]? = some u → cellsAt W5 b (off + j * 4) u.tv ∧ IsT W5.heap.size W5 u := .inr ⟨_, 0, rfl, by omega, fun j u hu => by
    match j, hu with
    | 0, hu => simp at hu; subst hu; exact ⟨by simpa using x0, (hb.below g45).mono g45.size⟩
    | 1, hu => simp at hu; subst hu; exact ⟨by simpa using x1, (hl.below g45).mono g45.size⟩
    | 2, hu => simp at hu; subst hu; exact ⟨by simpa using x2, (hr.below g45).mono g45.size⟩
    | j + 3, hu => simp at hu⟩
  have hps : ∀ u ∈ [tb, tl, tr], (parts u).length ≤ 4194304 := fun u hu => by
    simp at hu
    rcases hu with rfl | rfl | rfl <;> assumption
  have HFF := hide (free_ok [tb, tl, tr] (some ⟨V.heap.size + 1 + 1 + 1 + 1, 0, none⟩) 3 3 W5 rfl (by omega) ok hps hts)
  have okb := ok tb (by simp)
  have hfl := free_le ok
  have hcnt : cntT tb ≤ 4194304 := by have h1 := cnt_le tb hb.wl; have h2 : (code tb).length = (parts tb).length := (by unfold code; rw [List.length_map]); omega
  have HCB : Hid (∀ U, Below V.heap.size V U → Calls Try.prog 22 #[.agg #[.int .i64 tb.tv.k, .int .i64 tb.tv.N, .string tb.tv.s, .slice tb.tv.a tb.tv.len tb.tv.cap]] U fun e W' => e = .returned (.tuple #[.int .i64 (if berr tb = 0 then cntT tb else 0), .int .i64 (berr tb)]) ∧ Below U.heap.size U W') := hide fun U hU => gcheck_any tb U ((hb.below hU).mono hU.size) okb hn (by omega)
  clear ok okb
  have c0 := b0.c0
  have c1 := b0.c1
  have c2 := b0.c2
  have c3 := b0.c3
  have d0 := b1.c0
  have d1 := b1.c1
  have d2 := b1.c2
  have d3 := b1.c3
  have e0 := b2.c0
  have e1 := b2.c1
  have e2 := b2.c2
  have e3 := b2.c3
  have HBX := hide (And.intro g4 (And.intro g5 (And.intro b0 (And.intro b1 (And.intro b2 b3)))))
  clear hts hps x0 x1 x2 g45 g4 g5 b0 b1 b2 b3 hb hl hr pb pl pr
  simp only [TV.val]
  go_enter Try.func10, Try.ntmps10
  go_wp2_with fail
  try rw [hW4]
  go_wp2_with fail
  try rw [hW5]
  go_wp2_with fail
  clear hW4 hW5 c0 c1 c2 c3 d0 d1 d2 d3 e0 e1 e2 e3
  refine (unhide HFF).mono ?_
  rintro e U ⟨rfl, hU⟩
  obtain ⟨g4, g5, b0, b1, b2, b3⟩ := unhide HBX
  have hU4 : Below W4.heap.size W4 U := g5.trans (hU.mono g5.size)
  have hVU : Below V.heap.size V U := g4.trans (hU4.mono g4.size)
  have hUs := hU.size
  have u0 := b0.below hU4 (by omega)
  have u1 := b1.below hU4 (by omega)
  have u2 := b2.below hU4 (by omega)
  have u3 := b3.below hU4 (by omega)
  clear b0 b1 b2 b3 g4 g5 hU hU4 HBX HFF
  have v0 := u0.c0
  have v1 := u0.c1
  have v2 := u0.c2
  have v3 := u0.c3
  have HCU := hide ((unhide HCB) U hVU)
  have HUU := hide (And.intro hVU (And.intro u0 (And.intro u1 (And.intro u2 u3))))
  clear u0 u1 u2 u3 hVU HCB
  go_wp2_with fail
  refine (unhide HCU).mono ?_
  rintro e U2 ⟨rfl, h2⟩
  obtain ⟨hVU, u0, u1, u2, u3⟩ := unhide HUU
  have hV2 : Below V.heap.size V U2 := hVU.trans (h2.mono hVU.size)
  have p0 := u0.below h2 u0.lt
  have p1 := u1.below h2 u1.lt
  have p2 := u2.below h2 u2.lt
  have p3 := u3.below h2 u3.lt
  have hU2s := h2.size
  have hp3l := p3.lt
  clear u0 u1 u2 u3 hVU HUU HCU h2 v0 v1 v2 v3
  rw [he, if_pos rfl]
  generalize freeC [tb, tl, tr] = fr at *
  generalize cntT tb = cn at *
  obtain ⟨f0', f1', f2', f3'⟩ := p3.frz
  have m0 := p3.c0
  have m1 := p3.c1
  have m2 := p3.c2
  have m3 := p3.c3
  have b6 := set4_box p3 noTerm
  have z0 := b6.c0
  have z1 := b6.c1
  have z2 := b6.c2
  have z3 := b6.c3
  have HF := hide (set4_below hV2 (show V.heap.size ≤ V.heap.size + 1 + 1 + 1 by omega) 0 noTerm)
  clear p0 p1 p2 p3 hV2 b6 he
  have hLL : 1099511627776 < fr + (cn : Int) - 1 := by omega
  go_wp2_with fail
  exact bodyPost_ret (v := .tuple #[noTerm.val, .int .i64 9]) (by simp [results, Try.results10, go_sem, TV.val, noTerm, m0, m1, m2, m3]) rfl ⟨rfl, unhide HF⟩
set_option maxRecDepth 100000 in
set_option maxHeartbeats 8000000 in
theorem phrase_yes {n : Nat} (tb tl tr : Tm n) (V : World) (hb : IsT V.heap.size V tb) (hl : IsT V.heap.size V tl) (hr : IsT V.heap.size V tr) (pb : (parts tb).length ≤ 4194304) (pl : (parts tl).length ≤ 4194304) (pr : (parts tr).length ≤ 4194304) (hn : n ≤ 274877906944) (ok : ∀ u ∈ [tb, tl, tr], okT u = true) (he : berr tb = 0) (hL : freeC [tb, tl, tr] + cntT tb ≤ 1099511627777) :
    Calls Try.prog 10 #[tb.tv.val, tl.tv.val, tr.tv.val] V fun e V' => ∃ y : TV, e = .returned (.tuple #[y.val, .int .i64 0]) ∧ HoldsG anyP (4 * n + 12) V.heap.size V' y.val (renC (newR (freeC [tb, tl, tr]) (extV (freeC [tb, tl, tr]) [] (btwC tb (code tl) (code tr) (freeC [tb, tl, tr])))) (btwC tb (code tl) (code tr) (freeC [tb, tl, tr]))) ∧ Below V.heap.size V V' := by
  obtain ⟨W4, W5, hW4, hW5, g4, hs4, b0, b1, b2, b3, g5, hs5, x0, x1, x2⟩ := box_three V tb.tv tl.tv tr.tv
  have g45 : Below V.heap.size V W5 := g4.trans (g5.mono (by omega))
  have hts : [tb, tl, tr] = [] ∨ ∃ b off, (some ⟨V.heap.size + 1 + 1 + 1 + 1, 0, none⟩ : Option Addr) = some ⟨b, off, none⟩ ∧ b < W5.heap.size ∧ ∀ j u, [tb, tl, tr][j]? = some u → cellsAt W5 b (off + j * 4) u.tv ∧ IsT W5.heap.size W5 u := .inr ⟨_, 0, rfl, by omega, fun j u hu => by
    match j, hu with
    | 0, hu => simp at hu; subst hu; exact ⟨by simpa using x0, (hb.below g45).mono g45.size⟩
    | 1, hu => simp at hu; subst hu; exact ⟨by simpa using x1, (hl.below g45).mono g45.size⟩
    | 2, hu => simp at hu; subst hu; exact ⟨by simpa using x2, (hr.below g45).mono g45.size⟩
    | j + 3, hu => simp at hu⟩
  have hps : ∀ u ∈ [tb, tl, tr], (parts u).length ≤ 4194304 := fun u hu => by
    simp at hu
    rcases hu with rfl | rfl | rfl <;> assumption
  have HFF := hide (free_ok [tb, tl, tr] (some ⟨V.heap.size + 1 + 1 + 1 + 1, 0, none⟩) 3 3 W5 rfl (by omega) ok hps hts)
  have okb := ok tb (by simp)
  have hfl := free_le ok
  have hcnt : cntT tb ≤ 4194304 := by have h1 := cnt_le tb hb.wl; have h2 : (code tb).length = (parts tb).length := (by unfold code; rw [List.length_map]); omega
  have HCB : Hid (∀ U, Below V.heap.size V U → Calls Try.prog 22 #[.agg #[.int .i64 tb.tv.k, .int .i64 tb.tv.N, .string tb.tv.s, .slice tb.tv.a tb.tv.len tb.tv.cap]] U fun e W' => e = .returned (.tuple #[.int .i64 (if berr tb = 0 then cntT tb else 0), .int .i64 (berr tb)]) ∧ Below U.heap.size U W') := hide fun U hU => gcheck_any tb U ((hb.below hU).mono hU.size) okb hn (by omega)
  have HGO : Hid (∀ X, Below V.heap.size V X → ∀ wb, V.heap.size ≤ wb → WrB X wb (freeC [tb, tl, tr]) (.slice none 0 0) → Calls Try.prog 26 #[.pointer (some ⟨wb, 0, none⟩), .agg #[.int .i64 tb.tv.k, .int .i64 tb.tv.N, .string tb.tv.s, .slice tb.tv.a tb.tv.len tb.tv.cap], .agg #[.int .i64 tl.tv.k, .int .i64 tl.tv.N, .string tl.tv.s, .slice tl.tv.a tl.tv.len tl.tv.cap], .agg #[.int .i64 tr.tv.k, .int .i64 tr.tv.N, .string tr.tv.s, .slice tr.tv.a tr.tv.len tr.tv.cap]] X fun e V' => ∃ y : TV, e = .returned y.val ∧ HoldsG anyP (4 * n + 12) X.heap.size V' y.val (renC (newR (freeC [tb, tl, tr]) (extV (freeC [tb, tl, tr]) [] (btwC tb (code tl) (code tr) (freeC [tb, tl, tr])))) (btwC tb (code tl) (code tr) (freeC [tb, tl, tr]))) ∧ FrG wb (fun k => k = wb) X V') := hide fun X hX wb hwb hwr => by
    have hv : ∀ N, IsVarOf ([tb, tl, tr].flatMap code) N → N < freeC [tb, tl, tr] := fun N hN => by have := ((free_iff [tb, tl, tr] (freeC [tb, tl, tr])).1 (Int.le_refl _)).2 N hN; omega
    have hsub : ∀ u ∈ [tb, tl, tr], ∀ N, IsVarOf (code u) N → N < freeC [tb, tl, tr] := fun u hu N hN => hv N (by obtain ⟨y, hy, e⟩ := hN; exact ⟨y, List.mem_flatMap.2 ⟨u, hu, hy⟩, e⟩)
    have hn1 : 1 ≤ n := by
      cases n with
      | zero => exact Empty.elim tb
      | succ n => omega
    have hlS : HoldsS n (· < wb) X tl.tv.val (code tl) := holdsS_of ((hl.below hX).mono hX.size) (hl.blk.mono (fun k hk => by have : k < V.heap.size := hk; show k < wb; omega))
    have hrS : HoldsS n (· < wb) X tr.tv.val (code tr) := holdsS_of ((hr.below hX).mono hX.size) (hr.blk.mono (fun k hk => by have : k < V.heap.size := hk; show k < wb; omega))
    have hg := goal_any (D := n) (wb := wb) tb tl.tv tr.tv X ((hb.below hX).mono hwb) okb he (hsub tb (by simp)) hlS (by rw [← okT_m]; exact ok tl (by simp)) (hsub tl (by simp)) hrS (by rw [← okT_m]; exact ok tr (by simp)) (hsub tr (by simp)) hwr hfl.1 hL hn1 hn (by omega)
    rw [show 3 * n + n + 12 = 4 * n + 12 by omega] at hg
    exact hg
  clear ok okb
  have c0 := b0.c0
  have c1 := b0.c1
  have c2 := b0.c2
  have c3 := b0.c3
  have d0 := b1.c0
  have d1 := b1.c1
  have d2 := b1.c2
  have d3 := b1.c3
  have e0 := b2.c0
  have e1 := b2.c1
  have e2 := b2.c2
  have e3 := b2.c3
  have HBX := hide (And.intro g4 (And.intro g5 (And.intro b0 (And.intro b1 (And.intro b2 b3)))))
  clear hts hps x0 x1 x2 g45 g4 g5 b0 b1 b2 b3 hb hl hr pb pl pr
  simp only [TV.val]
  go_enter Try.func10, Try.ntmps10
  go_wp2_with fail
  try rw [hW4]
  go_wp2_with fail
  try rw [hW5]
  go_wp2_with fail
  clear hW4 hW5 c0 c1 c2 c3 d0 d1 d2 d3 e0 e1 e2 e3
  refine (unhide HFF).mono ?_
  rintro e U ⟨rfl, hU⟩
  obtain ⟨g4, g5, b0, b1, b2, b3⟩ := unhide HBX
  have hU4 : Below W4.heap.size W4 U := g5.trans (hU.mono g5.size)
  have hVU : Below V.heap.size V U := g4.trans (hU4.mono g4.size)
  have hUs := hU.size
  have u0 := b0.below hU4 (by omega)
  have u1 := b1.below hU4 (by omega)
  have u2 := b2.below hU4 (by omega)
  have u3 := b3.below hU4 (by omega)
  clear b0 b1 b2 b3 g4 g5 hU hU4 HBX HFF
  have v0 := u0.c0
  have v1 := u0.c1
  have v2 := u0.c2
  have v3 := u0.c3
  have HCU := hide ((unhide HCB) U hVU)
  have HUU := hide (And.intro hVU (And.intro u0 (And.intro u1 (And.intro u2 u3))))
  clear u0 u1 u2 u3 hVU HCB
  go_wp2_with fail
  refine (unhide HCU).mono ?_
  rintro e U2 ⟨rfl, h2⟩
  obtain ⟨hVU, u0, u1, u2, u3⟩ := unhide HUU
  have hV2 : Below V.heap.size V U2 := hVU.trans (h2.mono hVU.size)
  have p0 := u0.below h2 u0.lt
  have p1 := u1.below h2 u1.lt
  have p2 := u2.below h2 u2.lt
  have p3 := u3.below h2 u3.lt
  have hU2s := h2.size
  have hp3l := p3.lt
  clear u0 u1 u2 u3 hVU HUU HCU h2 v0 v1 v2 v3
  rw [he, if_pos rfl]
  clear he
  have HFR : Hid (∀ X V' wb y, Below V.heap.size V X → V.heap.size + 4 ≤ wb → wb < X.heap.size → BoxT X (V.heap.size + 1 + 1 + 1) noTerm → HoldsG anyP (4 * n + 12) X.heap.size V' y.val (renC (newR (freeC [tb, tl, tr]) (extV (freeC [tb, tl, tr]) [] (btwC tb (code tl) (code tr) (freeC [tb, tl, tr])))) (btwC tb (code tl) (code tr) (freeC [tb, tl, tr]))) → FrG wb (fun k => k = wb) X V' → BoxT V' (V.heap.size + 1 + 1 + 1) noTerm ∧ HoldsG anyP (4 * n + 12) V.heap.size (set4 V' (V.heap.size + 1 + 1 + 1) 0 y) y.val (renC (newR (freeC [tb, tl, tr]) (extV (freeC [tb, tl, tr]) [] (btwC tb (code tl) (code tr) (freeC [tb, tl, tr])))) (btwC tb (code tl) (code tr) (freeC [tb, tl, tr]))) ∧ Below V.heap.size V (set4 V' (V.heap.size + 1 + 1 + 1) 0 y)) := hide fun X V' wb y hX hwb hwX bX hG hF => by
    have hz := hX.size
    refine ⟨hF.box bX (by omega), (hG.set4 (by omega) 0 y).mono (Nat.le_refl _) (by omega) (fun _ h => h), ?_⟩
    refine set4_below ⟨hF.os.trans hX.os, hF.tape.trans hX.tape, hF.output.trans hX.output, Nat.le_trans hX.size hF.size, fun k hk => (hF.block k (by omega) (by omega) (.inl (by omega))).trans (hX.block k hk)⟩ (by omega) 0 y
  obtain ⟨X, hX⟩ : ∃ X, U2.alloc (.cells #[.int .i64 (freeC [tb, tl, tr]), .slice none 0 0] 48) = X := ⟨_, rfl⟩
  have gX : Below U2.heap.size U2 X := by rw [← hX]; exact (Below.refl _ U2).alloc (Nat.le_refl _) _
  have hXs : X.heap.size = U2.heap.size + 1 := by rw [← hX]; simp
  have wX : WrB X U2.heap.size (freeC [tb, tl, tr]) (.slice none 0 0) := by rw [← hX]; exact World.alloc_heap_new U2 _
  have r3 := p3.below gX (by omega)
  have HGX := hide ((unhide HGO) X (hV2.trans (gX.mono hV2.size)) U2.heap.size (by omega) wX)
  have HXX := hide (And.intro (hV2.trans (gX.mono hV2.size)) r3)
  have i0 := p0.c0
  have i1 := p0.c1
  have i2 := p0.c2
  have i3 := p0.c3
  have j0 := p1.c0
  have j1 := p1.c1
  have j2 := p1.c2
  have j3 := p1.c3
  have k0 := p2.c0
  have k1 := p2.c1
  have k2 := p2.c2
  have k3 := p2.c3
  have q0 : V.heap.size < U2.heap.size := by omega
  have q1 : V.heap.size + 1 < U2.heap.size := by omega
  have q2 : V.heap.size + 1 + 1 < U2.heap.size := by omega
  have hLL : ¬ 1099511627776 < freeC [tb, tl, tr] + (cntT tb : Int) - 1 := by omega
  have hws : V.heap.size + 4 ≤ U2.heap.size ∧ U2.heap.size < X.heap.size := by omega
  have HX := hide hX
  clear p0 p1 p2 p3 hV2 gX wX r3 HGO hXs hX
  go_wp2_with fail
  rw [unhide HX]
  clear HX
  refine (unhide HGX).mono ?_
  rintro e V' ⟨y, rfl, hG, hF⟩
  obtain ⟨bx, hfin⟩ := (unhide HFR) X V' U2.heap.size y (unhide HXX).1 hws.1 hws.2 (unhide HXX).2 hG hF
  obtain ⟨f0', f1', f2', f3'⟩ := bx.frz
  have m0 := bx.c0
  have m1 := bx.c1
  have m2 := bx.c2
  have m3 := bx.c3
  have b6 := set4_box bx y
  have z0 := b6.c0
  have z1 := b6.c1
  have z2 := b6.c2
  have z3 := b6.c3
  have HZ := hide hfin
  clear hG hF hfin bx b6 HGX i0 i1 i2 i3 j0 j1 j2 j3 k0 k1 k2 k3
  simp only [TV.val]
  go_wp2_with fail
  exact bodyPost_ret (v := .tuple #[y.val, .int .i64 0]) (by
    have e : (((V'.setCell ⟨V.heap.size + 1 + 1 + 1, 0, none⟩ (.int .i64 y.k)).setCell ⟨V.heap.size + 1 + 1 + 1, 1, none⟩ (.int .i64 y.N)).setCell ⟨V.heap.size + 1 + 1 + 1, 2, none⟩ (.string y.s)).setCell ⟨V.heap.size + 1 + 1 + 1, 3, none⟩ (.slice y.a y.len y.cap) = set4 V' (V.heap.size + 1 + 1 + 1) 0 y := rfl
    rw [e]
    simp [results, Try.results10, go_sem, TV.val, z0, z1, z2, z3]) rfl ⟨y, rfl, (unhide HZ).1, (unhide HZ).2⟩
/-- grammar's Phrase, whatever it is asked. -/
theorem phrase_any {n : Nat} (tb tl tr : Tm n) (V : World) (hb : IsT V.heap.size V tb) (hl : IsT V.heap.size V tl) (hr : IsT V.heap.size V tr) (pb : (parts tb).length ≤ 4194304) (pl : (parts tl).length ≤ 4194304) (pr : (parts tr).length ≤ 4194304) (hn : n ≤ 274877906944) :
    Calls Try.prog 10 #[tb.tv.val, tl.tv.val, tr.tv.val] V fun e V' => ∃ y : TV, e = .returned (.tuple #[y.val, .int .i64 (phrE tb tl tr)]) ∧ HoldsG anyP (4 * n + 12) V.heap.size V' y.val (phrC tb tl tr) ∧ Below V.heap.size V V' := by
  have hno : ∀ W : World, HoldsG anyP (4 * n + 12) V.heap.size W noTerm.val noC := fun W => (no_holds _ _ (by omega) W).holdsG (fun _ _ => trivial)
  by_cases ok : okT tb = true ∧ okT tl = true ∧ okT tr = true
  · have ok' : ∀ u ∈ [tb, tl, tr], okT u = true := fun u hu => by
      simp at hu
      rcases hu with rfl | rfl | rfl
      · exact ok.1
      · exact ok.2.1
      · exact ok.2.2
    by_cases he : berr tb = 0
    · by_cases hL : 1099511627777 < freeC [tb, tl, tr] + cntT tb
      · have e : phrE tb tl tr = 9 := by unfold phrE; rw [if_pos ok, if_pos he, if_pos hL]
        have ec : phrC tb tl tr = noC := by unfold phrC; rw [e, if_neg (by decide)]
        rw [e, ec]
        exact (phrase_large tb tl tr V hb hl hr pb pl pr hn ok' he hL).mono fun e V' h => ⟨noTerm, h.1, hno V', h.2⟩
      · have e : phrE tb tl tr = 0 := by unfold phrE; rw [if_pos ok, if_pos he, if_neg hL]
        have ec : phrC tb tl tr = (renC (newR (freeC [tb, tl, tr]) (extV (freeC [tb, tl, tr]) [] (btwC tb (code tl) (code tr) (freeC [tb, tl, tr])))) (btwC tb (code tl) (code tr) (freeC [tb, tl, tr]))) := by unfold phrC; rw [e, if_pos rfl]
        rw [e, ec]
        exact phrase_yes tb tl tr V hb hl hr pb pl pr hn ok' he (by omega)
    · have e : phrE tb tl tr = berr tb := by unfold phrE; rw [if_pos ok, if_neg he]
      have ec : phrC tb tl tr = noC := by unfold phrC; rw [e, if_neg he]
      rw [e, ec]
      exact (phrase_err tb tl tr V hb hl hr pb pl pr hn ok' he).mono fun e V' h => ⟨noTerm, h.1, hno V', h.2⟩
  · have e : phrE tb tl tr = 2 := by unfold phrE; rw [if_neg ok]
    have ec : phrC tb tl tr = noC := by unfold phrC; rw [e, if_neg (by decide)]
    rw [e, ec]
    refine (phrase_bad tb tl tr V hb hl hr pb pl pr hn ?_).mono fun e V' h => ⟨noTerm, h.1, hno V', h.2⟩
    by_cases o1 : okT tb = false
    · exact ⟨tb, by simp, o1⟩
    · by_cases o2 : okT tl = false
      · exact ⟨tl, by simp, o2⟩
      · by_cases o3 : okT tr = false
        · exact ⟨tr, by simp, o3⟩
        · exact absurd ⟨by simpa using o1, by simpa using o2, by simpa using o3⟩ ok
end Go.Proofs.Ytcdgmjpgmiehcaa

