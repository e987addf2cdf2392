import Derived.Test.YtojefplapklbmaaGreatDoorMry
/- The law TermMemory. -/
namespace Go.Proofs.YtojefplapklbmaaGreatDoor
open Go.RowKit Go.Shelf Go.Maps

/-- All that stands while the law goes on: what came in, the copies, their boxes. -/
structure Mem {n : Nat} (a b x y : Tm n) (ss us ps qs : List (Int × Tm n)) (sa au : Option Addr) (ns : List Int) (len len' A B X Y P Q g cp g' cp' L gl pl cl lo : Nat) (W : World) : Prop where
  bA : BoxT W A a.tv
  bB : BoxT W B b.tv
  ta : IsT W.heap.size W a
  tb : IsT W.heap.size W b
  ls : IsL W.heap.size W sa len ss
  lu : IsL W.heap.size W au len' us
  tab : Tab W.heap.size W
  bx : BoxT W X x.tv
  by' : BoxT W Y y.tv
  bp : Boxed W P 32 (.slice (some ⟨g, 0, none⟩) len cp)
  bq : Boxed W Q 32 (.slice (some ⟨g', 0, none⟩) len' cp')
  bl : Boxed W L 25 (.slice (some ⟨gl, 0, none⟩) pl cl)
  ox : Owned lo W x
  oy : Owned lo W y
  op : OwnedB lo W g len cp ps
  oq : OwnedB lo W g' len' cp' qs
  ol : OwnedI lo W gl pl cl ns
theorem Mem.below {n : Nat} {a b x y : Tm n} {ss us ps qs : List (Int × Tm n)} {sa au : Option Addr} {ns : List Int} {len len' A B X Y P Q g cp g' cp' L gl pl cl lo : Nat} {W W' : World} (h : Mem a b x y ss us ps qs sa au ns len len' A B X Y P Q g cp g' cp' L gl pl cl lo W) (hb : Below W.heap.size W W') : Mem a b x y ss us ps qs sa au ns len len' A B X Y P Q g cp g' cp' L gl pl cl lo W' :=
  ⟨box_at h.bA hb, box_at h.bB hb, at_world h.ta hb, at_world h.tb hb, (h.ls.below hb).mono hb.size, (h.lu.below hb).mono hb.size, (h.tab.on hb).mono hb.size, box_at h.bx hb, box_at h.by' hb, boxed_at h.bp hb, boxed_at h.bq hb, boxed_at h.bl hb, h.ox.below hb, h.oy.below hb, h.op.below hb, h.oq.below hb, h.ol.below hb⟩
/-- Vars of anything: numbers of the caller's own. -/
theorem vars_own {n : Nat} (t : Tm n) (w : World) (hT : IsT w.heap.size w t) (hl : (parts t).length ≤ 4194304) :
    Calls Tryz.prog 26 #[t.tv.val] w fun e W' => ∃ (v : Value) (r : Int) (ns : List Int), e = .returned (.tuple #[v, .int .i64 r]) ∧ OwnN w.heap.size W' v ns ∧ ns.length ≤ 4194304 ∧ Below w.heap.size w W' := by
  cases hok : okT t with
  | true => exact (vars_any t w hT hok hl).mono fun e W' ⟨v, h1, h2, h3⟩ => ⟨v, 0, _, h1, h2, Nat.le_trans (varsC_len _ _) (by rw [parts_code]; simpa using hl), h3⟩
  | false => exact (vars_bad t w hT hok).mono fun e W' h => ⟨_, 2, [], h.1, ⟨rfl, .inl ⟨rfl, rfl⟩⟩, by simp, h.2⟩
/-- Match of anything: binds of the caller's own. -/
theorem match_own {n : Nat} (p t : Tm n) (w : World) (hp : IsT w.heap.size w p) (ht : IsT w.heap.size w t) (hbig : (code p).length ≤ 4194304) (hn : n ≤ 549755813888) :
    Calls Tryz.prog 28 #[p.tv.val, t.tv.val] w fun e W' => ∃ (la : Option Addr) (ll lc : Nat) (q : Bool) (r : Int), e = .returned (.tuple #[.slice la ll lc, .bool q, .int .i64 r]) ∧ Below w.heap.size w W' ∧ CanB (n + 1) w.heap.size W'.heap.size W' la ll lc := by
  by_cases hok : okT p = true ∧ okT t = true
  · exact (match_new p t w hp ht hok.1 hok.2 hbig hn).mono fun e W' ⟨la, ll, lc, h1, h2, h3⟩ => ⟨la, ll, lc, _, 0, h1, h2, h3⟩
  · exact (match_bad p t w hp ht (both_no hok)).mono fun e W' h => ⟨none, 0, 0, false, 2, h.1, h.2, .inl ⟨rfl, rfl, rfl⟩⟩
theorem stills {n lo : Nat} {x a : Tm n} {W : World} (ho : Owned lo W x) (ha : IsT W.heap.size W a) (hc : code x = code a) (hl : (code a).length ≤ 4194304) : Calls Tryz.prog 30 #[x.tv.val, a.tv.val] W fun e W' => e = .returned (.bool true) ∧ Below W.heap.size W W' :=
  still_any n x a W ho.is ho.rm ha (by rw [sameT_code ho.is.wl ha.wl]; simp [hc]) (by rw [hc]; exact hl)
theorem cb_short {n : Nat} {bs bs' : List (Int × Tm n)} (h : cb bs' = cb bs) (hl : ∀ p ∈ bs, (code p.2).length ≤ 4194304) : ∀ p ∈ bs', (code p.2).length ≤ 4194304 := fun p hp => by
  have h1 : (p.1, code p.2) ∈ cb bs' := List.mem_map.2 ⟨p, hp, rfl⟩
  rw [h] at h1
  obtain ⟨q, hq, e⟩ := List.mem_map.1 h1
  simp at e
  rw [← e.2]
  exact hl q hq
set_option maxRecDepth 100000 in
set_option maxHeartbeats 4000000 in
theorem termMemory_any {n : Nat} (a b : Tm n) (ss us : List (Int × Tm n)) (sa au pa : Option Addr) (len cap len' cap' pl pc : Nat) (ns : List Int) (w : World) (hTa : IsT w.heap.size w a) (hTb : IsT w.heap.size w b) (hL : IsL w.heap.size w sa len ss) (hL' : IsL w.heap.size w au len' us) (hN : IsN w pa pl ns)
    (hpa : pa = none → pl = 0 ∧ pc = 0) (hpl : pl ≤ 4194304) (hla : (code a).length ≤ 4194304) (hlb : (code b).length ≤ 4194304) (pwa : okT a = true → ∀ z ∈ parts a, Pw z) (pwb : okT b = true → ∀ z ∈ parts b, Pw z)
    (wa : ∀ x ∈ code a, x.2.2.2 ≤ 4194304) (wb : ∀ x ∈ code b, x.2.2.2 ≤ 4194304) (ws : ∀ p ∈ ss, ∀ x ∈ code p.2, x.2.2.2 ≤ 4194304) (wu : ∀ p ∈ us, ∀ x ∈ code p.2, x.2.2.2 ≤ 4194304)
    (hls : ∀ p ∈ ss, (code p.2).length ≤ 4194304) (hlu : ∀ p ∈ us, (code p.2).length ≤ 4194304) (hbig : len + len' ≤ 4194304) (hn : n ≤ 274877906944) (htab : Tab w.heap.size w) :
    Calls Tryz.prog 4 #[a.tv.val, b.tv.val, .slice sa len cap, .slice au len' cap', .slice pa pl pc] w fun e W' => e = .returned (.bool true) ∧ Below w.heap.size w W' := by
  have hB1 : Below w.heap.size w (w.alloc (.cells #[.int .i64 a.tv.k, .int .i64 a.tv.N, .string a.tv.s, .slice a.tv.a a.tv.len a.tv.cap] 24)) := (Below.refl _ w).alloc (Nat.le_refl _) _
  have hB2 : Below w.heap.size w ((w.alloc (.cells #[.int .i64 a.tv.k, .int .i64 a.tv.N, .string a.tv.s, .slice a.tv.a a.tv.len a.tv.cap] 24)).alloc (.cells #[.int .i64 b.tv.k, .int .i64 b.tv.N, .string b.tv.s, .slice b.tv.a b.tv.len b.tv.cap] 24)) := hB1.alloc hB1.size _
  have hbA := (BoxT.new w a.tv).alloc (.cells #[.int .i64 b.tv.k, .int .i64 b.tv.N, .string b.tv.s, .slice b.tv.a b.tv.len b.tv.cap] 24)
  have hbB := BoxT.new (w.alloc (.cells #[.int .i64 a.tv.k, .int .i64 a.tv.N, .string a.tv.s, .slice a.tv.a a.tv.len a.tv.cap] 24)) b.tv
  rw [World.size_alloc] at hbB
  have hth := thereTerm_any _ ((htab.on hB2).mono hB2.size)
  simp only [TV.val]
  go_enter Tryz.func4, Tryz.ntmps4
  go_wp2_with fail
  refine hth.mono ?_
  clear hth
  rintro e W1 ⟨rfl, b1⟩
  obtain ⟨W0, hW0⟩ : ∃ W0, (w.alloc (.cells #[.int .i64 a.tv.k, .int .i64 a.tv.N, .string a.tv.s, .slice a.tv.a a.tv.len a.tv.cap] 24)).alloc (.cells #[.int .i64 b.tv.k, .int .i64 b.tv.N, .string b.tv.s, .slice b.tv.a b.tv.len b.tv.cap] 24) = W0 := ⟨_, rfl⟩
  rw [hW0] at hB2 hbA hbB b1
  clear hB1 hW0
  have B1 : Below w.heap.size w W1 := hB2.trans (b1.mono hB2.size)
  have bA1 := box_at hbA b1
  have bB1 := box_at hbB b1
  clear hbA hbB
  have T1 := (htab.on B1).mono B1.size
  have ta1 := at_world hTa B1
  have tb1 := at_world hTb B1
  have ls1 := (hL.below B1).mono B1.size
  have lu1 := (hL'.below B1).mono B1.size
  have hN1 := hN.below B1
  clear hTa hTb hL hL' hN htab
  go_wp2_with fail
  refine wp_four' bA1 bB1 ta1 tb1 ls1 lu1 wa wb (by omega) (by omega) ws wu ?_
  rintro f W3 X Y P Q x y ps qs g cp g' cp' u24 u25 u26 u27 u28 u29 u30 u31 h4
  have b3 := h4.below
  have B3 : Below w.heap.size w W3 := B1.trans (b3.mono B1.size)
  have hrm := roomyI_all pa pl pc ns W3 (hN1.below b3) hpl hpa
  go_wp2_with fail
  refine hrm.mono ?_
  clear hrm
  rintro e W4 ⟨gl, cl, rfl, b4, ol4⟩
  have B4 : Below w.heap.size w W4 := B3.trans (b4.mono B3.size)
  have b34 : Below W1.heap.size W1 W4 := b3.trans (b4.mono b3.size)
  go_wp2_with fail
  have bl5 := Boxed.new W4 25 (.slice (some ⟨gl, 0, none⟩) pl cl)
  have b5 : Below W4.heap.size W4 (W4.alloc (.cells #[.slice (some ⟨gl, 0, none⟩) pl cl] 25)) := (Below.refl _ W4).alloc (Nat.le_refl _) _
  obtain ⟨W5, hW5⟩ : ∃ W5, W4.alloc (.cells #[.slice (some ⟨gl, 0, none⟩) pl cl] 25) = W5 := ⟨_, rfl⟩
  rw [hW5] at bl5 b5 ⊢
  clear hW5
  have B15 : Below W1.heap.size W1 W5 := b34.trans (b5.mono b34.size)
  have B35 : Below W3.heap.size W3 W5 := b4.trans (b5.mono b4.size)
  have B5 : Below w.heap.size w W5 := B4.trans (b5.mono B4.size)
  have ol5 := ol4.below b5
  have M5 : Mem a b x y ss us ps qs sa au ns len len' w.heap.size (w.heap.size + 1) X Y P Q g cp g' cp' W4.heap.size gl pl cl W1.heap.size W5 :=
    ⟨box_at bA1 B15, box_at bB1 B15, at_world ta1 B15, at_world tb1 B15, (ls1.below B15).mono B15.size, (lu1.below B15).mono B15.size, (T1.on B15).mono B15.size, box_at h4.bx B35, box_at h4.by' B35, boxed_at h4.bp B35, boxed_at h4.bq B35, bl5, h4.ox.below B35, h4.oy.below B35, h4.op.below B35, h4.oq.below B35, ⟨ol5.is, Nat.le_trans b3.size ol5.own, ol5.lt, ol5.room, ol5.mark⟩⟩
  have CX := hide h4.cx
  have CY := hide h4.cy
  have CP := hide h4.cp
  have CQ := hide h4.cq
  have px : okT x = true → ∀ z ∈ parts x, Pw z := fun h => pw_copy h4.cx (pwa (by rw [okT_code, ← h4.cx, ← okT_code]; exact h))
  have py : okT y = true → ∀ z ∈ parts y, Pw z := fun h => pw_copy h4.cy (pwb (by rw [okT_code, ← h4.cy, ← okT_code]; exact h))
  have lx : (parts x).length ≤ 4194304 := by rw [len_copy h4.cx, ← parts_code]; exact hla
  have ly : (parts y).length ≤ 4194304 := by rw [len_copy h4.cy, ← parts_code]; exact hlb
  clear h4 bA1 bB1 ta1 tb1 ls1 lu1 T1 bl5 ol4 ol5 hN1 b1 b3 b4 b5 b34 B15 B35 B3 B4 hB2 B1 wa wb ws wu pwa pwb hpa
  obtain ⟨c1, w1, g1⟩ := gives1 x X W5 M5.ox.is M5.bx hn
  refine (twice_any 14 _ (enters_of Tryz.func14 (by kernel_rfl) rfl) _ c1 W5 w1 g1).mono ?_
  clear w1 g1
  rintro e W6 ⟨rfl, b6⟩
  have M6 := M5.below b6
  have B6 : Below w.heap.size w W6 := B5.trans (b6.mono B5.size)
  clear M5 b6 B5
  obtain ⟨c2, w2, g2⟩ := gives2 x ps _ len cp X P W6 M6.ox.is M6.bx M6.op.is M6.bp hn
  have t2 := twice_any 16 _ (enters_of Tryz.func16 (by kernel_rfl) rfl) _ c2 W6 w2 g2
  clear w2 g2
  go_wp2_with fail
  refine t2.mono ?_
  clear t2
  rintro e W7 ⟨rfl, b7⟩
  have M7 := M6.below b7
  have B7 : Below w.heap.size w W7 := B6.trans (b7.mono B6.size)
  clear M6 b7 B6
  obtain ⟨c3, w3, g3⟩ := gives3 x y X Y W7 M7.ox.is M7.bx M7.oy.is M7.by' px py (by omega) (by omega) M7.tab hn
  have t3 := twice_any 18 _ (enters_of Tryz.func18 (by kernel_rfl) rfl) _ c3 W7 w3 g3
  clear w3 g3
  go_wp2_with fail
  refine t3.mono ?_
  clear t3
  rintro e W8 ⟨rfl, b8⟩
  have M8 := M7.below b8
  have B8 : Below w.heap.size w W8 := B7.trans (b8.mono B7.size)
  clear M7 b8 B7
  obtain ⟨c4, w4, g4⟩ := gives4 x ns _ pl cl X W4.heap.size W8 M8.ox.is M8.bx M8.ol.is M8.bl hn
  have t4 := twice_any 20 _ (enters_of Tryz.func20 (by kernel_rfl) rfl) _ c4 W8 w4 g4
  clear w4 g4
  go_wp2_with fail
  refine t4.mono ?_
  clear t4
  rintro e W9 ⟨rfl, b9⟩
  have M9 := M8.below b9
  have B9 : Below w.heap.size w W9 := B8.trans (b9.mono B8.size)
  clear M8 b9 B8
  obtain ⟨c5, w5, g5⟩ := gives5 x y ns _ pl cl X Y W4.heap.size W9 M9.ox.is M9.bx M9.oy.is M9.by' M9.ol.is M9.bl hn
  have t5 := twice_any 22 _ (enters_of Tryz.func22 (by kernel_rfl) rfl) _ c5 W9 w5 g5
  clear w5 g5
  go_wp2_with fail
  refine t5.mono ?_
  clear t5
  rintro e W10 ⟨rfl, b10⟩
  have M10 := M9.below b10
  have B10 : Below w.heap.size w W10 := B9.trans (b10.mono B9.size)
  clear M9 b10 B9
  obtain ⟨c6, w6, g6⟩ := gives6 x ps qs _ _ len cp len' cp' X P Q W10 M10.ox.is M10.bx M10.op.is M10.bp M10.oq.is M10.bq hbig hn
  have t6 := twice_any 24 _ (enters_of Tryz.func24 (by kernel_rfl) rfl) _ c6 W10 w6 g6
  clear w6 g6
  go_wp2_with fail
  refine t6.mono ?_
  clear t6
  rintro e W11 ⟨rfl, b11⟩
  have M11 := M10.below b11
  have B11 : Below w.heap.size w W11 := B10.trans (b11.mono B10.size)
  clear M10 b11 B10
  have hv := vars_own x W11 M11.ox.is lx
  simp only [TV.val] at hv
  have x0 := M11.bx.c0
  have x1 := M11.bx.c1
  have x2 := M11.bx.c2
  have x3 := M11.bx.c3
  go_wp2_with fail
  refine hv.mono ?_
  clear hv x0 x1 x2 x3
  rintro e W12 ⟨v, r, vs, rfl, ov, lv, b12⟩
  have B12 : Below w.heap.size w W12 := B11.trans (b12.mono B11.size)
  have hsp := spoiltI_own v vs W12 ov lv b12.size
  clear ov lv
  go_wp2_with fail
  refine hsp.mono ?_
  clear hsp
  rintro e W13 ⟨rfl, b13⟩
  have b113 : Below W11.heap.size W11 W13 := b12.trans b13
  have M13 := M11.below b113
  have B13 : Below w.heap.size w W13 := B11.trans (b113.mono B11.size)
  clear M11 b12 b13 b113 B12 B11
  have hm := match_own x y W13 M13.ox.is M13.oy.is (by rw [← parts_code] at lx; exact lx) (by omega)
  simp only [TV.val] at hm
  have x0 := M13.bx.c0
  have x1 := M13.bx.c1
  have x2 := M13.bx.c2
  have x3 := M13.bx.c3
  have y0 := M13.by'.c0
  have y1 := M13.by'.c1
  have y2 := M13.by'.c2
  have y3 := M13.by'.c3
  go_wp2_with fail
  refine hm.mono ?_
  clear hm x0 x1 x2 x3 y0 y1 y2 y3
  rintro e W14 ⟨la, ll, lc, q, r', rfl, b14, can⟩
  have hsp := spoilBinds_any (n + 1) W13.heap.size W14.heap.size W14 la ll lc b14.size (Nat.le_refl _) can
  clear can
  go_wp2_with fail
  refine hsp.mono ?_
  clear hsp
  rintro e W15 ⟨rfl, b15⟩
  have b135 : Below W13.heap.size W13 W15 := b14.trans b15
  have M15 := M13.below b135
  have B15 : Below w.heap.size w W15 := B13.trans (b135.mono B13.size)
  clear M13 b14 b15 b135 B13
  have x0 := M15.bx.c0
  have x1 := M15.bx.c1
  have x2 := M15.bx.c2
  have x3 := M15.bx.c3
  have y0 := M15.by'.c0
  have y1 := M15.by'.c1
  have y2 := M15.by'.c2
  have y3 := M15.by'.c3
  have a0 := M15.bA.c0
  have a1 := M15.bA.c1
  have a2 := M15.bA.c2
  have a3 := M15.bA.c3
  have d0 := M15.bB.c0
  have d1 := M15.bB.c1
  have d2 := M15.bB.c2
  have d3 := M15.bB.c3
  have p0 := M15.bp.cell
  have q0 := M15.bq.cell
  have l0 := M15.bl.cell
  have mk := M15.ol.mark
  have hX := M15.bx.lt
  have hY := M15.by'.lt
  have hA := M15.bA.lt
  have hB := M15.bB.lt
  have hP := M15.bp.lt
  have hQ := M15.bq.lt
  have hLl := M15.bl.lt
  have hgl := M15.ol.lt
  have hroom := M15.ol.room
  have hr1 : pl + 1 ≤ cl := by omega
  have hr2 : IntKind.i64.wrap ((pl : Int) + 1) = (pl : Int) + 1 := by simp [IntKind.wrap, IntKind.bits, IntKind.signed]; omega
  have hr3 : (0 : Int) ≤ (pl : Int) + 1 := by omega
  have hr4 : (pl : Int) + 1 ≤ (cl : Int) := by omega
  have hr5 : ((pl : Int) + 1).toNat = pl + 1 := by omega
  have hr6 : (pl : Int) < (pl : Int) + 1 := by omega
  have hr7 : (0 : Int) ≤ (pl : Int) := by omega
  have S1 : Hid (∀ W, Below W15.heap.size W15 W → Calls Tryz.prog 30 #[x.tv.val, a.tv.val] W fun e W' => e = .returned (.bool true) ∧ Below W15.heap.size W15 W') := fun W hb =>
    (stills (M15.ox.below hb) (at_world M15.ta hb) (unhide CX) hla).mono fun e W' h => ⟨h.1, hb.trans (h.2.mono hb.size)⟩
  have S2 : Hid (∀ W, Below W15.heap.size W15 W → Calls Tryz.prog 30 #[y.tv.val, b.tv.val] W fun e W' => e = .returned (.bool true) ∧ Below W15.heap.size W15 W') := fun W hb =>
    (stills (M15.oy.below hb) (at_world M15.tb hb) (unhide CY) hlb).mono fun e W' h => ⟨h.1, hb.trans (h.2.mono hb.size)⟩
  have S3 : Hid (∀ W, Below W15.heap.size W15 W → Calls Tryz.prog 31 #[.slice (some ⟨g, 0, none⟩) len cp, .slice sa len cap] W fun e W' => e = .returned (.bool true) ∧ Below W15.heap.size W15 W') := fun W hb =>
    (stillBinds_any ss ps sa g len cap cp W (M15.op.below hb) ((M15.ls.below hb).mono hb.size) (unhide CP) (by omega) (cb_short (unhide CP) hls)).mono fun e W' h => ⟨h.1, hb.trans (h.2.mono hb.size)⟩
  have S4 : Hid (∀ W, Below W15.heap.size W15 W → Calls Tryz.prog 31 #[.slice (some ⟨g', 0, none⟩) len' cp', .slice au len' cap'] W fun e W' => e = .returned (.bool true) ∧ Below W15.heap.size W15 W') := fun W hb =>
    (stillBinds_any us qs au g' len' cap' cp' W (M15.oq.below hb) ((M15.lu.below hb).mono hb.size) (unhide CQ) (by omega) (cb_short (unhide CQ) hlu)).mono fun e W' h => ⟨h.1, hb.trans (h.2.mono hb.size)⟩
  clear M15 CX CY CP CQ px py lx ly hla hlb hls hlu hbig hn hpl hroom
  simp only [TV.val] at S1 S2
  go_wp2_with fail
  go_region_held3 (fun w' => w'.cell? ⟨X, 0, none⟩ = some (.int .i64 x.tv.k) ∧ w'.cell? ⟨X, 1, none⟩ = some (.int .i64 x.tv.N) ∧ w'.cell? ⟨X, 2, none⟩ = some (.string x.tv.s) ∧ w'.cell? ⟨X, 3, none⟩ = some (.slice x.tv.a x.tv.len x.tv.cap) ∧ w'.cell? ⟨w.heap.size, 0, none⟩ = some (.int .i64 a.tv.k) ∧ w'.cell? ⟨w.heap.size, 1, none⟩ = some (.int .i64 a.tv.N) ∧ w'.cell? ⟨w.heap.size, 2, none⟩ = some (.string a.tv.s) ∧ w'.cell? ⟨w.heap.size, 3, none⟩ = some (.slice a.tv.a a.tv.len a.tv.cap) ∧ w'.cell? ⟨Y, 0, none⟩ = some (.int .i64 y.tv.k) ∧ w'.cell? ⟨Y, 1, none⟩ = some (.int .i64 y.tv.N) ∧ w'.cell? ⟨Y, 2, none⟩ = some (.string y.tv.s) ∧ w'.cell? ⟨Y, 3, none⟩ = some (.slice y.tv.a y.tv.len y.tv.cap) ∧ w'.cell? ⟨w.heap.size + 1, 0, none⟩ = some (.int .i64 b.tv.k) ∧ w'.cell? ⟨w.heap.size + 1, 1, none⟩ = some (.int .i64 b.tv.N) ∧ w'.cell? ⟨w.heap.size + 1, 2, none⟩ = some (.string b.tv.s) ∧ w'.cell? ⟨w.heap.size + 1, 3, none⟩ = some (.slice b.tv.a b.tv.len b.tv.cap) ∧ w'.cell? ⟨P, 0, none⟩ = some (.slice (some ⟨g, 0, none⟩) len cp) ∧ w'.cell? ⟨Q, 0, none⟩ = some (.slice (some ⟨g', 0, none⟩) len' cp') ∧ w'.cell? ⟨W4.heap.size, 0, none⟩ = some (.slice (some ⟨gl, 0, none⟩) pl cl) ∧ w'.cell? ⟨gl, pl, none⟩ = some (.int .i64 (-7))) (go_keep)
    (first | (go_at_call 30; refine (S1.out _ (Below.refl _ W15).drew).mono ?_; clear S1; rintro e V1 ⟨rfl, hc1⟩; have k1 := bcell hc1) | (go_at_call 30; refine (S2.out V1 hc1).mono ?_; clear S2; rintro e V2 ⟨rfl, hc2⟩; have k2 := bcell hc2) | (go_at_call 31; refine (S3.out V2 hc2).mono ?_; clear S3; rintro e V3 ⟨rfl, hc3⟩; have k3 := bcell hc3) | (go_at_call 31; refine (S4.out V3 hc3).mono ?_; clear S4; rintro e V4 ⟨rfl, hc4⟩; have k4 := bcell hc4))
  go_wp2_with fail
  go_ret
  exact ⟨rfl, B15.trans (hc4.mono B15.size)⟩
end Go.Proofs.YtojefplapklbmaaGreatDoor

