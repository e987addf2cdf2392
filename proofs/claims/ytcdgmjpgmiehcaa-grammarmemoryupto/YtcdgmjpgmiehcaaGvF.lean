import Derived.Test.YtcdgmjpgmiehcaaGvE
/- The law GrammarMemory. -/
namespace Go.Proofs.Ytcdgmjpgmiehcaa
open Go.RowKit Go.Shelf Go.Maps

theorem vars_below : ∀ (c : List Nd), ∃ n0 : Int, ∀ N, IsVarOf c N → N < n0
  | [] => ⟨0, fun N ⟨_, h, _⟩ => by cases h⟩
  | y :: c => by
    obtain ⟨m, hm⟩ := vars_below c
    refine ⟨max m (y.2.1 + 1), fun N ⟨z, hz, h1, h2⟩ => ?_⟩
    rcases List.mem_cons.1 hz with rfl | hz
    · omega
    · have := hm N ⟨z, hz, h1, h2⟩; omega
theorem stillsV {n lo : Nat} {x a : Tm n} {W : World} (ho : Owned lo W x) (ha : IsT W.heap.size W a) (hc : code x = code a) (hl : (code a).length ≤ 4194304) : Calls Try.prog 11 #[x.tv.val, a.tv.val] W fun e W' => e = .returned (.bool true) ∧ Below W.heap.size W W' :=
  still_any n x a W ho.is ho.rm ha (by rw [sameT_code ho.is.wl ha.wl]; simp [hc]) (by rw [hc]; exact hl)
/-- All that stands while the law goes on: what came in, the copies, their boxes. -/
structure MemV {n : Nat} (t x : Nat → Tm n) (A P : Nat → Nat) (lo : Nat) (W : World) : Prop where
  bA : ∀ j, j < 4 → BoxT W (A j) (t j).tv
  is : ∀ j, j < 4 → IsT W.heap.size W (t j)
  bx : ∀ j, j < 4 → BoxT W (P j) (x j).tv
  own : ∀ j, j < 4 → Owned lo W (x j)
theorem MemV.below {n lo : Nat} {t x : Nat → Tm n} {A P : Nat → Nat} {W W' : World} (h : MemV t x A P lo W) (hb : Below W.heap.size W W') : MemV t x A P lo W' :=
  ⟨fun j hj => boxT_at (h.bA j hj) hb, fun j hj => ((h.is j hj).below hb).mono hb.size, fun j hj => boxT_at (h.bx j hj) hb, fun j hj => (h.own j hj).below hb⟩
theorem box_fourV (V : World) (x y z u : TV) : ∃ W4, (((V.alloc (.cells #[.int .i64 x.k, .int .i64 x.N, .string x.s, .slice x.a x.len x.cap] 24)).alloc (.cells #[.int .i64 y.k, .int .i64 y.N, .string y.s, .slice y.a y.len y.cap] 24)).alloc (.cells #[.int .i64 z.k, .int .i64 z.N, .string z.s, .slice z.a z.len z.cap] 24)).alloc (.cells #[.int .i64 u.k, .int .i64 u.N, .string u.s, .slice u.a u.len u.cap] 24) = W4 ∧ Below V.heap.size V W4 ∧ BoxT W4 V.heap.size x ∧ BoxT W4 (V.heap.size + 1) y ∧ BoxT W4 (V.heap.size + 1 + 1) z ∧ BoxT W4 (V.heap.size + 1 + 1 + 1) u := by
  refine ⟨_, rfl, ((((Below.refl _ V).alloc (Nat.le_refl _) _).alloc (by simp) _).alloc (by simp; omega) _).alloc (by simp; omega) _, (((BoxT.new V x).alloc _).alloc _).alloc _, ?_, ?_, ?_⟩
  · have h0 := BoxT.new (V.alloc (.cells #[.int .i64 x.k, .int .i64 x.N, .string x.s, .slice x.a x.len x.cap] 24)) y
    rw [World.size_alloc] at h0
    exact (h0.alloc _).alloc _
  · have h0 := BoxT.new ((V.alloc (.cells #[.int .i64 x.k, .int .i64 x.N, .string x.s, .slice x.a x.len x.cap] 24)).alloc (.cells #[.int .i64 y.k, .int .i64 y.N, .string y.s, .slice y.a y.len y.cap] 24)) z
    rw [World.size_alloc, World.size_alloc] at h0
    exact h0.alloc _
  · have h0 := BoxT.new (((V.alloc (.cells #[.int .i64 x.k, .int .i64 x.N, .string x.s, .slice x.a x.len x.cap] 24)).alloc (.cells #[.int .i64 y.k, .int .i64 y.N, .string y.s, .slice y.a y.len y.cap] 24)).alloc (.cells #[.int .i64 z.k, .int .i64 z.N, .string z.s, .slice z.a z.len z.cap] 24)) u
    rw [World.size_alloc, World.size_alloc, World.size_alloc] at h0
    exact h0
theorem partsV {n : Nat} {x t : Tm n} (h : code x = code t) (hl : (code t).length ≤ 4194304) : (parts x).length ≤ 4194304 := by
  have e := congrArg List.length h
  have e2 : (code x).length = (parts x).length := by unfold code; rw [List.length_map]
  omega
def AV (s : Nat) : Nat → Nat
  | 0 => s
  | 1 => s + 1
  | 2 => s + 1 + 1
  | _ => s + 1 + 1 + 1
set_option maxRecDepth 100000 in
set_option maxHeartbeats 4000000 in
theorem gramMemory_any {n : Nat} (t : Nat → Tm (n + 2)) (w : World) (hT : ∀ j, j < 4 → IsT w.heap.size w (t j)) (hl : ∀ j, j < 4 → (code (t j)).length ≤ 4194304) (wd : ∀ j, j < 4 → ∀ x ∈ code (t j), x.2.2.2 ≤ 4194304) (hn : n ≤ 34359738368) :
    Calls Try.prog 3 #[(t 0).tv.val, (t 1).tv.val, (t 2).tv.val, (t 3).tv.val] w fun e W' => e = .returned (.bool true) ∧ Below w.heap.size w W' := by
  obtain ⟨W0, hW0, g0, d0, d1, d2, d3⟩ := box_fourV w (t 0).tv (t 1).tv (t 2).tv (t 3).tv
  have hA0 : ∀ j, j < 4 → BoxT W0 (AV w.heap.size j) (t j).tv := fun j hj => by
    match j, hj with
    | 0, _ => exact d0
    | 1, _ => exact d1
    | 2, _ => exact d2
    | 3, _ => exact d3
    | j + 4, hj => omega
  clear d0 d1 d2 d3
  have hth := thereGram_any W0
  have HB := hide (And.intro g0 hA0)
  clear g0 hA0
  simp only [TV.val]
  go_enter Try.func3, Try.ntmps3
  go_wp2_with fail
  try rw [hW0]
  refine hth.mono ?_
  clear hth hW0
  rintro e W1 ⟨rfl, b1⟩
  obtain ⟨g0, hA0⟩ := unhide HB
  have B1 : Below w.heap.size w W1 := g0.trans (b1.mono g0.size)
  have hA1 : ∀ j, j < 4 → BoxT W1 (AV w.heap.size j) (t j).tv := fun j hj => boxT_at (hA0 j hj) b1
  have hT1 : ∀ j, j < 4 → IsT W1.heap.size W1 (t j) := fun j hj => ((hT j hj).below B1).mono B1.size
  clear HB g0 hA0 b1 hT
  go_wp2_with fail
  refine wp_fourV' (t := t) (A := AV w.heap.size) hA1 hT1 wd ?_
  rintro f W3 P x u16 u17 u18 u19 u20 u21 u22 u23 h4
  have b3 := h4.below
  have M3 : MemV t x (AV w.heap.size) P W1.heap.size W3 := ⟨fun j hj => boxT_at (hA1 j hj) b3, fun j hj => ((hT1 j hj).below b3).mono b3.size, h4.bx, h4.own⟩
  have B3 : Below w.heap.size w W3 := B1.trans (b3.mono B1.size)
  have hcd := h4.cd
  have hpl : ∀ j, j < 4 → (parts (x j)).length ≤ 4194304 := fun j hj => partsV (hcd j hj) (hl j hj)
  clear hA1 hT1 h4 b3 B1
  obtain ⟨n0, hn0⟩ := vars_below (code (x 0))
  have t1 := twice_sp 7 _ (enters_of Try.func7 (by kernel_rfl) rfl) _ (trC (x 0) n0) W3 (wide_tr (x 0) (M3.own 0 (by decide)).is.wl n0) (gvgives1 (x 0) n0 (P 0) W3 (M3.own 0 (by decide)).is (M3.bx 0 (by decide)) (hpl 0 (by decide)) hn hn0)
  have HM := hide M3
  have HP := hide hpl
  have HC := hide hcd
  have HL := hide hl
  clear M3 hpl hcd hl wd hn0
  go_wp2_with fail
  refine t1.mono ?_
  clear t1
  rintro e W4 ⟨rfl, b4⟩
  have M4 := (unhide HM).below b4
  have B4 : Below w.heap.size w W4 := B3.trans (b4.mono B3.size)
  have t2 := twice_sp 9 _ (enters_of Try.func9 (by kernel_rfl) rfl) _ (phrC (x 1) (x 2) (x 3)) W4 (wide_phr (x 1) (x 2) (x 3) (M4.own 1 (by decide)).is.wl)
    (gvgives2 (x 1) (x 2) (x 3) (P 1) (P 2) (P 3) W4 (M4.own 1 (by decide)).is (M4.own 2 (by decide)).is (M4.own 3 (by decide)).is (M4.bx 1 (by decide)) (M4.bx 2 (by decide)) (M4.bx 3 (by decide)) ((unhide HP) 1 (by decide)) ((unhide HP) 2 (by decide)) ((unhide HP) 3 (by decide)) (by omega))
  have HM4 := hide M4
  clear HM M4 b4 B3 HP hn
  go_wp2_with fail
  refine t2.mono ?_
  clear t2
  rintro e W5 ⟨rfl, b5⟩
  have M5 := (unhide HM4).below b5
  have B5 : Below w.heap.size w W5 := B4.trans (b5.mono B4.size)
  have S : Hid (∀ j, j < 4 → ∀ W, Below W5.heap.size W5 W → Calls Try.prog 11 #[(x j).tv.val, (t j).tv.val] W fun e W' => e = .returned (.bool true) ∧ Below W5.heap.size W5 W') := hide fun j hj W hb =>
    (stillsV ((M5.own j hj).below hb) (((M5.is j hj).below hb).mono hb.size) ((unhide HC) j hj) ((unhide HL) j hj)).mono fun e W' h => ⟨h.1, hb.trans (h.2.mono hb.size)⟩
  have K : Hid (∀ j, j < 4 → ∀ W, Below W5.heap.size W5 W → BoxT W (P j) (x j).tv ∧ BoxT W (AV w.heap.size j) (t j).tv) := hide fun j hj W hb => ⟨boxT_at (M5.bx j hj) hb, boxT_at (M5.bA j hj) hb⟩
  have HB5 := hide B5
  clear HM4 M5 b5 B4 HC HL B5
  have k0 := K.out 0 (by decide) W5 (Below.refl _ _)
  have s0 := S.out 0 (by decide) W5 (Below.refl _ _)
  have a0 := k0.1.c0
  have a1 := k0.1.c1
  have a2 := k0.1.c2
  have a3 := k0.1.c3
  have c0 := k0.2.c0
  have c1 := k0.2.c1
  have c2 := k0.2.c2
  have c3 := k0.2.c3
  clear k0
  simp only [TV.val] at s0 a0 a1 a2 a3 c0 c1 c2 c3
  go_wp2_with fail
  refine s0.mono ?_
  clear s0 a0 a1 a2 a3 c0 c1 c2 c3
  rintro e V1 ⟨rfl, h1⟩
  have k0 := K.out 1 (by decide) V1 h1
  have s0 := S.out 1 (by decide) V1 h1
  have a0 := k0.1.c0
  have a1 := k0.1.c1
  have a2 := k0.1.c2
  have a3 := k0.1.c3
  have c0 := k0.2.c0
  have c1 := k0.2.c1
  have c2 := k0.2.c2
  have c3 := k0.2.c3
  clear k0 h1
  simp only [TV.val] at s0 a0 a1 a2 a3 c0 c1 c2 c3
  go_wp2_with fail
  refine s0.mono ?_
  clear s0 a0 a1 a2 a3 c0 c1 c2 c3
  rintro e V2 ⟨rfl, h1⟩
  have k0 := K.out 2 (by decide) V2 h1
  have s0 := S.out 2 (by decide) V2 h1
  have a0 := k0.1.c0
  have a1 := k0.1.c1
  have a2 := k0.1.c2
  have a3 := k0.1.c3
  have c0 := k0.2.c0
  have c1 := k0.2.c1
  have c2 := k0.2.c2
  have c3 := k0.2.c3
  clear k0 h1
  simp only [TV.val] at s0 a0 a1 a2 a3 c0 c1 c2 c3
  go_wp2_with fail
  refine s0.mono ?_
  clear s0 a0 a1 a2 a3 c0 c1 c2 c3
  rintro e V3 ⟨rfl, h1⟩
  have k0 := K.out 3 (by decide) V3 h1
  have s0 := S.out 3 (by decide) V3 h1
  have a0 := k0.1.c0
  have a1 := k0.1.c1
  have a2 := k0.1.c2
  have a3 := k0.1.c3
  have c0 := k0.2.c0
  have c1 := k0.2.c1
  have c2 := k0.2.c2
  have c3 := k0.2.c3
  clear k0 h1
  simp only [TV.val] at s0 a0 a1 a2 a3 c0 c1 c2 c3
  go_wp2_with fail
  refine s0.mono ?_
  clear s0 a0 a1 a2 a3 c0 c1 c2 c3
  rintro e V4 ⟨rfl, h1⟩
  have HF : Hid (Below w.heap.size w V4) := hide ((unhide HB5).trans (h1.mono (unhide HB5).size))
  clear S K HB5 h1
  go_wp2_with fail
  go_ret
  exact ⟨rfl, unhide HF⟩
end Go.Proofs.Ytcdgmjpgmiehcaa

