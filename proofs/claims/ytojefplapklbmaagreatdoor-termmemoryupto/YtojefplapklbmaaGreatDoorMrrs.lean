import Derived.Test.YtojefplapklbmaaGreatDoorMros
/- The sixth closure: term.Apply of what hornkeep.composed gives. -/
namespace Go.Proofs.YtojefplapklbmaaGreatDoor
open Go.RowKit Go.Shelf Go.Maps

theorem far4 {V : World} {b k o : Nat} {y : TV} {v : Value} (hk : V.cell? ⟨k, o, none⟩ = some v) (hne : k ≠ b) : ((((V.setCell ⟨b, 0, none⟩ (.int .i64 y.k)).setCell ⟨b, 1, none⟩ (.int .i64 y.N)).setCell ⟨b, 2, none⟩ (.string y.s)).setCell ⟨b, 3, none⟩ (.slice y.a y.len y.cap)).cell? ⟨k, o, none⟩ = some v :=
  (World.cell?_of_block (set4_other V b 0 y hne)).trans hk
theorem apply_codes {n N : Nat} (x : Tm n) (cc : List (Int × List Nd)) (w : World) (hT : IsT w.heap.size w x) (hnN : n ≤ N) (hN : N ≤ 549755813889) : ∃ c, Wide c ∧ ∀ W, Below w.heap.size w W → ∀ (la : Option Addr) (ll lc : Nat) (bs' : List (Int × Tm N)), IsL W.heap.size W la ll bs' → cb bs' = cc →
    Calls Tryz.prog 17 #[x.tv.val, .slice la ll lc] W fun e W' => ∃ (y : TV) (r : Int), e = .returned (.tuple #[y.val, .int .i64 r]) ∧ Below W.heap.size W W' ∧ Gave (2 * N + 2) W.heap.size W' y c := by
  have hlift : ∀ W, Below w.heap.size w W → ∃ x' : Tm N, x'.tv = x.tv ∧ IsT W.heap.size W x' ∧ code x' = code x := fun W hb => by
    obtain ⟨x', h1, h2, _, h4⟩ := lift_toS (at_world hT hb) (at_world hT hb).blk N hnN (by omega)
    exact ⟨x', h1, h2, h4⟩
  by_cases H : okC (code x) ∧ SubC cc
  · refine ⟨(code x).flatMap (subN (lookC cc)), okC50 (okC_sub (fun _ h0 h1 => okC_look H.2.ok h0 h1) H.1), fun W hb la ll lc bs' hL hcb => ?_⟩
    obtain ⟨x', e1, e2, e3⟩ := hlift W hb
    rw [← e1]
    refine (app_all x' bs' la ll lc W e2 hL).mono fun e W' ⟨y, r, h1, h2, h3⟩ => ⟨y, r, h1, h2, ?_⟩
    rcases h3 with ⟨_, _, _, _, h⟩ | ⟨_, _, _, h⟩
    · rw [e3, hcb] at h
      exact gave_of h.whole (by omega) (by omega)
    · exact ((h (by rw [okT_code, e3]; exact H.1)).1 (subC_iff.1 (by rw [hcb]; exact H.2))).elim
  · refine ⟨zeroC, zero_wide, fun W hb la ll lc bs' hL hcb => ?_⟩
    obtain ⟨x', e1, e2, e3⟩ := hlift W hb
    rw [← e1]
    refine (app_all x' bs' la ll lc W e2 hL).mono fun e W' ⟨y, r, h1, h2, h3⟩ => ⟨y, r, h1, h2, ?_⟩
    rcases h3 with ⟨_, k1, k2, k3, _⟩ | ⟨_, h, _⟩
    · exact (H ⟨by rw [okT_code, e3] at k1; exact k1, by rw [← hcb]; exact subC_iff.2 ⟨k2, k3⟩⟩).elim
    · rw [h]; exact gave_zero (by omega)
theorem gave_set4 {D lo b : Nat} {W : World} {y : TV} {c : List Nd} (h : Gave D lo W y c) (hb : b < lo) (x : TV) : Gave D lo (set4 W b 0 x) y c := by
  obtain ⟨t, h1, h2, h3, h4⟩ := h
  have hk : ∀ k, lo ≤ k → k < W.heap.size → (set4 W b 0 x).heap[k]? = W.heap[k]? := fun k hk _ => set4_other _ _ _ _ (by omega)
  refine ⟨t, h1, ?_, WhT.kept hk h3, h4⟩
  rw [set4_size]
  exact h2.fromS (fun k (hk' : lo ≤ k) => set4_other _ _ _ _ (by omega)) (wh_blk h3)
theorem gave_lower {D lo lo' : Nat} {W : World} {y : TV} {c : List Nd} (h : Gave D lo W y c) (hl : lo' ≤ lo) : Gave D lo' W y c := by
  obtain ⟨t, h1, h2, h3, h4⟩ := h
  exact ⟨t, h1, h2, WhT.mono hl h3, h4⟩
theorem gave_below {D lo : Nat} {W V : World} {y : TV} {c : List Nd} (h : Gave D lo W y c) (hb : Below W.heap.size W V) : Gave D lo V y c := by
  obtain ⟨t, h1, h2, h3, h4⟩ := h
  exact ⟨t, h1, (h2.below hb).mono hb.size, WhT.kept (fun k _ hk => hb.block k hk) h3, h4⟩
/-- What is given goes into the result's box. -/
theorem end6 {D : Nat} {W W1 F : World} {y : TV} {c : List Nd} (hb01 : Below W.heap.size W W1) (hs1 : W1.heap.size = W.heap.size + 1) (hz : W1.heap[W.heap.size]? = some (.cells #[.int .i64 0, .int .i64 0, .string ⟨#[]⟩, .slice none 0 0] 24 (0, 0))) (hF : Below W1.heap.size W1 F) (hg : Gave D W1.heap.size F y c) :
    Below W.heap.size W (set4 F W.heap.size 0 y) ∧ (∃ t : Tm D, y = t.tv ∧ IsT (set4 F W.heap.size 0 y).heap.size (set4 F W.heap.size 0 y) t ∧ WhT W.heap.size (set4 F W.heap.size 0 y) t ∧ code t = c) ∧ F.heap[W.heap.size]? = some (.cells #[.int .i64 0, .int .i64 0, .string ⟨#[]⟩, .slice none 0 0] 24 (0, 0)) := by
  obtain ⟨t, h1, h2, h3, h4⟩ := gave_set4 (b := W.heap.size) hg (by omega) y
  exact ⟨set4_below (hb01.trans (hF.mono hb01.size)) (Nat.le_refl _) 0 y, ⟨t, h1, h2, WhT.mono (by omega) h3, h4⟩, (hF.block _ (by omega)).trans hz⟩
set_option maxRecDepth 100000 in
set_option maxHeartbeats 2000000 in
theorem gives6 {n : Nat} (x : Tm n) (ss us : List (Int × Tm n)) (a a' : Option Addr) (len cap len' cap' B Bp Bq : Nat) (w : World) (hT : IsT w.heap.size w x) (hB : BoxT w B x.tv) (hL : IsL w.heap.size w a len ss) (hP : Boxed w Bp 32 (.slice a len cap)) (hL' : IsL w.heap.size w a' len' us) (hQ : Boxed w Bq 32 (.slice a' len' cap')) (hbig : len + len' ≤ 4194304) (hn : n ≤ 274877906944) :
    ∃ c, Wide c ∧ Gives 24 #[.pointer (some ⟨B, 0, none⟩), .pointer (some ⟨Bp, 0, none⟩), .pointer (some ⟨Bq, 0, none⟩)] (2 * (n + (n + 1)) + 2) c w := by
  obtain ⟨cc, hco⟩ := composed_any ss us a a' len cap len' cap' w hL hL' hbig hn
  obtain ⟨c, hw, hap⟩ := apply_codes (N := n + (n + 1)) x cc w hT (by omega) (by omega)
  refine ⟨c, hw, fun W hb => ?_⟩
  go_enter Tryz.func24, Tryz.ntmps24
  go_wp2_with fail
  obtain ⟨W1, hW1⟩ : ∃ W1, W.alloc (.cells #[.int .i64 0, .int .i64 0, .string ⟨#[]⟩, .slice none 0 0] 24) = W1 := ⟨_, rfl⟩
  have hb01 : Below W.heap.size W W1 := by rw [← hW1]; exact (Below.refl _ W).alloc (Nat.le_refl _) _
  have hs1 : W1.heap.size = W.heap.size + 1 := by rw [← hW1]; simp
  have hz : W1.heap[W.heap.size]? = some (.cells #[.int .i64 0, .int .i64 0, .string ⟨#[]⟩, .slice none 0 0] 24 (0, 0)) := by rw [← hW1]; exact World.alloc_heap_new W _
  rw [hW1]
  clear hW1
  have hb1 : Below w.heap.size w W1 := hb.trans (hb01.mono hb.size)
  have hbx0 := box_at hB hb1
  have x00 := hbx0.c0
  have x01 := hbx0.c1
  have x02 := hbx0.c2
  have x03 := hbx0.c3
  have x10 := (boxed_at hP hb1).cell
  have x20 := (boxed_at hQ hb1).cell
  have hlB : B < W1.heap.size := by have := hB.lt; have := hb1.size; omega
  have hlP : Bp < W1.heap.size := by have := (Array.getElem?_eq_some_iff.1 hP).1; have := hb1.size; omega
  have hlQ : Bq < W1.heap.size := by have := (Array.getElem?_eq_some_iff.1 hQ).1; have := hb1.size; omega
  have HCO : Hid (∀ V, Below W1.heap.size W1 V → Calls Tryz.prog 25 #[.slice a len cap, .slice a' len' cap'] V fun e W2 => ∃ (la : Option Addr) (ll lc : Nat), e = .returned (.slice la ll lc) ∧ Below V.heap.size V W2 ∧ Below W1.heap.size W1 W2 ∧ ∃ bs' : List (Int × Tm (n + (n + 1))), IsL W2.heap.size W2 la ll bs' ∧ cb bs' = cc) := fun V hV =>
    (hco V (hb1.trans (hV.mono hb1.size))).mono fun e W2 ⟨la, ll, lc, k1, k2, k3⟩ => ⟨la, ll, lc, k1, k2, hV.trans (k2.mono hV.size), k3⟩
  have HAP : Hid (∀ W2 V, Below W2.heap.size W2 V → Below W1.heap.size W1 W2 → ∀ (la : Option Addr) (ll lc : Nat), (∃ bs' : List (Int × Tm (n + (n + 1))), IsL W2.heap.size W2 la ll bs' ∧ cb bs' = cc) →
    Calls Tryz.prog 17 #[.agg #[.int .i64 x.tv.k, .int .i64 x.tv.N, .string x.tv.s, .slice x.tv.a x.tv.len x.tv.cap], .slice la ll lc] V fun e W' => ∃ (y : TV) (r : Int), e = .returned (.tuple #[.agg #[.int .i64 y.k, .int .i64 y.N, .string y.s, .slice y.a y.len y.cap], .int .i64 r]) ∧ Below V.heap.size V W' ∧ Below W1.heap.size W1 W' ∧ Gave (2 * (n + (n + 1)) + 2) V.heap.size W' y c) := fun W2 V hV h12 la ll lc ⟨bs', k1, k2⟩ => by
    have h1V : Below W1.heap.size W1 V := h12.trans (hV.mono h12.size)
    exact (hap V (hb1.trans (h1V.mono hb1.size)) la ll lc bs' ((k1.below hV).mono hV.size) k2).mono fun e W' ⟨y, r, j1, j2, j3⟩ => ⟨y, r, j1, j2, h1V.trans (j2.mono h1V.size), j3⟩
  have HS1 := hide hs1
  have HZ := hide hz
  clear hco hap hbx0 hs1 hz
  go_region_held3 (fun w' => w'.cell? ⟨B, 0, none⟩ = some (.int .i64 x.tv.k) ∧ w'.cell? ⟨B, 1, none⟩ = some (.int .i64 x.tv.N) ∧ w'.cell? ⟨B, 2, none⟩ = some (.string x.tv.s) ∧ w'.cell? ⟨B, 3, none⟩ = some (.slice x.tv.a x.tv.len x.tv.cap) ∧ w'.cell? ⟨Bp, 0, none⟩ = some (.slice a len cap) ∧ w'.cell? ⟨Bq, 0, none⟩ = some (.slice a' len' cap')) (first | go_keep | (exact ⟨far4 j0 (by omega), far4 j1 (by omega), far4 j2 (by omega), far4 j3 (by omega), far4 j4 (by omega), far4 j5 (by omega)⟩))
    (first | (go_at_call 25; refine (HCO.out _ (by first | exact (Below.refl _ _).drew | exact (Below.refl _ _).drew.alloc (Nat.le_refl _) _)).mono ?_; rintro e W2 ⟨la, ll, lc, rfl, b2', b12, hbs⟩; have hbc := bcell b12; have k0 := (hbc B 0 hlB).trans x00; have k1 := (hbc B 1 hlB).trans x01; have k2 := (hbc B 2 hlB).trans x02; have k3 := (hbc B 3 hlB).trans x03; have k4 := (hbc Bp 0 hlP).trans x10; have k5 := (hbc Bq 0 hlQ).trans x20; have lB2 : B < W2.heap.size := Nat.lt_of_lt_of_le hlB b12.size; have lP2 : Bp < W2.heap.size := Nat.lt_of_lt_of_le hlP b12.size; have lQ2 : Bq < W2.heap.size := Nat.lt_of_lt_of_le hlQ b12.size; clear hbc; first | (have hzC : W2.heap[W1.heap.size]? = some (.cells #[.int .i64 0, .int .i64 0, .string ⟨#[]⟩, .slice none 0 0] 24 (0, 0)) := (b2'.block W1.heap.size (show W1.heap.size < (W1.drew.alloc (.cells #[.int .i64 0, .int .i64 0, .string ⟨#[]⟩, .slice none 0 0] 24)).heap.size by rw [World.size_alloc]; exact Nat.lt_succ_self _)).trans (World.alloc_heap_new W1.drew (.cells #[.int .i64 0, .int .i64 0, .string ⟨#[]⟩, .slice none 0 0] 24))) | (have hno := b2'.size)) | (go_at_call 17; refine (HAP.out W2 _ (by first | exact Below.refl _ _ | exact (Below.refl _ _).alloc (Nat.le_refl _) _) b12 la ll lc hbs).mono ?_; rintro e W3 ⟨y, r, rfl, b3', b13, hgv⟩; have hbd := bcell b13; have j0 := (hbd B 0 hlB).trans x00; have j1 := (hbd B 1 hlB).trans x01; have j2 := (hbd B 2 hlB).trans x02; have j3 := (hbd B 3 hlB).trans x03; have j4 := (hbd Bp 0 hlP).trans x10; have j5 := (hbd Bq 0 hlQ).trans x20; have lB3 : B < W3.heap.size := Nat.lt_of_lt_of_le hlB b13.size; have lP3 : Bp < W3.heap.size := Nat.lt_of_lt_of_le hlP b13.size; have lQ3 : Bq < W3.heap.size := Nat.lt_of_lt_of_le hlQ b13.size; clear hbd; first | (have hzz := zbox_kept ((b3'.block W1.heap.size (Array.getElem?_eq_some_iff.1 hzC).1).trans hzC); obtain ⟨⟨z0, z1, z2, z3⟩, f0, f1, f2, f3⟩ := hzz) | (have hzz := zbox_kept ((b3'.block W2.heap.size (by simp)).trans (World.alloc_heap_new W2 (.cells #[.int .i64 0, .int .i64 0, .string ⟨#[]⟩, .slice none 0 0] 24)))) | skip))
  · obtain ⟨F, hF⟩ : ∃ F, W3.alloc (.cells #[.int .i64 y.k, .int .i64 y.N, .string y.s, .slice y.a y.len y.cap] 24) = F := ⟨_, rfl⟩
    have hB3 : Below W3.heap.size W3 F := by rw [← hF]; exact (Below.refl _ W3).alloc (Nat.le_refl _) _
    have hbx : BoxT F W3.heap.size y := by rw [← hF]; exact BoxT.new W3 y
    have c0 := hbx.c0
    have c1 := hbx.c1
    have c2 := hbx.c2
    have c3 := hbx.c3
    have hF1 : Below W1.heap.size W1 F := b13.trans (hB3.mono b13.size)
    have hF2 : Gave (2 * (n + (n + 1)) + 2) W1.heap.size F y c := gave_lower (gave_below hgv hB3) b12.size
    rw [hF]
    clear hF hB3 hbx
    obtain ⟨e1, e2, e3⟩ := end6 hb01 (unhide HS1) (unhide HZ) hF1 hF2
    obtain ⟨⟨r0, r1, r2, r3⟩, g0, g1, g2, g3⟩ := zbox_kept e3
    have HG1 := hide e1
    have HG2 := hide e2
    clear e1 e2 e3 hF1 hF2 hgv b3' b13 b2' b12 hbs HCO HAP
    go_wp2_with fail
    obtain ⟨t, rfl, t1, t2, t3⟩ := unhide HG2
    exact bodyPost_ret (v := t.tv.val) (by simp [results, Tryz.results24, go_sem, TV.val, r0, r1, r2, r3]) rfl ⟨t, rfl, unhide HG1, t1, t2, t3⟩
  · obtain ⟨⟨z0, z1, z2, z3⟩, f0, f1, f2, f3⟩ := zbox_kept ((b3'.block W2.heap.size (by simp)).trans (World.alloc_heap_new W2 (.cells #[.int .i64 0, .int .i64 0, .string ⟨#[]⟩, .slice none 0 0] 24)))
    have hF1 : Below W1.heap.size W1 (set4 W3 W2.heap.size 0 y) := set4_below b13 (b12.size) 0 y
    have hF2 : Gave (2 * (n + (n + 1)) + 2) W1.heap.size (set4 W3 W2.heap.size 0 y) y c := gave_lower (gave_set4 hgv (by simp) y) (Nat.le_trans b12.size (by simp))
    obtain ⟨c0, c1, c2, c3⟩ := set4_cells W3 W2.heap.size 0 y (by rw [z0]; rfl) (by rw [z1]; rfl) (by rw [z2]; rfl) (by rw [z3]; rfl)
    obtain ⟨F, hF⟩ : ∃ F, set4 W3 W2.heap.size 0 y = F := ⟨_, rfl⟩
    rw [hF] at hF1 hF2 c0 c1 c2 c3
    unfold set4 at hF
    simp only [Nat.zero_add] at hF c0 c1 c2 c3
    rw [hF]
    clear hF z0 z1 z2 z3 f0 f1 f2 f3
    obtain ⟨e1, e2, e3⟩ := end6 hb01 (unhide HS1) (unhide HZ) hF1 hF2
    obtain ⟨⟨r0, r1, r2, r3⟩, g0, g1, g2, g3⟩ := zbox_kept e3
    have HG1 := hide e1
    have HG2 := hide e2
    clear e1 e2 e3 hF1 hF2 hgv b3' b13 b2' b12 hbs HCO HAP
    go_wp2_with fail
    obtain ⟨t, rfl, t1, t2, t3⟩ := unhide HG2
    exact bodyPost_ret (v := t.tv.val) (by simp [results, Tryz.results24, go_sem, TV.val, r0, r1, r2, r3]) rfl ⟨t, rfl, unhide HG1, t1, t2, t3⟩
  · have hzD : W2.heap[W1.heap.size]? = some (.cells #[.int .i64 0, .int .i64 0, .string ⟨#[]⟩, .slice none 0 0] 24 (0, 0)) := (b2'.block W1.heap.size (show W1.heap.size < (W1.drew.alloc (.cells #[.int .i64 0, .int .i64 0, .string ⟨#[]⟩, .slice none 0 0] 24)).heap.size by rw [World.size_alloc]; exact Nat.lt_succ_self _)).trans (World.alloc_heap_new W1.drew (.cells #[.int .i64 0, .int .i64 0, .string ⟨#[]⟩, .slice none 0 0] 24))
    obtain ⟨⟨z0, z1, z2, z3⟩, f0, f1, f2, f3⟩ := zbox_kept ((b3'.block W1.heap.size (Array.getElem?_eq_some_iff.1 hzD).1).trans hzD)
    have hF1 : Below W1.heap.size W1 (set4 W3 W1.heap.size 0 y) := set4_below b13 (Nat.le_refl _) 0 y
    have hF2 : Gave (2 * (n + (n + 1)) + 2) W1.heap.size (set4 W3 W1.heap.size 0 y) y c := gave_lower (gave_set4 hgv ((Array.getElem?_eq_some_iff.1 hzD).1) y) (b12.size)
    obtain ⟨c0, c1, c2, c3⟩ := set4_cells W3 W1.heap.size 0 y (by rw [z0]; rfl) (by rw [z1]; rfl) (by rw [z2]; rfl) (by rw [z3]; rfl)
    obtain ⟨F, hF⟩ : ∃ F, set4 W3 W1.heap.size 0 y = F := ⟨_, rfl⟩
    rw [hF] at hF1 hF2 c0 c1 c2 c3
    unfold set4 at hF
    simp only [Nat.zero_add] at hF c0 c1 c2 c3
    rw [hF]
    clear hF z0 z1 z2 z3 f0 f1 f2 f3
    obtain ⟨e1, e2, e3⟩ := end6 hb01 (unhide HS1) (unhide HZ) hF1 hF2
    obtain ⟨⟨r0, r1, r2, r3⟩, g0, g1, g2, g3⟩ := zbox_kept e3
    have HG1 := hide e1
    have HG2 := hide e2
    clear e1 e2 e3 hF1 hF2 hgv b3' b13 b2' b12 hbs HCO HAP
    go_wp2_with fail
    obtain ⟨t, rfl, t1, t2, t3⟩ := unhide HG2
    exact bodyPost_ret (v := t.tv.val) (by simp [results, Tryz.results24, go_sem, TV.val, r0, r1, r2, r3]) rfl ⟨t, rfl, unhide HG1, t1, t2, t3⟩
end Go.Proofs.YtojefplapklbmaaGreatDoor

/- The contract of hornkeep.thereTerm. -/
namespace Go.Proofs.YtojefplapklbmaaGreatDoor
open Go.RowKit Go.Shelf Go.Maps

def nameV (s : ByteArray) : TV := ⟨3, 0, s, none, 0, 0⟩
set_option maxHeartbeats 400000 in
theorem rname_any (s : ByteArray) (w : World) : Calls Tryz.prog 51 #[.string s] w fun e W' => e = .returned (nameV s).val ∧ Below w.heap.size w W' := by
  go_enter Tryz.func51, Tryz.ntmps51
  go_wp2
  refine bodyPost_ret (v := (nameV s).val) (by simp [results, Tryz.results51, go_sem, nameV, TV.val]) rfl ⟨rfl, (Below.refl _ _).alloc (Nat.le_refl _) _⟩
def atom1 (s : ByteArray) : Tm 1 := (nameV s, [])
theorem atom1_is {s : ByteArray} (n₀ : Nat) (W : World) (hs : s.size ≤ 9223372036854775807) : IsT n₀ W (atom1 s) := ⟨rfl, ⟨Nat.zero_le _, Nat.le_refl _, by decide⟩, hs, .inl rfl⟩
theorem lgg_ab : lgg (atom1 ⟨#[97]⟩) (atom1 ⟨#[98]⟩) = [varNd 0] := by decide +kernel
theorem atom1_pw {s : ByteArray} (h : s.size ≤ 100) : ∀ x ∈ parts (atom1 s), Pw x := by
  intro x hx
  have e : parts (atom1 s) = [nameV s] := rfl
  rw [e] at hx
  simp at hx
  subst hx
  exact ⟨⟨by simp [nameV], by simp [nameV]⟩, ⟨by simp [nameV], by simp [nameV]⟩, h, by show (0 : Nat) ≤ _; omega⟩
def var2 : Tm 2 := (varV 0, [])
theorem var2_is (n₀ : Nat) (W : World) : IsT n₀ W var2 := ⟨rfl, ⟨Nat.zero_le _, Nat.le_refl _, by decide⟩, Nat.zero_le _, .inl rfl⟩
set_option maxRecDepth 100000 in
set_option maxHeartbeats 2000000 in
theorem thereTerm_any (w : World) (htab : Tab w.heap.size w) : Calls Tryz.prog 9 #[] w fun e W' => e = .returned (.bool true) ∧ Below w.heap.size w W' := by
  have HA := hide fun (s : ByteArray) (w : World) => rname_any s w
  have HGE : Hid (∀ W, Below w.heap.size w W → Calls Tryz.prog 19 #[(nameV ⟨#[97]⟩).val, (nameV ⟨#[98]⟩).val] W fun e W' => ∃ t : Tm 2, e = .returned (.tuple #[t.tv.val, .int .i64 0]) ∧ Below W.heap.size W W' ∧ IsT W'.heap.size W' t ∧ code t = [varNd 0]) := fun W hb => by
    refine (general_any (atom1 ⟨#[97]⟩) (atom1 ⟨#[98]⟩) W (atom1_is _ _ (by decide)) (atom1_is _ _ (by decide)) (by decide +kernel) (by decide +kernel) (atom1_pw (by decide)) (atom1_pw (by decide)) (by decide +kernel) (by decide +kernel) ((htab.on hb).mono hb.size)).mono fun e W' ⟨x, h1, h2, h3⟩ => ?_
    obtain ⟨t, k1, k2, _, k4⟩ := h3 2 (Nat.le_refl _)
    exact ⟨t, by rw [h1, k1], h2, k2 (by omega), by rw [k4]; exact lgg_ab⟩
  have HV := hide fun (w : World) => v_any 0 w
  go_enter Tryz.func9, Tryz.ntmps9
  go_wp2_with fail
  refine (HA.out _ _).mono ?_
  rintro e W1 ⟨rfl, b1⟩
  simp only [nameV, TV.val]
  go_wp2_with fail
  refine (HA.out _ _).mono ?_
  rintro e W2 ⟨rfl, b2⟩
  have B2 : Below w.heap.size w W2 := b1.trans (b2.mono b1.size)
  have hge := HGE.out W2 B2
  simp only [nameV, TV.val] at hge ⊢
  clear HA HGE
  go_wp2_with fail
  refine hge.mono ?_
  clear hge
  rintro e W3 ⟨t, rfl, b3, hT, hc⟩
  have B3 : Below w.heap.size w W3 := B2.trans (b3.mono B2.size)
  go_wp2_with fail
  have hbx := BoxT.new W3 t.tv
  have hBA : Below W3.heap.size W3 (W3.alloc (.cells #[.int .i64 t.tv.k, .int .i64 t.tv.N, .string t.tv.s, .slice t.tv.a t.tv.len t.tv.cap] 24)) := (Below.refl _ W3).alloc (Nat.le_refl _) _
  obtain ⟨W4, hW4⟩ : ∃ W4, W3.alloc (.cells #[.int .i64 t.tv.k, .int .i64 t.tv.N, .string t.tv.s, .slice t.tv.a t.tv.len t.tv.cap] 24) = W4 := ⟨_, rfl⟩
  rw [hW4] at hbx hBA ⊢
  clear hW4
  have x0 := hbx.c0
  have x1 := hbx.c1
  have x2 := hbx.c2
  have x3 := hbx.c3
  have hlt : W3.heap.size < W4.heap.size := hbx.lt
  have HSA : Hid (∀ W5, Below W4.heap.size W4 W5 → Calls Tryz.prog 41 #[t.tv.val, (varV 0).val] W5 fun e W6 => e = .returned (.bool true) ∧ Below W4.heap.size W4 W6) := fun W5 h5 => by
    have h35 : Below W3.heap.size W3 W5 := hBA.trans (h5.mono hBA.size)
    refine (same_any 2 t var2 W5 ((hT.below h35).mono h35.size) (var2_is _ _)).mono fun e W6 h => ?_
    rw [sameT_code hT.wl (var2_is W5.heap.size W5).wl, hc] at h
    refine ⟨by rw [h.1]; simp [show code var2 = [varNd 0] by rw [show var2 = ((varV 0, []) : TV × List (Tm 1)) from rfl, code_succ]; simp [varV, TV.nd, varNd, ByteArray.toList_eq]], h5.trans (h.2.mono h5.size)⟩
  simp only [varV, TV.val] at HSA HV
  have hB4 : Below w.heap.size w W4 := B3.trans (hBA.mono B3.size)
  clear hbx hBA hT hc htab
  go_region_held3 (fun w' => w'.cell? ⟨W3.heap.size, 0, none⟩ = some (.int .i64 t.tv.k) ∧ w'.cell? ⟨W3.heap.size, 1, none⟩ = some (.int .i64 t.tv.N) ∧ w'.cell? ⟨W3.heap.size, 2, none⟩ = some (.string t.tv.s) ∧ w'.cell? ⟨W3.heap.size, 3, none⟩ = some (.slice t.tv.a t.tv.len t.tv.cap)) (go_keep)
    (first | (go_at_call 52; refine (HV.out _).mono ?_; rintro e W5 ⟨rfl, b5'⟩; have b5 : Below W4.heap.size W4 W5 := (Below.refl _ W4).drew.trans b5'; have hbc := bcell b5) | (go_at_call 41; refine (HSA.out W5 b5).mono ?_; rintro e W6 ⟨rfl, b6⟩; have hbd := bcell b6))
  go_wp2_with fail
  go_ret
  exact ⟨rfl, hB4.trans (b6.mono hB4.size)⟩
end Go.Proofs.YtojefplapklbmaaGreatDoor

/- A drawn region by what holds at every moment: one step for each operation, whatever the order. -/
namespace Go.Proofs.YtojefplapklbmaaGreatDoor
open Go.RowKit Go.Shelf Go.Maps

section
variable {P : Program} {ops : Array Oper} {Q : Exit → Act → World → Prop} {md : Region.Mode}

theorem count_listed {l : List Bool} {i : Nat} (h : l[i]? = some false) : (l.set i true).count false + 1 = l.count false := by
  induction l generalizing i with
  | nil => simp at h
  | cons b l ih =>
    cases i with
    | zero => simp at h; subst h; simp
    | succ i =>
      have := ih (i := i) (by simpa using h)
      cases b <;> simp <;> omega
theorem listed_false {listed : Array Bool} {i : Nat} (h : listed.getD i true = false) : listed.toList[i]? = some false := by
  rw [Array.getElem?_toList]
  cases hk : listed[i]? with
  | none => simp [hk] at h
  | some b => simp [hk] at h; rw [h]
/-- Where nothing is ready all has come up: what an operation waits for stands ahead of it. -/
theorem all_listed (hrank : ∀ i o, ops[i]? = some o → ∀ e ∈ o.after, Region.binds md e = true → e.on < i) {listed : Array Bool} (hs : listed.size = ops.size) (hr : Region.ready md ops listed = []) : ∀ i, i < ops.size → listed.getD i false = true := by
  intro i
  induction i using Nat.strongRecOn with
  | _ i ih =>
    intro hi
    cases hb : listed[i]? with
    | none => rw [Array.getElem?_eq_none_iff] at hb; omega
    | some b =>
      cases b with
      | true => simp [hb]
      | false =>
        have hm : i ∈ Region.ready md ops listed := mem_ready.2 ⟨by simp [hb], ops[i]'hi, Array.getElem?_eq_getElem hi, fun e he hbe => by
          have hlt := hrank i _ (Array.getElem?_eq_getElem hi) e he hbe
          exact ih e.on hlt (by omega)⟩
        rw [hr] at hm
        cases hm
/-- The rule. -/
theorem wpAny_inv (I : Array Bool → Act → World → Prop) (hrank : ∀ i o, ops[i]? = some o → ∀ e ∈ o.after, Region.binds md e = true → e.on < i)
    (hstep : ∀ (listed : Array Bool) (a : Act) (w : World) (i : Nat) (o : Oper), listed.size = ops.size → I listed a w → ops[i]? = some o → listed.getD i true = false → (∀ e ∈ o.after, Region.binds md e = true → listed.getD e.on false = true) →
      ∀ K : Act → World → Prop, (∀ a w, I (listed.setIfInBounds i true) a w → K a w) → if Region.wanted o (yielded ops a.tmps) = true then Oper.wp P o a w K Q else K (a.put o.dst undef) w)
    (hend : ∀ (listed : Array Bool) (a : Act) (w : World), I listed a w → (∀ i, i < ops.size → listed.getD i false = true) → Q .normal a w) :
    ∀ (fuel : Nat) (listed : Array Bool) (a : Act) (w : World), listed.size = ops.size → listed.toList.count false ≤ fuel → I listed a w → wpAny P md ops Q fuel listed a w := by
  intro fuel
  induction fuel with
  | zero =>
    intro listed a w hs hc hI
    have hr : Region.ready md ops listed = [] := by
      cases he : Region.ready md ops listed with
      | nil => rfl
      | cons j r =>
        have hj : j ∈ Region.ready md ops listed := by rw [he]; exact List.mem_cons_self ..
        have h1 := count_listed (listed_false (mem_ready.1 hj).1)
        omega
    exact ⟨hr, hend listed a w hI (all_listed hrank hs hr)⟩
  | succ fuel ih =>
    intro listed a w hs hc hI
    refine ⟨fun hr => hend listed a w hI (all_listed hrank hs hr), fun i hi => ?_⟩
    obtain ⟨h1, o, ho, h2⟩ := mem_ready.1 hi
    refine wpOp_step ho fun K' hK => hstep listed a w i o hs hI ho h1 h2 K' fun a' w' hI' => hK a' w' (ih _ a' w' (by simpa using hs) ?_ hI')
    have h3 := count_listed (listed_false h1)
    rw [Array.toList_setIfInBounds]
    omega
/-- .. of a region as it stands. -/
theorem wp_region_inv (hm : P.follows .mixedOrders = true) (I : Array Bool → Act → World → Prop) (hrank : ∀ i o, ops[i]? = some o → ∀ e ∈ o.after, Region.binds .any e = true → e.on < i)
    (hstep : ∀ (listed : Array Bool) (a : Act) (w : World) (i : Nat) (o : Oper), listed.size = ops.size → I listed a w → ops[i]? = some o → listed.getD i true = false → (∀ e ∈ o.after, Region.binds .any e = true → listed.getD e.on false = true) →
      ∀ K : Act → World → Prop, (∀ a w, I (listed.setIfInBounds i true) a w → K a w) → if Region.wanted o (yielded ops a.tmps) = true then Oper.wp P o a w K Q else K (a.put o.dst undef) w)
    (hend : ∀ (listed : Array Bool) (a : Act) (w : World), I listed a w → (∀ i, i < ops.size → listed.getD i false = true) → Q .normal a w) {id : Nat} {a : Act} {w : World} (h0 : I (Array.replicate ops.size false) a w.drew) : (Code.region id ops true).wp P Q a w :=
  wp_region_any hm (wpAny_inv I hrank hstep hend ops.size _ a _ (by simp) (by simp) h0)
end
end Go.Proofs.YtojefplapklbmaaGreatDoor

/- Small pieces for the law: the parts of a copy, the numbers that are spoilt, the path with room. -/
namespace Go.Proofs.YtojefplapklbmaaGreatDoor
open Go.RowKit Go.Shelf Go.Maps

/-- What a part is bounded by shows in the code. -/
def PwN (y : Nd) : Prop := (-9223372036854775808 ≤ y.1 ∧ y.1 ≤ 9223372036854775807) ∧ (-9223372036854775808 ≤ y.2.1 ∧ y.2.1 ≤ 9223372036854775807) ∧ y.2.2.1.length ≤ 100 ∧ y.2.2.2 ≤ 50
theorem pw_nd (x : TV) : Pw x ↔ PwN x.nd := by
  unfold Pw PwN TV.nd
  rw [bytes_len]
theorem pw_copy {n m : Nat} {x : Tm n} {a : Tm m} (h : code x = code a) (hp : ∀ z ∈ parts a, Pw z) : ∀ z ∈ parts x, Pw z := fun z hz => by
  rw [pw_nd]
  have h1 : z.nd ∈ code x := List.mem_map.2 ⟨z, hz, rfl⟩
  rw [h] at h1
  obtain ⟨z', h2, h3⟩ := List.mem_map.1 h1
  rw [← h3, ← pw_nd]
  exact hp z' h2
theorem len_copy {n m : Nat} {x : Tm n} {a : Tm m} (h : code x = code a) : (parts x).length = (parts a).length := by rw [← parts_code, ← parts_code, h]
/-- hornkeep.spoilt of numbers of the caller's own. -/
theorem spoiltI_own {lo : Nat} (v : Value) (ns : List Int) (W : World) (h : OwnN lo W v ns) (hl : ns.length ≤ 4194304) (hlo : lo ≤ W.heap.size) :
    Calls Tryz.prog 27 #[v, .int .i64 (-7)] W fun e W' => e = .returned (.tuple #[]) ∧ Below lo W W' := by
  rcases h.2 with ⟨rfl, _⟩ | ⟨g, cap, cur, rfl, h1, h2, h3, h4, h5, _⟩
  · exact (spoiltI_nil W).mono fun e W' k => ⟨k.1, k.2.mono hlo⟩
  · exact (spoiltI_row g ns.length cap W ⟨cur, h2, h5⟩ h3 (by unfold maxLen at h4; omega) hl).mono fun e W' k => ⟨k.1, k.2.below h1 hlo⟩
/-- A path of the caller's own, with a mark behind it. -/
structure OwnedI (lo : Nat) (W : World) (g len cap : Nat) (ns : List Int) : Prop where
  is : IsN W (some ⟨g, 0, none⟩) len ns
  own : lo ≤ g
  lt : g < W.heap.size
  room : len + 3 ≤ cap
  mark : W.cell? ⟨g, len, none⟩ = some (.int .i64 (-7))
theorem OwnedI.below {lo : Nat} {A B : World} {g len cap : Nat} {ns : List Int} (h : OwnedI lo A g len cap ns) (hb : Below A.heap.size A B) : OwnedI lo B g len cap ns :=
  ⟨h.is.below hb, h.own, Nat.lt_of_lt_of_le h.lt hb.size, h.room, (hb.cell (p := ⟨g, len, none⟩) h.lt).trans h.mark⟩
theorem i64s_at (ns : List Int) (j : Nat) (u : Value) : (i64s ns)[j]? = some u → ∃ N, ns[j]? = some N ∧ u = .int .i64 N := fun h => by
  simp only [i64s, List.getElem?_map, Option.map_eq_some_iff] at h
  obtain ⟨N, h1, h2⟩ := h
  exact ⟨N, h1, h2.symm⟩
theorem ownedI_of {lo : Nat} {W : World} {v : Value} {len : Nat} {ns : List Int} (hl : len = ns.length) (hlen : len ≤ 4194304) (hr : RoomyK 3 1 m3 lo W v len (i64s ns)) : ∃ g cap, v = .slice (some ⟨g, 0, none⟩) len cap ∧ OwnedI lo W g len cap ns := by
  obtain ⟨g, cap, cur, rfl, hg, hbk, hsz, hcap, htk⟩ := hr.ex
  have hc : ∀ q u, (i64s ns ++ m3)[q]? = some u → W.cell? ⟨g, q, none⟩ = some u := fun q u hq => by
    rw [← htk, List.getElem?_take] at hq
    split at hq
    · simp [World.cell?, hbk]
      simpa using hq
    · cases hq
  have hgl : g < W.heap.size := (Array.getElem?_eq_some_iff.1 hbk).1
  have hlen' : (i64s ns).length = len := by simp [i64s, hl]
  refine ⟨g, cap, rfl, ⟨hl, by omega, .inr ⟨g, 0, rfl, hgl, fun j N hj => ?_⟩⟩, hg, hgl, hcap, hc _ _ ?_⟩
  · rw [Nat.zero_add]
    have hj' : (i64s ns)[j]? = some (.int .i64 N) := by simp [i64s, hj]
    exact hc _ _ (by rw [List.getElem?_append_left (List.getElem?_eq_some_iff.1 hj').1]; exact hj')
  · rw [List.getElem?_append_right (by omega), hlen']
    simp [m3]
theorem roomyI_path (a : Option Addr) (len cap : Nat) (ns : List Int) (W : World) (hN : IsN W a len ns) (hlen : len ≤ 4194304) (ha : (a = none ∧ len = 0 ∧ cap = 0) ∨ ∃ b off, a = some ⟨b, off, none⟩) :
    Calls Tryz.prog 12 #[.slice a len cap, .int .i64 (-7)] W fun e W' => ∃ g cp, e = .returned (.slice (some ⟨g, 0, none⟩) len cp) ∧ Below W.heap.size W W' ∧ OwnedI W.heap.size W' g len cp ns := by
  rcases ha with ⟨rfl, rfl, rfl⟩ | ⟨b, off, rfl⟩
  · have h0 : ns = [] := List.length_eq_zero_iff.1 hN.1.symm
    subst h0
    refine (roomyI_nil W).mono fun e W' ⟨v, h1, h2, h3⟩ => ?_
    obtain ⟨g, cp, rfl, h4⟩ := ownedI_of (ns := []) rfl hlen h3
    exact ⟨g, cp, h1, h2, h4⟩
  · refine (roomyI_any b off len cap (i64s ns) W hlen (by simp [i64s, hN.1]) (fun j u hu => ?_) (fun u hu => ?_) (fun hne => ?_)).mono fun e W' ⟨v, h1, h2, h3⟩ => ?_
    · obtain ⟨N, k1, rfl⟩ := i64s_at ns j u hu
      rcases hN.2.2 with h0 | ⟨b', off', e, _, hk⟩
      · subst h0; simp at k1
      · simp at e
        obtain ⟨rfl, rfl⟩ := e
        rw [addr_add]
        exact hk j N k1
    · obtain ⟨N, _, rfl⟩ := List.mem_map.1 hu
      rfl
    · rcases hN.2.2 with h0 | ⟨b', off', e, hb, _⟩
      · subst h0; exact (hne rfl).elim
      · simp at e
        obtain ⟨rfl, _⟩ := e
        exact hb
    · obtain ⟨g, cp, rfl, h4⟩ := ownedI_of hN.1 hlen h3
      exact ⟨g, cp, h1, h2, h4⟩
end Go.Proofs.YtojefplapklbmaaGreatDoor

/- Four copies and four boxes, in whatever order they are made: what holds at every moment. -/
namespace Go.Proofs.YtojefplapklbmaaGreatDoor
open Go.RowKit Go.Shelf Go.Maps

/-- What comes out of a copying stays: it is apart from the blocks of X. -/
structure Stays (R : (Nat → Prop) → World → Value → Prop) : Prop where
  below : ∀ {X : Nat → Prop} {W W' : World} {v : Value}, R X W v → Below W.heap.size W W' → R X W' v
  add : ∀ {X X' : Nat → Prop} {W : World} {v : Value}, R X W v → (∀ b, X' b → X b ∨ W.heap.size ≤ b) → R X' W v
  write : ∀ {X : Nat → Prop} {W W' : World} {v : Value} {B : Nat}, R X W v → X B → (∀ b, b ≠ B → W'.heap[b]? = W.heap[b]?) → W'.heap.size = W.heap.size → R X W' v
def ResT (lo n : Nat) (c : List Nd) (X : Nat → Prop) (W : World) (v : Value) : Prop := ∃ x : Tm n, v = x.tv.val ∧ Owned lo W x ∧ BlkT (fun b => ¬ X b) x ∧ code x = c
def ResB (lo len n : Nat) (c : List (Int × List Nd)) (X : Nat → Prop) (W : World) (v : Value) : Prop := ∃ (g cp : Nat) (bs : List (Int × Tm n)), v = .slice (some ⟨g, 0, none⟩) len cp ∧ OwnedB lo W g len cp bs ∧ ¬ X g ∧ (∀ p ∈ bs, BlkT (fun b => ¬ X b) p.2) ∧ cb bs = c
theorem apart_add {X X' : Nat → Prop} {s n : Nat} {x : Tm n} (h : BlkT (fun b => ¬ X b) x) (hs : BlkT (· < s) x) (hX : ∀ b, X' b → X b ∨ s ≤ b) : BlkT (fun b => ¬ X' b) x :=
  (h.and hs).mono fun b ⟨h1, h2⟩ h3 => (hX b h3).elim h1 fun h => by omega
theorem resT_stays (lo n : Nat) (c : List Nd) : Stays (ResT lo n c) where
  below := fun ⟨x, h1, h2, h3, h4⟩ hb => ⟨x, h1, h2.below hb, h3, h4⟩
  add := fun ⟨x, h1, h2, h3, h4⟩ hX => ⟨x, h1, h2, apart_add h3 h2.is.blk hX, h4⟩
  write := fun ⟨x, h1, h2, h3, h4⟩ hB hw hs => ⟨x, h1, h2.fromS h3 (fun b hb _ _ => hw b fun e => hb (e ▸ hB)) (Nat.le_of_eq hs.symm), h3, h4⟩
theorem OwnedB.written {n lo : Nat} {A W : World} {g len cap B : Nat} {bs : List (Int × Tm n)} {X : Nat → Prop} (h : OwnedB lo A g len cap bs) (hg : ¬ X g) (hk : ∀ p ∈ bs, BlkT (fun b => ¬ X b) p.2) (hB : X B) (hw : ∀ b, b ≠ B → W.heap[b]? = A.heap[b]?) (hs : W.heap.size = A.heap.size) : OwnedB lo W g len cap bs := by
  have hgb : W.heap[g]? = A.heap[g]? := hw g fun e => hg (e ▸ hB)
  have hkid : ∀ p ∈ bs, Owned lo W p.2 := fun p hp => (h.kid p hp).fromS (hk p hp) (fun b hb _ _ => hw b fun e => hb (e ▸ hB)) (Nat.le_of_eq hs.symm)
  refine ⟨⟨h.is.1, h.is.2.1, ?_⟩, h.own, by rw [hs]; exact h.lt, h.room, hkid, ?_⟩
  · rcases h.is.2.2 with h0 | ⟨b, off, e, hb, hc⟩
    · exact .inl h0
    · simp at e
      obtain ⟨rfl, rfl⟩ := e
      refine .inr ⟨g, 0, rfl, by rw [hs]; exact h.lt, fun j p hp => ?_⟩
      obtain ⟨k1, k2, _⟩ := hc j p hp
      exact ⟨(World.cell?_of_block hgb).trans k1, k2.kept hgb, (hkid p (List.mem_of_getElem? hp)).is⟩
  · exact (World.cell?_of_block hgb).trans h.mark
theorem resB_stays (lo len n : Nat) (c : List (Int × List Nd)) : Stays (ResB lo len n c) where
  below := fun ⟨g, cp, bs, h1, h2, h3, h4, h5⟩ hb => ⟨g, cp, bs, h1, h2.below hb, h3, h4, h5⟩
  add := fun ⟨g, cp, bs, h1, h2, h3, h4, h5⟩ hX => ⟨g, cp, bs, h1, h2, fun hg => (hX g hg).elim h3 fun h => by have := h2.lt; omega, fun p hp => apart_add (h4 p hp) (h2.kid p hp).is.blk hX, h5⟩
  write := fun ⟨g, cp, bs, h1, h2, h3, h4, h5⟩ hB hw hs => ⟨g, cp, bs, h1, h2.written h3 h4 hB hw hs, h3, h4, h5⟩
/-- What a copying answers is apart from all that was there. -/
theorem resT_new {n lo : Nat} {c : List Nd} {W W' : World} {x : Tm n} (h : Owned W.heap.size W' x) (hlo : lo ≤ W.heap.size) (hc : code x = c) : ResT lo n c (fun b => b < W.heap.size) W' x.tv.val :=
  ⟨x, rfl, h.mono hlo, h.blk.mono fun b hb h' => by omega, hc⟩
theorem resB_new {n lo g len cp : Nat} {c : List (Int × List Nd)} {W W' : World} {bs : List (Int × Tm n)} (h : OwnedB W.heap.size W' g len cp bs) (hlo : lo ≤ W.heap.size) (hc : cb bs = c) : ResB lo len n c (fun b => b < W.heap.size) W' (.slice (some ⟨g, 0, none⟩) len cp) :=
  ⟨g, cp, bs, rfl, ⟨h.is, Nat.le_trans hlo h.own, h.lt, h.room, fun p hp => (h.kid p hp).mono hlo, h.mark⟩, fun hg => by have := h.own; omega, fun p hp => (h.kid p hp).blk.mono fun b hb h' => by omega, hc⟩

/-- One place of a function made anew. -/
def upd {α : Type} (f : Nat → α) (j : Nat) (v : α) : Nat → α := fun i => if i = j then v else f i
@[simp] theorem upd_at {α : Type} (f : Nat → α) (j : Nat) (v : α) : upd f j v j = v := by simp [upd]
theorem upd_off {α : Type} (f : Nat → α) {i j : Nat} (v : α) (h : i ≠ j) : upd f j v i = f i := by simp [upd, h]
/-- c: which copyings are done, al: which boxes are there, st: which are filled. -/
structure Reg (lo : Nat) (R : Nat → (Nat → Prop) → World → Value → Prop) (Z : Nat → Obj) (O : Nat → Value → Obj) (c al st : Nat → Bool) (V : Nat → Value) (P : Nat → Nat) (W : World) : Prop where
  res : ∀ j, c j = true → R j (fun b => ∃ k, al k = true ∧ P k = b) W (V j)
  box : ∀ j, al j = true → lo ≤ P j ∧ P j < W.heap.size ∧ W.heap[P j]? = some (if st j = true then O j (V j) else Z j)
  sep : ∀ i j, al i = true → al j = true → P i = P j → i = j
section
variable {lo : Nat} {R : Nat → (Nat → Prop) → World → Value → Prop} {Z : Nat → Obj} {O : Nat → Value → Obj} {c al st : Nat → Bool} {V : Nat → Value} {P : Nat → Nat} {W W' : World}
theorem Reg.below (h : Reg lo R Z O c al st V P W) (hR : ∀ j, Stays (R j)) (hb : Below W.heap.size W W') : Reg lo R Z O c al st V P W' :=
  ⟨fun j hj => (hR j).below (h.res j hj) hb, fun j hj => let ⟨h1, h2, h3⟩ := h.box j hj; ⟨h1, Nat.lt_of_lt_of_le h2 hb.size, (hb.block _ h2).trans h3⟩, h.sep⟩
theorem Reg.call (h : Reg lo R Z O c al st V P W) (hR : ∀ j, Stays (R j)) {j : Nat} {v : Value} (hst : st j = false) (hb : Below W.heap.size W W') (hv : R j (fun b => b < W.heap.size) W' v) : Reg lo R Z O (upd c j true) al st (upd V j v) P W' := by
  have h' := h.below hR hb
  refine ⟨fun i hi => ?_, fun i hi => ?_, h'.sep⟩
  · by_cases e : i = j
    · subst e
      rw [upd_at]
      exact (hR i).add hv fun b ⟨k, hk, e⟩ => .inl (e ▸ (h.box k hk).2.1)
    · rw [upd_off _ _ e]
      rw [upd_off _ _ e] at hi
      exact h'.res i hi
  · obtain ⟨h1, h2, h3⟩ := h'.box i hi
    refine ⟨h1, h2, h3.trans ?_⟩
    by_cases e : i = j
    · subst e; simp [hst]
    · rw [upd_off _ _ e]
theorem Reg.alloc (h : Reg lo R Z O c al st V P W) (hR : ∀ j, Stays (R j)) {j : Nat} (hst : st j = false) (hal : al j = false) (hlo : lo ≤ W.heap.size) (hb : Below W.heap.size W W') (hs : W.heap.size < W'.heap.size) (hn : W'.heap[W.heap.size]? = some (Z j)) : Reg lo R Z O c (upd al j true) st V (upd P j W.heap.size) W' := by
  have h' := h.below hR hb
  refine ⟨fun i hi => ?_, fun i hi => ?_, fun i k hi hk e => ?_⟩
  · refine (hR i).below ((hR i).add (h.res i hi) fun b ⟨k, hk, e⟩ => ?_) hb
    by_cases ek : k = j
    · subst ek; rw [upd_at] at e; exact .inr (Nat.le_of_eq e)
    · rw [upd_off _ _ ek] at e hk; exact .inl ⟨k, hk, e⟩
  · by_cases e : i = j
    · subst e; rw [upd_at, if_neg (by simp [hst])]; exact ⟨hlo, hs, hn⟩
    · rw [upd_off _ _ e] at hi ⊢; exact h'.box i hi
  · by_cases ei : i = j <;> by_cases ek : k = j
    · rw [ei, ek]
    · subst ei; rw [upd_at, upd_off _ _ ek] at e; rw [upd_off _ _ ek] at hk; have := (h.box k hk).2.1; omega
    · subst ek; rw [upd_at, upd_off _ _ ei] at e; rw [upd_off _ _ ei] at hi; have := (h.box i hi).2.1; omega
    · rw [upd_off _ _ ei] at e hi; rw [upd_off _ _ ek] at e hk; exact h.sep i k hi hk e
theorem Reg.store (h : Reg lo R Z O c al st V P W) (hR : ∀ j, Stays (R j)) {j : Nat} (hal : al j = true) (hw : ∀ b, b ≠ P j → W'.heap[b]? = W.heap[b]?) (hs : W'.heap.size = W.heap.size) (hn : W'.heap[P j]? = some (O j (V j))) : Reg lo R Z O c al (upd st j true) V P W' := by
  refine ⟨fun i hi => (hR i).write (h.res i hi) ⟨j, hal, rfl⟩ hw hs, fun i hi => ?_, h.sep⟩
  obtain ⟨h1, h2, h3⟩ := h.box i hi
  refine ⟨h1, by rw [hs]; exact h2, ?_⟩
  by_cases e : i = j
  · subst e; rw [upd_at, if_pos rfl]; exact hn
  · rw [upd_off _ _ e]
    exact (hw _ fun e' => e (h.sep i j hi hal e')).trans h3
end
end Go.Proofs.YtojefplapklbmaaGreatDoor

