import Derived.Test.YtffbhinpmlcopaaCp
/- The law hornlaw.TermBinds: it answers true, whatever the term and the two lists (of together at most 4194304 binds). -/
namespace Go.Proofs.Ytffbhinpmlcopaa
open Go.RowKit Go.Shelf

/-- What Apply answers, of whatever term and binds. -/
def AppSays {n : Nat} (t : Tm n) (bs : List (Int × Tm n)) (lo : Nat) (W' : World) (x : TV) (r : Int) : Prop :=
  (r = 0 ∧ okT t = true ∧ (∀ p ∈ bs, okT p.2 = true) ∧ Subst bs ∧ HoldsT (n + (n + 1)) lo W' x.val ((code t).flatMap (subN (lookC (cb bs))))) ∨
  (r ≠ 0 ∧ x = ⟨0, 0, ⟨#[]⟩, none, 0, 0⟩ ∧ (okT t = false → r = 2) ∧ (okT t = true → ¬ ((∀ p ∈ bs, okT p.2 = true) ∧ Subst bs) ∧ ((∀ p ∈ bs, okT p.2 = true) → r = 1) ∧ ((¬ ∀ p ∈ bs, okT p.2 = true) → r = 2)))
theorem app_all {n : Nat} (t : Tm n) (bs : List (Int × Tm n)) (a : Option Addr) (len cap : Nat) (w : World) (hT : IsT w.heap.size w t) (hl : IsL w.heap.size w a len bs) :
    Calls Try.prog 12 #[t.tv.val, .slice a len cap] w fun e W' => ∃ (x : TV) (r : Int), e = .returned (.tuple #[x.val, .int .i64 r]) ∧ Below w.heap.size w W' ∧ AppSays t bs w.heap.size W' x r := by
  cases hok : okT t with
  | false =>
    refine (apply_bad t a len cap w hT hok).mono fun e W' h => ?_
    exact ⟨⟨0, 0, ⟨#[]⟩, none, 0, 0⟩, 2, h.1, h.2, .inr ⟨by decide, rfl, fun _ => rfl, fun h => by rw [hok] at h; cases h⟩⟩
  | true =>
    by_cases hs : (∀ p ∈ bs, okT p.2 = true) ∧ Subst bs
    · refine (apply_ok t bs a len cap w hT hl hok hs.1 hs.2).mono fun e W' h => ?_
      obtain ⟨x, h1, h2, h3⟩ := h
      exact ⟨x, 0, h1, h2, .inl ⟨rfl, hok, hs.1, hs.2, h3⟩⟩
    · refine (apply_err t bs a len cap w hT hl hok hs).mono fun e W' h => ?_
      obtain ⟨r, h1, ⟨h2, h3, h4⟩, h5⟩ := h
      exact ⟨⟨0, 0, ⟨#[]⟩, none, 0, 0⟩, r, h1, h5, .inr ⟨by omega, rfl, (fun h => by rw [hok] at h; cases h), fun _ => ⟨hs, h3, h4⟩⟩⟩

/-- What Compose answers, of whatever two lists. -/
def CompSays {n : Nat} (L L' : BL n) (W' : World) (v : Value) (f : Int) : Prop :=
  BindSays [L, L'] (.returned (.int .i64 f)) ∧ (f = 0 → (∀ p ∈ L.bs, okT p.2 = true) ∧ OutB (n + (n + 1)) W' v (L.len + L'.len) (insF (madeC (cb L.bs) (cb L'.bs)))) ∧ (f ≠ 0 → v = .slice none 0 0)
theorem CompSays.below {n : Nat} {L L' : BL n} {A B : World} {v : Value} {f : Int} (h : CompSays L L' A v f) (hb : Below A.heap.size A B) : CompSays L L' B v f := ⟨h.1, fun h0 => ⟨(h.2.1 h0).1, (h.2.1 h0).2.below hb⟩, h.2.2⟩
theorem comp_all {n : Nat} (ss us : List (Int × Tm n)) (a a' : Option Addr) (len cap len' cap' : Nat) (w : World) (hl : IsL w.heap.size w a len ss) (hl' : IsL w.heap.size w a' len' us) (hbig : len + len' ≤ 4194304) (hn40 : n ≤ 549755813888) :
    Calls Try.prog 13 #[.slice a len cap, .slice a' len' cap'] w fun e W' => ∃ (la : Option Addr) (ll lc : Nat) (f : Int), e = .returned (.tuple #[.slice la ll lc, .int .i64 f]) ∧ Below w.heap.size w W' ∧ CompSays ⟨a, len, cap, ss⟩ ⟨a', len', cap', us⟩ W' (.slice la ll lc) f := by
  by_cases h : (∀ L ∈ [(⟨a, len, cap, ss⟩ : BL n), ⟨a', len', cap', us⟩], okB L) ∧ ∀ L ∈ [(⟨a, len, cap, ss⟩ : BL n), ⟨a', len', cap', us⟩], Subst L.bs
  · have h1 : okB (⟨a, len, cap, ss⟩ : BL n) := h.1 _ (by simp)
    have h2 : okB (⟨a', len', cap', us⟩ : BL n) := h.1 _ (by simp)
    have h3 : Subst ss := h.2 ⟨a, len, cap, ss⟩ (by simp)
    have h4 : Subst us := h.2 ⟨a', len', cap', us⟩ (by simp)
    refine (compose_ok ss us a a' len cap len' cap' w hl hl' h1 h2 h3 h4 hbig hn40).mono fun e W' hh => ?_
    obtain ⟨v, e1, e2, e3⟩ := hh
    have e4 := e3
    obtain ⟨la, ll, lc, l, rfl, _⟩ := e4
    exact ⟨la, ll, lc, 0, e1, e2, says_zero h.1 h.2, fun _ => ⟨h1, e3⟩, fun h => (h rfl).elim⟩
  · refine (compose_bad ss us a a' len cap len' cap' w hl hl' h).mono fun e W' hh => ?_
    obtain ⟨r, e1, e2, e3⟩ := hh
    refine ⟨none, 0, 0, r, e1, e3, e2, fun h0 => ?_, fun _ => rfl⟩
    obtain ⟨r', e4, k2, k1, k0⟩ := e2
    simp only [Ending.returned.injEq, Value.int.injEq, true_and] at e4
    subst e4 h0
    by_cases h1 : ∀ L ∈ [(⟨a, len, cap, ss⟩ : BL n), ⟨a', len', cap', us⟩], okB L
    · have := k1 h1 (fun h2 => h ⟨h1, h2⟩); omega
    · have := k2 h1; omega

theorem says_int {n : Nat} {Ls : List (BL n)} {e : Ending} (h : BindSays Ls e) : ∃ r : Int, e = .returned (.int .i64 r) ∧ BindSays Ls (.returned (.int .i64 r)) := by
  obtain ⟨r, rfl, h1⟩ := h
  exact ⟨r, rfl, r, rfl, h1⟩
theorem says_open {n : Nat} {Ls : List (BL n)} {r : Int} (h : BindSays Ls (.returned (.int .i64 r))) : ((¬ ∀ L ∈ Ls, okB L) → r = 2) ∧ ((∀ L ∈ Ls, okB L) → (¬ ∀ L ∈ Ls, Subst L.bs) → r = 1) ∧ ((∀ L ∈ Ls, okB L) → (∀ L ∈ Ls, Subst L.bs) → r = 0) := by
  obtain ⟨r', e4, h⟩ := h
  simp only [Ending.returned.injEq, Value.int.injEq, true_and] at e4
  subst e4
  exact h
/-- The three answers. -/
theorem three_says {n : Nat} {L L' : BL n} {p q f : Int} (hp : BindSays [L] (.returned (.int .i64 p))) (hq : BindSays [L'] (.returned (.int .i64 q))) (hf : BindSays [L, L'] (.returned (.int .i64 f))) :
    (p = 0 ∧ q = 0 ∧ f = 0) ∨ (p = 1 ∧ q = 0 ∧ f = 1) ∨ (p = 0 ∧ q = 1 ∧ f = 1) ∨ (p = 1 ∧ q = 1 ∧ f = 1) ∨ (p = 2 ∧ q = 0 ∧ f = 2) ∨ (p = 2 ∧ q = 1 ∧ f = 2) ∨ (p = 2 ∧ q = 2 ∧ f = 2) ∨ (p = 0 ∧ q = 2 ∧ f = 2) ∨ (p = 1 ∧ q = 2 ∧ f = 2) := by
  have h1 := says_open hp
  have h2 := says_open hq
  have h3 := says_open hf
  simp only [List.mem_cons, List.not_mem_nil, or_false, forall_eq_or_imp, forall_eq] at h1 h2 h3
  by_cases a1 : okB L <;> by_cases a2 : okB L' <;> by_cases b1 : Subst L.bs <;> by_cases b2 : Subst L'.bs <;> simp [a1, a2, b1, b2] at h1 h2 h3 <;> simp [h1, h2, h3]
/-- What is wanted of Apply's error. -/
theorem want_eq {n : Nat} {t : Tm n} {a : Option Addr} {len cap : Nat} {bs : List (Int × Tm n)} {lo : Nat} {W' : World} {x : TV} {r p : Int} (h : AppSays t bs lo W' x r) (hp : BindSays [(⟨a, len, cap, bs⟩ : BL n)] (.returned (.int .i64 p))) : (okT t = true → p = r) ∧ (okT t = false → r = 2) := by
  have h1 := says_open hp
  simp only [List.mem_cons, List.not_mem_nil, or_false, forall_eq, okB] at h1
  rcases h with ⟨rfl, h2, h3, h4, _⟩ | ⟨h2, _, h3, h4⟩
  · exact ⟨fun _ => h1.2.2 h3 h4, fun h => by rw [h2] at h; cases h⟩
  · refine ⟨fun h => ?_, h3⟩
    obtain ⟨k0, k1, k2⟩ := h4 h
    by_cases ho : ∀ p ∈ bs, okT p.2 = true
    · rw [k1 ho, h1.2.1 ho (fun h => k0 ⟨ho, h⟩)]
    · rw [k2 ho, h1.1 ho]

/-- The two roads of Apply: the same answer. -/
theorem two_apply {n : Nat} {lo : Nat} {S : Nat → Prop} {W W' : World} {x y : TV} {c : List Nd} (hn40 : n ≤ 549755813888) (hx : HoldsT (n + (n + 1)) lo W x.val c) (hb : Below W.heap.size W W') (hy : HoldsS (n + (n + 1)) S W' y.val c) :
    Calls Try.prog 11 #[x.val, y.val] W' fun e W2 => e = .returned (.bool true) ∧ Below W'.heap.size W' W2 := by
  obtain ⟨u, u1, u2, u3, u4⟩ := hx _ (Nat.le_refl _)
  obtain ⟨v, v1, v2, v3, v4⟩ := hy _ (Nat.le_refl _) (by omega)
  have u2' : IsT W'.heap.size W' u := ((u2 (by omega)).below hb).mono hb.size
  have h := same_any _ u v W' u2' v2
  rw [← u1, ← v1] at h
  have hs : sameT u v = true := by rw [sameT_code u2'.wl v2.wl]; exact decide_eq_true (by rw [u4, v4])
  rw [hs] at h
  exact h
/-- The two roads of Compose: the same answer. -/
theorem two_compose {D : Nat} {W : World} {v v' : Value} {k k' : Nat} {c : List (Int × List Nd)} (h : OutB D W v k c) (h' : OutB D W v' k' c) :
    Calls Try.prog 17 #[v, v'] W fun e W2 => e = .returned (.bool true) ∧ Below W.heap.size W W2 := by
  obtain ⟨a, len, cap, l, rfl, h2, _⟩ := h
  obtain ⟨a', len', cap', l', rfl, h2', _⟩ := h'
  obtain ⟨ks, k1, k2, _⟩ := h2.2 D (Nat.le_refl _) h2.1
  obtain ⟨ks', k1', k2', _⟩ := h2'.2 D (Nat.le_refl _) h2'.1
  have h := sameBinds_any ks ks' a a' len len' cap cap' W k1 k1'
  have hs : sameBs ks ks' = true := (sameBs_code ks ks' (fun p hp => (isL_mem k1 p hp).wl) (fun p hp => (isL_mem k1' p hp).wl)).2 (by rw [k2, k2'])
  rw [hs] at h
  exact h

set_option maxRecDepth 100000 in
set_option maxHeartbeats 2000000 in
theorem termBinds_any {n : Nat} (t : Tm n) (ss us : List (Int × Tm n)) (a a' : Option Addr) (len cap len' cap' : Nat) (w : World) (hT : IsT w.heap.size w t) (hl : IsL w.heap.size w a len ss) (hl' : IsL w.heap.size w a' len' us) (hbig : len + len' ≤ 4194304) (hn40 : n ≤ 549755813888) :
    Calls Try.prog 4 #[t.tv.val, .slice a len cap, .slice a' len' cap'] w fun e W' => e = .returned (.bool true) ∧ Below w.heap.size w W' := by
  have hB0 : Below w.heap.size w (w.alloc (.cells #[.int .i64 t.tv.k, .int .i64 t.tv.N, .string t.tv.s, .slice t.tv.a t.tv.len t.tv.cap] 24)) := (Below.refl _ w).alloc (Nat.le_refl _) _
  have happ := app_all t ss a len cap _ ((hT.below hB0).mono hB0.size) ((hl.below hB0).mono hB0.size)
  have hba := BoxT.new w t.tv
  have hcmp := fun (W : World) (hb : Below w.heap.size w W) => comp_all ss us a a' len cap len' cap' W ((hl.below hb).mono hb.size) ((hl'.below hb).mono hb.size) hbig hn40
  have hbs := fun (W : World) (hb : Below w.heap.size w W) => rbinds_any ss a len cap W ((hl.below hb).mono hb.size)
  have hbu := fun (W : World) (hb : Below w.heap.size w W) => rbinds_any us a' len' cap' W ((hl'.below hb).mono hb.size)
  have hfo := fun (W : World) (hb : Below w.heap.size w W) => formed_any n t W ((hT.below hb).mono hb.size)
  have hra := fun (W : World) (hb : Below w.heap.size w W) (hok : okT t = true) => rapply_any ss a len cap w.heap.size n t W (hl.below hb) hb.size ((hT.below hb).mono hb.size) hok
  have hrc := fun (W : World) (hb : Below w.heap.size w W) (hoks : ∀ p ∈ ss, okT p.2 = true) => rcompose_any ss us a a' len len' cap cap' W ((hl.below hb).mono hb.size) ((hl'.below hb).mono hb.size) hoks hbig hn40
  simp only [TV.val] at happ hfo hra ⊢
  have HFO := hide hfo
  have HRA := hide hra
  have HRC := hide hrc
  have HCMP := hide hcmp
  have HBS := hide hbs
  have HBU := hide hbu
  clear hfo hra hrc hcmp hbs hbu hT hl hl'
  go_enter Try.func4, Try.ntmps4
  go_wp2_with fail
  refine happ.mono ?_
  clear happ
  obtain ⟨W0, hW0⟩ : ∃ W0, w.alloc (.cells #[.int .i64 t.tv.k, .int .i64 t.tv.N, .string t.tv.s, .slice t.tv.a t.tv.len t.tv.cap] 24) = W0 := ⟨_, rfl⟩
  rw [hW0] at hB0 hba ⊢
  clear hW0
  rintro e W1 ⟨x, r, rfl, hb1, hsay⟩
  go_wp2_with fail
  have hB2 := (Below.refl _ W1).alloc (Nat.le_refl _) (.cells #[.int .i64 x.k, .int .i64 x.N, .string x.s, .slice x.a x.len x.cap] 24)
  have hbx := BoxT.new W1 x
  have hsz2 : (W1.alloc (.cells #[.int .i64 x.k, .int .i64 x.N, .string x.s, .slice x.a x.len x.cap] 24)).heap.size = W1.heap.size + 1 := by simp
  obtain ⟨W2, hW2⟩ : ∃ W2, W1.alloc (.cells #[.int .i64 x.k, .int .i64 x.N, .string x.s, .slice x.a x.len x.cap] 24) = W2 := ⟨_, rfl⟩
  rw [hW2] at hB2 hbx hsz2 ⊢
  clear hW2
  have hB : Below w.heap.size w W2 := (hB0.trans (hb1.mono hB0.size)).trans (hB2.mono (by have := hB0.size; have := hb1.size; omega))
  have hH : Below W1.heap.size W1 W2 ∧ BoxT W2 w.heap.size t.tv ∧ BoxT W2 W1.heap.size x := ⟨hB2, (hB2.block _ (by have := hba.lt; have := hb1.size; omega)).trans ((hb1.block _ hba.lt).trans hba), hbx⟩
  have HSAY := hide hsay
  have HH := hide hH
  have hlt2 : W1.heap.size < W2.heap.size := by omega
  have hlt1 : w.heap.size < W2.heap.size := by have := hba.lt; have := hb1.size; omega
  clear hsay hH hbx hba hB0 hb1 hB2 hsz2
  refine ((unhide HCMP) W2 hB).mono ?_
  rintro e W3 ⟨la, ll, lc, f, rfl, hb3, hcs⟩
  have HCS := hide hcs
  clear hcs HCMP
  have hB3 : Below w.heap.size w W3 := hB.trans (hb3.mono hB.size)
  go_wp2_with fail
  refine ((unhide HBS) W3 hB3).mono ?_
  rintro e W4 ⟨hs4, hb4⟩
  obtain ⟨p, rfl, hs4⟩ := says_int hs4
  have HS4 := hide hs4
  clear hs4
  have hB4 : Below w.heap.size w W4 := hB3.trans (hb4.mono hB3.size)
  have hb24 : Below W2.heap.size W2 W4 := hb3.trans (hb4.mono hb3.size)
  have hbt4 : BoxT W4 w.heap.size t.tv := (hb24.block _ hlt1).trans (unhide HH).2.1
  have c0 := hbt4.c0
  have c1 := hbt4.c1
  have c2 := hbt4.c2
  have c3 := hbt4.c3
  clear hbt4
  go_wp2_with fail
  refine ((unhide HFO) W4 hB4).mono ?_
  rintro e W5 ⟨rfl, hb5⟩
  have hB5 : Below w.heap.size w W5 := hB4.trans (hb5.mono hB4.size)
  have hb25 : Below W2.heap.size W2 W5 := hb24.trans (hb5.mono hb24.size)
  clear c0 c1 c2 c3
  have hbt : BoxT W5 w.heap.size t.tv := (hb25.block _ hlt1).trans (unhide HH).2.1
  have hbx : BoxT W5 W1.heap.size x := (hb25.block _ hlt2).trans (unhide HH).2.2
  have c0 := hbt.c0
  have c1 := hbt.c1
  have c2 := hbt.c2
  have c3 := hbt.c3
  have x0 := hbx.c0
  have x1 := hbx.c1
  have x2 := hbx.c2
  have x3 := hbx.c3
  have hlt3 : W1.heap.size < W5.heap.size := by have := hb25.size; omega
  have hlt4 : w.heap.size < W5.heap.size := by have := hb25.size; omega
  have hCS5 : CompSays ⟨a, len, cap, ss⟩ ⟨a', len', cap', us⟩ W5 (.slice la ll lc) f := ⟨(unhide HCS).1, fun h => ⟨((unhide HCS).2.1 h).1, ((unhide HCS).2.1 h).2.below (hb4.trans (hb5.mono hb4.size))⟩, (unhide HCS).2.2⟩
  have hwant := want_eq (unhide HSAY) (unhide HS4)
  have HC := hide hCS5
  clear hCS5 hbt hbx hb24 hb3 hb4 hb5 HCS HS4
  have HW := hide hwant
  clear hwant
  rcases unhide HSAY with ⟨rfl, hok, -, -, hx⟩ | ⟨hr, rfl, -, -⟩
  · obtain rfl : p = 0 := (unhide HW).1 hok
    have hx5 : HoldsT (n + (n + 1)) W0.heap.size W5 x.val ((code t).flatMap (subN (lookC (cb ss)))) := (hx.below (unhide HH).1).below hb25
    have hrap : Calls Try.prog 15 #[.agg #[.int .i64 t.tv.k, .int .i64 t.tv.N, .string t.tv.s, .slice t.tv.a t.tv.len t.tv.cap], .slice a len cap] W5.drew fun e W6 => ∃ y : TV, e = .returned y.val ∧ Below W5.heap.size W5 W6 ∧ HoldsS (n + (n + 1)) (Mix w.heap.size W5.heap.size) W6 y.val ((code t).flatMap (subN (lookC (cb ss)))) := by
      refine ((unhide HRA) W5.drew hB5.drew hok).mono fun e W6 h => ?_
      obtain ⟨y, h1, h2, h3⟩ := h
      exact ⟨y, h1, (Below.refl _ W5).drew.trans h2, h3⟩
    have hsm := fun (W6 : World) (y : TV) => two_apply (n := n) (lo := W0.heap.size) (S := Mix w.heap.size W5.heap.size) (W := W5) (W' := W6) (x := x) (y := y) hn40 hx5
    have HX := hide hx
    have HOK := hide hok
    rw [hok]
    clear hx hx5 hok
    simp only [TV.val] at hrap hsm
    go_wp2_with fail
    refine wp_region_noPanic ?_
    refine wp_region_held_drew (S := (fun w' => (w'.cell? ⟨w.heap.size, 0, none⟩ = some (.int .i64 t.tv.k) ∧ w'.cell? ⟨w.heap.size, 1, none⟩ = some (.int .i64 t.tv.N) ∧ w'.cell? ⟨w.heap.size, 2, none⟩ = some (.string t.tv.s) ∧ w'.cell? ⟨w.heap.size, 3, none⟩ = some (.slice t.tv.a t.tv.len t.tv.cap)) ∧ w'.cell? ⟨W1.heap.size, 0, none⟩ = some (.int .i64 x.k) ∧ w'.cell? ⟨W1.heap.size, 1, none⟩ = some (.int .i64 x.N) ∧ w'.cell? ⟨W1.heap.size, 2, none⟩ = some (.string x.s) ∧ w'.cell? ⟨W1.heap.size, 3, none⟩ = some (.slice x.a x.len x.cap))) (by kernel_rfl) ?_ (fun hHeld => ?_)
    · go_keep
    refine wpAnyH_take (i := 0) (oi := { dst := some 31, op := Op.move (Operand.tmp 8), type := 26, pos := "low.go:82", after := #[], guard := none }) (v := ?_) rfl (by kernel_rfl) (by kernel_rfl) (by kernel_rfl) (fun _ _ _ h => h) (Or.inl ⟨by rfl, ?_⟩) hHeld ?_
    rotate_left
    · (intro w' hSw; (try dsimp only at hSw); go_simp; try with_reducible rfl)
    try simp only [Act.put, List.setIfInBounds_toArray, List.set_cons_zero, List.set_cons_succ]
    refine wpAnyH_take (i := 1) (oi := { dst := some 32, op := Op.move (Operand.tmp 11), type := 26, pos := "low.go:82", after := #[], guard := none }) (v := ?_) rfl (by kernel_rfl) (by kernel_rfl) (by kernel_rfl) (fun _ _ _ h => h) (Or.inl ⟨by rfl, ?_⟩) hHeld ?_
    rotate_left
    · (intro w' hSw; (try dsimp only at hSw); go_simp; try with_reducible rfl)
    try simp only [Act.put, List.setIfInBounds_toArray, List.set_cons_zero, List.set_cons_succ]
    refine wpAnyH_take (i := 2) (oi := { dst := some 33, op := Op.binOp BinOp.neq 26 (Operand.tmp 31) (Operand.tmp 32) 26, type := 4, pos := "low.go:82", after := #[{ on := 0, ground := Ground.data }, { on := 1, ground := Ground.data }], guard := none }) (v := ?_) rfl (by kernel_rfl) (by kernel_rfl) (by kernel_rfl) (fun _ _ _ h => h) (Or.inl ⟨by rfl, ?_⟩) hHeld ?_
    rotate_left
    · (intro w' hSw; (try dsimp only at hSw); go_simp; try with_reducible rfl)
    try simp only [Act.put, List.setIfInBounds_toArray, List.set_cons_zero, List.set_cons_succ]
    refine wpAnyH_take (i := 3) (oi := { dst := some 34, op := Op.move (Operand.tmp 33), type := 4, pos := "low.go:82", after := #[{ on := 2, ground := Ground.data }], guard := none }) (v := ?_) rfl (by kernel_rfl) (by kernel_rfl) (by kernel_rfl) (fun _ _ _ h => h) (Or.inl ⟨by rfl, ?_⟩) hHeld ?_
    rotate_left
    · (intro w' hSw; (try dsimp only at hSw); go_simp; try with_reducible rfl)
    try simp only [Act.put, List.setIfInBounds_toArray, List.set_cons_zero, List.set_cons_succ]
    refine wpAnyH_take (i := 4) (oi := { dst := some 35, op := Op.move (Operand.tmp 8), type := 26, pos := "low.go:82", after := #[{ on := 3, ground := Ground.guard }], guard := some (3, false) }) (v := ?_) rfl (by kernel_rfl) (by kernel_rfl) (by kernel_rfl) (fun _ _ _ h => h) (Or.inl ⟨by rfl, ?_⟩) hHeld ?_
    rotate_left
    · (intro w' hSw; (try dsimp only at hSw); go_simp; try with_reducible rfl)
    try simp only [Act.put, List.setIfInBounds_toArray, List.set_cons_zero, List.set_cons_succ]
    refine wpAnyH_take (i := 5) (oi := { dst := some 36, op := Op.binOp BinOp.eql 26 (Operand.tmp 35) (Operand.const (Value.int IntKind.i64 0)) 26, type := 4, pos := "low.go:82", after := #[{ on := 4, ground := Ground.data }, { on := 3, ground := Ground.guard }], guard := some (3, false) }) (v := ?_) rfl (by kernel_rfl) (by kernel_rfl) (by kernel_rfl) (fun _ _ _ h => h) (Or.inl ⟨by rfl, ?_⟩) hHeld ?_
    rotate_left
    · (intro w' hSw; (try dsimp only at hSw); go_simp; try with_reducible rfl)
    try simp only [Act.put, List.setIfInBounds_toArray, List.set_cons_zero, List.set_cons_succ]
    refine wpAnyH_take (i := 6) (oi := { dst := some 37, op := Op.move (Operand.tmp 36), type := 4, pos := "low.go:82", after := #[{ on := 5, ground := Ground.data }, { on := 3, ground := Ground.chain }, { on := 3, ground := Ground.guard }], guard := some (3, false) }) (v := ?_) rfl (by kernel_rfl) (by kernel_rfl) (by kernel_rfl) (fun _ _ _ h => h) (Or.inl ⟨by rfl, ?_⟩) hHeld ?_
    rotate_left
    · (intro w' hSw; (try dsimp only at hSw); go_simp; try with_reducible rfl)
    try simp only [Act.put, List.setIfInBounds_toArray, List.set_cons_zero, List.set_cons_succ]
    refine wpAnyH_take (i := 7) (oi := { dst := some 38, op := Op.load 24 (Operand.tmp 7), type := 24, pos := "low.go:82", after := #[{ on := 6, ground := Ground.guard }], guard := some (6, true) }) (v := ?_) rfl (by kernel_rfl) (by kernel_rfl) (by kernel_rfl) (fun _ _ _ h => h) (Or.inl ⟨by rfl, ?_⟩) hHeld ?_
    rotate_left
    · (intro w' hSw; (try dsimp only at hSw); go_simp; try with_reducible rfl)
    try simp only [Act.put, List.setIfInBounds_toArray, List.set_cons_zero, List.set_cons_succ]
    refine wpAnyH_take (i := 8) (oi := { dst := some 39, op := Op.load 24 (Operand.tmp 3), type := 24, pos := "low.go:82", after := #[{ on := 6, ground := Ground.guard }], guard := some (6, true) }) (v := ?_) rfl (by kernel_rfl) (by kernel_rfl) (by kernel_rfl) (fun _ _ _ h => h) (Or.inl ⟨by rfl, ?_⟩) hHeld ?_
    rotate_left
    · (intro w' hSw; (try dsimp only at hSw); go_simp; try with_reducible rfl)
    try simp only [Act.put, List.setIfInBounds_toArray, List.set_cons_zero, List.set_cons_succ]
    refine wpAnyH_take (i := 9) (oi := { dst := some 40, op := Op.move (Operand.tmp 1), type := 31, pos := "low.go:82", after := #[{ on := 6, ground := Ground.guard }], guard := some (6, true) }) (v := ?_) rfl (by kernel_rfl) (by kernel_rfl) (by kernel_rfl) (fun _ _ _ h => h) (Or.inl ⟨by rfl, ?_⟩) hHeld ?_
    rotate_left
    · (intro w' hSw; (try dsimp only at hSw); go_simp; try with_reducible rfl)
    try simp only [Act.put, List.setIfInBounds_toArray, List.set_cons_zero, List.set_cons_succ]
    refine wpAnyH_ready (rs := [10]) (by kernel_rfl) (by simp) ?_
    refine AllReadyH.cons (o := { dst := some 41, op := Op.call { callee := Callee.value (Operand.func 15), args := #[Operand.tmp 39, Operand.tmp 40], argTypes := #[24, 31] }, type := 24, pos := "low.go:82", after := #[{ on := 8, ground := Ground.data }, { on := 9, ground := Ground.data }, { on := 6, ground := Ground.chain }, { on := 6, ground := Ground.guard }], guard := some (6, true) }) rfl (fun K hK => ?_) AllReadyH.nil
    have hHold := hHeld
    clear hHeld
    go_simp
    refine hrap.mono ?_
    clear hrap
    rintro e W6 ⟨y, rfl, hb6, hy⟩
    have hbc := bcell hb6
    go_wp2_with fail
    refine hK.out _ _ ?_ (fun hHeld => ?_)
    · ((try dsimp only); go_keep)
    clear hK K hHold
    try simp only [Act.put, List.setIfInBounds_toArray, List.set_cons_zero, List.set_cons_succ]
    refine wpAnyH_ready (rs := [11]) (by kernel_rfl) (by simp) ?_
    refine AllReadyH.cons (o := { dst := some 42, op := Op.call { callee := Callee.value (Operand.func 11), args := #[Operand.tmp 38, Operand.tmp 41], argTypes := #[24, 24] }, type := 4, pos := "low.go:82", after := #[{ on := 7, ground := Ground.data }, { on := 10, ground := Ground.data }, { on := 10, ground := Ground.chain }, { on := 6, ground := Ground.guard }], guard := some (6, true) }) rfl (fun K hK => ?_) AllReadyH.nil
    have hHold := hHeld
    clear hHeld
    go_simp
    refine (hsm W6 y hb6 hy).mono ?_
    clear hsm
    rintro e W7 ⟨rfl, hb7⟩
    have hbd := bcell hb7
    have hq1 : w.heap.size < W6.heap.size := by have := hb6.size; omega
    have hq2 : W1.heap.size < W6.heap.size := by have := hb6.size; omega
    go_wp2_with fail
    refine hK.out _ _ ?_ (fun hHeld => ?_)
    · ((try dsimp only); go_keep)
    clear hK K hHold
    try simp only [Act.put, List.setIfInBounds_toArray, List.set_cons_zero, List.set_cons_succ]
    refine wpAnyH_take (i := 12) (oi := { dst := some 43, op := Op.unOp UnOp.not 4 (Operand.tmp 42), type := 4, pos := "low.go:82", after := #[{ on := 11, ground := Ground.data }, { on := 6, ground := Ground.guard }], guard := some (6, true) }) (v := ?_) rfl (by kernel_rfl) (by kernel_rfl) (by kernel_rfl) (fun _ _ _ h => h) (Or.inl ⟨by rfl, ?_⟩) hHeld ?_
    rotate_left
    · (intro w' hSw; (try dsimp only at hSw); go_simp; try with_reducible rfl)
    try simp only [Act.put, List.setIfInBounds_toArray, List.set_cons_zero, List.set_cons_succ]
    refine wpAnyH_take (i := 13) (oi := { dst := some 44, op := Op.pick (Operand.tmp 37) (Operand.tmp 43) (Operand.const (Value.bool false)), type := 4, pos := "low.go:82", after := #[{ on := 6, ground := Ground.data }, { on := 12, ground := Ground.data }, { on := 3, ground := Ground.guard }], guard := some (3, false) }) (v := ?_) rfl (by kernel_rfl) (by kernel_rfl) (by kernel_rfl) (fun _ _ _ h => h) (Or.inl ⟨by rfl, ?_⟩) hHeld ?_
    rotate_left
    · (intro w' hSw; (try dsimp only at hSw); go_simp; try with_reducible rfl)
    try simp only [Act.put, List.setIfInBounds_toArray, List.set_cons_zero, List.set_cons_succ]
    refine wpAnyH_take (i := 14) (oi := { dst := some 45, op := Op.pick (Operand.tmp 34) (Operand.const (Value.bool true)) (Operand.tmp 44), type := 4, pos := "low.go:82", after := #[{ on := 3, ground := Ground.data }, { on := 13, ground := Ground.data }], guard := none }) (v := ?_) rfl (by kernel_rfl) (by kernel_rfl) (by kernel_rfl) (fun _ _ _ h => h) (Or.inl ⟨by rfl, ?_⟩) hHeld ?_
    rotate_left
    · (intro w' hSw; (try dsimp only at hSw); go_simp; try with_reducible rfl)
    try simp only [Act.put, List.setIfInBounds_toArray, List.set_cons_zero, List.set_cons_succ]
    refine wpAnyH_take (i := 15) (oi := { dst := some 46, op := Op.move (Operand.tmp 45), type := 4, pos := "low.go:82", after := #[{ on := 14, ground := Ground.data }, { on := 11, ground := Ground.chain }], guard := none }) (v := ?_) rfl (by kernel_rfl) (by kernel_rfl) (by kernel_rfl) (fun _ _ _ h => h) (Or.inl ⟨by rfl, ?_⟩) hHeld ?_
    rotate_left
    · (intro w' hSw; (try dsimp only at hSw); go_simp; try with_reducible rfl)
    try simp only [Act.put, List.setIfInBounds_toArray, List.set_cons_zero, List.set_cons_succ]
    refine wpAnyH_take (i := 16) (oi := { dst := some 47, op := Op.move (Operand.tmp 8), type := 26, pos := "low.go:82", after := #[{ on := 15, ground := Ground.guard }], guard := some (15, false) }) (v := ?_) rfl (by kernel_rfl) (by kernel_rfl) (by kernel_rfl) (fun _ _ _ h => h) (Or.inl ⟨by rfl, ?_⟩) hHeld ?_
    rotate_left
    · (intro w' hSw; (try dsimp only at hSw); go_simp; try with_reducible rfl)
    try simp only [Act.put, List.setIfInBounds_toArray, List.set_cons_zero, List.set_cons_succ]
    refine wpAnyH_take (i := 17) (oi := { dst := some 48, op := Op.binOp BinOp.neq 26 (Operand.tmp 47) (Operand.const (Value.int IntKind.i64 0)) 26, type := 4, pos := "low.go:82", after := #[{ on := 16, ground := Ground.data }, { on := 15, ground := Ground.guard }], guard := some (15, false) }) (v := ?_) rfl (by kernel_rfl) (by kernel_rfl) (by kernel_rfl) (fun _ _ _ h => h) (Or.inl ⟨by rfl, ?_⟩) hHeld ?_
    rotate_left
    · (intro w' hSw; (try dsimp only at hSw); go_simp; try with_reducible rfl)
    try simp only [Act.put, List.setIfInBounds_toArray, List.set_cons_zero, List.set_cons_succ]
    refine wpAnyH_take (i := 18) (oi := { dst := some 49, op := Op.move (Operand.tmp 48), type := 4, pos := "low.go:82", after := #[{ on := 17, ground := Ground.data }, { on := 15, ground := Ground.chain }, { on := 15, ground := Ground.guard }], guard := some (15, false) }) (v := ?_) rfl (by kernel_rfl) (by kernel_rfl) (by kernel_rfl) (fun _ _ _ h => h) (Or.inl ⟨by rfl, ?_⟩) hHeld ?_
    rotate_left
    · (intro w' hSw; (try dsimp only at hSw); go_simp; try with_reducible rfl)
    try simp only [Act.put, List.setIfInBounds_toArray, List.set_cons_zero, List.set_cons_succ]
    refine wpAnyH_take (i := 19) (oi := { dst := some 50, op := Op.load 24 (Operand.tmp 7), type := 24, pos := "low.go:82", after := #[{ on := 18, ground := Ground.guard }], guard := some (18, true) }) (v := undef) rfl (by kernel_rfl) (by kernel_rfl) (by kernel_rfl) (fun _ _ _ h => h) (Or.inr ⟨by rfl, rfl⟩) hHeld ?_
    try simp only [Act.put, List.setIfInBounds_toArray, List.set_cons_zero, List.set_cons_succ]
    refine wpAnyH_take (i := 20) (oi := { dst := some 51, op := Op.call { callee := Callee.value (Operand.func 16), args := #[Operand.tmp 50], argTypes := #[24] }, type := 4, pos := "low.go:82", after := #[{ on := 19, ground := Ground.data }, { on := 18, ground := Ground.chain }, { on := 18, ground := Ground.guard }], guard := some (18, true) }) (v := undef) rfl (by kernel_rfl) (by kernel_rfl) (by kernel_rfl) (fun _ _ _ h => h) (Or.inr ⟨by rfl, rfl⟩) hHeld ?_
    try simp only [Act.put, List.setIfInBounds_toArray, List.set_cons_zero, List.set_cons_succ]
    refine wpAnyH_take (i := 21) (oi := { dst := some 52, op := Op.unOp UnOp.not 4 (Operand.tmp 51), type := 4, pos := "low.go:82", after := #[{ on := 20, ground := Ground.data }, { on := 18, ground := Ground.guard }], guard := some (18, true) }) (v := undef) rfl (by kernel_rfl) (by kernel_rfl) (by kernel_rfl) (fun _ _ _ h => h) (Or.inr ⟨by rfl, rfl⟩) hHeld ?_
    try simp only [Act.put, List.setIfInBounds_toArray, List.set_cons_zero, List.set_cons_succ]
    refine wpAnyH_take (i := 22) (oi := { dst := some 53, op := Op.pick (Operand.tmp 49) (Operand.tmp 52) (Operand.const (Value.bool false)), type := 4, pos := "low.go:82", after := #[{ on := 18, ground := Ground.data }, { on := 21, ground := Ground.data }, { on := 15, ground := Ground.guard }], guard := some (15, false) }) (v := ?_) rfl (by kernel_rfl) (by kernel_rfl) (by kernel_rfl) (fun _ _ _ h => h) (Or.inl ⟨by rfl, ?_⟩) hHeld ?_
    rotate_left
    · (intro w' hSw; (try dsimp only at hSw); go_simp; try with_reducible rfl)
    try simp only [Act.put, List.setIfInBounds_toArray, List.set_cons_zero, List.set_cons_succ]
    refine wpAnyH_take (i := 23) (oi := { dst := some 54, op := Op.pick (Operand.tmp 46) (Operand.const (Value.bool true)) (Operand.tmp 53), type := 4, pos := "low.go:82", after := #[{ on := 15, ground := Ground.data }, { on := 22, ground := Ground.data }], guard := none }) (v := ?_) rfl (by kernel_rfl) (by kernel_rfl) (by kernel_rfl) (fun _ _ _ h => h) (Or.inl ⟨by rfl, ?_⟩) hHeld ?_
    rotate_left
    · (intro w' hSw; (try dsimp only at hSw); go_simp; try with_reducible rfl)
    try simp only [Act.put, List.setIfInBounds_toArray, List.set_cons_zero, List.set_cons_succ]
    refine wpAnyH_done (by kernel_rfl) ?_ _
    refine NoPanic.normal ?_
    have hb57 : Below W5.heap.size W5 W7 := hb6.trans (hb7.mono hb6.size)
    have hB7 : Below w.heap.size w W7 := hB5.trans (hb57.mono hB5.size)
    have hC7 := (unhide HC).below hb57
    have HC7 := hide hC7
    clear hC7 hb57 hbd hHeld c0 c1 c2 c3 x0 x1 x2 x3
    go_wp2_with fail
    refine ((unhide HBS) W7 hB7).mono ?_
    rintro e W8 ⟨hs8, hb8⟩
    obtain ⟨p', rfl, hs8⟩ := says_int hs8
    have HS8 := hide hs8
    clear hs8
    have hB8 : Below w.heap.size w W8 := hB7.trans (hb8.mono hB7.size)
    go_wp2_with fail
    refine ((unhide HBU) W8 hB8).mono ?_
    rintro e W9 ⟨hs9, hb9⟩
    obtain ⟨q', rfl, hs9⟩ := says_int hs9
    have hB9 : Below w.heap.size w W9 := hB8.trans (hb9.mono hB8.size)
    have hC9 := (unhide HC7).below (hb8.trans (hb9.mono hb8.size))
    have HC9 := hide hC9
    have h3 := three_says (unhide HS8) hs9 hC9.1
    clear hC9 hb8 hb9 HS8 hs9 HC7
    rcases h3 with ⟨rfl, rfl, rfl⟩ | h3
    · obtain ⟨hoks, ho⟩ := (unhide HC9).2.1 rfl
      have hrc := (unhide HRC) W9 hB9 hoks
      have HO := hide ho
      clear hoks ho
      go_wp2_with fail
      refine hrc.mono ?_
      clear hrc
      rintro e W10 ⟨v, rfl, hb10, hv⟩
      have ho10 := (unhide HO).below hb10
      rw [insF_madeC] at ho10
      have h2 := two_compose ho10 hv
      have hB10 : Below w.heap.size w W10 := hB9.trans (hb10.mono hB9.size)
      clear ho10 hv hb10
      go_wp2_with fail
      refine h2.mono ?_
      rintro e W11 ⟨rfl, hb11⟩
      have hB11 : Below w.heap.size w W11 := hB10.trans (hb11.mono hB10.size)
      clear h2 hb11
      go_wp2_with fail
      exact bodyPost_ret (v := .bool true) (by simp [results, Try.results4, go_sem]) rfl ⟨rfl, hB11⟩
    · have hv : (.slice la ll lc : Value) = .slice none 0 0 := (unhide HC9).2.2 (by omega)
      simp only [Value.slice.injEq] at hv
      obtain ⟨rfl, rfl, rfl⟩ := hv
      rcases h3 with ⟨rfl, rfl, rfl⟩ | ⟨rfl, rfl, rfl⟩ | ⟨rfl, rfl, rfl⟩ | ⟨rfl, rfl, rfl⟩ | ⟨rfl, rfl, rfl⟩ | ⟨rfl, rfl, rfl⟩ | ⟨rfl, rfl, rfl⟩ | ⟨rfl, rfl, rfl⟩
      all_goals
        clear HC9
        go_wp2_with fail
        exact bodyPost_ret (v := .bool true) (by simp [results, Try.results4, go_sem]) rfl ⟨rfl, hB9⟩
  · have hno : Calls Try.prog 16 #[.agg #[.int .i64 0, .int .i64 0, .string ⟨#[]⟩, .slice none 0 0]] W5.drew fun e W7 => e = .returned (.bool true) ∧ Below W5.heap.size W5 W7 := (none_any ⟨0, 0, ⟨#[]⟩, none, 0, 0⟩ W5.drew).mono fun e W7 h => ⟨by rw [h.1]; simp, (Below.refl _ W5).drew.trans h.2⟩
    cases hok : okT t with
    | false =>
      obtain rfl : r = 2 := (unhide HW).2 hok
      go_wp2_with fail
      refine wp_region_noPanic ?_
      refine wp_region_held_drew (S := (fun w' => w'.cell? ⟨W1.heap.size, 0, none⟩ = some (.int .i64 0) ∧ w'.cell? ⟨W1.heap.size, 1, none⟩ = some (.int .i64 0) ∧ w'.cell? ⟨W1.heap.size, 2, none⟩ = some (.string ⟨#[]⟩) ∧ w'.cell? ⟨W1.heap.size, 3, none⟩ = some (.slice none 0 0))) (by kernel_rfl) ?_ (fun hHeld => ?_)
      · go_keep
      refine wpAnyH_take (i := 0) (oi := { dst := some 31, op := Op.move (Operand.tmp 8), type := 26, pos := "low.go:82", after := #[], guard := none }) (v := ?_) rfl (by kernel_rfl) (by kernel_rfl) (by kernel_rfl) (fun _ _ _ h => h) (Or.inl ⟨by rfl, ?_⟩) hHeld ?_
      rotate_left
      · (intro w' hSw; (try dsimp only at hSw); go_simp; try with_reducible rfl)
      try simp only [Act.put, List.setIfInBounds_toArray, List.set_cons_zero, List.set_cons_succ]
      refine wpAnyH_take (i := 1) (oi := { dst := some 32, op := Op.move (Operand.tmp 11), type := 26, pos := "low.go:82", after := #[], guard := none }) (v := ?_) rfl (by kernel_rfl) (by kernel_rfl) (by kernel_rfl) (fun _ _ _ h => h) (Or.inl ⟨by rfl, ?_⟩) hHeld ?_
      rotate_left
      · (intro w' hSw; (try dsimp only at hSw); go_simp; try with_reducible rfl)
      try simp only [Act.put, List.setIfInBounds_toArray, List.set_cons_zero, List.set_cons_succ]
      refine wpAnyH_take (i := 2) (oi := { dst := some 33, op := Op.binOp BinOp.neq 26 (Operand.tmp 31) (Operand.tmp 32) 26, type := 4, pos := "low.go:82", after := #[{ on := 0, ground := Ground.data }, { on := 1, ground := Ground.data }], guard := none }) (v := ?_) rfl (by kernel_rfl) (by kernel_rfl) (by kernel_rfl) (fun _ _ _ h => h) (Or.inl ⟨by rfl, ?_⟩) hHeld ?_
      rotate_left
      · (intro w' hSw; (try dsimp only at hSw); go_simp; try with_reducible rfl)
      try simp only [Act.put, List.setIfInBounds_toArray, List.set_cons_zero, List.set_cons_succ]
      refine wpAnyH_take (i := 3) (oi := { dst := some 34, op := Op.move (Operand.tmp 33), type := 4, pos := "low.go:82", after := #[{ on := 2, ground := Ground.data }], guard := none }) (v := ?_) rfl (by kernel_rfl) (by kernel_rfl) (by kernel_rfl) (fun _ _ _ h => h) (Or.inl ⟨by rfl, ?_⟩) hHeld ?_
      rotate_left
      · (intro w' hSw; (try dsimp only at hSw); go_simp; try with_reducible rfl)
      try simp only [Act.put, List.setIfInBounds_toArray, List.set_cons_zero, List.set_cons_succ]
      refine wpAnyH_take (i := 4) (oi := { dst := some 35, op := Op.move (Operand.tmp 8), type := 26, pos := "low.go:82", after := #[{ on := 3, ground := Ground.guard }], guard := some (3, false) }) (v := ?_) rfl (by kernel_rfl) (by kernel_rfl) (by kernel_rfl) (fun _ _ _ h => h) (Or.inl ⟨by rfl, ?_⟩) hHeld ?_
      rotate_left
      · (intro w' hSw; (try dsimp only at hSw); go_simp; try with_reducible rfl)
      try simp only [Act.put, List.setIfInBounds_toArray, List.set_cons_zero, List.set_cons_succ]
      refine wpAnyH_take (i := 5) (oi := { dst := some 36, op := Op.binOp BinOp.eql 26 (Operand.tmp 35) (Operand.const (Value.int IntKind.i64 0)) 26, type := 4, pos := "low.go:82", after := #[{ on := 4, ground := Ground.data }, { on := 3, ground := Ground.guard }], guard := some (3, false) }) (v := ?_) rfl (by kernel_rfl) (by kernel_rfl) (by kernel_rfl) (fun _ _ _ h => h) (Or.inl ⟨by rfl, ?_⟩) hHeld ?_
      rotate_left
      · (intro w' hSw; (try dsimp only at hSw); go_simp; try with_reducible rfl)
      try simp only [Act.put, List.setIfInBounds_toArray, List.set_cons_zero, List.set_cons_succ]
      refine wpAnyH_take (i := 6) (oi := { dst := some 37, op := Op.move (Operand.tmp 36), type := 4, pos := "low.go:82", after := #[{ on := 5, ground := Ground.data }, { on := 3, ground := Ground.chain }, { on := 3, ground := Ground.guard }], guard := some (3, false) }) (v := ?_) rfl (by kernel_rfl) (by kernel_rfl) (by kernel_rfl) (fun _ _ _ h => h) (Or.inl ⟨by rfl, ?_⟩) hHeld ?_
      rotate_left
      · (intro w' hSw; (try dsimp only at hSw); go_simp; try with_reducible rfl)
      try simp only [Act.put, List.setIfInBounds_toArray, List.set_cons_zero, List.set_cons_succ]
      refine wpAnyH_take (i := 7) (oi := { dst := some 38, op := Op.load 24 (Operand.tmp 7), type := 24, pos := "low.go:82", after := #[{ on := 6, ground := Ground.guard }], guard := some (6, true) }) (v := undef) rfl (by kernel_rfl) (by kernel_rfl) (by kernel_rfl) (fun _ _ _ h => h) (Or.inr ⟨by rfl, rfl⟩) hHeld ?_
      try simp only [Act.put, List.setIfInBounds_toArray, List.set_cons_zero, List.set_cons_succ]
      refine wpAnyH_take (i := 8) (oi := { dst := some 39, op := Op.load 24 (Operand.tmp 3), type := 24, pos := "low.go:82", after := #[{ on := 6, ground := Ground.guard }], guard := some (6, true) }) (v := undef) rfl (by kernel_rfl) (by kernel_rfl) (by kernel_rfl) (fun _ _ _ h => h) (Or.inr ⟨by rfl, rfl⟩) hHeld ?_
      try simp only [Act.put, List.setIfInBounds_toArray, List.set_cons_zero, List.set_cons_succ]
      refine wpAnyH_take (i := 9) (oi := { dst := some 40, op := Op.move (Operand.tmp 1), type := 31, pos := "low.go:82", after := #[{ on := 6, ground := Ground.guard }], guard := some (6, true) }) (v := undef) rfl (by kernel_rfl) (by kernel_rfl) (by kernel_rfl) (fun _ _ _ h => h) (Or.inr ⟨by rfl, rfl⟩) hHeld ?_
      try simp only [Act.put, List.setIfInBounds_toArray, List.set_cons_zero, List.set_cons_succ]
      refine wpAnyH_take (i := 10) (oi := { dst := some 41, op := Op.call { callee := Callee.value (Operand.func 15), args := #[Operand.tmp 39, Operand.tmp 40], argTypes := #[24, 31] }, type := 24, pos := "low.go:82", after := #[{ on := 8, ground := Ground.data }, { on := 9, ground := Ground.data }, { on := 6, ground := Ground.chain }, { on := 6, ground := Ground.guard }], guard := some (6, true) }) (v := undef) rfl (by kernel_rfl) (by kernel_rfl) (by kernel_rfl) (fun _ _ _ h => h) (Or.inr ⟨by rfl, rfl⟩) hHeld ?_
      try simp only [Act.put, List.setIfInBounds_toArray, List.set_cons_zero, List.set_cons_succ]
      refine wpAnyH_take (i := 11) (oi := { dst := some 42, op := Op.call { callee := Callee.value (Operand.func 11), args := #[Operand.tmp 38, Operand.tmp 41], argTypes := #[24, 24] }, type := 4, pos := "low.go:82", after := #[{ on := 7, ground := Ground.data }, { on := 10, ground := Ground.data }, { on := 10, ground := Ground.chain }, { on := 6, ground := Ground.guard }], guard := some (6, true) }) (v := undef) rfl (by kernel_rfl) (by kernel_rfl) (by kernel_rfl) (fun _ _ _ h => h) (Or.inr ⟨by rfl, rfl⟩) hHeld ?_
      try simp only [Act.put, List.setIfInBounds_toArray, List.set_cons_zero, List.set_cons_succ]
      refine wpAnyH_take (i := 12) (oi := { dst := some 43, op := Op.unOp UnOp.not 4 (Operand.tmp 42), type := 4, pos := "low.go:82", after := #[{ on := 11, ground := Ground.data }, { on := 6, ground := Ground.guard }], guard := some (6, true) }) (v := undef) rfl (by kernel_rfl) (by kernel_rfl) (by kernel_rfl) (fun _ _ _ h => h) (Or.inr ⟨by rfl, rfl⟩) hHeld ?_
      try simp only [Act.put, List.setIfInBounds_toArray, List.set_cons_zero, List.set_cons_succ]
      refine wpAnyH_take (i := 13) (oi := { dst := some 44, op := Op.pick (Operand.tmp 37) (Operand.tmp 43) (Operand.const (Value.bool false)), type := 4, pos := "low.go:82", after := #[{ on := 6, ground := Ground.data }, { on := 12, ground := Ground.data }, { on := 3, ground := Ground.guard }], guard := some (3, false) }) (v := ?_) rfl (by kernel_rfl) (by kernel_rfl) (by kernel_rfl) (fun _ _ _ h => h) (Or.inl ⟨by rfl, ?_⟩) hHeld ?_
      rotate_left
      · (intro w' hSw; (try dsimp only at hSw); go_simp; try with_reducible rfl)
      try simp only [Act.put, List.setIfInBounds_toArray, List.set_cons_zero, List.set_cons_succ]
      refine wpAnyH_take (i := 14) (oi := { dst := some 45, op := Op.pick (Operand.tmp 34) (Operand.const (Value.bool true)) (Operand.tmp 44), type := 4, pos := "low.go:82", after := #[{ on := 3, ground := Ground.data }, { on := 13, ground := Ground.data }], guard := none }) (v := ?_) rfl (by kernel_rfl) (by kernel_rfl) (by kernel_rfl) (fun _ _ _ h => h) (Or.inl ⟨by rfl, ?_⟩) hHeld ?_
      rotate_left
      · (intro w' hSw; (try dsimp only at hSw); go_simp; try with_reducible rfl)
      try simp only [Act.put, List.setIfInBounds_toArray, List.set_cons_zero, List.set_cons_succ]
      refine wpAnyH_take (i := 15) (oi := { dst := some 46, op := Op.move (Operand.tmp 45), type := 4, pos := "low.go:82", after := #[{ on := 14, ground := Ground.data }, { on := 11, ground := Ground.chain }], guard := none }) (v := ?_) rfl (by kernel_rfl) (by kernel_rfl) (by kernel_rfl) (fun _ _ _ h => h) (Or.inl ⟨by rfl, ?_⟩) hHeld ?_
      rotate_left
      · (intro w' hSw; (try dsimp only at hSw); go_simp; try with_reducible rfl)
      try simp only [Act.put, List.setIfInBounds_toArray, List.set_cons_zero, List.set_cons_succ]
      refine wpAnyH_take (i := 16) (oi := { dst := some 47, op := Op.move (Operand.tmp 8), type := 26, pos := "low.go:82", after := #[{ on := 15, ground := Ground.guard }], guard := some (15, false) }) (v := ?_) rfl (by kernel_rfl) (by kernel_rfl) (by kernel_rfl) (fun _ _ _ h => h) (Or.inl ⟨by rfl, ?_⟩) hHeld ?_
      rotate_left
      · (intro w' hSw; (try dsimp only at hSw); go_simp; try with_reducible rfl)
      try simp only [Act.put, List.setIfInBounds_toArray, List.set_cons_zero, List.set_cons_succ]
      refine wpAnyH_take (i := 17) (oi := { dst := some 48, op := Op.binOp BinOp.neq 26 (Operand.tmp 47) (Operand.const (Value.int IntKind.i64 0)) 26, type := 4, pos := "low.go:82", after := #[{ on := 16, ground := Ground.data }, { on := 15, ground := Ground.guard }], guard := some (15, false) }) (v := ?_) rfl (by kernel_rfl) (by kernel_rfl) (by kernel_rfl) (fun _ _ _ h => h) (Or.inl ⟨by rfl, ?_⟩) hHeld ?_
      rotate_left
      · (intro w' hSw; (try dsimp only at hSw); go_simp; try with_reducible rfl)
      try simp only [Act.put, List.setIfInBounds_toArray, List.set_cons_zero, List.set_cons_succ]
      refine wpAnyH_take (i := 18) (oi := { dst := some 49, op := Op.move (Operand.tmp 48), type := 4, pos := "low.go:82", after := #[{ on := 17, ground := Ground.data }, { on := 15, ground := Ground.chain }, { on := 15, ground := Ground.guard }], guard := some (15, false) }) (v := ?_) rfl (by kernel_rfl) (by kernel_rfl) (by kernel_rfl) (fun _ _ _ h => h) (Or.inl ⟨by rfl, ?_⟩) hHeld ?_
      rotate_left
      · (intro w' hSw; (try dsimp only at hSw); go_simp; try with_reducible rfl)
      try simp only [Act.put, List.setIfInBounds_toArray, List.set_cons_zero, List.set_cons_succ]
      refine wpAnyH_take (i := 19) (oi := { dst := some 50, op := Op.load 24 (Operand.tmp 7), type := 24, pos := "low.go:82", after := #[{ on := 18, ground := Ground.guard }], guard := some (18, true) }) (v := ?_) rfl (by kernel_rfl) (by kernel_rfl) (by kernel_rfl) (fun _ _ _ h => h) (Or.inl ⟨by rfl, ?_⟩) hHeld ?_
      rotate_left
      · (intro w' hSw; (try dsimp only at hSw); go_simp; try with_reducible rfl)
      try simp only [Act.put, List.setIfInBounds_toArray, List.set_cons_zero, List.set_cons_succ]
      refine wpAnyH_ready (rs := [20]) (by kernel_rfl) (by simp) ?_
      refine AllReadyH.cons (o := { dst := some 51, op := Op.call { callee := Callee.value (Operand.func 16), args := #[Operand.tmp 50], argTypes := #[24] }, type := 4, pos := "low.go:82", after := #[{ on := 19, ground := Ground.data }, { on := 18, ground := Ground.chain }, { on := 18, ground := Ground.guard }], guard := some (18, true) }) rfl (fun K hK => ?_) AllReadyH.nil
      have hHold := hHeld
      clear hHeld
      go_simp
      refine hno.mono ?_
      clear hno
      rintro e W7 ⟨rfl, hb7⟩
      have hbd := bcell hb7
      go_wp2_with fail
      refine hK.out _ _ ?_ (fun hHeld => ?_)
      · ((try dsimp only); go_keep)
      clear hK K hHold
      try simp only [Act.put, List.setIfInBounds_toArray, List.set_cons_zero, List.set_cons_succ]
      refine wpAnyH_take (i := 21) (oi := { dst := some 52, op := Op.unOp UnOp.not 4 (Operand.tmp 51), type := 4, pos := "low.go:82", after := #[{ on := 20, ground := Ground.data }, { on := 18, ground := Ground.guard }], guard := some (18, true) }) (v := ?_) rfl (by kernel_rfl) (by kernel_rfl) (by kernel_rfl) (fun _ _ _ h => h) (Or.inl ⟨by rfl, ?_⟩) hHeld ?_
      rotate_left
      · (intro w' hSw; (try dsimp only at hSw); go_simp; try with_reducible rfl)
      try simp only [Act.put, List.setIfInBounds_toArray, List.set_cons_zero, List.set_cons_succ]
      refine wpAnyH_take (i := 22) (oi := { dst := some 53, op := Op.pick (Operand.tmp 49) (Operand.tmp 52) (Operand.const (Value.bool false)), type := 4, pos := "low.go:82", after := #[{ on := 18, ground := Ground.data }, { on := 21, ground := Ground.data }, { on := 15, ground := Ground.guard }], guard := some (15, false) }) (v := ?_) rfl (by kernel_rfl) (by kernel_rfl) (by kernel_rfl) (fun _ _ _ h => h) (Or.inl ⟨by rfl, ?_⟩) hHeld ?_
      rotate_left
      · (intro w' hSw; (try dsimp only at hSw); go_simp; try with_reducible rfl)
      try simp only [Act.put, List.setIfInBounds_toArray, List.set_cons_zero, List.set_cons_succ]
      refine wpAnyH_take (i := 23) (oi := { dst := some 54, op := Op.pick (Operand.tmp 46) (Operand.const (Value.bool true)) (Operand.tmp 53), type := 4, pos := "low.go:82", after := #[{ on := 15, ground := Ground.data }, { on := 22, ground := Ground.data }], guard := none }) (v := ?_) rfl (by kernel_rfl) (by kernel_rfl) (by kernel_rfl) (fun _ _ _ h => h) (Or.inl ⟨by rfl, ?_⟩) hHeld ?_
      rotate_left
      · (intro w' hSw; (try dsimp only at hSw); go_simp; try with_reducible rfl)
      try simp only [Act.put, List.setIfInBounds_toArray, List.set_cons_zero, List.set_cons_succ]
      refine wpAnyH_done (by kernel_rfl) ?_ _
      refine NoPanic.normal ?_
      have hb57 : Below W5.heap.size W5 W7 := hb7
      have hB7 : Below w.heap.size w W7 := hB5.trans (hb57.mono hB5.size)
      have hC7 := (unhide HC).below hb57
      have HC7 := hide hC7
      clear hC7 hb57 hbd hHeld c0 c1 c2 c3 x0 x1 x2 x3
      go_wp2_with fail
      refine ((unhide HBS) W7 hB7).mono ?_
      rintro e W8 ⟨hs8, hb8⟩
      obtain ⟨p', rfl, hs8⟩ := says_int hs8
      have HS8 := hide hs8
      clear hs8
      have hB8 : Below w.heap.size w W8 := hB7.trans (hb8.mono hB7.size)
      go_wp2_with fail
      refine ((unhide HBU) W8 hB8).mono ?_
      rintro e W9 ⟨hs9, hb9⟩
      obtain ⟨q', rfl, hs9⟩ := says_int hs9
      have hB9 : Below w.heap.size w W9 := hB8.trans (hb9.mono hB8.size)
      have hC9 := (unhide HC7).below (hb8.trans (hb9.mono hb8.size))
      have HC9 := hide hC9
      have h3 := three_says (unhide HS8) hs9 hC9.1
      clear hC9 hb8 hb9 HS8 hs9 HC7
      rcases h3 with ⟨rfl, rfl, rfl⟩ | h3
      · obtain ⟨hoks, ho⟩ := (unhide HC9).2.1 rfl
        have hrc := (unhide HRC) W9 hB9 hoks
        have HO := hide ho
        clear hoks ho
        go_wp2_with fail
        refine hrc.mono ?_
        clear hrc
        rintro e W10 ⟨v, rfl, hb10, hv⟩
        have ho10 := (unhide HO).below hb10
        rw [insF_madeC] at ho10
        have h2 := two_compose ho10 hv
        have hB10 : Below w.heap.size w W10 := hB9.trans (hb10.mono hB9.size)
        clear ho10 hv hb10
        go_wp2_with fail
        refine h2.mono ?_
        rintro e W11 ⟨rfl, hb11⟩
        have hB11 : Below w.heap.size w W11 := hB10.trans (hb11.mono hB10.size)
        clear h2 hb11
        go_wp2_with fail
        exact bodyPost_ret (v := .bool true) (by simp [results, Try.results4, go_sem]) rfl ⟨rfl, hB11⟩
      · have hv : (.slice la ll lc : Value) = .slice none 0 0 := (unhide HC9).2.2 (by omega)
        simp only [Value.slice.injEq] at hv
        obtain ⟨rfl, rfl, rfl⟩ := hv
        rcases h3 with ⟨rfl, rfl, rfl⟩ | ⟨rfl, rfl, rfl⟩ | ⟨rfl, rfl, rfl⟩ | ⟨rfl, rfl, rfl⟩ | ⟨rfl, rfl, rfl⟩ | ⟨rfl, rfl, rfl⟩ | ⟨rfl, rfl, rfl⟩ | ⟨rfl, rfl, rfl⟩
        all_goals
          clear HC9
          go_wp2_with fail
          exact bodyPost_ret (v := .bool true) (by simp [results, Try.results4, go_sem]) rfl ⟨rfl, hB9⟩
    | true =>
      obtain rfl : p = r := (unhide HW).1 hok
      have hr1 : (p == 0) = false := by rw [beq_eq_false_iff_ne]; exact hr
      have hr2 : (p != 0) = true := by rw [bne_iff_ne]; exact hr
      go_wp2_with fail
      refine wp_region_noPanic ?_
      refine wp_region_held_drew (S := (fun w' => w'.cell? ⟨W1.heap.size, 0, none⟩ = some (.int .i64 0) ∧ w'.cell? ⟨W1.heap.size, 1, none⟩ = some (.int .i64 0) ∧ w'.cell? ⟨W1.heap.size, 2, none⟩ = some (.string ⟨#[]⟩) ∧ w'.cell? ⟨W1.heap.size, 3, none⟩ = some (.slice none 0 0))) (by kernel_rfl) ?_ (fun hHeld => ?_)
      · go_keep
      refine wpAnyH_take (i := 0) (oi := { dst := some 31, op := Op.move (Operand.tmp 8), type := 26, pos := "low.go:82", after := #[], guard := none }) (v := ?_) rfl (by kernel_rfl) (by kernel_rfl) (by kernel_rfl) (fun _ _ _ h => h) (Or.inl ⟨by rfl, ?_⟩) hHeld ?_
      rotate_left
      · (intro w' hSw; (try dsimp only at hSw); go_simp; try with_reducible rfl)
      try simp only [Act.put, List.setIfInBounds_toArray, List.set_cons_zero, List.set_cons_succ]
      refine wpAnyH_take (i := 1) (oi := { dst := some 32, op := Op.move (Operand.tmp 11), type := 26, pos := "low.go:82", after := #[], guard := none }) (v := ?_) rfl (by kernel_rfl) (by kernel_rfl) (by kernel_rfl) (fun _ _ _ h => h) (Or.inl ⟨by rfl, ?_⟩) hHeld ?_
      rotate_left
      · (intro w' hSw; (try dsimp only at hSw); go_simp; try with_reducible rfl)
      try simp only [Act.put, List.setIfInBounds_toArray, List.set_cons_zero, List.set_cons_succ]
      refine wpAnyH_take (i := 2) (oi := { dst := some 33, op := Op.binOp BinOp.neq 26 (Operand.tmp 31) (Operand.tmp 32) 26, type := 4, pos := "low.go:82", after := #[{ on := 0, ground := Ground.data }, { on := 1, ground := Ground.data }], guard := none }) (v := ?_) rfl (by kernel_rfl) (by kernel_rfl) (by kernel_rfl) (fun _ _ _ h => h) (Or.inl ⟨by rfl, ?_⟩) hHeld ?_
      rotate_left
      · (intro w' hSw; (try dsimp only at hSw); go_simp; try with_reducible rfl)
      try simp only [Act.put, List.setIfInBounds_toArray, List.set_cons_zero, List.set_cons_succ]
      refine wpAnyH_take (i := 3) (oi := { dst := some 34, op := Op.move (Operand.tmp 33), type := 4, pos := "low.go:82", after := #[{ on := 2, ground := Ground.data }], guard := none }) (v := ?_) rfl (by kernel_rfl) (by kernel_rfl) (by kernel_rfl) (fun _ _ _ h => h) (Or.inl ⟨by rfl, ?_⟩) hHeld ?_
      rotate_left
      · (intro w' hSw; (try dsimp only at hSw); go_simp; try with_reducible rfl)
      try simp only [Act.put, List.setIfInBounds_toArray, List.set_cons_zero, List.set_cons_succ]
      refine wpAnyH_take (i := 4) (oi := { dst := some 35, op := Op.move (Operand.tmp 8), type := 26, pos := "low.go:82", after := #[{ on := 3, ground := Ground.guard }], guard := some (3, false) }) (v := ?_) rfl (by kernel_rfl) (by kernel_rfl) (by kernel_rfl) (fun _ _ _ h => h) (Or.inl ⟨by rfl, ?_⟩) hHeld ?_
      rotate_left
      · (intro w' hSw; (try dsimp only at hSw); go_simp; try with_reducible rfl)
      try simp only [Act.put, List.setIfInBounds_toArray, List.set_cons_zero, List.set_cons_succ]
      refine wpAnyH_take (i := 5) (oi := { dst := some 36, op := Op.binOp BinOp.eql 26 (Operand.tmp 35) (Operand.const (Value.int IntKind.i64 0)) 26, type := 4, pos := "low.go:82", after := #[{ on := 4, ground := Ground.data }, { on := 3, ground := Ground.guard }], guard := some (3, false) }) (v := ?_) rfl (by kernel_rfl) (by kernel_rfl) (by kernel_rfl) (fun _ _ _ h => h) (Or.inl ⟨by rfl, ?_⟩) hHeld ?_
      rotate_left
      · (intro w' hSw; (try dsimp only at hSw); go_simp; try with_reducible rfl)
      try simp only [Act.put, List.setIfInBounds_toArray, List.set_cons_zero, List.set_cons_succ]
      refine wpAnyH_take (i := 6) (oi := { dst := some 37, op := Op.move (Operand.tmp 36), type := 4, pos := "low.go:82", after := #[{ on := 5, ground := Ground.data }, { on := 3, ground := Ground.chain }, { on := 3, ground := Ground.guard }], guard := some (3, false) }) (v := ?_) rfl (by kernel_rfl) (by kernel_rfl) (by kernel_rfl) (fun _ _ _ h => h) (Or.inl ⟨by rfl, ?_⟩) hHeld ?_
      rotate_left
      · (intro w' hSw; (try dsimp only at hSw); go_simp; try with_reducible rfl)
      try simp only [Act.put, List.setIfInBounds_toArray, List.set_cons_zero, List.set_cons_succ]
      refine wpAnyH_take (i := 7) (oi := { dst := some 38, op := Op.load 24 (Operand.tmp 7), type := 24, pos := "low.go:82", after := #[{ on := 6, ground := Ground.guard }], guard := some (6, true) }) (v := undef) rfl (by kernel_rfl) (by kernel_rfl) (by kernel_rfl) (fun _ _ _ h => h) (Or.inr ⟨by rfl, rfl⟩) hHeld ?_
      try simp only [Act.put, List.setIfInBounds_toArray, List.set_cons_zero, List.set_cons_succ]
      refine wpAnyH_take (i := 8) (oi := { dst := some 39, op := Op.load 24 (Operand.tmp 3), type := 24, pos := "low.go:82", after := #[{ on := 6, ground := Ground.guard }], guard := some (6, true) }) (v := undef) rfl (by kernel_rfl) (by kernel_rfl) (by kernel_rfl) (fun _ _ _ h => h) (Or.inr ⟨by rfl, rfl⟩) hHeld ?_
      try simp only [Act.put, List.setIfInBounds_toArray, List.set_cons_zero, List.set_cons_succ]
      refine wpAnyH_take (i := 9) (oi := { dst := some 40, op := Op.move (Operand.tmp 1), type := 31, pos := "low.go:82", after := #[{ on := 6, ground := Ground.guard }], guard := some (6, true) }) (v := undef) rfl (by kernel_rfl) (by kernel_rfl) (by kernel_rfl) (fun _ _ _ h => h) (Or.inr ⟨by rfl, rfl⟩) hHeld ?_
      try simp only [Act.put, List.setIfInBounds_toArray, List.set_cons_zero, List.set_cons_succ]
      refine wpAnyH_take (i := 10) (oi := { dst := some 41, op := Op.call { callee := Callee.value (Operand.func 15), args := #[Operand.tmp 39, Operand.tmp 40], argTypes := #[24, 31] }, type := 24, pos := "low.go:82", after := #[{ on := 8, ground := Ground.data }, { on := 9, ground := Ground.data }, { on := 6, ground := Ground.chain }, { on := 6, ground := Ground.guard }], guard := some (6, true) }) (v := undef) rfl (by kernel_rfl) (by kernel_rfl) (by kernel_rfl) (fun _ _ _ h => h) (Or.inr ⟨by rfl, rfl⟩) hHeld ?_
      try simp only [Act.put, List.setIfInBounds_toArray, List.set_cons_zero, List.set_cons_succ]
      refine wpAnyH_take (i := 11) (oi := { dst := some 42, op := Op.call { callee := Callee.value (Operand.func 11), args := #[Operand.tmp 38, Operand.tmp 41], argTypes := #[24, 24] }, type := 4, pos := "low.go:82", after := #[{ on := 7, ground := Ground.data }, { on := 10, ground := Ground.data }, { on := 10, ground := Ground.chain }, { on := 6, ground := Ground.guard }], guard := some (6, true) }) (v := undef) rfl (by kernel_rfl) (by kernel_rfl) (by kernel_rfl) (fun _ _ _ h => h) (Or.inr ⟨by rfl, rfl⟩) hHeld ?_
      try simp only [Act.put, List.setIfInBounds_toArray, List.set_cons_zero, List.set_cons_succ]
      refine wpAnyH_take (i := 12) (oi := { dst := some 43, op := Op.unOp UnOp.not 4 (Operand.tmp 42), type := 4, pos := "low.go:82", after := #[{ on := 11, ground := Ground.data }, { on := 6, ground := Ground.guard }], guard := some (6, true) }) (v := undef) rfl (by kernel_rfl) (by kernel_rfl) (by kernel_rfl) (fun _ _ _ h => h) (Or.inr ⟨by rfl, rfl⟩) hHeld ?_
      try simp only [Act.put, List.setIfInBounds_toArray, List.set_cons_zero, List.set_cons_succ]
      refine wpAnyH_take (i := 13) (oi := { dst := some 44, op := Op.pick (Operand.tmp 37) (Operand.tmp 43) (Operand.const (Value.bool false)), type := 4, pos := "low.go:82", after := #[{ on := 6, ground := Ground.data }, { on := 12, ground := Ground.data }, { on := 3, ground := Ground.guard }], guard := some (3, false) }) (v := ?_) rfl (by kernel_rfl) (by kernel_rfl) (by kernel_rfl) (fun _ _ _ h => h) (Or.inl ⟨by rfl, ?_⟩) hHeld ?_
      rotate_left
      · (intro w' hSw; (try dsimp only at hSw); go_simp; try with_reducible rfl)
      try simp only [Act.put, List.setIfInBounds_toArray, List.set_cons_zero, List.set_cons_succ]
      refine wpAnyH_take (i := 14) (oi := { dst := some 45, op := Op.pick (Operand.tmp 34) (Operand.const (Value.bool true)) (Operand.tmp 44), type := 4, pos := "low.go:82", after := #[{ on := 3, ground := Ground.data }, { on := 13, ground := Ground.data }], guard := none }) (v := ?_) rfl (by kernel_rfl) (by kernel_rfl) (by kernel_rfl) (fun _ _ _ h => h) (Or.inl ⟨by rfl, ?_⟩) hHeld ?_
      rotate_left
      · (intro w' hSw; (try dsimp only at hSw); go_simp; try with_reducible rfl)
      try simp only [Act.put, List.setIfInBounds_toArray, List.set_cons_zero, List.set_cons_succ]
      refine wpAnyH_take (i := 15) (oi := { dst := some 46, op := Op.move (Operand.tmp 45), type := 4, pos := "low.go:82", after := #[{ on := 14, ground := Ground.data }, { on := 11, ground := Ground.chain }], guard := none }) (v := ?_) rfl (by kernel_rfl) (by kernel_rfl) (by kernel_rfl) (fun _ _ _ h => h) (Or.inl ⟨by rfl, ?_⟩) hHeld ?_
      rotate_left
      · (intro w' hSw; (try dsimp only at hSw); go_simp; try with_reducible rfl)
      try simp only [Act.put, List.setIfInBounds_toArray, List.set_cons_zero, List.set_cons_succ]
      refine wpAnyH_take (i := 16) (oi := { dst := some 47, op := Op.move (Operand.tmp 8), type := 26, pos := "low.go:82", after := #[{ on := 15, ground := Ground.guard }], guard := some (15, false) }) (v := ?_) rfl (by kernel_rfl) (by kernel_rfl) (by kernel_rfl) (fun _ _ _ h => h) (Or.inl ⟨by rfl, ?_⟩) hHeld ?_
      rotate_left
      · (intro w' hSw; (try dsimp only at hSw); go_simp; try with_reducible rfl)
      try simp only [Act.put, List.setIfInBounds_toArray, List.set_cons_zero, List.set_cons_succ]
      refine wpAnyH_take (i := 17) (oi := { dst := some 48, op := Op.binOp BinOp.neq 26 (Operand.tmp 47) (Operand.const (Value.int IntKind.i64 0)) 26, type := 4, pos := "low.go:82", after := #[{ on := 16, ground := Ground.data }, { on := 15, ground := Ground.guard }], guard := some (15, false) }) (v := ?_) rfl (by kernel_rfl) (by kernel_rfl) (by kernel_rfl) (fun _ _ _ h => h) (Or.inl ⟨by rfl, ?_⟩) hHeld ?_
      rotate_left
      · (intro w' hSw; (try dsimp only at hSw); go_simp; try with_reducible rfl)
      try simp only [Act.put, List.setIfInBounds_toArray, List.set_cons_zero, List.set_cons_succ]
      refine wpAnyH_take (i := 18) (oi := { dst := some 49, op := Op.move (Operand.tmp 48), type := 4, pos := "low.go:82", after := #[{ on := 17, ground := Ground.data }, { on := 15, ground := Ground.chain }, { on := 15, ground := Ground.guard }], guard := some (15, false) }) (v := ?_) rfl (by kernel_rfl) (by kernel_rfl) (by kernel_rfl) (fun _ _ _ h => h) (Or.inl ⟨by rfl, ?_⟩) hHeld ?_
      rotate_left
      · (intro w' hSw; (try dsimp only at hSw); go_simp; try with_reducible rfl)
      try simp only [Act.put, List.setIfInBounds_toArray, List.set_cons_zero, List.set_cons_succ]
      refine wpAnyH_take (i := 19) (oi := { dst := some 50, op := Op.load 24 (Operand.tmp 7), type := 24, pos := "low.go:82", after := #[{ on := 18, ground := Ground.guard }], guard := some (18, true) }) (v := ?_) rfl (by kernel_rfl) (by kernel_rfl) (by kernel_rfl) (fun _ _ _ h => h) (Or.inl ⟨by rfl, ?_⟩) hHeld ?_
      rotate_left
      · (intro w' hSw; (try dsimp only at hSw); go_simp; try with_reducible rfl)
      try simp only [Act.put, List.setIfInBounds_toArray, List.set_cons_zero, List.set_cons_succ]
      refine wpAnyH_ready (rs := [20]) (by kernel_rfl) (by simp) ?_
      refine AllReadyH.cons (o := { dst := some 51, op := Op.call { callee := Callee.value (Operand.func 16), args := #[Operand.tmp 50], argTypes := #[24] }, type := 4, pos := "low.go:82", after := #[{ on := 19, ground := Ground.data }, { on := 18, ground := Ground.chain }, { on := 18, ground := Ground.guard }], guard := some (18, true) }) rfl (fun K hK => ?_) AllReadyH.nil
      have hHold := hHeld
      clear hHeld
      go_simp
      refine hno.mono ?_
      clear hno
      rintro e W7 ⟨rfl, hb7⟩
      have hbd := bcell hb7
      go_wp2_with fail
      refine hK.out _ _ ?_ (fun hHeld => ?_)
      · ((try dsimp only); go_keep)
      clear hK K hHold
      try simp only [Act.put, List.setIfInBounds_toArray, List.set_cons_zero, List.set_cons_succ]
      refine wpAnyH_take (i := 21) (oi := { dst := some 52, op := Op.unOp UnOp.not 4 (Operand.tmp 51), type := 4, pos := "low.go:82", after := #[{ on := 20, ground := Ground.data }, { on := 18, ground := Ground.guard }], guard := some (18, true) }) (v := ?_) rfl (by kernel_rfl) (by kernel_rfl) (by kernel_rfl) (fun _ _ _ h => h) (Or.inl ⟨by rfl, ?_⟩) hHeld ?_
      rotate_left
      · (intro w' hSw; (try dsimp only at hSw); go_simp; try with_reducible rfl)
      try simp only [Act.put, List.setIfInBounds_toArray, List.set_cons_zero, List.set_cons_succ]
      refine wpAnyH_take (i := 22) (oi := { dst := some 53, op := Op.pick (Operand.tmp 49) (Operand.tmp 52) (Operand.const (Value.bool false)), type := 4, pos := "low.go:82", after := #[{ on := 18, ground := Ground.data }, { on := 21, ground := Ground.data }, { on := 15, ground := Ground.guard }], guard := some (15, false) }) (v := ?_) rfl (by kernel_rfl) (by kernel_rfl) (by kernel_rfl) (fun _ _ _ h => h) (Or.inl ⟨by rfl, ?_⟩) hHeld ?_
      rotate_left
      · (intro w' hSw; (try dsimp only at hSw); go_simp; try with_reducible rfl)
      try simp only [Act.put, List.setIfInBounds_toArray, List.set_cons_zero, List.set_cons_succ]
      refine wpAnyH_take (i := 23) (oi := { dst := some 54, op := Op.pick (Operand.tmp 46) (Operand.const (Value.bool true)) (Operand.tmp 53), type := 4, pos := "low.go:82", after := #[{ on := 15, ground := Ground.data }, { on := 22, ground := Ground.data }], guard := none }) (v := ?_) rfl (by kernel_rfl) (by kernel_rfl) (by kernel_rfl) (fun _ _ _ h => h) (Or.inl ⟨by rfl, ?_⟩) hHeld ?_
      rotate_left
      · (intro w' hSw; (try dsimp only at hSw); go_simp; try with_reducible rfl)
      try simp only [Act.put, List.setIfInBounds_toArray, List.set_cons_zero, List.set_cons_succ]
      refine wpAnyH_done (by kernel_rfl) ?_ _
      refine NoPanic.normal ?_
      have hb57 : Below W5.heap.size W5 W7 := hb7
      have hB7 : Below w.heap.size w W7 := hB5.trans (hb57.mono hB5.size)
      have hC7 := (unhide HC).below hb57
      have HC7 := hide hC7
      clear hC7 hb57 hbd hHeld c0 c1 c2 c3 x0 x1 x2 x3
      go_wp2_with fail
      refine ((unhide HBS) W7 hB7).mono ?_
      rintro e W8 ⟨hs8, hb8⟩
      obtain ⟨p', rfl, hs8⟩ := says_int hs8
      have HS8 := hide hs8
      clear hs8
      have hB8 : Below w.heap.size w W8 := hB7.trans (hb8.mono hB7.size)
      go_wp2_with fail
      refine ((unhide HBU) W8 hB8).mono ?_
      rintro e W9 ⟨hs9, hb9⟩
      obtain ⟨q', rfl, hs9⟩ := says_int hs9
      have hB9 : Below w.heap.size w W9 := hB8.trans (hb9.mono hB8.size)
      have hC9 := (unhide HC7).below (hb8.trans (hb9.mono hb8.size))
      have HC9 := hide hC9
      have h3 := three_says (unhide HS8) hs9 hC9.1
      clear hC9 hb8 hb9 HS8 hs9 HC7
      rcases h3 with ⟨rfl, rfl, rfl⟩ | h3
      · obtain ⟨hoks, ho⟩ := (unhide HC9).2.1 rfl
        have hrc := (unhide HRC) W9 hB9 hoks
        have HO := hide ho
        clear hoks ho
        go_wp2_with fail
        refine hrc.mono ?_
        clear hrc
        rintro e W10 ⟨v, rfl, hb10, hv⟩
        have ho10 := (unhide HO).below hb10
        rw [insF_madeC] at ho10
        have h2 := two_compose ho10 hv
        have hB10 : Below w.heap.size w W10 := hB9.trans (hb10.mono hB9.size)
        clear ho10 hv hb10
        go_wp2_with fail
        refine h2.mono ?_
        rintro e W11 ⟨rfl, hb11⟩
        have hB11 : Below w.heap.size w W11 := hB10.trans (hb11.mono hB10.size)
        clear h2 hb11
        go_wp2_with fail
        exact bodyPost_ret (v := .bool true) (by simp [results, Try.results4, go_sem]) rfl ⟨rfl, hB11⟩
      · have hv : (.slice la ll lc : Value) = .slice none 0 0 := (unhide HC9).2.2 (by omega)
        simp only [Value.slice.injEq] at hv
        obtain ⟨rfl, rfl, rfl⟩ := hv
        rcases h3 with ⟨rfl, rfl, rfl⟩ | ⟨rfl, rfl, rfl⟩ | ⟨rfl, rfl, rfl⟩ | ⟨rfl, rfl, rfl⟩ | ⟨rfl, rfl, rfl⟩ | ⟨rfl, rfl, rfl⟩ | ⟨rfl, rfl, rfl⟩ | ⟨rfl, rfl, rfl⟩
        all_goals
          clear HC9
          go_wp2_with fail
          exact bodyPost_ret (v := .bool true) (by simp [results, Try.results4, go_sem]) rfl ⟨rfl, hB9⟩
end Go.Proofs.Ytffbhinpmlcopaa

