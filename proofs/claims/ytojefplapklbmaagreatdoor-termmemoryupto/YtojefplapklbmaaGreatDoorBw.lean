import Derived.Test.YtojefplapklbmaaGreatDoorCp
/- The law hornlaw.TermBinds: it answers true, whatever the term and the two lists (of together at most 4194304 binds). -/
namespace Go.Proofs.YtojefplapklbmaaGreatDoor
open Go.RowKit Go.Shelf

/-- What Apply answers, of whatever term and binds. -/
def AppSays {n : Nat} (t : Tm n) (bs : List (Int × Tm n)) (lo : Nat) (W' : World) (x : TV) (r : Int) : Prop :=
  (r = 0 ∧ okT t = true ∧ (∀ p ∈ bs, okT p.2 = true) ∧ Subst bs ∧ HoldsT (n + (n + 1)) lo W' x.val ((code t).flatMap (subN (lookC (cb bs))))) ∨
  (r ≠ 0 ∧ x = ⟨0, 0, ⟨#[]⟩, none, 0, 0⟩ ∧ (okT t = false → r = 2) ∧ (okT t = true → ¬ ((∀ p ∈ bs, okT p.2 = true) ∧ Subst bs) ∧ ((∀ p ∈ bs, okT p.2 = true) → r = 1) ∧ ((¬ ∀ p ∈ bs, okT p.2 = true) → r = 2)))
theorem app_all {n : Nat} (t : Tm n) (bs : List (Int × Tm n)) (a : Option Addr) (len cap : Nat) (w : World) (hT : IsT w.heap.size w t) (hl : IsL w.heap.size w a len bs) :
    Calls Tryz.prog 17 #[t.tv.val, .slice a len cap] w fun e W' => ∃ (x : TV) (r : Int), e = .returned (.tuple #[x.val, .int .i64 r]) ∧ Below w.heap.size w W' ∧ AppSays t bs w.heap.size W' x r := by
  cases hok : okT t with
  | false =>
    refine (apply_bad t a len cap w hT hok).mono fun e W' h => ?_
    exact ⟨⟨0, 0, ⟨#[]⟩, none, 0, 0⟩, 2, h.1, h.2, .inr ⟨by decide, rfl, fun _ => rfl, fun h => by rw [hok] at h; cases h⟩⟩
  | true =>
    by_cases hs : (∀ p ∈ bs, okT p.2 = true) ∧ Subst bs
    · refine (apply_ok t bs a len cap w hT hl hok hs.1 hs.2).mono fun e W' h => ?_
      obtain ⟨x, h1, h2, h3⟩ := h
      exact ⟨x, 0, h1, h2, .inl ⟨rfl, hok, hs.1, hs.2, h3⟩⟩
    · refine (apply_err t bs a len cap w hT hl hok hs).mono fun e W' h => ?_
      obtain ⟨r, h1, ⟨h2, h3, h4⟩, h5⟩ := h
      exact ⟨⟨0, 0, ⟨#[]⟩, none, 0, 0⟩, r, h1, h5, .inr ⟨by omega, rfl, (fun h => by rw [hok] at h; cases h), fun _ => ⟨hs, h3, h4⟩⟩⟩

/-- What Compose answers, of whatever two lists. -/
def CompSays {n : Nat} (L L' : BL n) (W' : World) (v : Value) (f : Int) : Prop :=
  BindSays [L, L'] (.returned (.int .i64 f)) ∧ (f = 0 → (∀ p ∈ L.bs, okT p.2 = true) ∧ OutB (n + (n + 1)) W' v (L.len + L'.len) (insF (madeC (cb L.bs) (cb L'.bs)))) ∧ (f ≠ 0 → v = .slice none 0 0)
theorem CompSays.below {n : Nat} {L L' : BL n} {A B : World} {v : Value} {f : Int} (h : CompSays L L' A v f) (hb : Below A.heap.size A B) : CompSays L L' B v f := ⟨h.1, fun h0 => ⟨(h.2.1 h0).1, (h.2.1 h0).2.below hb⟩, h.2.2⟩
theorem comp_all {n : Nat} (ss us : List (Int × Tm n)) (a a' : Option Addr) (len cap len' cap' : Nat) (w : World) (hl : IsL w.heap.size w a len ss) (hl' : IsL w.heap.size w a' len' us) (hbig : len + len' ≤ 4194304) (hn40 : n ≤ 549755813888) :
    Calls Tryz.prog 69 #[.slice a len cap, .slice a' len' cap'] w fun e W' => ∃ (la : Option Addr) (ll lc : Nat) (f : Int), e = .returned (.tuple #[.slice la ll lc, .int .i64 f]) ∧ Below w.heap.size w W' ∧ CompSays ⟨a, len, cap, ss⟩ ⟨a', len', cap', us⟩ W' (.slice la ll lc) f := by
  by_cases h : (∀ L ∈ [(⟨a, len, cap, ss⟩ : BL n), ⟨a', len', cap', us⟩], okB L) ∧ ∀ L ∈ [(⟨a, len, cap, ss⟩ : BL n), ⟨a', len', cap', us⟩], Subst L.bs
  · have h1 : okB (⟨a, len, cap, ss⟩ : BL n) := h.1 _ (by simp)
    have h2 : okB (⟨a', len', cap', us⟩ : BL n) := h.1 _ (by simp)
    have h3 : Subst ss := h.2 ⟨a, len, cap, ss⟩ (by simp)
    have h4 : Subst us := h.2 ⟨a', len', cap', us⟩ (by simp)
    refine (compose_ok ss us a a' len cap len' cap' w hl hl' h1 h2 h3 h4 hbig hn40).mono fun e W' hh => ?_
    obtain ⟨v, e1, e2, e3⟩ := hh
    have e4 := e3
    obtain ⟨la, ll, lc, l, rfl, _⟩ := e4
    exact ⟨la, ll, lc, 0, e1, e2, says_zero h.1 h.2, fun _ => ⟨h1, e3⟩, fun h => (h rfl).elim⟩
  · refine (compose_bad ss us a a' len cap len' cap' w hl hl' h).mono fun e W' hh => ?_
    obtain ⟨r, e1, e2, e3⟩ := hh
    refine ⟨none, 0, 0, r, e1, e3, e2, fun h0 => ?_, fun _ => rfl⟩
    obtain ⟨r', e4, k2, k1, k0⟩ := e2
    simp only [Ending.returned.injEq, Value.int.injEq, true_and] at e4
    subst e4 h0
    by_cases h1 : ∀ L ∈ [(⟨a, len, cap, ss⟩ : BL n), ⟨a', len', cap', us⟩], okB L
    · have := k1 h1 (fun h2 => h ⟨h1, h2⟩); omega
    · have := k2 h1; omega

theorem says_int {n : Nat} {Ls : List (BL n)} {e : Ending} (h : BindSays Ls e) : ∃ r : Int, e = .returned (.int .i64 r) ∧ BindSays Ls (.returned (.int .i64 r)) := by
  obtain ⟨r, rfl, h1⟩ := h
  exact ⟨r, rfl, r, rfl, h1⟩
theorem says_open {n : Nat} {Ls : List (BL n)} {r : Int} (h : BindSays Ls (.returned (.int .i64 r))) : ((¬ ∀ L ∈ Ls, okB L) → r = 2) ∧ ((∀ L ∈ Ls, okB L) → (¬ ∀ L ∈ Ls, Subst L.bs) → r = 1) ∧ ((∀ L ∈ Ls, okB L) → (∀ L ∈ Ls, Subst L.bs) → r = 0) := by
  obtain ⟨r', e4, h⟩ := h
  simp only [Ending.returned.injEq, Value.int.injEq, true_and] at e4
  subst e4
  exact h
/-- The three answers. -/
theorem three_says {n : Nat} {L L' : BL n} {p q f : Int} (hp : BindSays [L] (.returned (.int .i64 p))) (hq : BindSays [L'] (.returned (.int .i64 q))) (hf : BindSays [L, L'] (.returned (.int .i64 f))) :
    (p = 0 ∧ q = 0 ∧ f = 0) ∨ (p = 1 ∧ q = 0 ∧ f = 1) ∨ (p = 0 ∧ q = 1 ∧ f = 1) ∨ (p = 1 ∧ q = 1 ∧ f = 1) ∨ (p = 2 ∧ q = 0 ∧ f = 2) ∨ (p = 2 ∧ q = 1 ∧ f = 2) ∨ (p = 2 ∧ q = 2 ∧ f = 2) ∨ (p = 0 ∧ q = 2 ∧ f = 2) ∨ (p = 1 ∧ q = 2 ∧ f = 2) := by
  have h1 := says_open hp
  have h2 := says_open hq
  have h3 := says_open hf
  simp only [List.mem_cons, List.not_mem_nil, or_false, forall_eq_or_imp, forall_eq] at h1 h2 h3
  by_cases a1 : okB L <;> by_cases a2 : okB L' <;> by_cases b1 : Subst L.bs <;> by_cases b2 : Subst L'.bs <;> simp [a1, a2, b1, b2] at h1 h2 h3 <;> simp [h1, h2, h3]
/-- What is wanted of Apply's error. -/
theorem want_eq {n : Nat} {t : Tm n} {a : Option Addr} {len cap : Nat} {bs : List (Int × Tm n)} {lo : Nat} {W' : World} {x : TV} {r p : Int} (h : AppSays t bs lo W' x r) (hp : BindSays [(⟨a, len, cap, bs⟩ : BL n)] (.returned (.int .i64 p))) : (okT t = true → p = r) ∧ (okT t = false → r = 2) := by
  have h1 := says_open hp
  simp only [List.mem_cons, List.not_mem_nil, or_false, forall_eq, okB] at h1
  rcases h with ⟨rfl, h2, h3, h4, _⟩ | ⟨h2, _, h3, h4⟩
  · exact ⟨fun _ => h1.2.2 h3 h4, fun h => by rw [h2] at h; cases h⟩
  · refine ⟨fun h => ?_, h3⟩
    obtain ⟨k0, k1, k2⟩ := h4 h
    by_cases ho : ∀ p ∈ bs, okT p.2 = true
    · rw [k1 ho, h1.2.1 ho (fun h => k0 ⟨ho, h⟩)]
    · rw [k2 ho, h1.1 ho]

/-- The two roads of Apply: the same answer. -/
theorem two_apply {n : Nat} {lo : Nat} {S : Nat → Prop} {W W' : World} {x y : TV} {c : List Nd} (hn40 : n ≤ 549755813888) (hx : HoldsT (n + (n + 1)) lo W x.val c) (hb : Below W.heap.size W W') (hy : HoldsS (n + (n + 1)) S W' y.val c) :
    Calls Tryz.prog 41 #[x.val, y.val] W' fun e W2 => e = .returned (.bool true) ∧ Below W'.heap.size W' W2 := by
  obtain ⟨u, u1, u2, u3, u4⟩ := hx _ (Nat.le_refl _)
  obtain ⟨v, v1, v2, v3, v4⟩ := hy _ (Nat.le_refl _) (by omega)
  have u2' : IsT W'.heap.size W' u := ((u2 (by omega)).below hb).mono hb.size
  have h := same_any _ u v W' u2' v2
  rw [← u1, ← v1] at h
  have hs : sameT u v = true := by rw [sameT_code u2'.wl v2.wl]; exact decide_eq_true (by rw [u4, v4])
  rw [hs] at h
  exact h
/-- The two roads of Compose: the same answer. -/
theorem two_compose {D : Nat} {W : World} {v v' : Value} {k k' : Nat} {c : List (Int × List Nd)} (h : OutB D W v k c) (h' : OutB D W v' k' c) :
    Calls Tryz.prog 49 #[v, v'] W fun e W2 => e = .returned (.bool true) ∧ Below W.heap.size W W2 := by
  obtain ⟨a, len, cap, l, rfl, h2, _⟩ := h
  obtain ⟨a', len', cap', l', rfl, h2', _⟩ := h'
  obtain ⟨ks, k1, k2, _⟩ := h2.2 D (Nat.le_refl _) h2.1
  obtain ⟨ks', k1', k2', _⟩ := h2'.2 D (Nat.le_refl _) h2'.1
  have h := sameBinds_any ks ks' a a' len len' cap cap' W k1 k1'
  have hs : sameBs ks ks' = true := (sameBs_code ks ks' (fun p hp => (isL_mem k1 p hp).wl) (fun p hp => (isL_mem k1' p hp).wl)).2 (by rw [k2, k2'])
  rw [hs] at h
  exact h

end Go.Proofs.YtojefplapklbmaaGreatDoor

