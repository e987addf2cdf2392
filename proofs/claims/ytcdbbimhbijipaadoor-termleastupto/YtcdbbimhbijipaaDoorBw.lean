import Derived.Test.YtcdbbimhbijipaaDoorCms
/- The law hornlaw.TermBinds: it answers true, whatever the term and the two lists (of together at most 4194304 binds). -/
namespace Go.Proofs.YtcdbbimhbijipaaDoor
open Go.RowKit Go.Shelf

/-- What Apply answers, of whatever term and binds. -/
def AppSays {n : Nat} (t : Tm n) (bs : List (Int × Tm n)) (lo : Nat) (W' : World) (x : TV) (r : Int) : Prop :=
  (r = 0 ∧ okT t = true ∧ (∀ p ∈ bs, okT p.2 = true) ∧ Subst bs ∧ HoldsT (n + (n + 1)) lo W' x.val ((code t).flatMap (subN (lookC (cb bs))))) ∨
  (r ≠ 0 ∧ x = ⟨0, 0, ⟨#[]⟩, none, 0, 0⟩ ∧ (okT t = false → r = 2) ∧ (okT t = true → ¬ ((∀ p ∈ bs, okT p.2 = true) ∧ Subst bs) ∧ ((∀ p ∈ bs, okT p.2 = true) → r = 1) ∧ ((¬ ∀ p ∈ bs, okT p.2 = true) → r = 2)))
/-- What Compose answers, of whatever two lists. -/
def CompSays {n : Nat} (L L' : BL n) (W' : World) (v : Value) (f : Int) : Prop :=
  BindSays [L, L'] (.returned (.int .i64 f)) ∧ (f = 0 → (∀ p ∈ L.bs, okT p.2 = true) ∧ OutB (n + (n + 1)) W' v (L.len + L'.len) (insF (madeC (cb L.bs) (cb L'.bs)))) ∧ (f ≠ 0 → v = .slice none 0 0)
theorem CompSays.below {n : Nat} {L L' : BL n} {A B : World} {v : Value} {f : Int} (h : CompSays L L' A v f) (hb : Below A.heap.size A B) : CompSays L L' B v f := ⟨h.1, fun h0 => ⟨(h.2.1 h0).1, (h.2.1 h0).2.below hb⟩, h.2.2⟩
theorem says_int {n : Nat} {Ls : List (BL n)} {e : Ending} (h : BindSays Ls e) : ∃ r : Int, e = .returned (.int .i64 r) ∧ BindSays Ls (.returned (.int .i64 r)) := by
  obtain ⟨r, rfl, h1⟩ := h
  exact ⟨r, rfl, r, rfl, h1⟩
theorem says_open {n : Nat} {Ls : List (BL n)} {r : Int} (h : BindSays Ls (.returned (.int .i64 r))) : ((¬ ∀ L ∈ Ls, okB L) → r = 2) ∧ ((∀ L ∈ Ls, okB L) → (¬ ∀ L ∈ Ls, Subst L.bs) → r = 1) ∧ ((∀ L ∈ Ls, okB L) → (∀ L ∈ Ls, Subst L.bs) → r = 0) := by
  obtain ⟨r', e4, h⟩ := h
  simp only [Ending.returned.injEq, Value.int.injEq, true_and] at e4
  subst e4
  exact h
/-- The three answers. -/
theorem three_says {n : Nat} {L L' : BL n} {p q f : Int} (hp : BindSays [L] (.returned (.int .i64 p))) (hq : BindSays [L'] (.returned (.int .i64 q))) (hf : BindSays [L, L'] (.returned (.int .i64 f))) :
    (p = 0 ∧ q = 0 ∧ f = 0) ∨ (p = 1 ∧ q = 0 ∧ f = 1) ∨ (p = 0 ∧ q = 1 ∧ f = 1) ∨ (p = 1 ∧ q = 1 ∧ f = 1) ∨ (p = 2 ∧ q = 0 ∧ f = 2) ∨ (p = 2 ∧ q = 1 ∧ f = 2) ∨ (p = 2 ∧ q = 2 ∧ f = 2) ∨ (p = 0 ∧ q = 2 ∧ f = 2) ∨ (p = 1 ∧ q = 2 ∧ f = 2) := by
  have h1 := says_open hp
  have h2 := says_open hq
  have h3 := says_open hf
  simp only [List.mem_cons, List.not_mem_nil, or_false, forall_eq_or_imp, forall_eq] at h1 h2 h3
  by_cases a1 : okB L <;> by_cases a2 : okB L' <;> by_cases b1 : Subst L.bs <;> by_cases b2 : Subst L'.bs <;> simp [a1, a2, b1, b2] at h1 h2 h3 <;> simp [h1, h2, h3]
/-- What is wanted of Apply's error. -/
theorem want_eq {n : Nat} {t : Tm n} {a : Option Addr} {len cap : Nat} {bs : List (Int × Tm n)} {lo : Nat} {W' : World} {x : TV} {r p : Int} (h : AppSays t bs lo W' x r) (hp : BindSays [(⟨a, len, cap, bs⟩ : BL n)] (.returned (.int .i64 p))) : (okT t = true → p = r) ∧ (okT t = false → r = 2) := by
  have h1 := says_open hp
  simp only [List.mem_cons, List.not_mem_nil, or_false, forall_eq, okB] at h1
  rcases h with ⟨rfl, h2, h3, h4, _⟩ | ⟨h2, _, h3, h4⟩
  · exact ⟨fun _ => h1.2.2 h3 h4, fun h => by rw [h2] at h; cases h⟩
  · refine ⟨fun h => ?_, h3⟩
    obtain ⟨k0, k1, k2⟩ := h4 h
    by_cases ho : ∀ p ∈ bs, okT p.2 = true
    · rw [k1 ho, h1.2.1 ho (fun h => k0 ⟨ho, h⟩)]
    · rw [k2 ho, h1.1 ho]

end Go.Proofs.YtcdbbimhbijipaaDoor

