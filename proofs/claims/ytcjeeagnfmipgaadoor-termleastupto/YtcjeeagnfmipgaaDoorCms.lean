import Derived.Test.YtcjeeagnfmipgaaDoorSms
/- Plain mathematics of Compose: the row that is made, sorted, is the row of binds put in one by one. -/
namespace Go.Proofs.YtcjeeagnfmipgaaDoor

def addS (cu : List (Int × List Nd)) (c : List (Int × List Nd)) (p : Int × List Nd) : List (Int × List Nd) := addC c p.1 (p.2.flatMap (subN (lookC cu)))
def addU (cs : List (Int × List Nd)) (c : List (Int × List Nd)) (p : Int × List Nd) : List (Int × List Nd) := if ∃ q ∈ cs, q.1 = p.1 then c else addC c p.1 p.2
theorem insF_snoc {β : Type} (c : List (Int × β)) (N : Int) (y : β) : insF (c ++ [(N, y)]) = insK (insF c) N y := by
  simp [insF, List.foldl_append]
theorem insF_addC (c : List (Int × List Nd)) (N : Int) (ct : List Nd) : insF (addC c N ct) = if ct = [varNd N] then insF c else insK (insF c) N ct := by
  unfold addC
  split
  · rfl
  · exact insF_snoc _ _ _
theorem insF_addS (cu c : List (Int × List Nd)) (p : Int × List Nd) : insF (addS cu c p) = stepS cu (insF c) p := insF_addC _ _ _
theorem insF_addU (cs c : List (Int × List Nd)) (p : Int × List Nd) : insF (addU cs c p) = stepU cs (insF c) p := by
  unfold addU stepU
  by_cases h : ∃ q ∈ cs, q.1 = p.1
  · rw [if_pos h, if_pos (.inl h)]
  · rw [if_neg h, insF_addC]
    by_cases h2 : p.2 = [varNd p.1]
    · rw [if_pos h2, if_pos (.inr h2)]
    · rw [if_neg h2, if_neg (fun k => k.elim h h2)]
theorem foldl_through {α β γ : Type} (F : β → γ) (f : β → α → β) (g : γ → α → γ) (h : ∀ b a, F (f b a) = g (F b) a) : ∀ (l : List α) (b : β), F (l.foldl f b) = l.foldl g (F b)
  | [], _ => rfl
  | a :: l, b => by rw [List.foldl_cons, List.foldl_cons, foldl_through F f g h l, h]
/-- The row that Compose makes, and sorts. -/
def madeC (cs cu : List (Int × List Nd)) : List (Int × List Nd) := cu.foldl (addU cs) (cs.foldl (addS cu) [])
theorem insF_madeC (cs cu : List (Int × List Nd)) : insF (madeC cs cu) = cu.foldl (stepU cs) (cs.foldl (stepS cu) []) := by
  unfold madeC
  rw [foldl_through insF (addU cs) (stepU cs) (insF_addU cs), foldl_through insF (addS cu) (stepS cu) (insF_addS cu)]
  rfl
theorem once_fold {β : Type} (ok : Int × β → Prop) (f : List (Int × β) → Int × β → List (Int × β)) (hf : ∀ c p, f c p = c ∨ (ok p ∧ ∃ y, f c p = c ++ [(p.1, y)])) :
    ∀ (l c : List (Int × β)), Once l → Once c → (∀ p ∈ c, ∀ q ∈ l, ok q → p.1 ≠ q.1) → Once (l.foldl f c) ∧ ∀ p ∈ l.foldl f c, (∃ r ∈ c, r.1 = p.1) ∨ ∃ q ∈ l, q.1 = p.1
  | [], c, _, hc, _ => ⟨hc, fun p hp => .inl ⟨p, hp, rfl⟩⟩
  | x :: l, c, hl, hc, hd => by
    obtain ⟨h1, h2⟩ := List.pairwise_cons.1 hl
    rcases hf c x with e | ⟨hok, y, e⟩
    · obtain ⟨i1, i2⟩ := once_fold ok f hf l c h2 hc (fun p hp q hq => hd p hp q (List.mem_cons_of_mem _ hq))
      rw [List.foldl_cons, e]
      refine ⟨i1, fun p hp => ?_⟩
      rcases i2 p hp with h | ⟨q, hq, h⟩
      · exact .inl h
      · exact .inr ⟨q, List.mem_cons_of_mem _ hq, h⟩
    · have hc' : Once (c ++ [(x.1, y)]) := by
        refine List.pairwise_append.2 ⟨hc, List.pairwise_singleton _ _, fun p hp q hq => ?_⟩
        simp at hq
        subst hq
        exact hd p hp x (by simp) hok
      obtain ⟨i1, i2⟩ := once_fold ok f hf l (c ++ [(x.1, y)]) h2 hc' (fun p hp q hq hq2 => by
        rcases List.mem_append.1 hp with hp | hp
        · exact hd p hp q (List.mem_cons_of_mem _ hq) hq2
        · simp at hp
          subst hp
          exact h1 q hq)
      rw [List.foldl_cons, e]
      refine ⟨i1, fun p hp => ?_⟩
      rcases i2 p hp with ⟨r, hr, h⟩ | ⟨q, hq, h⟩
      · rcases List.mem_append.1 hr with hr | hr
        · exact .inl ⟨r, hr, h⟩
        · simp at hr
          subst hr
          exact .inr ⟨x, by simp, h⟩
      · exact .inr ⟨q, List.mem_cons_of_mem _ hq, h⟩
theorem rises_once {n : Nat} {bs : List (Int × Tm n)} (h : Rises bs) : Once (cb bs) := by
  refine List.pairwise_iff_getElem.2 fun i j hi hj hij => ?_
  have hi' : i < bs.length := by simpa [cb] using hi
  have hj' : j < bs.length := by simpa [cb] using hj
  have := h i j _ _ (List.getElem?_eq_getElem hi') (List.getElem?_eq_getElem hj') hij
  simp only [cb, List.getElem_map]
  omega
theorem madeC_once {cs cu : List (Int × List Nd)} (h1 : Once cs) (h2 : Once cu) : Once (madeC cs cu) := by
  obtain ⟨i1, i2⟩ := once_fold (fun _ => True) (addS cu) (fun c p => by
    unfold addS addC
    split
    · exact .inl rfl
    · exact .inr ⟨trivial, _, rfl⟩) cs [] h1 List.Pairwise.nil (fun p hp => by cases hp)
  refine (once_fold (fun p => ¬ ∃ q ∈ cs, q.1 = p.1) (addU cs) (fun c p => ?_) cu _ h2 i1 (fun p hp q hq hok e => ?_)).1
  · unfold addU addC
    split
    · exact .inl rfl
    · split
      · exact .inl rfl
      · rename_i h _; exact .inr ⟨h, _, rfl⟩
  · rcases i2 p hp with ⟨r, hr, _⟩ | ⟨r, hr, h⟩
    · cases hr
    · exact hok ⟨r, hr, h.trans e⟩
end Go.Proofs.YtcjeeagnfmipgaaDoor

/- The contract of term.Compose. -/
namespace Go.Proofs.YtcjeeagnfmipgaaDoor
open Go.RowKit Go.Shelf

/-- A bind laid in a new block. -/
theorem bind_box (W : World) (V : Int) (x : TV) : (W.alloc (.cells #[.int .i64 V, .int .i64 x.k, .int .i64 x.N, .string x.s, .slice x.a x.len x.cap] 47)).cell? ⟨W.heap.size, 0, none⟩ = some (.int .i64 V) ∧ (W.alloc (.cells #[.int .i64 V, .int .i64 x.k, .int .i64 x.N, .string x.s, .slice x.a x.len x.cap] 47)).cell? ⟨W.heap.size, 1, none⟩ = some (.int .i64 x.k) ∧ (W.alloc (.cells #[.int .i64 V, .int .i64 x.k, .int .i64 x.N, .string x.s, .slice x.a x.len x.cap] 47)).cell? ⟨W.heap.size, 2, none⟩ = some (.int .i64 x.N) ∧ (W.alloc (.cells #[.int .i64 V, .int .i64 x.k, .int .i64 x.N, .string x.s, .slice x.a x.len x.cap] 47)).cell? ⟨W.heap.size, 3, none⟩ = some (.string x.s) ∧ (W.alloc (.cells #[.int .i64 V, .int .i64 x.k, .int .i64 x.N, .string x.s, .slice x.a x.len x.cap] 47)).cell? ⟨W.heap.size, 4, none⟩ = some (.slice x.a x.len x.cap) := by
  refine ⟨?_, ?_, ?_, ?_, ?_⟩ <;> simp
end Go.Proofs.YtcjeeagnfmipgaaDoor

/- The law hornlaw.TermBinds: it answers true, whatever the term and the two lists (of together at most 4194304 binds). -/
namespace Go.Proofs.YtcjeeagnfmipgaaDoor
open Go.RowKit Go.Shelf

/-- What Apply answers, of whatever term and binds. -/
def AppSays {n : Nat} (t : Tm n) (bs : List (Int × Tm n)) (lo : Nat) (W' : World) (x : TV) (r : Int) : Prop :=
  (r = 0 ∧ okT t = true ∧ (∀ p ∈ bs, okT p.2 = true) ∧ Subst bs ∧ HoldsT (n + (n + 1)) lo W' x.val ((code t).flatMap (subN (lookC (cb bs))))) ∨
  (r ≠ 0 ∧ x = ⟨0, 0, ⟨#[]⟩, none, 0, 0⟩ ∧ (okT t = false → r = 2) ∧ (okT t = true → ¬ ((∀ p ∈ bs, okT p.2 = true) ∧ Subst bs) ∧ ((∀ p ∈ bs, okT p.2 = true) → r = 1) ∧ ((¬ ∀ p ∈ bs, okT p.2 = true) → r = 2)))
/-- What Compose answers, of whatever two lists. -/
def CompSays {n : Nat} (L L' : BL n) (W' : World) (v : Value) (f : Int) : Prop :=
  BindSays [L, L'] (.returned (.int .i64 f)) ∧ (f = 0 → (∀ p ∈ L.bs, okT p.2 = true) ∧ OutB (n + (n + 1)) W' v (L.len + L'.len) (insF (madeC (cb L.bs) (cb L'.bs)))) ∧ (f ≠ 0 → v = .slice none 0 0)
theorem CompSays.below {n : Nat} {L L' : BL n} {A B : World} {v : Value} {f : Int} (h : CompSays L L' A v f) (hb : Below A.heap.size A B) : CompSays L L' B v f := ⟨h.1, fun h0 => ⟨(h.2.1 h0).1, (h.2.1 h0).2.below hb⟩, h.2.2⟩
theorem says_int {n : Nat} {Ls : List (BL n)} {e : Ending} (h : BindSays Ls e) : ∃ r : Int, e = .returned (.int .i64 r) ∧ BindSays Ls (.returned (.int .i64 r)) := by
  obtain ⟨r, rfl, h1⟩ := h
  exact ⟨r, rfl, r, rfl, h1⟩
theorem says_open {n : Nat} {Ls : List (BL n)} {r : Int} (h : BindSays Ls (.returned (.int .i64 r))) : ((¬ ∀ L ∈ Ls, okB L) → r = 2) ∧ ((∀ L ∈ Ls, okB L) → (¬ ∀ L ∈ Ls, Subst L.bs) → r = 1) ∧ ((∀ L ∈ Ls, okB L) → (∀ L ∈ Ls, Subst L.bs) → r = 0) := by
  obtain ⟨r', e4, h⟩ := h
  simp only [Ending.returned.injEq, Value.int.injEq, true_and] at e4
  subst e4
  exact h
/-- The three answers. -/
theorem three_says {n : Nat} {L L' : BL n} {p q f : Int} (hp : BindSays [L] (.returned (.int .i64 p))) (hq : BindSays [L'] (.returned (.int .i64 q))) (hf : BindSays [L, L'] (.returned (.int .i64 f))) :
    (p = 0 ∧ q = 0 ∧ f = 0) ∨ (p = 1 ∧ q = 0 ∧ f = 1) ∨ (p = 0 ∧ q = 1 ∧ f = 1) ∨ (p = 1 ∧ q = 1 ∧ f = 1) ∨ (p = 2 ∧ q = 0 ∧ f = 2) ∨ (p = 2 ∧ q = 1 ∧ f = 2) ∨ (p = 2 ∧ q = 2 ∧ f = 2) ∨ (p = 0 ∧ q = 2 ∧ f = 2) ∨ (p = 1 ∧ q = 2 ∧ f = 2) := by
  have h1 := says_open hp
  have h2 := says_open hq
  have h3 := says_open hf
  simp only [List.mem_cons, List.not_mem_nil, or_false, forall_eq_or_imp, forall_eq] at h1 h2 h3
  by_cases a1 : okB L <;> by_cases a2 : okB L' <;> by_cases b1 : Subst L.bs <;> by_cases b2 : Subst L'.bs <;> simp [a1, a2, b1, b2] at h1 h2 h3 <;> simp [h1, h2, h3]
/-- What is wanted of Apply's error. -/
theorem want_eq {n : Nat} {t : Tm n} {a : Option Addr} {len cap : Nat} {bs : List (Int × Tm n)} {lo : Nat} {W' : World} {x : TV} {r p : Int} (h : AppSays t bs lo W' x r) (hp : BindSays [(⟨a, len, cap, bs⟩ : BL n)] (.returned (.int .i64 p))) : (okT t = true → p = r) ∧ (okT t = false → r = 2) := by
  have h1 := says_open hp
  simp only [List.mem_cons, List.not_mem_nil, or_false, forall_eq, okB] at h1
  rcases h with ⟨rfl, h2, h3, h4, _⟩ | ⟨h2, _, h3, h4⟩
  · exact ⟨fun _ => h1.2.2 h3 h4, fun h => by rw [h2] at h; cases h⟩
  · refine ⟨fun h => ?_, h3⟩
    obtain ⟨k0, k1, k2⟩ := h4 h
    by_cases ho : ∀ p ∈ bs, okT p.2 = true
    · rw [k1 ho, h1.2.1 ho (fun h => k0 ⟨ho, h⟩)]
    · rw [k2 ho, h1.1 ho]

end Go.Proofs.YtcjeeagnfmipgaaDoor

