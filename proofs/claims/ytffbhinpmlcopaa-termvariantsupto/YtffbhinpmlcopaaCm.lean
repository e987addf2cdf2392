import Derived.Test.YtffbhinpmlcopaaSb
/- Plain mathematics of Compose: the row that is made, sorted, is the row of binds put in one by one. -/
namespace Go.Proofs.Ytffbhinpmlcopaa

def addS (cu : List (Int × List Nd)) (c : List (Int × List Nd)) (p : Int × List Nd) : List (Int × List Nd) := addC c p.1 (p.2.flatMap (subN (lookC cu)))
def addU (cs : List (Int × List Nd)) (c : List (Int × List Nd)) (p : Int × List Nd) : List (Int × List Nd) := if ∃ q ∈ cs, q.1 = p.1 then c else addC c p.1 p.2
theorem insF_snoc {β : Type} (c : List (Int × β)) (N : Int) (y : β) : insF (c ++ [(N, y)]) = insK (insF c) N y := by
  simp [insF, List.foldl_append]
theorem insF_addC (c : List (Int × List Nd)) (N : Int) (ct : List Nd) : insF (addC c N ct) = if ct = [varNd N] then insF c else insK (insF c) N ct := by
  unfold addC
  split
  · rfl
  · exact insF_snoc _ _ _
theorem insF_addS (cu c : List (Int × List Nd)) (p : Int × List Nd) : insF (addS cu c p) = stepS cu (insF c) p := insF_addC _ _ _
theorem insF_addU (cs c : List (Int × List Nd)) (p : Int × List Nd) : insF (addU cs c p) = stepU cs (insF c) p := by
  unfold addU stepU
  by_cases h : ∃ q ∈ cs, q.1 = p.1
  · rw [if_pos h, if_pos (.inl h)]
  · rw [if_neg h, insF_addC]
    by_cases h2 : p.2 = [varNd p.1]
    · rw [if_pos h2, if_pos (.inr h2)]
    · rw [if_neg h2, if_neg (fun k => k.elim h h2)]
theorem foldl_through {α β γ : Type} (F : β → γ) (f : β → α → β) (g : γ → α → γ) (h : ∀ b a, F (f b a) = g (F b) a) : ∀ (l : List α) (b : β), F (l.foldl f b) = l.foldl g (F b)
  | [], _ => rfl
  | a :: l, b => by rw [List.foldl_cons, List.foldl_cons, foldl_through F f g h l, h]
/-- The row that Compose makes, and sorts. -/
def madeC (cs cu : List (Int × List Nd)) : List (Int × List Nd) := cu.foldl (addU cs) (cs.foldl (addS cu) [])
theorem insF_madeC (cs cu : List (Int × List Nd)) : insF (madeC cs cu) = cu.foldl (stepU cs) (cs.foldl (stepS cu) []) := by
  unfold madeC
  rw [foldl_through insF (addU cs) (stepU cs) (insF_addU cs), foldl_through insF (addS cu) (stepS cu) (insF_addS cu)]
  rfl
theorem once_fold {β : Type} (ok : Int × β → Prop) (f : List (Int × β) → Int × β → List (Int × β)) (hf : ∀ c p, f c p = c ∨ (ok p ∧ ∃ y, f c p = c ++ [(p.1, y)])) :
    ∀ (l c : List (Int × β)), Once l → Once c → (∀ p ∈ c, ∀ q ∈ l, ok q → p.1 ≠ q.1) → Once (l.foldl f c) ∧ ∀ p ∈ l.foldl f c, (∃ r ∈ c, r.1 = p.1) ∨ ∃ q ∈ l, q.1 = p.1
  | [], c, _, hc, _ => ⟨hc, fun p hp => .inl ⟨p, hp, rfl⟩⟩
  | x :: l, c, hl, hc, hd => by
    obtain ⟨h1, h2⟩ := List.pairwise_cons.1 hl
    rcases hf c x with e | ⟨hok, y, e⟩
    · obtain ⟨i1, i2⟩ := once_fold ok f hf l c h2 hc (fun p hp q hq => hd p hp q (List.mem_cons_of_mem _ hq))
      rw [List.foldl_cons, e]
      refine ⟨i1, fun p hp => ?_⟩
      rcases i2 p hp with h | ⟨q, hq, h⟩
      · exact .inl h
      · exact .inr ⟨q, List.mem_cons_of_mem _ hq, h⟩
    · have hc' : Once (c ++ [(x.1, y)]) := by
        refine List.pairwise_append.2 ⟨hc, List.pairwise_singleton _ _, fun p hp q hq => ?_⟩
        simp at hq
        subst hq
        exact hd p hp x (by simp) hok
      obtain ⟨i1, i2⟩ := once_fold ok f hf l (c ++ [(x.1, y)]) h2 hc' (fun p hp q hq hq2 => by
        rcases List.mem_append.1 hp with hp | hp
        · exact hd p hp q (List.mem_cons_of_mem _ hq) hq2
        · simp at hp
          subst hp
          exact h1 q hq)
      rw [List.foldl_cons, e]
      refine ⟨i1, fun p hp => ?_⟩
      rcases i2 p hp with ⟨r, hr, h⟩ | ⟨q, hq, h⟩
      · rcases List.mem_append.1 hr with hr | hr
        · exact .inl ⟨r, hr, h⟩
        · simp at hr
          subst hr
          exact .inr ⟨x, by simp, h⟩
      · exact .inr ⟨q, List.mem_cons_of_mem _ hq, h⟩
theorem rises_once {n : Nat} {bs : List (Int × Tm n)} (h : Rises bs) : Once (cb bs) := by
  refine List.pairwise_iff_getElem.2 fun i j hi hj hij => ?_
  have hi' : i < bs.length := by simpa [cb] using hi
  have hj' : j < bs.length := by simpa [cb] using hj
  have := h i j _ _ (List.getElem?_eq_getElem hi') (List.getElem?_eq_getElem hj') hij
  simp only [cb, List.getElem_map]
  omega
theorem madeC_once {cs cu : List (Int × List Nd)} (h1 : Once cs) (h2 : Once cu) : Once (madeC cs cu) := by
  obtain ⟨i1, i2⟩ := once_fold (fun _ => True) (addS cu) (fun c p => by
    unfold addS addC
    split
    · exact .inl rfl
    · exact .inr ⟨trivial, _, rfl⟩) cs [] h1 List.Pairwise.nil (fun p hp => by cases hp)
  refine (once_fold (fun p => ¬ ∃ q ∈ cs, q.1 = p.1) (addU cs) (fun c p => ?_) cu _ h2 i1 (fun p hp q hq hok e => ?_)).1
  · unfold addU addC
    split
    · exact .inl rfl
    · split
      · exact .inl rfl
      · rename_i h _; exact .inr ⟨h, _, rfl⟩
  · rcases i2 p hp with ⟨r, hr, _⟩ | ⟨r, hr, h⟩
    · cases hr
    · exact hok ⟨r, hr, h.trans e⟩
end Go.Proofs.Ytffbhinpmlcopaa

