import Derived.Test.YtffbhinpmlcopaaAc
import Derived.Test.YtffbhinpmlcopaaKb
/- Plain mathematics of substitutions by codes: composing does what the two do, and may be done in any order. -/
namespace Go.Proofs.Ytffbhinpmlcopaa
open Go.RowKit Go.Shelf Go.Maps

theorem look_mem {c : List (Int × List Nd)} (h : Once c) {q : Int × List Nd} (hq : q ∈ c) : lookC c q.1 = q.2 := by
  unfold lookC
  cases hf : c.find? (fun p => p.1 == q.1) with
  | none => exact ((List.find?_eq_none.1 hf) q hq (by simp)).elim
  | some p =>
    have h1 := List.mem_of_find?_eq_some hf
    have h2 : p.1 = q.1 := by simpa using List.find?_some hf
    rw [Once.eq h h1 hq h2]
theorem look_no {c : List (Int × List Nd)} {N : Int} (h : ∀ q ∈ c, q.1 ≠ N) : lookC c N = [varNd N] := find_nil h
theorem look_or (c : List (Int × List Nd)) (N : Int) : (∃ q ∈ c, q.1 = N) ∨ ∀ q ∈ c, q.1 ≠ N := by
  by_cases h : ∃ q ∈ c, q.1 = N
  · exact .inl h
  · exact .inr fun q hq e => h ⟨q, hq, e⟩

/-- What one substitution behind another does to a variable. -/
def compN (cs cu : List (Int × List Nd)) (N : Int) : List Nd := (lookC cs N).flatMap (subN (lookC cu))
theorem sub_congr {σ τ : Int → List Nd} (h : ∀ N, σ N = τ N) (c : List Nd) : c.flatMap (subN σ) = c.flatMap (subN τ) := by
  rw [show σ = τ from funext h]

theorem mem_addS {cs cu : List (Int × List Nd)} : ∀ (l acc : List (Int × List Nd)) (q : Int × List Nd), q ∈ l.foldl (addS cu) acc ↔ q ∈ acc ∨ ∃ p ∈ l, q.1 = p.1 ∧ q.2 = p.2.flatMap (subN (lookC cu)) ∧ q.2 ≠ [varNd q.1]
  | [], acc, q => by simp
  | p :: l, acc, q => by
    rw [List.foldl_cons, mem_addS (cs := cs) l]
    unfold addS addC
    by_cases h : p.2.flatMap (subN (lookC cu)) = [varNd p.1]
    · rw [if_pos h]
      constructor
      · rintro (h1 | ⟨r, h1, h2⟩)
        · exact .inl h1
        · exact .inr ⟨r, by simp [h1], h2⟩
      · rintro (h1 | ⟨r, h1, h2, h3, h4⟩)
        · exact .inl h1
        · rcases List.mem_cons.1 h1 with rfl | h1
          · exact (h4 (by rw [h3, h, h2])).elim
          · exact .inr ⟨r, h1, h2, h3, h4⟩
    · rw [if_neg h]
      constructor
      · rintro (h1 | ⟨r, h1, h2⟩)
        · rcases List.mem_append.1 h1 with h1 | h1
          · exact .inl h1
          · simp at h1; subst h1
            exact .inr ⟨p, by simp, rfl, rfl, h⟩
        · exact .inr ⟨r, by simp [h1], h2⟩
      · rintro (h1 | ⟨r, h1, h2, h3, h4⟩)
        · exact .inl (List.mem_append_left _ h1)
        · rcases List.mem_cons.1 h1 with rfl | h1
          · exact .inl (List.mem_append_right _ (by simp; exact Prod.ext h2 h3))
          · exact .inr ⟨r, h1, h2, h3, h4⟩
theorem mem_addU {cs : List (Int × List Nd)} : ∀ (l acc : List (Int × List Nd)) (q : Int × List Nd), q ∈ l.foldl (addU cs) acc ↔ q ∈ acc ∨ (q ∈ l ∧ (¬ ∃ p ∈ cs, p.1 = q.1) ∧ q.2 ≠ [varNd q.1])
  | [], acc, q => by simp
  | p :: l, acc, q => by
    rw [List.foldl_cons, mem_addU l]
    unfold addU
    by_cases h0 : ∃ r ∈ cs, r.1 = p.1
    · rw [if_pos h0]
      constructor
      · rintro (h1 | ⟨h1, h2⟩)
        · exact .inl h1
        · exact .inr ⟨by simp [h1], h2⟩
      · rintro (h1 | ⟨h1, h2, h3⟩)
        · exact .inl h1
        · rcases List.mem_cons.1 h1 with rfl | h1
          · exact (h2 h0).elim
          · exact .inr ⟨h1, h2, h3⟩
    · rw [if_neg h0]
      unfold addC
      by_cases h : p.2 = [varNd p.1]
      · rw [if_pos h]
        constructor
        · rintro (h1 | ⟨h1, h2⟩)
          · exact .inl h1
          · exact .inr ⟨by simp [h1], h2⟩
        · rintro (h1 | ⟨h1, h2, h3⟩)
          · exact .inl h1
          · rcases List.mem_cons.1 h1 with rfl | h1
            · exact (h3 h).elim
            · exact .inr ⟨h1, h2, h3⟩
      · rw [if_neg h]
        constructor
        · rintro (h1 | ⟨h1, h2⟩)
          · rcases List.mem_append.1 h1 with h1 | h1
            · exact .inl h1
            · simp at h1; subst h1
              exact .inr ⟨by simp, h0, h⟩
          · exact .inr ⟨by simp [h1], h2⟩
        · rintro (h1 | ⟨h1, h2, h3⟩)
          · exact .inl (List.mem_append_left _ h1)
          · rcases List.mem_cons.1 h1 with rfl | h1
            · exact .inl (List.mem_append_right _ (by simp))
            · exact .inr ⟨h1, h2, h3⟩

/-- Composing's members: just what does something. -/
theorem mem_made {cs cu : List (Int × List Nd)} (hs : Once cs) (hu : Once cu) (q : Int × List Nd) : q ∈ madeC cs cu ↔ q.2 = compN cs cu q.1 ∧ q.2 ≠ [varNd q.1] := by
  unfold madeC
  rw [mem_addU, mem_addS (cs := cs)]
  simp only [List.not_mem_nil, false_or]
  unfold compN
  constructor
  · rintro (⟨p, h1, h2, h3, h4⟩ | ⟨h1, h2, h3⟩)
    · exact ⟨by rw [h2, look_mem hs h1, h3], h4⟩
    · refine ⟨?_, h3⟩
      rw [look_no (fun r hr e => h2 ⟨r, hr, e⟩), sub_varNd, look_mem hu h1]
  · rintro ⟨h1, h2⟩
    rcases look_or cs q.1 with ⟨p, hp, e⟩ | hno
    · refine .inl ⟨p, hp, e.symm, ?_, h2⟩
      rw [h1, ← e, look_mem hs hp]
    · rw [look_no hno, sub_varNd] at h1
      rcases look_or cu q.1 with ⟨p, hp, e⟩ | hno'
      · refine .inr ⟨?_, fun ⟨r, hr, e⟩ => hno r hr e, h2⟩
        rw [← e, look_mem hu hp] at h1
        have : q = p := Prod.ext e.symm h1
        rw [this]; exact hp
      · rw [look_no hno'] at h1
        exact (h2 h1).elim
/-- What is composed does what the two do. -/
theorem look_made {cs cu : List (Int × List Nd)} (hs : Once cs) (hu : Once cu) (N : Int) : lookC (insF (madeC cs cu)) N = compN cs cu N := by
  have ho := insF_once (madeC_once hs hu)
  by_cases h : compN cs cu N = [varNd N]
  · rw [h]
    refine look_no fun q hq e => ?_
    obtain ⟨h1, h2⟩ := (mem_made hs hu q).1 (insF_mem.1 hq)
    rw [e] at h1 h2
    exact h2 (h1.trans h)
  · have hm : (N, compN cs cu N) ∈ insF (madeC cs cu) := insF_mem.2 ((mem_made hs hu _).2 ⟨rfl, h⟩)
    exact look_mem ho hm
/-- Composing may be done in any order. -/
theorem made_assoc {cs cu cv : List (Int × List Nd)} (hs : Once cs) (hu : Once cu) (hv : Once cv) : insF (madeC (insF (madeC cs cu)) cv) = insF (madeC cs (insF (madeC cu cv))) := by
  have h1 := insF_once (madeC_once hs hu)
  have h2 := insF_once (madeC_once hu hv)
  refine insF_same (madeC_once h1 hv) (madeC_once hs h2) fun q => ?_
  rw [mem_made h1 hv, mem_made hs h2]
  have : compN (insF (madeC cs cu)) cv q.1 = compN cs (insF (madeC cu cv)) q.1 := by
    unfold compN
    rw [look_made hs hu, sub_congr (look_made hu hv)]
    unfold compN
    exact sub_sub _ _ _
  rw [this]

theorem okC_look {c : List (Int × List Nd)} (h : ∀ p ∈ c, okC p.2) {N : Int} (h0 : 0 ≤ N) (h1 : N ≤ 1099511627776) : okC (lookC c N) := by
  unfold lookC
  split
  · rename_i p hp
    exact h p (List.mem_of_find?_eq_some hp)
  · simp [okC, okNd, varNd, h0, h1]
theorem okNd_var {x : Nd} (h : okNd x = true) (hk : x.1 = 1) : (0 ≤ x.2.1 ∧ x.2.1 ≤ 1099511627776) ∧ x = varNd x.2.1 := by
  obtain ⟨k, N, s, len⟩ := x
  simp only at hk
  subst hk
  simp [okNd] at h
  obtain ⟨⟨⟨h1, h2⟩, h3⟩, h4⟩ := h
  exact ⟨⟨h1, h2⟩, by simp [varNd, h3, h4]⟩
theorem okC_sub {σ : Int → List Nd} (hσ : ∀ N, 0 ≤ N → N ≤ 1099511627776 → okC (σ N)) {c : List Nd} (h : okC c) : okC (c.flatMap (subN σ)) := by
  unfold okC at *
  rw [List.all_eq_true] at h ⊢
  intro y hy
  obtain ⟨x, hx, hxy⟩ := List.mem_flatMap.1 hy
  have hok := h x hx
  unfold subN at hxy
  split at hxy
  · rename_i hk
    obtain ⟨⟨h0, h1⟩, _⟩ := okNd_var hok hk
    exact List.all_eq_true.1 (hσ _ h0 h1) y hxy
  · simp at hxy; subst hxy; exact hok
theorem once_rise {c : List (Int × List Nd)} (h : Once c) (hu : Up c) : c.Pairwise fun p q => p.1 < q.1 :=
  (h.and hu).imp fun ⟨h1, h2⟩ => by omega
theorem subC_made {cs cu : List (Int × List Nd)} (hs : SubC cs) (hu : SubC cu) : SubC (insF (madeC cs cu)) := by
  have ho := madeC_once hs.once hu.once
  have hkey : ∀ q ∈ insF (madeC cs cu), 0 ≤ q.1 ∧ q.1 ≤ 1099511627776 := fun q hq => by
    obtain ⟨h1, h2⟩ := (mem_made hs.once hu.once q).1 (insF_mem.1 hq)
    rcases look_or cs q.1 with ⟨p, hp, e⟩ | hno
    · rw [← e]; exact hs.key p hp
    · rcases look_or cu q.1 with ⟨p, hp, e⟩ | hno'
      · rw [← e]; exact hu.key p hp
      · unfold compN at h1
        rw [look_no hno, sub_varNd, look_no hno'] at h1
        exact (h2 h1).elim
  refine ⟨fun q hq => ?_, hkey, once_rise (insF_once ho) (insF_up _)⟩
  obtain ⟨h1, _⟩ := (mem_made hs.once hu.once q).1 (insF_mem.1 hq)
  obtain ⟨k0, k1⟩ := hkey q hq
  rw [h1]
  exact okC_sub (fun N h0 h1 => okC_look hu.ok h0 h1) (okC_look hs.ok k0 k1)
end Go.Proofs.Ytffbhinpmlcopaa

