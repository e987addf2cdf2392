import Derived.Test.YtcjeeagnfmipgaaDoorAc
import Derived.Test.YtcjeeagnfmipgaaDoorKb
/- Plain mathematics of substitutions by codes: composing does what the two do, and may be done in any order. -/
namespace Go.Proofs.YtcjeeagnfmipgaaDoor
open Go.RowKit Go.Shelf Go.Maps

theorem look_mem {c : List (Int × List Nd)} (h : Once c) {q : Int × List Nd} (hq : q ∈ c) : lookC c q.1 = q.2 := by
  unfold lookC
  cases hf : c.find? (fun p => p.1 == q.1) with
  | none => exact ((List.find?_eq_none.1 hf) q hq (by simp)).elim
  | some p =>
    have h1 := List.mem_of_find?_eq_some hf
    have h2 : p.1 = q.1 := by simpa using List.find?_some hf
    rw [Once.eq h h1 hq h2]
theorem look_no {c : List (Int × List Nd)} {N : Int} (h : ∀ q ∈ c, q.1 ≠ N) : lookC c N = [varNd N] := find_nil h
theorem look_or (c : List (Int × List Nd)) (N : Int) : (∃ q ∈ c, q.1 = N) ∨ ∀ q ∈ c, q.1 ≠ N := by
  by_cases h : ∃ q ∈ c, q.1 = N
  · exact .inl h
  · exact .inr fun q hq e => h ⟨q, hq, e⟩

/-- What one substitution behind another does to a variable. -/
def compN (cs cu : List (Int × List Nd)) (N : Int) : List Nd := (lookC cs N).flatMap (subN (lookC cu))
theorem sub_congr {σ τ : Int → List Nd} (h : ∀ N, σ N = τ N) (c : List Nd) : c.flatMap (subN σ) = c.flatMap (subN τ) := by
  rw [show σ = τ from funext h]

theorem mem_addS {cs cu : List (Int × List Nd)} : ∀ (l acc : List (Int × List Nd)) (q : Int × List Nd), q ∈ l.foldl (addS cu) acc ↔ q ∈ acc ∨ ∃ p ∈ l, q.1 = p.1 ∧ q.2 = p.2.flatMap (subN (lookC cu)) ∧ q.2 ≠ [varNd q.1]
  | [], acc, q => by simp
  | p :: l, acc, q => by
    rw [List.foldl_cons, mem_addS (cs := cs) l]
    unfold addS addC
    by_cases h : p.2.flatMap (subN (lookC cu)) = [varNd p.1]
    · rw [if_pos h]
      constructor
      · rintro (h1 | ⟨r, h1, h2⟩)
        · exact .inl h1
        · exact .inr ⟨r, by simp [h1], h2⟩
      · rintro (h1 | ⟨r, h1, h2, h3, h4⟩)
        · exact .inl h1
        · rcases List.mem_cons.1 h1 with rfl | h1
          · exact (h4 (by rw [h3, h, h2])).elim
          · exact .inr ⟨r, h1, h2, h3, h4⟩
    · rw [if_neg h]
      constructor
      · rintro (h1 | ⟨r, h1, h2⟩)
        · rcases List.mem_append.1 h1 with h1 | h1
          · exact .inl h1
          · simp at h1; subst h1
            exact .inr ⟨p, by simp, rfl, rfl, h⟩
        · exact .inr ⟨r, by simp [h1], h2⟩
      · rintro (h1 | ⟨r, h1, h2, h3, h4⟩)
        · exact .inl (List.mem_append_left _ h1)
        · rcases List.mem_cons.1 h1 with rfl | h1
          · exact .inl (List.mem_append_right _ (by simp; exact Prod.ext h2 h3))
          · exact .inr ⟨r, h1, h2, h3, h4⟩
theorem mem_addU {cs : List (Int × List Nd)} : ∀ (l acc : List (Int × List Nd)) (q : Int × List Nd), q ∈ l.foldl (addU cs) acc ↔ q ∈ acc ∨ (q ∈ l ∧ (¬ ∃ p ∈ cs, p.1 = q.1) ∧ q.2 ≠ [varNd q.1])
  | [], acc, q => by simp
  | p :: l, acc, q => by
    rw [List.foldl_cons, mem_addU l]
    unfold addU
    by_cases h0 : ∃ r ∈ cs, r.1 = p.1
    · rw [if_pos h0]
      constructor
      · rintro (h1 | ⟨h1, h2⟩)
        · exact .inl h1
        · exact .inr ⟨by simp [h1], h2⟩
      · rintro (h1 | ⟨h1, h2, h3⟩)
        · exact .inl h1
        · rcases List.mem_cons.1 h1 with rfl | h1
          · exact (h2 h0).elim
          · exact .inr ⟨h1, h2, h3⟩
    · rw [if_neg h0]
      unfold addC
      by_cases h : p.2 = [varNd p.1]
      · rw [if_pos h]
        constructor
        · rintro (h1 | ⟨h1, h2⟩)
          · exact .inl h1
          · exact .inr ⟨by simp [h1], h2⟩
        · rintro (h1 | ⟨h1, h2, h3⟩)
          · exact .inl h1
          · rcases List.mem_cons.1 h1 with rfl | h1
            · exact (h3 h).elim
            · exact .inr ⟨h1, h2, h3⟩
      · rw [if_neg h]
        constructor
        · rintro (h1 | ⟨h1, h2⟩)
          · rcases List.mem_append.1 h1 with h1 | h1
            · exact .inl h1
            · simp at h1; subst h1
              exact .inr ⟨by simp, h0, h⟩
          · exact .inr ⟨by simp [h1], h2⟩
        · rintro (h1 | ⟨h1, h2, h3⟩)
          · exact .inl (List.mem_append_left _ h1)
          · rcases List.mem_cons.1 h1 with rfl | h1
            · exact .inl (List.mem_append_right _ (by simp))
            · exact .inr ⟨h1, h2, h3⟩

/-- Composing's members: just what does something. -/
theorem mem_made {cs cu : List (Int × List Nd)} (hs : Once cs) (hu : Once cu) (q : Int × List Nd) : q ∈ madeC cs cu ↔ q.2 = compN cs cu q.1 ∧ q.2 ≠ [varNd q.1] := by
  unfold madeC
  rw [mem_addU, mem_addS (cs := cs)]
  simp only [List.not_mem_nil, false_or]
  unfold compN
  constructor
  · rintro (⟨p, h1, h2, h3, h4⟩ | ⟨h1, h2, h3⟩)
    · exact ⟨by rw [h2, look_mem hs h1, h3], h4⟩
    · refine ⟨?_, h3⟩
      rw [look_no (fun r hr e => h2 ⟨r, hr, e⟩), sub_varNd, look_mem hu h1]
  · rintro ⟨h1, h2⟩
    rcases look_or cs q.1 with ⟨p, hp, e⟩ | hno
    · refine .inl ⟨p, hp, e.symm, ?_, h2⟩
      rw [h1, ← e, look_mem hs hp]
    · rw [look_no hno, sub_varNd] at h1
      rcases look_or cu q.1 with ⟨p, hp, e⟩ | hno'
      · refine .inr ⟨?_, fun ⟨r, hr, e⟩ => hno r hr e, h2⟩
        rw [← e, look_mem hu hp] at h1
        have : q = p := Prod.ext e.symm h1
        rw [this]; exact hp
      · rw [look_no hno'] at h1
        exact (h2 h1).elim
/-- What is composed does what the two do. -/
theorem look_made {cs cu : List (Int × List Nd)} (hs : Once cs) (hu : Once cu) (N : Int) : lookC (insF (madeC cs cu)) N = compN cs cu N := by
  have ho := insF_once (madeC_once hs hu)
  by_cases h : compN cs cu N = [varNd N]
  · rw [h]
    refine look_no fun q hq e => ?_
    obtain ⟨h1, h2⟩ := (mem_made hs hu q).1 (insF_mem.1 hq)
    rw [e] at h1 h2
    exact h2 (h1.trans h)
  · have hm : (N, compN cs cu N) ∈ insF (madeC cs cu) := insF_mem.2 ((mem_made hs hu _).2 ⟨rfl, h⟩)
    exact look_mem ho hm
/-- Composing may be done in any order. -/
theorem made_assoc {cs cu cv : List (Int × List Nd)} (hs : Once cs) (hu : Once cu) (hv : Once cv) : insF (madeC (insF (madeC cs cu)) cv) = insF (madeC cs (insF (madeC cu cv))) := by
  have h1 := insF_once (madeC_once hs hu)
  have h2 := insF_once (madeC_once hu hv)
  refine insF_same (madeC_once h1 hv) (madeC_once hs h2) fun q => ?_
  rw [mem_made h1 hv, mem_made hs h2]
  have : compN (insF (madeC cs cu)) cv q.1 = compN cs (insF (madeC cu cv)) q.1 := by
    unfold compN
    rw [look_made hs hu, sub_congr (look_made hu hv)]
    unfold compN
    exact sub_sub _ _ _
  rw [this]

theorem okC_look {c : List (Int × List Nd)} (h : ∀ p ∈ c, okC p.2) {N : Int} (h0 : 0 ≤ N) (h1 : N ≤ 1099511627776) : okC (lookC c N) := by
  unfold lookC
  split
  · rename_i p hp
    exact h p (List.mem_of_find?_eq_some hp)
  · simp [okC, okNd, varNd, h0, h1]
theorem okNd_var {x : Nd} (h : okNd x = true) (hk : x.1 = 1) : (0 ≤ x.2.1 ∧ x.2.1 ≤ 1099511627776) ∧ x = varNd x.2.1 := by
  obtain ⟨k, N, s, len⟩ := x
  simp only at hk
  subst hk
  simp [okNd] at h
  obtain ⟨⟨⟨h1, h2⟩, h3⟩, h4⟩ := h
  exact ⟨⟨h1, h2⟩, by simp [varNd, h3, h4]⟩
theorem okC_sub {σ : Int → List Nd} (hσ : ∀ N, 0 ≤ N → N ≤ 1099511627776 → okC (σ N)) {c : List Nd} (h : okC c) : okC (c.flatMap (subN σ)) := by
  unfold okC at *
  rw [List.all_eq_true] at h ⊢
  intro y hy
  obtain ⟨x, hx, hxy⟩ := List.mem_flatMap.1 hy
  have hok := h x hx
  unfold subN at hxy
  split at hxy
  · rename_i hk
    obtain ⟨⟨h0, h1⟩, _⟩ := okNd_var hok hk
    exact List.all_eq_true.1 (hσ _ h0 h1) y hxy
  · simp at hxy; subst hxy; exact hok
theorem once_rise {c : List (Int × List Nd)} (h : Once c) (hu : Up c) : c.Pairwise fun p q => p.1 < q.1 :=
  (h.and hu).imp fun ⟨h1, h2⟩ => by omega
theorem subC_made {cs cu : List (Int × List Nd)} (hs : SubC cs) (hu : SubC cu) : SubC (insF (madeC cs cu)) := by
  have ho := madeC_once hs.once hu.once
  have hkey : ∀ q ∈ insF (madeC cs cu), 0 ≤ q.1 ∧ q.1 ≤ 1099511627776 := fun q hq => by
    obtain ⟨h1, h2⟩ := (mem_made hs.once hu.once q).1 (insF_mem.1 hq)
    rcases look_or cs q.1 with ⟨p, hp, e⟩ | hno
    · rw [← e]; exact hs.key p hp
    · rcases look_or cu q.1 with ⟨p, hp, e⟩ | hno'
      · rw [← e]; exact hu.key p hp
      · unfold compN at h1
        rw [look_no hno, sub_varNd, look_no hno'] at h1
        exact (h2 h1).elim
  refine ⟨fun q hq => ?_, hkey, once_rise (insF_once ho) (insF_up _)⟩
  obtain ⟨h1, _⟩ := (mem_made hs.once hu.once q).1 (insF_mem.1 hq)
  obtain ⟨k0, k1⟩ := hkey q hq
  rw [h1]
  exact okC_sub (fun N h0 h1 => okC_look hu.ok h0 h1) (okC_look hs.ok k0 k1)
end Go.Proofs.YtcjeeagnfmipgaaDoor

/- Codes of terms as words that can be read one after another; what matT says: just if there is a substitution. -/
namespace Go.Proofs.YtcjeeagnfmipgaaDoor
open Go.RowKit Go.Shelf Go.Maps

/-- k terms are read off a row of parts: what is left. -/
def runW : Nat → List Nd → Option (List Nd)
  | 0, l => some l
  | _ + 1, [] => none
  | k + 1, x :: l => runW (k + x.2.2.2) l
def Word (l : List Nd) : Prop := runW 1 l = some []
theorem runW_append : ∀ (A : List Nd) (k : Nat) (B R : List Nd), runW k A = some B → runW k (A ++ R) = some (B ++ R)
  | A, 0, B, R, h => by simp [runW] at h ⊢; rw [h]
  | [], k + 1, B, R, h => by simp [runW] at h
  | x :: A, k + 1, B, R, h => by
    simp only [runW, List.cons_append] at h ⊢
    exact runW_append A _ B R h
theorem runW_add : ∀ (A : List Nd) (j k : Nat) (R : List Nd), runW j A = some [] → runW (k + j) (A ++ R) = runW k R
  | A, 0, k, R, h => by
    simp [runW] at h
    subst h
    rfl
  | [], j + 1, k, R, h => by simp [runW] at h
  | x :: A, j + 1, k, R, h => by
    simp only [runW] at h
    show runW (k + j + x.2.2.2) (A ++ R) = runW k R
    rw [Nat.add_assoc]
    exact runW_add A _ k R h
/-- Two words ahead of something: the same words. -/
theorem word_same {A B R R' : List Nd} (hA : Word A) (hB : Word B) (h : A ++ R = B ++ R') : A = B ∧ R = R' := by
  have h1 := runW_append A 1 [] R hA
  have h2 := runW_append B 1 [] R' hB
  rw [h] at h1
  rw [h1] at h2
  simp only [List.nil_append, Option.some.injEq] at h2
  subst h2
  exact ⟨List.append_cancel_right h, rfl⟩
theorem word_kids {n : Nat} (hk : ∀ u : Tm n, Wl u → Word (code u)) : ∀ (kids : List (Tm n)), (∀ u ∈ kids, Wl u) → runW kids.length (kids.flatMap code) = some []
  | [], _ => rfl
  | u :: kids, h => by
    rw [List.flatMap_cons, List.length_cons, runW_add _ 1 _ _ (hk u (h u (by simp)))]
    exact word_kids hk kids fun v hv => h v (by simp [hv])
theorem word_code : ∀ {n : Nat} (t : Tm n), Wl t → Word (code t)
  | 0, t, _ => Empty.elim t
  | n + 1, t, h => by
    obtain ⟨h1, h2⟩ := h
    unfold Word
    rw [code_kids]
    simp only [runW]
    have : (0 + t.tv.nd.2.2.2) = t.kids.length := by simp [TV.nd, h1]
    rw [this]
    exact word_kids (fun u hu => word_code u hu) t.kids h2
/-- Words in the place of variables: a word. -/
theorem runW_sub {σ : Int → List Nd} (hσ : ∀ N, Word (σ N)) : ∀ (A : List Nd) (k : Nat), (∀ x ∈ A, vOk x) → runW k A = some [] → runW k (A.flatMap (subN σ)) = some []
  | A, 0, _, h => by simp only [runW, Option.some.injEq] at h; subst h; rfl
  | [], k + 1, _, h => by simp [runW] at h
  | x :: A, k + 1, hv, h => by
    simp only [runW] at h
    rw [List.flatMap_cons]
    unfold subN
    by_cases hx : x.1 = 1
    · rw [if_pos hx]
      have h0 : x.2.2.2 = 0 := by have := hv x (by simp) hx; rw [this]
      rw [h0] at h
      rw [runW_add _ 1 k _ (hσ _)]
      exact runW_sub hσ A k (fun y hy => hv y (by simp [hy])) h
    · rw [if_neg hx]
      simp only [List.cons_append, List.nil_append, runW]
      exact runW_sub hσ A _ (fun y hy => hv y (by simp [hy])) h
theorem word_sub {σ : Int → List Nd} (hσ : ∀ N, Word (σ N)) {A : List Nd} (hv : ∀ x ∈ A, vOk x) (h : Word A) : Word (A.flatMap (subN σ)) := runW_sub hσ A 1 hv h
theorem word_var (N : Int) : Word [varNd N] := rfl
theorem word_look {c : List (Int × List Nd)} (h : ∀ q ∈ c, Word q.2) (N : Int) : Word (lookC c N) := by
  unfold lookC
  split
  · rename_i p hp; exact h p (List.mem_of_find?_eq_some hp)
  · exact word_var N

theorem matV_mono (N : Int) (ct : List Nd) (c : List (Int × List Nd)) : ∀ q ∈ c, q ∈ (matV N ct c).2 := by
  unfold matV
  split
  · exact fun q h => h
  · exact fun q h => List.mem_append_left _ h
theorem matL_mono {n : Nat} {f : Tm n → Tm n → List (Int × List Nd) → Bool × List (Int × List Nd)} (hf : ∀ p t c, ∀ q ∈ c, q ∈ (f p t c).2) : ∀ (ps ts : List (Tm n)) (c : List (Int × List Nd)), ∀ q ∈ c, q ∈ (matL f ps ts c).2
  | [], _, c => by simp [matL]
  | p :: ps, [], c => by simp [matL]
  | p :: ps, t :: ts, c => fun q hq => by
    simp only [matL]
    split
    · exact matL_mono hf ps ts _ q (hf p t c q hq)
    · exact hf p t c q hq
theorem matT_mono : ∀ {n : Nat} (p t : Tm n) (c : List (Int × List Nd)), ∀ q ∈ c, q ∈ (matT p t c).2
  | 0, p, _, _ => Empty.elim p
  | n + 1, p, t, c => by
    by_cases hk : p.tv.k = 1
    · rw [matT_var hk]; exact matV_mono _ _ _
    · by_cases hs : stop p.tv t.tv = true
      · rw [matT_same hk hs]; exact matL_mono (fun p t c => matT_mono (n := n) p t c) _ _ _
      · rw [matT_else hk hs]; exact fun q h => h

/-- A substitution that says what c says. -/
def Fits (σ : Int → List Nd) (c : List (Int × List Nd)) : Prop := ∀ q ∈ c, σ q.1 = q.2
theorem var_code {n : Nat} {p : Tm (n + 1)} (hw : Wl p) (ho : okT p = true) (hk : p.tv.k = 1) : code p = [varNd p.tv.N] := by
  have h1 := code_kids p
  have h2 : okNd p.tv.nd = true := by
    rw [okT_code, h1] at ho
    simp only [List.all_cons, Bool.and_eq_true] at ho
    exact ho.1
  have h3 := (okNd_var h2 hk).2
  have h4 : p.kids = [] := by
    have h5 := congrArg (fun x : Nd => x.2.2.2) h3
    simp [TV.nd, varNd] at h5
    have h6 := hw.1
    exact List.length_eq_zero_iff.1 (by omega)
  rw [h1, h3, h4]
  rfl
theorem nd_novar {n : Nat} {p : Tm (n + 1)} (σ : Int → List Nd) (hk : ¬ p.tv.k = 1) : (code p).flatMap (subN σ) = p.tv.nd :: (p.kids.flatMap code).flatMap (subN σ) := by
  rw [code_kids, List.flatMap_cons]
  have : subN σ p.tv.nd = [p.tv.nd] := by unfold subN; rw [if_neg (by simpa [TV.nd] using hk)]
  rw [this]
  rfl

/-- What is answered true: the substitution that the map says makes p t. -/
theorem matL_sound {n : Nat} (hf : ∀ (p t : Tm n) (c : List (Int × List Nd)) (σ : Int → List Nd), Wl p → okT p = true → (matT p t c).1 = true → Fits σ (matT p t c).2 → Wl t → (code p).flatMap (subN σ) = code t) : ∀ (ps ts : List (Tm n)) (c : List (Int × List Nd)) (σ : Int → List Nd), ps.length = ts.length → (∀ u ∈ ps, Wl u) → (∀ u ∈ ts, Wl u) → (∀ u ∈ ps, okT u = true) → (matL matT ps ts c).1 = true → Fits σ (matL matT ps ts c).2 → (ps.flatMap code).flatMap (subN σ) = ts.flatMap code
  | [], [], _, _, _, _, _, _, _, _ => rfl
  | [], t :: ts, _, _, h, _, _, _, _, _ => by simp at h
  | p :: ps, [], _, _, h, _, _, _, _, _ => by simp at h
  | p :: ps, t :: ts, c, σ, hl, hp, ht, ho, hm, hfit => by
    simp only [matL] at hm hfit
    by_cases h1 : (matT p t c).1 = true
    · rw [if_pos h1] at hm hfit
      rw [List.flatMap_cons, List.flatMap_append, List.flatMap_cons]
      have hfit1 : Fits σ (matT p t c).2 := fun q hq => hfit q (matL_mono (fun p t c => matT_mono p t c) ps ts _ q hq)
      rw [hf p t c σ (hp p (by simp)) (ho p (by simp)) h1 hfit1 (ht t (by simp)), matL_sound hf ps ts _ σ (by simpa using hl) (fun u hu => hp u (by simp [hu])) (fun u hu => ht u (by simp [hu])) (fun u hu => ho u (by simp [hu])) hm hfit]
    · rw [if_neg h1] at hm
      simp at hm
theorem matT_sound : ∀ {n : Nat} (p t : Tm n) (c : List (Int × List Nd)) (σ : Int → List Nd), Wl p → okT p = true → (matT p t c).1 = true → Fits σ (matT p t c).2 → Wl t → (code p).flatMap (subN σ) = code t
  | 0, p, _, _, _, _, _, _, _, _ => Empty.elim p
  | n + 1, p, t, c, σ, hw, ho, hm, hfit, hwt => by
    by_cases hk : p.tv.k = 1
    · rw [matT_var hk] at hm hfit
      rw [var_code hw ho hk, sub_varNd]
      unfold matV at hm hfit
      by_cases hq : ∃ q ∈ c, q.1 = p.tv.N
      · obtain ⟨q, hf, k1, k2⟩ := find_key hq
        rw [hf] at hm hfit
        have h1 := hfit q k1
        rw [k2] at h1
        rw [h1]
        simpa using hm
      · rw [find_no hq] at hfit
        exact hfit (p.tv.N, code t) (by simp)
    · by_cases hs : stop p.tv t.tv = true
      · rw [matT_same hk hs] at hm hfit
        rw [nd_novar σ hk, code_kids t, nd_stop.2 hs]
        have hl : p.kids.length = t.kids.length := by
          have h1 := hw.1
          have h2 := hwt.1
          simp [stop] at hs
          omega
        rw [matL_sound (fun p t c σ h1 h2 h3 h4 h5 => matT_sound (n := n) p t c σ h1 h2 h3 h4 h5) p.kids t.kids c σ hl hw.2 hwt.2 (ok_kids' ho) hm hfit]
      · rw [matT_else hk hs] at hm
        simp at hm

/-- If a substitution makes p t, it is answered true. -/
theorem matL_full {n : Nat} {σ : Int → List Nd} (hσ : ∀ N, Word (σ N)) (hf : ∀ (p t : Tm n) (c : List (Int × List Nd)), Wl p → okT p = true → Wl t → Fits σ c → (code p).flatMap (subN σ) = code t → (matT p t c).1 = true ∧ Fits σ (matT p t c).2) : ∀ (ps ts : List (Tm n)) (c : List (Int × List Nd)), ps.length = ts.length → (∀ u ∈ ps, Wl u) → (∀ u ∈ ts, Wl u) → (∀ u ∈ ps, okT u = true) → Fits σ c → (ps.flatMap code).flatMap (subN σ) = ts.flatMap code → (matL matT ps ts c).1 = true ∧ Fits σ (matL matT ps ts c).2
  | [], [], c, _, _, _, _, hfit, _ => ⟨by simp [matL], by simpa [matL] using hfit⟩
  | [], t :: ts, _, h, _, _, _, _, _ => by simp at h
  | p :: ps, [], _, h, _, _, _, _, _ => by simp at h
  | p :: ps, t :: ts, c, hl, hp, ht, ho, hfit, he => by
    rw [List.flatMap_cons, List.flatMap_append, List.flatMap_cons] at he
    obtain ⟨h1, h2⟩ := word_same (word_sub hσ (okT_vok (ho p (by simp))) (word_code p (hp p (by simp)))) (word_code t (ht t (by simp))) he
    obtain ⟨k1, k2⟩ := hf p t c (hp p (by simp)) (ho p (by simp)) (ht t (by simp)) hfit h1
    simp only [matL]
    rw [if_pos k1]
    exact matL_full hσ hf ps ts _ (by simpa using hl) (fun u hu => hp u (by simp [hu])) (fun u hu => ht u (by simp [hu])) (fun u hu => ho u (by simp [hu])) k2 h2
theorem matT_full {σ : Int → List Nd} (hσ : ∀ N, Word (σ N)) : ∀ {n : Nat} (p t : Tm n) (c : List (Int × List Nd)), Wl p → okT p = true → Wl t → Fits σ c → (code p).flatMap (subN σ) = code t → (matT p t c).1 = true ∧ Fits σ (matT p t c).2
  | 0, p, _, _, _, _, _, _, _ => Empty.elim p
  | n + 1, p, t, c, hw, ho, hwt, hfit, he => by
    by_cases hk : p.tv.k = 1
    · rw [var_code hw ho hk, sub_varNd] at he
      rw [matT_var hk]
      unfold matV
      by_cases hq : ∃ q ∈ c, q.1 = p.tv.N
      · obtain ⟨q, hf, k1, k2⟩ := find_key hq
        rw [hf]
        refine ⟨?_, hfit⟩
        have h1 := hfit q k1
        rw [k2, he] at h1
        simp [h1]
      · rw [find_no hq]
        refine ⟨rfl, fun q hq' => ?_⟩
        rcases List.mem_append.1 hq' with h | h
        · exact hfit q h
        · simp at h; subst h; exact he
    · rw [nd_novar σ hk, code_kids t] at he
      simp only [List.cons.injEq] at he
      have hs := nd_stop.1 he.1
      rw [matT_same hk hs]
      have hl : p.kids.length = t.kids.length := by
        have h1 := hw.1
        have h2 := hwt.1
        simp [stop] at hs
        omega
      exact matL_full hσ (fun p t c h1 h2 h3 h4 h5 => matT_full hσ (n := n) p t c h1 h2 h3 h4 h5) p.kids t.kids c hl hw.2 hwt.2 (ok_kids' ho) hfit he.2
end Go.Proofs.YtcjeeagnfmipgaaDoor

