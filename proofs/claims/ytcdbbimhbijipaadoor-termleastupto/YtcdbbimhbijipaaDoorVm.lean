import Derived.Test.YtcdbbimhbijipaaDoorNm
import Derived.Test.YtcdbbimhbijipaaDoorMc
/- Plain mathematics of variants: numbered from the same number on they are one; just if each matches the other. -/
namespace Go.Proofs.YtcdbbimhbijipaaDoor
open Go.RowKit Go.Shelf Go.Maps

/-- The variables of a row of parts get numbers from f on, in the order of their coming. -/
def canon (f : Int) (c : List Nd) : List Nd := c.flatMap (subN (renN f (stepsN stpN [] c)))
def IsVarOf (c : List Nd) (N : Int) : Prop := ∃ x ∈ c, x.1 = 1 ∧ x.2.1 = N
theorem sub_congr_on {σ τ : Int → List Nd} {c : List Nd} (h : ∀ N, IsVarOf c N → σ N = τ N) : c.flatMap (subN σ) = c.flatMap (subN τ) :=
  flatMap_same c fun x hx => by
    unfold subN
    by_cases hk : x.1 = 1
    · rw [if_pos hk, if_pos hk, h _ ⟨x, hx, hk, rfl⟩]
    · rw [if_neg hk, if_neg hk]
theorem sub_id {c : List Nd} (h : okC c) : c.flatMap (subN fun N => [varNd N]) = c := by
  have h1 : ∀ x ∈ c, subN (fun N => [varNd N]) x = [x] := fun x hx => by
    unfold subN
    by_cases hk : x.1 = 1
    · rw [if_pos hk]
      show [varNd x.2.1] = [x]
      rw [← (okNd_var (List.all_eq_true.1 h x hx) hk).2]
    · rw [if_neg hk]
  rw [flatMap_same c h1]
  simp

theorem steps_mem : ∀ (c : List Nd) (acc : List Int) (N : Int), N ∈ stepsN stpN acc c ↔ N ∈ acc ∨ IsVarOf c N
  | [], acc, N => by simp [stepsN, IsVarOf]
  | x :: c, acc, N => by
    have e : stepsN stpN acc (x :: c) = stepsN stpN (if x.1 = 1 then stpN acc x.2.1 else acc) c := rfl
    rw [e, steps_mem c]
    have hv : IsVarOf (x :: c) N ↔ (x.1 = 1 ∧ x.2.1 = N) ∨ IsVarOf c N := by
      unfold IsVarOf
      constructor
      · rintro ⟨y, hy, h⟩
        rcases List.mem_cons.1 hy with rfl | hy
        · exact .inl h
        · exact .inr ⟨y, hy, h⟩
      · rintro (h | ⟨y, hy, h⟩)
        · exact ⟨x, by simp, h⟩
        · exact ⟨y, by simp [hy], h⟩
    rw [hv]
    by_cases hk : x.1 = 1
    · rw [if_pos hk]
      unfold stpN
      split
      · rename_i hm
        constructor
        · rintro (h | h)
          · exact .inl h
          · exact .inr (.inr h)
        · rintro (h | ⟨_, rfl⟩ | h)
          · exact .inl h
          · exact .inl hm
          · exact .inr h
      · constructor
        · rintro (h | h)
          · rcases List.mem_append.1 h with h | h
            · exact .inl h
            · simp at h; exact .inr (.inl ⟨hk, h.symm⟩)
          · exact .inr (.inr h)
        · rintro (h | ⟨_, rfl⟩ | h)
          · exact .inl (List.mem_append_left _ h)
          · exact .inl (List.mem_append_right _ (by simp))
          · exact .inr h
    · rw [if_neg hk]
      constructor
      · rintro (h | h)
        · exact .inl h
        · exact .inr (.inr h)
      · rintro (h | ⟨h, _⟩ | h)
        · exact .inl h
        · exact (hk h).elim
        · exact .inr h
/-- A renaming that keeps unlike variables unlike. -/
def InjOn (ρ : Int → Int) (P : Int → Prop) : Prop := ∀ M N, P M → P N → ρ M = ρ N → M = N
theorem idxOf_map {ρ : Int → Int} : ∀ (l : List Int) (N : Int), (∀ M ∈ l, ρ M = ρ N → M = N) → (l.map ρ).idxOf (ρ N) = l.idxOf N
  | [], N, _ => rfl
  | M :: l, N, h => by
    rw [List.map_cons, List.idxOf_cons, List.idxOf_cons]
    by_cases e : M = N
    · subst e; simp
    · have e' : ¬ ρ M = ρ N := fun h' => e (h M (by simp) h')
      simp only [beq_eq_false_iff_ne.2 e, beq_eq_false_iff_ne.2 e']
      rw [idxOf_map l N fun M hM => h M (by simp [hM])]
theorem steps_ren {ρ : Int → Int} {P : Int → Prop} (hρ : InjOn ρ P) : ∀ (c : List Nd) (acc : List Int), (∀ N ∈ acc, P N) → (∀ N, IsVarOf c N → P N) → stepsN stpN (acc.map ρ) (c.flatMap (subN fun N => [varNd (ρ N)])) = (stepsN stpN acc c).map ρ
  | [], acc, _, _ => rfl
  | x :: c, acc, ha, hc => by
    have hc' : ∀ N, IsVarOf c N → P N := fun N ⟨y, hy, h⟩ => hc N ⟨y, by simp [hy], h⟩
    rw [List.flatMap_cons, stepsN_append]
    have e : stepsN stpN acc (x :: c) = stepsN stpN (if x.1 = 1 then stpN acc x.2.1 else acc) c := rfl
    rw [e]
    by_cases hk : x.1 = 1
    · have hP : P x.2.1 := hc _ ⟨x, by simp, hk, rfl⟩
      rw [if_pos hk]
      have e1 : stepsN stpN (acc.map ρ) (subN (fun N => [varNd (ρ N)]) x) = (stpN acc x.2.1).map ρ := by
        unfold subN
        rw [if_pos hk]
        show stpN (acc.map ρ) (ρ x.2.1) = _
        unfold stpN
        by_cases hm : x.2.1 ∈ acc
        · rw [if_pos hm, if_pos (List.mem_map.2 ⟨_, hm, rfl⟩)]
        · rw [if_neg hm, if_neg]
          · simp
          · intro h
            obtain ⟨M, hM, e⟩ := List.mem_map.1 h
            exact hm (hρ M _ (ha M hM) hP e ▸ hM)
      rw [e1]
      refine steps_ren hρ c _ (fun N hN => ?_) hc'
      unfold stpN at hN
      split at hN
      · exact ha N hN
      · rcases List.mem_append.1 hN with hN | hN
        · exact ha N hN
        · simp at hN; subst hN; exact hP
    · rw [if_neg hk]
      have e1 : stepsN stpN (acc.map ρ) (subN (fun N => [varNd (ρ N)]) x) = acc.map ρ := by
        unfold subN
        rw [if_neg hk]
        show (if x.1 = 1 then _ else _) = _
        rw [if_neg hk]
      rw [e1]
      exact steps_ren hρ c acc ha hc'
/-- What is renamed is numbered as what was not. -/
theorem canon_ren {ρ : Int → Int} {c : List Nd} (hρ : InjOn ρ (IsVarOf c)) (f : Int) : canon f (c.flatMap (subN fun N => [varNd (ρ N)])) = canon f c := by
  have h1 := steps_ren hρ c [] (fun N h => by cases h) (fun N h => h)
  rw [List.map_nil] at h1
  unfold canon
  rw [h1, sub_sub]
  refine sub_congr_on fun N hN => ?_
  rw [sub_varNd]
  unfold renN
  rw [idxOf_map]
  intro M hM e
  rcases (steps_mem c [] M).1 hM with h | h
  · cases h
  · exact hρ M N h hN e
theorem canon_canon (f : Int) (c : List Nd) : canon 0 (canon f c) = canon 0 c := by
  have : canon f c = c.flatMap (subN fun N => [varNd (f + ((stepsN stpN [] c).idxOf N : Nat))]) := rfl
  rw [this]
  refine canon_ren (ρ := fun N => f + ((stepsN stpN [] c).idxOf N : Nat)) (fun M N hM hN e => ?_) 0
  have hM' := (steps_mem c [] M).2 (.inr hM)
  have hN' := (steps_mem c [] N).2 (.inr hN)
  have e' : (stepsN stpN [] c).idxOf M = (stepsN stpN [] c).idxOf N := by simp only at e; omega
  have h1 := List.getElem_idxOf (List.idxOf_lt_length_of_mem hM')
  have h2 := List.getElem_idxOf (List.idxOf_lt_length_of_mem hN')
  rw [← h1, ← h2]
  simp only [e']
/-- What is numbered can be given its own variables back. -/
theorem canon_back {c : List Nd} (h : okC c) : ∃ τ : Int → Int, (canon 0 c).flatMap (subN fun N => [varNd (τ N)]) = c := by
  refine ⟨fun M => (stepsN stpN [] c)[M.toNat]?.getD 0, ?_⟩
  unfold canon
  rw [sub_sub]
  refine Eq.trans (sub_congr_on fun N hN => ?_) (sub_id h)
  have hN' := (steps_mem c [] N).2 (.inr hN)
  unfold renN
  rw [sub_varNd]
  have hlt := List.idxOf_lt_length_of_mem hN'
  have e : ((0 : Int) + ((stepsN stpN [] c).idxOf N : Nat)).toNat = (stepsN stpN [] c).idxOf N := by omega
  simp only [e]
  rw [List.getElem?_eq_getElem hlt, List.getElem_idxOf hlt]
  rfl
theorem word_len {l : List Nd} (h : Word l) : 1 ≤ l.length := by
  cases l with
  | nil => simp [Word, runW] at h
  | cons x l => simp
theorem sub_len {σ : Int → List Nd} (hσ : ∀ N, Word (σ N)) : ∀ (c : List Nd), c.length ≤ (c.flatMap (subN σ)).length
  | [] => by simp
  | x :: c => by
    have h1 := sub_len hσ c
    have h2 : 1 ≤ (subN σ x).length := by
      unfold subN
      split
      · exact word_len (hσ _)
      · simp
    rw [List.flatMap_cons, List.length_append, List.length_cons]
    omega

/-- Variants, just if each matches the other. -/
theorem variants_iff {ca cb : List Nd} (ha : okC ca) (hb : okC cb) : canon 0 ca = canon 0 cb ↔ Matches ca cb ∧ Matches cb ca := by
  constructor
  · intro h
    have key : ∀ {x y : List Nd}, okC y → canon 0 x = canon 0 y → Matches x y := fun {x y} hy e => by
      obtain ⟨τ, hτ⟩ := canon_back hy
      rw [← e] at hτ
      unfold canon at hτ
      rw [sub_sub] at hτ
      exact ⟨_, fun N => by unfold renN; rw [sub_varNd]; exact word_var _, hτ⟩
    exact ⟨key hb h, key ha h.symm⟩
  · rintro ⟨⟨σ, hσ, h1⟩, ⟨τ, hτ, h2⟩⟩
    have hfix : ca.flatMap (subN fun N => (σ N).flatMap (subN τ)) = ca := by rw [← sub_sub, h1, h2]
    have hone : ∀ N, IsVarOf ca N → ∃ M, σ N = [varNd M] ∧ τ M = [varNd N] := by
      intro N hN
      have hlen : ∀ N', 1 ≤ ((σ N').flatMap (subN τ)).length := fun N' => Nat.le_trans (word_len (hσ N')) (sub_len hτ _)
      have hfx : (σ N).flatMap (subN τ) = [varNd N] := by
        have gen : ∀ {θ : Int → List Nd} (_ : ∀ N, 1 ≤ (θ N).length) {c : List Nd}, okC c → c.flatMap (subN θ) = c → ∀ N, IsVarOf c N → θ N = [varNd N] := by
          intro θ hθ c
          induction c with
          | nil => intro _ _ N ⟨x, hx, _⟩; cases hx
          | cons x c ih =>
            intro hok h N hN
            have hokx : okNd x = true ∧ okC c := by
              unfold okC at hok ⊢
              simpa using hok
            have hl0 : ∀ (c : List Nd), c.length ≤ (c.flatMap (subN θ)).length := by
              intro c
              induction c with
              | nil => simp
              | cons x c ih =>
                have h2 : 1 ≤ (subN θ x).length := by
                  unfold subN
                  split
                  · exact hθ _
                  · simp
                rw [List.flatMap_cons, List.length_append, List.length_cons]
                omega
            rw [List.flatMap_cons] at h
            have h1 := hl0 c
            have hl := congrArg List.length h
            rw [List.length_append, List.length_cons] at hl
            obtain ⟨y, hy⟩ : ∃ y, subN θ x = [y] := by
              have h2 : 1 ≤ (subN θ x).length := by
                unfold subN
                split
                · exact hθ _
                · simp
              exact List.length_eq_one_iff.1 (by omega)
            rw [hy, List.singleton_append, List.cons.injEq] at h
            obtain ⟨rfl, h⟩ := h
            obtain ⟨z, hz, hz1, rfl⟩ := hN
            rcases List.mem_cons.1 hz with rfl | hz
            · unfold subN at hy
              rw [if_pos hz1] at hy
              rw [hy, ← (okNd_var hokx.1 hz1).2]
            · exact ih hokx.2 h _ ⟨z, hz, hz1, rfl⟩
        exact gen hlen ha hfix N hN
      have h3 := sub_len hτ (σ N)
      have h4 := word_len (hσ N)
      rw [hfx, List.length_singleton] at h3
      obtain ⟨y, hy⟩ : ∃ y, σ N = [y] := List.length_eq_one_iff.1 (by omega)
      rw [hy] at hfx
      simp only [List.flatMap_cons, List.flatMap_nil, List.append_nil] at hfx
      have hk : y.1 = 1 := by
        by_cases hk : y.1 = 1
        · exact hk
        · unfold subN at hfx
          rw [if_neg hk] at hfx
          have : y = varNd N := by simpa using hfx
          rw [this] at hk
          exact (hk rfl).elim
      have hmem : y ∈ cb := by
        rw [← h1]
        obtain ⟨x, hx, hx1, rfl⟩ := hN
        refine List.mem_flatMap.2 ⟨x, hx, ?_⟩
        unfold subN
        rw [if_pos hx1, hy]
        simp
      have hyv := (okNd_var (List.all_eq_true.1 hb y hmem) hk).2
      refine ⟨y.2.1, by rw [hy, ← hyv], ?_⟩
      unfold subN at hfx
      rw [if_pos hk] at hfx
      exact hfx
    have hcb : cb = ca.flatMap (subN fun N => [varNd ((σ N).head?.getD (varNd 0)).2.1]) := by
      rw [← h1]
      refine sub_congr_on fun N hN => ?_
      obtain ⟨M, hM, _⟩ := hone N hN
      rw [hM]; rfl
    rw [hcb]
    refine (canon_ren (ρ := fun N => ((σ N).head?.getD (varNd 0)).2.1) (fun M N hM hN e => ?_) 0).symm
    obtain ⟨M1, k1, k2⟩ := hone M hM
    obtain ⟨N1, k3, k4⟩ := hone N hN
    simp only [k1, k3, List.head?_cons, Option.getD_some] at e
    have e' : M1 = N1 := e
    rw [e', k4] at k2
    have := (List.cons.inj k2).1
    simp [varNd] at this
    exact this.symm
end Go.Proofs.YtcdbbimhbijipaaDoor

