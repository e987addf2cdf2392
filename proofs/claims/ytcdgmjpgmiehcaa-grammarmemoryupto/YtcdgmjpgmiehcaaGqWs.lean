import Derived.Test.YtcdgmjpgmiehcaaGqV
import Derived.Test.YtcdgmjpgmiehcaaGmNs
import Derived.Test.YtcdgmjpgmiehcaaBaFs
import Derived.Test.YtcdgmjpgmiehcaaGmQs
import Derived.BigRegion
import Derived.Test.YtcdgmjpgmiehcaaOpGs
import Derived.Test.YtcdgmjpgmiehcaaTs
/- What holds of each part of a body, and of its points, holds of each part of its goal: mathematics. -/
namespace Go.Proofs.Ytcdgmjpgmiehcaa
open Go.RowKit Go.Shelf

theorem all_app {p : Nd → Bool} {c d : List Nd} : (c ++ d).all p = true ↔ c.all p = true ∧ d.all p = true := by rw [List.all_append, Bool.and_eq_true]
theorem all_cons {p : Nd → Bool} {x : Nd} {d : List Nd} : (x :: d).all p = true ↔ p x = true ∧ d.all p = true := by rw [List.all_cons, Bool.and_eq_true]
theorem kid_all {p : Nd → Bool} {n : Nat} {x : TV} {kids : List (Tm n)} (h : (code (n := n + 1) ((x, kids) : TV × List (Tm n))).all p = true) : p x.nd = true ∧ (kids.flatMap code).all p = true ∧ ∀ u ∈ kids, (code u).all p = true := by
  rw [code_succ, all_cons] at h
  refine ⟨h.1, h.2, fun u hu => ?_⟩
  rw [List.all_eq_true] at h ⊢
  exact fun y hy => h.2 y (List.mem_flatMap.2 ⟨u, hu, hy⟩)
theorem end_all {p : Nd → Bool} {r : List Nd} (hr : r.all p = true) : ∀ {n : Nat} (t : Tm n), Wl t → (code t).all p = true → (endC t r).all p = true := by
  intro n
  induction n with
  | zero => intro t; exact Empty.elim t
  | succ n ih =>
    intro t hw h
    obtain ⟨x, kids⟩ := t
    rw [endC_succ]
    cases hx : isB x [46] 2 with
    | false => simpa using hr
    | true =>
      have hl : x.len = 2 := by have := isB_len hx; omega
      obtain ⟨u, v, rfl⟩ := two_kids hw hl
      have hwk : ∀ z ∈ [u, v], Wl z := hw.2
      obtain ⟨h1, _, h3⟩ := kid_all h
      rw [if_pos rfl]
      show (x.nd :: (code u ++ endC v r)).all p = true
      rw [all_cons, all_app]
      exact ⟨h1, h3 u (by simp), ih v (hwk v (by simp)) (h3 v (by simp))⟩
theorem okM_name {y : Nd} (h : okM y = true) : y.2.2.1.length ≤ 100 := by
  obtain ⟨k, N, l, len⟩ := y
  show l.length ≤ 100
  by_cases k1 : k = 1
  · subst k1
    simp [okM] at h
    have hl : l = [] := by first | exact h.1.2 | exact h.2.2.1 | exact h.2.1
    rw [hl]; simp
  · by_cases k2 : k = 2
    · subst k2
      simp [okM] at h
      have hl : l = [] := h.1
      rw [hl]; simp
    · by_cases k3 : k = 3
      · subst k3
        simp [okM] at h
        omega
      · by_cases k4 : k = 4
        · subst k4
          simp [okM] at h
          omega
        · simp [okM, k1, k2, k3, k4] at h
theorem btw_all {p : Nd → Bool} (h4 : ∀ (l : List UInt8) (k : Nat), l.length ≤ 100 → 1 ≤ k → k ≤ 50 → p (4, 0, l, k) = true) (h3 : p (3, 0, [33], 0) = true) (hb : ∀ {n : Nat} (u : Tm n) (c : List Nd), Wl u → okT u = true → bodyC u = some c → (code u).all p = true → c.all p = true) (hv : ∀ (x : TV), x.k = 1 → p x.nd = true → p (varNd x.N) = true) :
    ∀ {n : Nat} (t : Tm n), Wl t → okT t = true → berr t = 0 → (code t).all p = true → ∀ (s r : List Nd) (f : Int), s.all p = true → r.all p = true → (∀ i : Nat, i < cntT t → p (varNd (f + i)) = true) → (btwC t s r f).all p = true := by
  intro n
  induction n with
  | zero => intro t; exact Empty.elim t
  | succ n ih =>
    intro t hw ok he ht s r f hs hr hi
    have hend := end_all hr t hw ht
    have hokm : (code t).all okM = true := by rw [← okT_m]; exact ok
    obtain ⟨x, kids⟩ := t
    have hk := ok_kids ok
    have hwk : ∀ z ∈ kids, Wl z := hw.2
    obtain ⟨t1, t2, t3⟩ := kid_all ht
    have hl := ok_len ok
    have hnm : x.s.toList.length ≤ 100 := okM_name (kid_all hokm).1
    have heq : (eqC s r).all p = true := by
      unfold eqC
      rw [all_cons, all_app]
      exact ⟨h4 _ 2 (by decide) (by omega) (by omega), hs, hr⟩
    have hv1 : ∀ {g : Int}, p (varNd g) = true → [varNd g].all p = true := fun h => by rw [all_cons]; exact ⟨h, rfl⟩
    have hfz : (formB x = 2 ∨ formB x = 3 ∨ formB x = 4) → ∀ z ∈ kids, berr z = 0 := fun hf z hz => by
      rw [berr_succ, if_pos hf] at he
      exact first_zero he _ (List.mem_map.2 ⟨z, hz, rfl⟩)
    rw [btwC_succ]
    by_cases f1 : formB x = 1
    · rw [if_pos f1, all_cons, all_cons, all_app]
      exact ⟨h4 _ 3 (by decide) (by omega) (by omega), hv x (form_one.1 f1) t1, hs, hr⟩
    · rw [if_neg f1]
      by_cases f2 : formB x = 2
      · obtain ⟨a, b, rfl⟩ := two_kids hw (form_two f2)
        have ec : cntT (n := n + 1) ((x, [a, b]) : TV × List (Tm n)) = 1 + (cntT a + cntT b) := by rw [cntT_succ, if_pos (.inl f2)]; simp
        rw [ec] at hi
        rw [if_pos f2]
        show ((4, 0, x.s.toList, 2) :: (btwC a s [varNd f] (f + 1) ++ btwC b [varNd f] r (f + 1 + cntT a))).all p = true
        have h0 : p (varNd f) = true := by have := hi 0 (by omega); simpa using this
        rw [all_cons, all_app]
        refine ⟨h4 _ 2 hnm (by omega) (by omega), ih a (hwk a (by simp)) (hk.2 a (by simp)) (hfz (.inl f2) a (by simp)) (t3 a (by simp)) _ _ _ hs (hv1 h0) (fun i h => ?_), ih b (hwk b (by simp)) (hk.2 b (by simp)) (hfz (.inl f2) b (by simp)) (t3 b (by simp)) _ _ _ (hv1 h0) hr (fun i h => ?_)⟩
        · have := hi (1 + i) (by omega)
          rw [show f + 1 + (i : Int) = f + ((1 + i : Nat) : Int) by omega]; exact this
        · have := hi (1 + cntT a + i) (by omega)
          rw [show f + 1 + (cntT a : Int) + (i : Int) = f + ((1 + cntT a + i : Nat) : Int) by omega]; exact this
      · rw [if_neg f2]
        by_cases f3 : formB x = 3
        · obtain ⟨a, b, rfl⟩ := two_kids hw (form_three f3)
          have ec : cntT (n := n + 1) ((x, [a, b]) : TV × List (Tm n)) = cntT a + cntT b := by rw [cntT_succ, if_neg (by omega), if_pos f3]; simp
          rw [ec] at hi
          rw [if_pos f3]
          show ((4, 0, x.s.toList, 2) :: (btwC a s r f ++ btwC b s r (f + cntT a))).all p = true
          rw [all_cons, all_app]
          refine ⟨h4 _ 2 hnm (by omega) (by omega), ih a (hwk a (by simp)) (hk.2 a (by simp)) (hfz (.inr (.inl f3)) a (by simp)) (t3 a (by simp)) _ _ _ hs hr (fun i h => hi i (by omega)), ih b (hwk b (by simp)) (hk.2 b (by simp)) (hfz (.inr (.inl f3)) b (by simp)) (t3 b (by simp)) _ _ _ hs hr (fun i h => ?_)⟩
          have := hi (cntT a + i) (by omega)
          rw [show f + (cntT a : Int) + (i : Int) = f + ((cntT a + i : Nat) : Int) by omega]; exact this
        · rw [if_neg f3]
          by_cases f4 : formB x = 4
          · obtain ⟨a, rfl⟩ := one_kid hw (form_four f4)
            have ec : cntT (n := n + 1) ((x, [a]) : TV × List (Tm n)) = 1 + cntT a := by rw [cntT_succ, if_pos (.inr f4)]; simp
            rw [ec] at hi
            rw [if_pos f4]
            show ((4, 0, [44], 2) :: ((4, 0, x.s.toList, 1) :: (btwC a s [varNd f] (f + 1) ++ eqC s r))).all p = true
            have h0 : p (varNd f) = true := by have := hi 0 (by omega); simpa using this
            rw [all_cons, all_cons, all_app]
            refine ⟨h4 _ 2 (by decide) (by omega) (by omega), h4 _ 1 hnm (by omega) (by omega), ih a (hwk a (by simp)) (hk.2 a (by simp)) (hfz (.inr (.inr f4)) a (by simp)) (t3 a (by simp)) _ _ _ hs (hv1 h0) (fun i h => ?_), heq⟩
            have := hi (1 + i) (by omega)
            rw [show f + 1 + (i : Int) = f + ((1 + i : Nat) : Int) by omega]; exact this
          · rw [if_neg f4]
            rw [berr_succ, if_neg (by omega), partE_succ] at he
            by_cases f5 : formB x = 5
            · rw [if_pos f5, all_cons, all_app]
              exact ⟨h4 _ 2 (by decide) (by omega) (by omega), hs, hend⟩
            · rw [if_neg f5] at he ⊢
              by_cases f6 : formB x = 6
              · rw [if_pos f6]
                cases kids with
                | nil => exact heq
                | cons u l =>
                  show ((4, 0, [44], 2) :: ((bodyC u).getD [] ++ eqC s r)).all p = true
                  rw [all_cons, all_app]
                  refine ⟨h4 _ 2 (by decide) (by omega) (by omega), ?_, heq⟩
                  cases hc : bodyC u with
                  | none => rfl
                  | some c => exact hb u c (hwk u (by simp)) (hk.2 u (by simp)) hc (t3 u (by simp))
              · rw [if_neg f6] at he ⊢
                by_cases f7 : formB x = 7
                · rw [if_pos f7, all_cons, all_cons]
                  exact ⟨h4 _ 2 (by decide) (by omega) (by omega), h3, heq⟩
                · rw [if_neg f7, all_cons, all_app, all_app]
                  refine ⟨h4 _ _ hnm (by omega) ?_, t2, hs, hr⟩
                  by_cases f0' : formB x = 0
                  · rw [if_pos f0'] at he; omega
                  · rw [if_neg f0'] at he
                    by_cases f8 : formB x = 8
                    · rw [if_pos f8] at he
                      by_cases h8 : 8 < x.len + 2
                      · rw [if_pos h8] at he; omega
                      · omega
                    · rw [if_neg f8] at he
                      have hr9 : 0 ≤ formB x ∧ formB x ≤ 9 := by unfold formB; repeat' split <;> omega
                      rw [if_pos (by omega)] at he
                      unfold extE at he
                      split at he
                      · omega
                      · split at he
                        · omega
                        · omega
end Go.Proofs.Ytcdgmjpgmiehcaa

/- A rule's clause, made of the renamed rule and of the rule itself, is the same when it is renumbered: mathematics. -/
namespace Go.Proofs.Ytcdgmjpgmiehcaa
open Go.RowKit Go.Shelf

theorem idx_inj {l : List Int} {a b : Int} (ha : a ∈ l) (h : l.idxOf a = l.idxOf b) : a = b := by
  have h1 := List.idxOf_lt_length_of_mem ha
  have e1 := List.getElem_idxOf (xs := l) (x := a) h1
  have h2 : l.idxOf b < l.length := by omega
  have e2 := List.getElem_idxOf (xs := l) (x := b) h2
  rw [← e1, ← e2]
  simp only [h]
theorem newR_inj {f0 : Int} {vs : List Int} {a b : Int} (ha : f0 ≤ a → a ∈ vs) (h : newR f0 vs a = newR f0 vs b) : a = b := by
  unfold newR at h
  by_cases h1 : f0 ≤ a
  · rw [if_pos h1] at h
    by_cases h2 : f0 ≤ b
    · rw [if_pos h2] at h
      exact idx_inj (ha h1) (by omega)
    · rw [if_neg h2] at h; omega
  · rw [if_neg h1] at h
    by_cases h2 : f0 ≤ b
    · rw [if_pos h2] at h; omega
    · rw [if_neg h2] at h; exact h
theorem trans_code {n m : Nat} {u : Tm n} {t : Tm m} (hu : Wl u) (oku : okT u = true) (ht : Wl t) {σ : Int → Int} {k n0 : Int} {h : List Nd} (hcode : code t = renC σ (code u))
    (hlt : ∀ N, IsVarOf (code u) N ∨ IsVarOf h N → N < n0) (hσ : ∀ N, IsVarOf (code u) N ∨ IsVarOf h N → σ N < k) (hinj : ∀ a b, IsVarOf (code u) a ∨ IsVarOf h a → IsVarOf (code u) b ∨ IsVarOf h b → σ a = σ b → a = b) :
    canon 0 (renC σ h ++ ([varNd k] ++ [varNd (k + 1)]) ++ renC (newR (k + 2) (extV (k + 2) [] (btwC t [varNd k] [varNd (k + 1)] (k + 2)))) (btwC t [varNd k] [varNd (k + 1)] (k + 2))) =
    canon 0 (h ++ ([varNd n0] ++ [varNd (n0 + 1)]) ++ btwC u [varNd n0] [varNd (n0 + 1)] (n0 + 2)) := by
  obtain ⟨σ', hσ'⟩ : ∃ σ' : Int → Int, σ' = fun N => if N < n0 then σ N else N - n0 + k := ⟨_, rfl⟩
  have s1 : ∀ N, N < n0 → σ' N = σ N := fun N hN => by rw [hσ']; exact if_pos hN
  have s2 : ∀ N, n0 ≤ N → σ' N = N - n0 + k := fun N hN => by rw [hσ']; exact if_neg (by omega)
  have hc' : code t = renC σ' (code u) := by
    rw [hcode]
    exact sub_congr_on fun N hN => by rw [s1 N (hlt N (.inl hN))]
  obtain ⟨q1, _, q3⟩ := btw_ren σ' u hu oku t ht hc'
  have hg := q3 [varNd n0] [varNd (n0 + 1)] (n0 + 2) (k + 2) (fun i _ => by rw [s2 _ (by omega)]; omega)
  rw [ren_var, ren_var, s2 n0 (by omega), s2 (n0 + 1) (by omega), show n0 - n0 + k = k by omega, show n0 + 1 - n0 + k = k + 1 by omega] at hg
  obtain ⟨gp, hgp⟩ : ∃ gp, btwC t [varNd k] [varNd (k + 1)] (k + 2) = gp := ⟨_, rfl⟩
  obtain ⟨g, hgg⟩ : ∃ g, btwC u [varNd n0] [varNd (n0 + 1)] (n0 + 2) = g := ⟨_, rfl⟩
  have hv := fun N => (btw_vars u hu oku [varNd n0] [varNd (n0 + 1)] (n0 + 2) N).1
  rw [hgp, hgg] at hg
  rw [hgg] at hv
  rw [hgp, hgg]
  obtain ⟨vs, hvs⟩ : ∃ vs, extV (k + 2) [] gp = vs := ⟨_, rfl⟩
  have hcm : Come (k + 2) vs gp := by rw [← hvs]; exact come_ext _ _ _
  rw [hvs]
  have low : ∀ N, N < k + 2 → newR (k + 2) vs N = N := fun N hN => if_neg (by omega)
  have e1 : renC (fun N => newR (k + 2) vs (σ' N)) h = renC σ h := sub_congr_on fun N hN => by
    have h1 := hlt N (.inr hN)
    have h2 := hσ N (.inr hN)
    show [varNd (newR (k + 2) vs (σ' N))] = [varNd (σ N)]
    rw [s1 N h1, low _ (by omega)]
  have e2 : renC (fun N => newR (k + 2) vs (σ' N)) g = renC (newR (k + 2) vs) gp := by rw [hg, renC_comp]
  have e3 : renC (fun N => newR (k + 2) vs (σ' N)) (h ++ ([varNd n0] ++ [varNd (n0 + 1)]) ++ g) = renC σ h ++ ([varNd k] ++ [varNd (k + 1)]) ++ renC (newR (k + 2) vs) gp := by
    rw [renC_append, renC_append, renC_append, e1, e2, ren_var, ren_var, s2 n0 (by omega), s2 (n0 + 1) (by omega), low _ (by omega), low _ (by omega), show n0 - n0 + k = k by omega, show n0 + 1 - n0 + k = k + 1 by omega]
  rw [← e3]
  refine canon_ren ?_ 0
  -- what variables there are
  have hcase : ∀ N, IsVarOf (h ++ ([varNd n0] ++ [varNd (n0 + 1)]) ++ g) N → (IsVarOf (code u) N ∨ IsVarOf h N) ∨ n0 ≤ N := fun N hN => by
    rw [isVar_append, isVar_append, isVar_append, var_one, var_one] at hN
    rcases hN with (hN | hN | hN) | hN
    · exact .inl (.inr hN)
    · exact .inr (by omega)
    · exact .inr (by omega)
    · rcases hv N hN with h1 | h1 | h1 | h1
      · exact .inl (.inl h1)
      · rw [var_one] at h1; exact .inr (by omega)
      · rw [var_one] at h1; exact .inr (by omega)
      · exact .inr (by omega)
  have hin : ∀ N, IsVarOf (h ++ ([varNd n0] ++ [varNd (n0 + 1)]) ++ g) N → k + 2 ≤ σ' N → σ' N ∈ vs := fun N hN h2 => by
    rcases hcase N hN with h1 | h1
    · have := hσ N h1; rw [s1 N (hlt N h1)] at h2; omega
    · rw [s2 N h1] at h2
      rw [isVar_append, isVar_append, isVar_append, var_one, var_one] at hN
      rcases hN with (hN | hN | hN) | hN
      · have := hlt N (.inr hN); omega
      · omega
      · omega
      · refine hcm _ ?_ (by rw [s2 N h1]; exact h2)
        rw [hg]
        obtain ⟨y, hy, hy1, hy2⟩ := hN
        refine ⟨varNd (σ' N), ?_, rfl, rfl⟩
        unfold renC
        rw [List.mem_flatMap]
        exact ⟨y, hy, by unfold subN; rw [if_pos hy1, hy2]; simp⟩
  intro a b ha hb e
  have e' := newR_inj (hin a ha) e
  rcases hcase a ha with h1 | h1
  · rcases hcase b hb with h2 | h2
    · rw [s1 a (hlt a h1), s1 b (hlt b h2)] at e'
      exact hinj a b h1 h2 e'
    · have := hσ a h1
      rw [s1 a (hlt a h1), s2 b h2] at e'
      omega
  · rcases hcase b hb with h2 | h2
    · have := hσ b h2
      rw [s2 a h1, s1 b (hlt b h2)] at e'
      omega
    · rw [s2 a h1, s2 b h2] at e'
      omega
end Go.Proofs.Ytcdgmjpgmiehcaa

/- The contract of term.number. -/
namespace Go.Proofs.Ytcdgmjpgmiehcaa
open Go.RowKit Go.Shelf Go.Maps

/-- What lies behind number's first steps. -/
theorem number_world (w : World) (x : TV) (f : Int) : ∃ W5, ((((w.alloc (.cells #[.int .i64 x.k, .int .i64 x.N, .string x.s, .slice x.a x.len x.cap] 24)).alloc (.cells #[.int .i64 0, .int .i64 0, .string ⟨#[]⟩, .slice none 0 0] 24)).alloc (.cells #[.int .i64 f] 2)).alloc (.map #[] 0)).alloc (.cells #[.map (some (w.heap.size + 3))] 73) = W5 ∧
    Below w.heap.size w W5 ∧ W5.heap.size = w.heap.size + 5 ∧ BoxT W5 w.heap.size x ∧ W5.heap[w.heap.size + 1]? = some (.cells #[.int .i64 0, .int .i64 0, .string ⟨#[]⟩, .slice none 0 0] 24 (0, 0)) ∧ NumI f (w.heap.size + 3) (w.heap.size + 4) (w.heap.size + 2) [] W5 := by
  refine ⟨_, rfl, ((((Below.refl _ w).alloc (Nat.le_refl _) _).alloc (by simp) _).alloc (by simp; omega) _ |>.alloc (by simp; omega) _).alloc (by simp; omega) _, by simp, (((BoxT.new w x).alloc _).alloc _ |>.alloc _).alloc _, ?_, ?_⟩
  · have h := World.alloc_heap_new (w.alloc (.cells #[.int .i64 x.k, .int .i64 x.N, .string x.s, .slice x.a x.len x.cap] 24)) (.cells #[.int .i64 0, .int .i64 0, .string ⟨#[]⟩, .slice none 0 0] 24)
    rw [World.size_alloc] at h
    exact (Below.heap_alloc _ _ _ (by simp <;> omega)).trans ((Below.heap_alloc _ _ _ (by simp <;> omega)).trans ((Below.heap_alloc _ _ _ (by simp)).trans h))
  · refine ⟨List.nodup_nil, (fun N hN => by cases hN), ?_, ?_, .map [], ?_, (fun N => by simp [Maps.has]), (fun N hN => by cases hN)⟩
    · have h := World.alloc_heap_new ((((w.alloc (.cells #[.int .i64 x.k, .int .i64 x.N, .string x.s, .slice x.a x.len x.cap] 24)).alloc (.cells #[.int .i64 0, .int .i64 0, .string ⟨#[]⟩, .slice none 0 0] 24)).alloc (.cells #[.int .i64 f] 2)).alloc (.map #[] 0)) (.cells #[.map (some (w.heap.size + 3))] 73)
      simp only [World.size_alloc] at h
      exact h
    · have h := World.alloc_heap_new ((w.alloc (.cells #[.int .i64 x.k, .int .i64 x.N, .string x.s, .slice x.a x.len x.cap] 24)).alloc (.cells #[.int .i64 0, .int .i64 0, .string ⟨#[]⟩, .slice none 0 0] 24)) (.cells #[.int .i64 f] 2)
      simp only [World.size_alloc] at h
      have h2 := (Below.heap_alloc _ (.cells #[.map (some (w.heap.size + 3))] 73) _ (by simp <;> omega)).trans ((Below.heap_alloc _ (.map #[] 0) _ (by simp)).trans h)
      simpa using h2
    · have h := World.ownsMap_made (H := Unit) (((w.alloc (.cells #[.int .i64 x.k, .int .i64 x.N, .string x.s, .slice x.a x.len x.cap] 24)).alloc (.cells #[.int .i64 0, .int .i64 0, .string ⟨#[]⟩, .slice none 0 0] 24)).alloc (.cells #[.int .i64 f] 2)) Try.prog 2 (plainElem Try.prog 2)
      simp only [World.size_alloc] at h
      exact h.alloc _

set_option maxRecDepth 100000 in
set_option maxHeartbeats 1000000 in
theorem number_any {n : Nat} (t : Tm n) (f : Int) (w : World) (hT : IsT w.heap.size w t) (hok : okT t = true) (hf0 : 0 ≤ f) (hf1 : f ≤ 1099511627776) :
    Calls Try.prog 31 #[t.tv.val, .int .i64 f] w fun e W' => ∃ x : TV, e = .returned (.tuple #[x.val, .int .i64 (f + ((stepsN stpN [] (code t)).length : Nat))]) ∧ Below w.heap.size w W' ∧ HoldsT (n + 1) w.heap.size W' x.val ((code t).flatMap (subN (renN f (stepsN stpN [] (code t))))) := by
  obtain ⟨W5, hW5, hB5, hs5, hbt, hz5, hI5⟩ := number_world w t.tv f
  have hrep := replace_anyX (stately_num (f := f) (mb := w.heap.size + 3) (bb := w.heap.size + 4) (nb := w.heap.size + 2) (n₀ := w.heap.size) (lo := w.heap.size + 5) (by omega) ⟨by omega, by omega⟩ (by omega) ⟨by omega, by omega⟩) 42 #[.pointer (some ⟨w.heap.size + 4, 0, none⟩), .pointer (some ⟨w.heap.size + 2, 0, none⟩)] 1 (by omega) (enters_of Try.func42 (by kernel_rfl) rfl)
    (number1_becomes hf0 hf1 ⟨by omega, by omega, by omega⟩ ⟨by omega, by omega, by omega⟩) n t W5 [] (by omega) hI5 (hT.below hB5) hok
  have hmm := @run_makeMap Try.prog
  have c0 := hbt.c0
  have c1 := hbt.c1
  have c2 := hbt.c2
  have c3 := hbt.c3
  generalize stepsN stpN [] (code t) = cv at hrep ⊢
  have HB5 := hide hB5
  have HS5 := hide hs5
  have HZ5 := hide hz5
  clear hT hok hI5 hB5 hz5 hbt hs5
  simp only [TV.val] at hrep ⊢
  go_enter Try.func31, Try.ntmps31
  go_wp2_with fail
  refine hrep.mono ?_
  clear hrep c0 c1 c2 c3 hmm hW5
  rintro e W6 ⟨v, rfl, hg6, hI6, hv⟩
  obtain ⟨t6, ht6, -⟩ := hv _ (Nat.le_refl _)
  subst ht6
  have hs6 : w.heap.size + 5 ≤ W6.heap.size := by have := hg6.size; have := unhide HS5; omega
  have hB6 : Below w.heap.size w W6 := (unhide HB5).trans (hg6.below (fun k hx => by rcases hx with rfl | rfl <;> omega) (by have := unhide HS5; omega))
  have hz6 : W6.heap[w.heap.size + 1]? = some (.cells #[.int .i64 0, .int .i64 0, .string ⟨#[]⟩, .slice none 0 0] 24 (0, 0)) := (hg6.block _ (by have := unhide HS5; omega) (fun hx => by rcases hx with hx | hx <;> omega)).trans (unhide HZ5)
  have hb7 : Below W6.heap.size W6 (W6.alloc (.cells #[.int .i64 t6.tv.k, .int .i64 t6.tv.N, .string t6.tv.s, .slice t6.tv.a t6.tv.len t6.tv.cap] 24)) := (Below.refl _ W6).alloc (Nat.le_refl _) _
  have hbx := BoxT.new W6 t6.tv
  have hz7 := (hb7.block (w.heap.size + 1) (by omega)).trans hz6
  have hn7 := (hb7.block (w.heap.size + 2) (by omega)).trans hI6.next
  have hv7 : HoldsT (n + 1) W5.heap.size (W6.alloc (.cells #[.int .i64 t6.tv.k, .int .i64 t6.tv.N, .string t6.tv.s, .slice t6.tv.a t6.tv.len t6.tv.cap] 24)) t6.tv.val ((code t).flatMap (subN (renN f cv))) := hv.below hb7
  have hlt5 : w.heap.size + 1 < W5.heap.size := by have := unhide HS5; omega
  have hfin := (holds_set4 hv7 hlt5 0 t6.tv).mono (lo' := w.heap.size) (Nat.le_refl _) (by omega)
  have hbf := set4_below (hB6.trans (hb7.mono hB6.size)) (b := w.heap.size + 1) (by omega) 0 t6.tv
  have hx : (W6.alloc (.cells #[.int .i64 t6.tv.k, .int .i64 t6.tv.N, .string t6.tv.s, .slice t6.tv.a t6.tv.len t6.tv.cap] 24)).cell? ⟨w.heap.size + 1 + 1, 0, none⟩ = some (.int .i64 (f + (cv.length : Nat))) := (one_cell hn7).1
  obtain ⟨⟨z0, z1, z2, z3⟩, f0, f1, f2, f3⟩ := zbox_kept hz7
  have b0 := hbx.c0
  have b1 := hbx.c1
  have b2 := hbx.c2
  have b3 := hbx.c3
  have HF := hide (And.intro hbf hfin)
  clear hg6 hI6 hv hB6 hz6 hbx hz7 hn7 hv7 hfin hbf hb7
  simp only [TV.val]
  go_wp2_with fail
  go_region
  all_goals
    go_wp2_with fail
    exact bodyPost_ret (v := .tuple #[t6.tv.val, .int .i64 (f + (cv.length : Nat))]) (by simp [results, Try.results31, go_sem, TV.val, z0, z1, z2, z3]) rfl ⟨_, rfl, (unhide HF).1.drew, (unhide HF).2.below (Below.refl _ _).drew⟩
end Go.Proofs.Ytcdgmjpgmiehcaa

/- The contract of term.Rename, whatever it is asked. -/
namespace Go.Proofs.Ytcdgmjpgmiehcaa
open Go.RowKit Go.Shelf Go.Maps

set_option maxHeartbeats 400000 in
theorem isVar_any (N : Int) (w : World) : Calls Try.prog 30 #[.int .i64 N] w fun e W' => e = .returned (.bool (decide (0 ≤ N) && decide (N ≤ 1099511627776))) ∧ Below w.heap.size w W' := by
  go_enter Try.func30, Try.ntmps30
  go_wp2
  all_goals go_ret
  all_goals refine ⟨?_, Below.refl _ _⟩
  all_goals first | (simp_all; done) | (simp_all; intros; omega)

theorem steps_nodup : ∀ (c : List Nd) (acc : List Int), acc.Nodup → (stepsN stpN acc c).Nodup
  | [], _, h => h
  | x :: c, acc, h => by
    have e : stepsN stpN acc (x :: c) = stepsN stpN (if x.1 = 1 then stpN acc x.2.1 else acc) c := rfl
    rw [e]
    refine steps_nodup c _ ?_
    split
    · unfold stpN
      split
      · exact h
      · rename_i hm
        rw [List.nodup_append]
        exact ⟨h, by simp, fun a ha b hb => by simp at hb; subst hb; exact fun e => hm (e ▸ ha)⟩
    · exact h
theorem steps_lenT {n : Nat} {t : Tm n} (h : okT t = true) : (stepsN stpN [] (code t)).length ≤ 1099511627777 :=
  nodup_range (steps_nodup (code t) [] List.nodup_nil) fun N hN => by
    rcases (steps_mem (code t) [] N).1 hN with h' | ⟨x, hx, hk, rfl⟩
    · cases h'
    · rw [okT_m, List.all_eq_true] at h
      have hx' := h x hx
      obtain ⟨k, N, s, len⟩ := x
      simp only at hk
      subst hk
      simp [okM] at hx'
      exact hx'.1.1
/-- What Rename answers, of a term: the number of the first variable it did not give, or an error. -/
def RenAll {n : Nat} (t : Tm n) (f : Int) (lo : Nat) (W' : World) (x : TV) (k r : Int) : Prop :=
  (0 ≤ f ∧ f ≤ 1099511627776 ∧ f + ((stepsN stpN [] (code t)).length : Nat) ≤ 1099511627777 ∧ r = 0 ∧ k = f + ((stepsN stpN [] (code t)).length : Nat) ∧ HoldsT (n + 1) lo W' x.val (canon f (code t))) ∨
  (0 ≤ f ∧ f ≤ 1099511627776 ∧ ¬ f + ((stepsN stpN [] (code t)).length : Nat) ≤ 1099511627777 ∧ r = 9 ∧ k = 0 ∧ x = ⟨0, 0, ⟨#[]⟩, none, 0, 0⟩) ∨
  (¬ (0 ≤ f ∧ f ≤ 1099511627776) ∧ r = 1 ∧ k = 0 ∧ x = ⟨0, 0, ⟨#[]⟩, none, 0, 0⟩)

set_option maxRecDepth 100000 in
set_option maxHeartbeats 1000000 in
theorem rename_full {n : Nat} (t : Tm n) (f : Int) (w : World) (hT : IsT w.heap.size w t) (hok : okT t = true) :
    Calls Try.prog 19 #[t.tv.val, .int .i64 f] w fun e W' => ∃ (x : TV) (k r : Int), e = .returned (.tuple #[x.val, .int .i64 k, .int .i64 r]) ∧ Below w.heap.size w W' ∧ RenAll t f w.heap.size W' x k r := by
  have hH := Head.new w t.tv
  have hB1 : Below w.heap.size w ((w.alloc (.cells #[.int .i64 t.tv.k, .int .i64 t.tv.N, .string t.tv.s, .slice t.tv.a t.tv.len t.tv.cap] 24)).alloc (.cells #[.int .i64 0, .int .i64 0, .string ⟨#[]⟩, .slice none 0 0] 24)) := ((Below.refl _ w).alloc (Nat.le_refl _) _).alloc (by simp) _
  have hck := check_any t _ ((hT.below hB1).mono hB1.size)
  rw [chk_yes hok] at hck
  by_cases hf : 0 ≤ f ∧ f ≤ 1099511627776
  · obtain ⟨hf0, hf1⟩ := hf
    have hnm := fun (W : World) (hb : Below w.heap.size w W) => number_any t f W ((hT.below hb).mono hb.size) hok hf0 hf1
    have hlen : (stepsN stpN [] (code t)).length ≤ 1099511627777 := steps_lenT hok
    obtain ⟨L, hL⟩ : ∃ L, (stepsN stpN [] (code t)).length = L := ⟨_, rfl⟩
    rw [hL] at hnm hlen
    have HLL := hide hL
    clear hL
    have hiv := fun (W : World) => isVar_any f W
    have hdd : (decide (0 ≤ f) && decide (f ≤ 1099511627776)) = true := by simp [hf0, hf1]
    simp only [hdd] at hiv
    have hwr : IntKind.i64.wrap (f + (L : Nat) - 1) = f + (L : Nat) - 1 := by simp [IntKind.wrap, IntKind.bits, IntKind.signed]; omega
    simp only [TV.val] at hnm hck ⊢
    have HNM := hide hnm
    clear hT hok hnm hdd hB1
    go_enter Try.func19, Try.ntmps19
    go_wp2_with fail
    refine hck.mono ?_
    clear hck
    rintro e W1 ⟨rfl, hb1⟩
    replace hH := hH.next hb1
    clear hb1
    go_wp2_with fail
    refine (hiv _).mono ?_
    clear hiv
    rintro e W2 ⟨rfl, hb2⟩
    replace hH := hH.next hb2
    clear hb2
    have c0 := hH.ba.c0
    have c1 := hH.ba.c1
    have c2 := hH.ba.c2
    have c3 := hH.ba.c3
    go_wp2_with fail
    refine ((unhide HNM) W2 hH.below).mono ?_
    clear c0 c1 c2 c3 HNM
    rintro e W3 ⟨x, rfl, hb3, hx⟩
    have hb4 : Below W3.heap.size W3 (W3.alloc (.cells #[.int .i64 x.k, .int .i64 x.N, .string x.s, .slice x.a x.len x.cap] 24)) := (Below.refl _ W3).alloc (Nat.le_refl _) _
    have hb24 := hb3.trans (hb4.mono hb3.size)
    have hlt2 := hH.lt
    replace hH := hH.next hb24
    have hbx := BoxT.new W3 x
    have hx4 : HoldsT (n + 1) W2.heap.size (W3.alloc (.cells #[.int .i64 x.k, .int .i64 x.N, .string x.s, .slice x.a x.len x.cap] 24)) x.val (canon f (code t)) := hx.below hb4
    obtain ⟨⟨z0, z1, z2, z3⟩, y0, y1, y2, y3⟩ := zbox_kept hH.bz
    by_cases hbig : f + (L : Nat) - 1 ≤ 1099511627776
    · have hg : ¬ 1099511627776 < f + (L : Nat) - 1 := by omega
      have hfin := (holds_set4 hx4 hlt2 0 x).mono (lo' := w.heap.size) (Nat.le_refl _) (by omega)
      have hbf := set4_below hH.below (b := w.heap.size + 1) (by omega) 0 x
      have b0 := hbx.c0
      have b1 := hbx.c1
      have b2 := hbx.c2
      have b3 := hbx.c3
      have HF := hide (And.intro hbf hfin)
      clear hfin hbf hx4 hx hbx hH hb3 hb4 hb24
      go_wp2_with fail
      exact bodyPost_ret (v := .tuple #[x.val, .int .i64 (f + (L : Nat)), .int .i64 0]) (by simp [results, Try.results19, go_sem, TV.val, z0, z1, z2, z3]) rfl ⟨x, _, 0, rfl, (unhide HF).1, .inl ⟨hf0, hf1, by rw [unhide HLL]; omega, rfl, by rw [unhide HLL], (unhide HF).2⟩⟩
    · have hg : 1099511627776 < f + (L : Nat) - 1 := by omega
      have hbf := set4_below hH.below (b := w.heap.size + 1) (by omega) 0 ⟨0, 0, ⟨#[]⟩, none, 0, 0⟩
      have HF := hide hbf
      clear hbf hx4 hx hbx hH hb3 hb4 hb24 hbig
      go_wp2_with fail
      exact bodyPost_ret (v := .tuple #[.agg #[.int .i64 0, .int .i64 0, .string ⟨#[]⟩, .slice none 0 0], .int .i64 0, .int .i64 9]) (by simp [results, Try.results19, go_sem, z0, z1, z2, z3]) rfl ⟨⟨0, 0, ⟨#[]⟩, none, 0, 0⟩, 0, 9, rfl, unhide HF, .inr (.inl ⟨hf0, hf1, by rw [unhide HLL]; omega, rfl, rfl, rfl⟩)⟩
  · have hiv := fun (W : World) => isVar_any f W
    have hdd : (decide (0 ≤ f) && decide (f ≤ 1099511627776)) = false := by
      rw [Bool.and_eq_false_iff, decide_eq_false_iff_not, decide_eq_false_iff_not]; omega
    simp only [hdd] at hiv
    simp only [TV.val] at hck ⊢
    clear hT hok hdd hB1
    have HFF := hide hf
    clear hf
    go_enter Try.func19, Try.ntmps19
    go_wp2_with fail
    refine hck.mono ?_
    clear hck
    rintro e W1 ⟨rfl, hb1⟩
    replace hH := hH.next hb1
    clear hb1
    go_wp2_with fail
    refine (hiv _).mono ?_
    clear hiv
    rintro e W2 ⟨rfl, hb2⟩
    replace hH := hH.next hb2
    clear hb2
    obtain ⟨⟨z0, z1, z2, z3⟩, y0, y1, y2, y3⟩ := zbox_kept hH.bz
    have hbf := set4_below hH.below (b := w.heap.size + 1) (by omega) 0 ⟨0, 0, ⟨#[]⟩, none, 0, 0⟩
    have HF := hide hbf
    clear hbf hH
    go_wp2_with fail
    exact bodyPost_ret (v := .tuple #[.agg #[.int .i64 0, .int .i64 0, .string ⟨#[]⟩, .slice none 0 0], .int .i64 0, .int .i64 1]) (by simp [results, Try.results19, go_sem, z0, z1, z2, z3]) rfl ⟨⟨0, 0, ⟨#[]⟩, none, 0, 0⟩, 0, 1, rfl, unhide HF, .inr (.inr ⟨unhide HFF, rfl, rfl, rfl⟩)⟩

set_option maxRecDepth 100000 in
set_option maxHeartbeats 1000000 in
theorem rename_bad {n : Nat} (t : Tm n) (f : Int) (w : World) (hT : IsT w.heap.size w t) (hok : okT t = false) :
    Calls Try.prog 19 #[t.tv.val, .int .i64 f] w fun e W' => e = .returned (.tuple #[(⟨0, 0, ⟨#[]⟩, none, 0, 0⟩ : TV).val, .int .i64 0, .int .i64 2]) ∧ Below w.heap.size w W' := by
  have hH := Head.new w t.tv
  have hB1 : Below w.heap.size w ((w.alloc (.cells #[.int .i64 t.tv.k, .int .i64 t.tv.N, .string t.tv.s, .slice t.tv.a t.tv.len t.tv.cap] 24)).alloc (.cells #[.int .i64 0, .int .i64 0, .string ⟨#[]⟩, .slice none 0 0] 24)) := ((Below.refl _ w).alloc (Nat.le_refl _) _).alloc (by simp) _
  have hck := check_any t _ ((hT.below hB1).mono hB1.size)
  rw [chk_no hok] at hck
  simp only [TV.val] at hck ⊢
  clear hT hok hB1
  go_enter Try.func19, Try.ntmps19
  go_wp2_with fail
  refine hck.mono ?_
  clear hck
  rintro e W1 ⟨rfl, hb1⟩
  replace hH := hH.next hb1
  clear hb1
  obtain ⟨⟨z0, z1, z2, z3⟩, y0, y1, y2, y3⟩ := zbox_kept hH.bz
  have hbf := set4_below hH.below (b := w.heap.size + 1) (by omega) 0 ⟨0, 0, ⟨#[]⟩, none, 0, 0⟩
  have HF := hide hbf
  clear hbf hH
  go_wp2_with fail
  exact bodyPost_ret (v := .tuple #[.agg #[.int .i64 0, .int .i64 0, .string ⟨#[]⟩, .slice none 0 0], .int .i64 0, .int .i64 2]) (by simp [results, Try.results19, go_sem, z0, z1, z2, z3]) rfl ⟨rfl, unhide HF⟩
end Go.Proofs.Ytcdgmjpgmiehcaa

