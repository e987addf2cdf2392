import Derived.Test.YtcdgmjpgmiehcaaGmFs
import Derived.Test.YtcdgmjpgmiehcaaGqK
/- Which variables a body's goal has: mathematics. -/
namespace Go.Proofs.Ytcdgmjpgmiehcaa
open Go.RowKit Go.Shelf

theorem not_var (x : Nd) (c : List Nd) (N : Int) (h : x.1 ≠ 1) : IsVarOf (x :: c) N ↔ IsVarOf c N := by
  rw [isVar_cons]
  exact ⟨fun e => e.elim (fun e => absurd e.1 h) id, .inr⟩
theorem var_one (v N : Int) : IsVarOf [varNd v] N ↔ N = v := by
  rw [isVar_cons]
  constructor
  · rintro (⟨_, h⟩ | ⟨y, hy, _⟩)
    · exact h.symm
    · cases hy
  · rintro rfl
    exact .inl ⟨rfl, rfl⟩
theorem eq_vars (s r : List Nd) (N : Int) : IsVarOf (eqC s r) N ↔ IsVarOf s N ∨ IsVarOf r N := by
  unfold eqC
  rw [not_var _ _ _ (by simp), isVar_append]
theorem code_vars {n : Nat} {x : TV} {kids : List (Tm n)} (h : x.k ≠ 1) (N : Int) : IsVarOf (code (n := n + 1) ((x, kids) : TV × List (Tm n))) N ↔ IsVarOf (kids.flatMap code) N := by
  rw [code_succ, not_var _ _ _ (nd_one h)]
theorem end_vars : ∀ {n : Nat} (t : Tm n), Wl t → ∀ (r : List Nd) (N : Int), (IsVarOf (endC t r) N → IsVarOf (code t) N ∨ IsVarOf r N) ∧ (listT t = true → IsVarOf r N → IsVarOf (endC t r) N) := by
  intro n
  induction n with
  | zero => intro t; exact Empty.elim t
  | succ n ih =>
    intro t hw r N
    obtain ⟨x, kids⟩ := t
    rw [endC_succ, listT_succ]
    cases hx : isB x [46] 2 with
    | false => exact ⟨fun h => .inr (by simpa using h), fun _ h => by simpa using h⟩
    | true =>
      have k1 := isB_kind hx
      obtain ⟨a, b, rfl⟩ := two_kids hw (by have := isB_len hx; omega)
      have hwk : ∀ z ∈ [a, b], Wl z := hw.2
      obtain ⟨i1, i2⟩ := ih b (hwk b (by simp)) r N
      simp only [if_true]
      rw [code_vars k1, not_var _ _ _ (nd_one k1), isVar_append]
      simp only [List.flatMap_cons, List.flatMap_nil, List.append_nil]
      rw [isVar_append]
      refine ⟨?_, fun hl h => .inr (i2 hl h)⟩
      rintro (h | h)
      · exact .inl (.inl h)
      · exact (i1 h).elim (fun h => .inl (.inr h)) .inr
theorem body_has {n : Nat} {u : Tm n} {c : List Nd} (hw : Wl u) (h : bodyC u = some c) (N : Int) : IsVarOf c N ↔ IsVarOf (code u) N := by
  have e := body_vars u hw h []
  have h1 := steps_mem c [] N
  have h2 := steps_mem (code u) [] N
  rw [e] at h1
  simp only [List.not_mem_nil, false_or] at h1 h2
  exact h1.symm.trans h2
theorem curl_vars {n : Nat} {kids : List (Tm n)} (hw : ∀ u ∈ kids, Wl u) (s r : List Nd) (N : Int) : (IsVarOf (curlC kids s r) N → IsVarOf (kids.flatMap code) N ∨ IsVarOf s N ∨ IsVarOf r N) ∧ (IsVarOf s N ∨ IsVarOf r N → IsVarOf (curlC kids s r) N) := by
  cases kids with
  | nil => exact ⟨fun h => .inr ((eq_vars s r N).1 h), fun h => (eq_vars s r N).2 h⟩
  | cons u l =>
    show (IsVarOf ((4, 0, [44], 2) :: ((bodyC u).getD [] ++ eqC s r)) N → _) ∧ (_ → IsVarOf ((4, 0, [44], 2) :: ((bodyC u).getD [] ++ eqC s r)) N)
    rw [not_var _ _ _ (by simp), isVar_append, eq_vars, List.flatMap_cons, isVar_append]
    refine ⟨?_, .inr⟩
    rintro (h | h)
    · cases hb : bodyC u with
      | none => rw [hb] at h; obtain ⟨y, hy, _⟩ := h; cases hy
      | some c =>
        rw [hb] at h
        exact .inl (.inl ((body_has (hw u (by simp)) hb N).1 h))
    · exact .inr h
/-- A goal's variables: those of the body, of the two terms, and the new ones; the latter are all there. -/
theorem btw_vars : ∀ {n : Nat} (t : Tm n), Wl t → okT t = true → ∀ (s r : List Nd) (f N : Int),
    (IsVarOf (btwC t s r f) N → IsVarOf (code t) N ∨ IsVarOf s N ∨ IsVarOf r N ∨ (f ≤ N ∧ N < f + cntT t)) ∧
    (berr t = 0 → IsVarOf s N ∨ IsVarOf r N ∨ (f ≤ N ∧ N < f + cntT t) → IsVarOf (btwC t s r f) N) := by
  intro n
  induction n with
  | zero => intro t; exact Empty.elim t
  | succ n ih =>
    intro t hw ok s r f N
    have hev := end_vars t hw r N
    obtain ⟨x, kids⟩ := t
    have hk := ok_kids ok
    rw [btwC_succ, cntT_succ, berr_succ]
    by_cases f1 : formB x = 1
    · have k1 := form_one.1 f1
      obtain rfl := var_kids hw ok k1
      rw [if_pos f1, f1, not_var _ _ _ (by simp)]
      show (IsVarOf ([varNd x.N] ++ (s ++ r)) N → _) ∧ (_ → _ → IsVarOf ([varNd x.N] ++ (s ++ r)) N)
      rw [isVar_append, isVar_append, var_one]
      simp only [show ¬ ((1 : Int) = 2 ∨ (1 : Int) = 4) by omega, show ¬ ((1 : Int) = 3) by omega, if_false]
      refine ⟨?_, fun _ => ?_⟩
      · rintro (rfl | h | h)
        · exact .inl ⟨x.nd, by rw [code_succ]; simp, k1, rfl⟩
        · exact .inr (.inl h)
        · exact .inr (.inr (.inl h))
      · rintro (h | h | ⟨h1, h2⟩)
        · exact .inr (.inl h)
        · exact .inr (.inr h)
        · omega
    · have k1 : x.k ≠ 1 := fun h => f1 (form_one.2 h)
      rw [if_neg f1, code_vars k1]
      by_cases f2 : formB x = 2
      · obtain ⟨a, b, rfl⟩ := two_kids hw (form_two f2)
        have hwk : ∀ z ∈ [a, b], Wl z := hw.2
        rw [if_pos f2, if_pos (.inl f2), if_pos (.inl f2)]
        obtain ⟨i1, i2⟩ := ih a (hwk a (by simp)) (hk.2 a (by simp)) s [varNd f] (f + 1) N
        obtain ⟨j1, j2⟩ := ih b (hwk b (by simp)) (hk.2 b (by simp)) [varNd f] r (f + 1 + cntT a) N
        rw [var_one] at i1 i2 j1 j2
        show (IsVarOf ((4, 0, x.s.toList, 2) :: (btwC a s [varNd f] (f + 1) ++ btwC b [varNd f] r (f + 1 + cntT a))) N → _) ∧ (_ → _ → IsVarOf ((4, 0, x.s.toList, 2) :: (btwC a s [varNd f] (f + 1) ++ btwC b [varNd f] r (f + 1 + cntT a))) N)
        rw [not_var _ _ _ (by simp), isVar_append]
        simp only [List.flatMap_cons, List.flatMap_nil, List.append_nil, List.map_cons, List.map_nil, List.sum_cons, List.sum_nil]
        rw [isVar_append]
        refine ⟨?_, fun he => ?_⟩
        · rintro (h | h)
          · rcases i1 h with h | h | h | h
            · exact .inl (.inl h)
            · exact .inr (.inl h)
            · exact .inr (.inr (.inr (by omega)))
            · exact .inr (.inr (.inr (by omega)))
          · rcases j1 h with h | h | h | h
            · exact .inl (.inr h)
            · exact .inr (.inr (.inr (by omega)))
            · exact .inr (.inr (.inl h))
            · exact .inr (.inr (.inr (by omega)))
        · have ea : berr a = 0 ∧ berr b = 0 := by
            rw [first_two] at he
            by_cases h : berr a = 0
            · rw [if_pos h] at he; exact ⟨h, he⟩
            · rw [if_neg h] at he; exact absurd he h
          rintro (h | h | ⟨h1, h2⟩)
          · exact .inl (i2 ea.1 (.inl h))
          · exact .inr (j2 ea.2 (.inr (.inl h)))
          · by_cases e1 : N = f
            · exact .inl (i2 ea.1 (.inr (.inl e1)))
            · by_cases e2 : N < f + 1 + cntT a
              · exact .inl (i2 ea.1 (.inr (.inr ⟨by omega, e2⟩)))
              · exact .inr (j2 ea.2 (.inr (.inr ⟨by omega, by omega⟩)))
      · by_cases f3 : formB x = 3
        · obtain ⟨a, b, rfl⟩ := two_kids hw (form_three f3)
          have hwk : ∀ z ∈ [a, b], Wl z := hw.2
          rw [if_neg f2, if_pos f3, if_neg (show ¬ (formB x = 2 ∨ formB x = 4) by omega), if_pos f3, if_pos (show formB x = 2 ∨ formB x = 3 ∨ formB x = 4 from .inr (.inl f3))]
          obtain ⟨i1, i2⟩ := ih a (hwk a (by simp)) (hk.2 a (by simp)) s r f N
          obtain ⟨j1, j2⟩ := ih b (hwk b (by simp)) (hk.2 b (by simp)) s r (f + cntT a) N
          show (IsVarOf ((4, 0, x.s.toList, 2) :: (btwC a s r f ++ btwC b s r (f + cntT a))) N → _) ∧ (_ → _ → IsVarOf ((4, 0, x.s.toList, 2) :: (btwC a s r f ++ btwC b s r (f + cntT a))) N)
          rw [not_var _ _ _ (by simp), isVar_append]
          simp only [List.flatMap_cons, List.flatMap_nil, List.append_nil, List.map_cons, List.map_nil, List.sum_cons, List.sum_nil]
          rw [isVar_append]
          refine ⟨?_, fun he => ?_⟩
          · rintro (h | h)
            · rcases i1 h with h | h | h | h
              · exact .inl (.inl h)
              · exact .inr (.inl h)
              · exact .inr (.inr (.inl h))
              · exact .inr (.inr (.inr (by omega)))
            · rcases j1 h with h | h | h | h
              · exact .inl (.inr h)
              · exact .inr (.inl h)
              · exact .inr (.inr (.inl h))
              · exact .inr (.inr (.inr (by omega)))
          · have ea : berr a = 0 ∧ berr b = 0 := by
              rw [first_two] at he
              by_cases h : berr a = 0
              · rw [if_pos h] at he; exact ⟨h, he⟩
              · rw [if_neg h] at he; exact absurd he h
            rintro (h | h | ⟨h1, h2⟩)
            · exact .inl (i2 ea.1 (.inl h))
            · exact .inl (i2 ea.1 (.inr (.inl h)))
            · by_cases e2 : N < f + cntT a
              · exact .inl (i2 ea.1 (.inr (.inr ⟨by omega, e2⟩)))
              · exact .inr (j2 ea.2 (.inr (.inr ⟨by omega, by omega⟩)))
        · by_cases f4 : formB x = 4
          · obtain ⟨a, rfl⟩ := one_kid hw (form_four f4)
            have hwk : ∀ z ∈ [a], Wl z := hw.2
            rw [if_neg f2, if_neg f3, if_pos f4, if_pos (show formB x = 2 ∨ formB x = 4 from .inr f4), if_pos (show formB x = 2 ∨ formB x = 3 ∨ formB x = 4 from .inr (.inr f4))]
            obtain ⟨i1, i2⟩ := ih a (hwk a (by simp)) (hk.2 a (by simp)) s [varNd f] (f + 1) N
            rw [var_one] at i1 i2
            show (IsVarOf ((4, 0, [44], 2) :: ((4, 0, x.s.toList, 1) :: (btwC a s [varNd f] (f + 1) ++ eqC s r))) N → _) ∧ (_ → _ → IsVarOf ((4, 0, [44], 2) :: ((4, 0, x.s.toList, 1) :: (btwC a s [varNd f] (f + 1) ++ eqC s r))) N)
            rw [not_var _ _ _ (by simp), not_var _ _ _ (by simp), isVar_append, eq_vars]
            simp only [List.flatMap_cons, List.flatMap_nil, List.append_nil, List.map_cons, List.map_nil, List.sum_cons, List.sum_nil]
            refine ⟨?_, fun he => ?_⟩
            · rintro (h | h | h)
              · rcases i1 h with h | h | h | h
                · exact .inl h
                · exact .inr (.inl h)
                · exact .inr (.inr (.inr (by omega)))
                · exact .inr (.inr (.inr (by omega)))
              · exact .inr (.inl h)
              · exact .inr (.inr (.inl h))
            · rw [first_one] at he
              rintro (h | h | ⟨h1, h2⟩)
              · exact .inr (.inl h)
              · exact .inr (.inr h)
              · by_cases e1 : N = f
                · exact .inl (i2 he (.inr (.inl e1)))
                · exact .inl (i2 he (.inr (.inr ⟨by omega, by omega⟩)))
          · rw [if_neg f2, if_neg f3, if_neg f4, if_neg (show ¬ (formB x = 2 ∨ formB x = 4) by omega), if_neg f3, if_neg (show ¬ (formB x = 2 ∨ formB x = 3 ∨ formB x = 4) by omega), partE_succ]
            by_cases f5 : formB x = 5
            · rw [if_pos f5, if_neg (show ¬ formB x = 0 by omega), if_pos f5, not_var _ _ _ (by simp), isVar_append]
              rw [code_vars k1] at hev
              refine ⟨?_, fun he => ?_⟩
              · rintro (h | h)
                · exact .inr (.inl h)
                · exact (hev.1 h).elim .inl (fun h => .inr (.inr (.inl h)))
              · have hl : listT (n := n + 1) ((x, kids) : TV × List (Tm n)) = true := by
                  cases hq : listT (n := n + 1) ((x, kids) : TV × List (Tm n)) with
                  | true => rfl
                  | false => rw [hq] at he; simp at he
                rintro (h | h | ⟨h1, h2⟩)
                · exact .inl h
                · exact .inr (hev.2 hl h)
                · omega
            · rw [if_neg f5]
              by_cases f6 : formB x = 6
              · obtain ⟨c1, c2⟩ := curl_vars (fun u hu => hw.2 u hu) s r N (kids := kids)
                rw [if_pos f6]
                refine ⟨fun h => ?_, fun _ h => ?_⟩
                · rcases c1 h with h | h | h
                  · exact .inl h
                  · exact .inr (.inl h)
                  · exact .inr (.inr (.inl h))
                · rcases h with h | h | ⟨h1, h2⟩
                  · exact c2 (.inl h)
                  · exact c2 (.inr h)
                  · omega
              · rw [if_neg f6]
                by_cases f7 : formB x = 7
                · rw [if_pos f7, not_var _ _ _ (by simp), not_var _ _ _ (by simp), eq_vars]
                  refine ⟨fun h => h.elim (fun h => .inr (.inl h)) (fun h => .inr (.inr (.inl h))), fun _ h => ?_⟩
                  rcases h with h | h | ⟨h1, h2⟩
                  · exact .inl h
                  · exact .inr h
                  · omega
                · rw [if_neg f7, not_var _ _ _ (by simp), isVar_append, isVar_append]
                  refine ⟨fun h => ?_, fun _ h => ?_⟩
                  · rcases h with h | h | h
                    · exact .inl h
                    · exact .inr (.inl h)
                    · exact .inr (.inr (.inl h))
                  · rcases h with h | h | ⟨h1, h2⟩
                    · exact .inr (.inl h)
                    · exact .inr (.inr h)
                    · omega
end Go.Proofs.Ytcdgmjpgmiehcaa

/- How many new variables a goal has; renumbering them in two steps: mathematics. -/
namespace Go.Proofs.Ytcdgmjpgmiehcaa
open Go.RowKit Go.Shelf

theorem extV_nodup (f0 : Int) : ∀ (c : List Nd) (vs : List Int), vs.Nodup → (extV f0 vs c).Nodup
  | [], _, h => h
  | x :: c, vs, h => by
    rw [extV_cons]
    refine extV_nodup f0 c _ ?_
    by_cases h1 : x.1 = 1
    · rw [if_pos h1]
      unfold stpG
      by_cases h2 : f0 ≤ x.2.1
      · rw [if_pos h2]
        unfold stpN
        by_cases h3 : x.2.1 ∈ vs
        · rw [if_pos h3]; exact h
        · rw [if_neg h3, List.nodup_append]
          exact ⟨h, by simp, fun a ha b hb e => h3 (by simp at hb; subst hb; subst e; exact ha)⟩
      · rw [if_neg h2]; exact h
    · rw [if_neg h1]; exact h
theorem nodup_len : ∀ (c : Nat) (l : List Int) (f : Int), l.Nodup → (∀ N, N ∈ l ↔ f ≤ N ∧ N < f + c) → l.length = c
  | 0, l, f, _, h => by
    cases l with
    | nil => rfl
    | cons a l => have := (h a).1 (by simp); omega
  | c + 1, l, f, hn, h => by
    have hm : f + c ∈ l := (h _).2 ⟨by omega, by omega⟩
    have h1 := nodup_len c (l.erase (f + c)) f (hn.erase _) (fun N => by
      rw [hn.mem_erase_iff, h N]
      constructor
      · rintro ⟨h1, h2, h3⟩; omega
      · rintro ⟨h1, h2⟩; omega)
    rw [List.length_erase_of_mem hm] at h1
    have : 0 < l.length := List.length_pos_of_mem hm
    omega
/-- The new variables of a goal are just so many. -/
theorem cnt_ext {n : Nat} {t : Tm n} (hw : Wl t) (ok : okT t = true) {s r : List Nd} {f : Int} (he : berr t = 0) (ht : ∀ N, IsVarOf (code t) N → N < f) (hs : ∀ N, IsVarOf s N → N < f) (hr : ∀ N, IsVarOf r N → N < f) : (extV f [] (btwC t s r f)).length = cntT t := by
  refine nodup_len _ _ f (extV_nodup f _ [] List.nodup_nil) (fun N => ?_)
  rw [extV_mem]
  obtain ⟨b1, b2⟩ := btw_vars t hw ok s r f N
  constructor
  · rintro (h | ⟨h, h'⟩)
    · cases h
    · rcases b1 h with h | h | h | h
      · have := ht N h; omega
      · have := hs N h; omega
      · have := hr N h; omega
      · exact h
  · intro h
    exact .inr ⟨b2 he (.inr (.inr h)), h.1⟩
/-- The new ones among all variables in the order of their coming. -/
theorem filter_ext (f0 : Int) : ∀ (c : List Nd) (vs : List Int), (stepsN stpN vs c).filter (fun N => decide (f0 ≤ N)) = extV f0 (vs.filter fun N => decide (f0 ≤ N)) c
  | [], _ => rfl
  | x :: c, vs => by
    have e : stepsN stpN vs (x :: c) = stepsN stpN (if x.1 = 1 then stpN vs x.2.1 else vs) c := rfl
    rw [e, filter_ext f0 c, extV_cons]
    congr 1
    by_cases h1 : x.1 = 1
    · rw [if_pos h1, if_pos h1]
      unfold stpG stpN
      by_cases h3 : x.2.1 ∈ vs
      · rw [if_pos h3]
        by_cases h2 : f0 ≤ x.2.1
        · rw [if_pos h2, if_pos (List.mem_filter.2 ⟨h3, by simpa using h2⟩)]
        · rw [if_neg h2]
      · rw [if_neg h3, List.filter_append]
        by_cases h2 : f0 ≤ x.2.1
        · rw [if_pos h2, if_neg (fun h => h3 (List.mem_filter.1 h).1)]
          simp [h2]
        · rw [if_neg h2]
          simp [h2]
    · rw [if_neg h1, if_neg h1]
/-- What hornref.Swap makes of a variable. -/
def swapR (l : List Int) (n : Int) (N : Int) : Int := if N ∈ l then n + (l.idxOf N : Nat) else N
theorem renC_comp (f g : Int → Int) (c : List Nd) : renC g (renC f c) = renC (fun N => g (f N)) c := by
  unfold renC
  rw [List.flatMap_assoc]
  refine flatMap_same c fun x _ => ?_
  unfold subN
  by_cases h : x.1 = 1
  · rw [if_pos h, if_pos h]
    simp [varNd]
  · rw [if_neg h, if_neg h]
    simp [h]
theorem idx_range (k m : Nat) (a : Int) (h : k < m) : ((List.range m).map fun i : Nat => a + (i : Int)).idxOf (a + (k : Int)) = k := by
  have hn : ((List.range m).map fun i : Nat => a + (i : Int)).Nodup := by
    rw [List.Nodup, List.pairwise_map]
    exact List.Pairwise.imp (fun h e => h (by omega)) List.nodup_range
  have hk : ((List.range m).map fun i : Nat => a + (i : Int))[k]? = some (a + (k : Int)) := by simp [h]
  obtain ⟨hlt, hke⟩ := List.getElem?_eq_some_iff.1 hk
  rw [← hke]
  exact hn.idxOf_getElem k hlt
/-- Two swaps, by numbers that are far off, number the new variables in the order of their coming. -/
theorem two_swaps {f0 a : Int} {c : List Nd} (hlt : ∀ N, IsVarOf c N → N < a) :
    renC (swapR ((List.range (extV f0 [] c).length).map fun i : Nat => a + (i : Int)) f0) (renC (swapR (extV f0 [] c) a) c) = renC (newR f0 (extV f0 [] c)) c := by
  rw [renC_comp]
  unfold renC
  refine sub_congr_on fun N hN => ?_
  have hm := extV_mem f0 c [] N
  simp only [List.not_mem_nil, false_or] at hm
  show [varNd (swapR ((List.range (extV f0 [] c).length).map fun i : Nat => a + (i : Int)) f0 (swapR (extV f0 [] c) a N))] = [varNd (newR f0 (extV f0 [] c) N)]
  by_cases h2 : f0 ≤ N
  · have hin : N ∈ extV f0 [] c := hm.2 ⟨hN, h2⟩
    have hi := List.idxOf_lt_length_of_mem hin
    have e1 : swapR (extV f0 [] c) a N = a + ((extV f0 [] c).idxOf N : Nat) := if_pos hin
    have e2 : newR f0 (extV f0 [] c) N = f0 + ((extV f0 [] c).idxOf N : Nat) := if_pos h2
    rw [e1, e2]
    unfold swapR
    rw [if_pos (by
      rw [List.mem_map]
      exact ⟨_, by simpa using hi, rfl⟩), idx_range _ _ _ hi]
  · have hno : N ∉ extV f0 [] c := fun h => h2 (hm.1 h).2
    have e1 : swapR (extV f0 [] c) a N = N := if_neg hno
    have e2 : newR f0 (extV f0 [] c) N = N := if_neg h2
    rw [e1, e2]
    unfold swapR
    rw [if_neg (fun h => by
      rw [List.mem_map] at h
      obtain ⟨i, _, hi⟩ := h
      have := hlt N hN
      omega)]
end Go.Proofs.Ytcdgmjpgmiehcaa

/- The writer's loop: what a task's goal is, by codes; what holds when a task's turn comes and when its goal is written. -/
namespace Go.Proofs.Ytcdgmjpgmiehcaa
open Go.RowKit Go.Shelf

theorem ren_old {f0 : Int} {vs : List Int} {c : List Nd} (hok : c.all okM = true) (h : ∀ N, IsVarOf c N → N < f0) : renC (newR f0 vs) c = c := by
  refine Eq.trans ?_ (renC_id hok)
  unfold renC
  refine sub_congr_on fun N hN => ?_
  unfold newR
  rw [if_neg (by have := h N hN; omega)]
theorem ext_old {f0 : Int} {vs : List Int} {c : List Nd} (h : ∀ N, IsVarOf c N → N < f0) : extV f0 vs c = vs := Come.stay fun N h1 h2 => by have := h N h1; omega
theorem ext_nv {f0 : Int} {vs : List Int} {x : Nd} {c : List Nd} (h : x.1 ≠ 1) : extV f0 vs (x :: c) = extV f0 vs c := by rw [extV_cons, if_neg h]
theorem ext_end {f0 : Int} {vs : List Int} (r : List Nd) : ∀ {n : Nat} (t : Tm n), Wl t → (∀ N, IsVarOf (code t) N → N < f0) → extV f0 vs (endC t r) = extV f0 vs r := by
  intro n
  induction n with
  | zero => intro t; exact Empty.elim t
  | succ n ih =>
    intro t hw hv
    obtain ⟨x, kids⟩ := t
    rw [endC_succ]
    cases hx : isB x [46] 2 with
    | false => simp
    | true =>
      have hl : x.len = 2 := by have := isB_len hx; omega
      obtain ⟨u, v, rfl⟩ := two_kids hw hl
      have hwk : ∀ z ∈ [u, v], Wl z := hw.2
      have k1 := nd_one (isB_kind hx)
      have hvu : ∀ N, IsVarOf (code u) N → N < f0 := fun N hN => hv N ((code_vars (isB_kind hx) N).2 (by
        rw [List.flatMap_cons]; exact (isVar_append _ _ N).2 (.inl hN)))
      have hvv : ∀ N, IsVarOf (code v) N → N < f0 := fun N hN => hv N ((code_vars (isB_kind hx) N).2 (by
        rw [List.flatMap_cons, List.flatMap_cons]; exact (isVar_append _ _ N).2 (.inr ((isVar_append _ _ N).2 (.inl hN)))))
      rw [if_pos rfl]
      show extV f0 vs (x.nd :: (code u ++ endC v r)) = _
      rw [ext_nv k1, extV_append, ext_old hvu, ih v (hwk v (by simp)) hvv]
/-- A body that has no bodies in it: only its points bring new variables. -/
theorem leaf_ext {f0 f : Int} {vs : List Int} {s r : List Nd} {n : Nat} (t : Tm (n + 1)) (hw : Wl t) (h2 : formB t.tv ≠ 2) (h3 : formB t.tv ≠ 3) (h4 : formB t.tv ≠ 4) (hv : ∀ N, IsVarOf (code t) N → N < f0) (hs : Come f0 vs s) : extV f0 vs (btwC t s r f) = extV f0 vs r := by
  have hend := ext_end (f0 := f0) (vs := vs) r t hw hv
  obtain ⟨x, kids⟩ := t
  simp only [Tm.tv] at h2 h3 h4
  have hsr : extV f0 vs (s ++ r) = extV f0 vs r := by rw [extV_append, hs.stay]
  have heq : extV f0 vs (eqC s r) = extV f0 vs r := by unfold eqC; rw [ext_nv (by simp), hsr]
  rw [btwC_succ]
  by_cases f1 : formB x = 1
  · rw [if_pos f1, ext_nv (by simp)]
    show extV f0 vs ([varNd x.N] ++ (s ++ r)) = _
    rw [extV_append, ext_old (c := [varNd x.N]) (fun N hN => ?_), hsr]
    have hN' : N = x.N := (var_one x.N N).1 hN
    refine hv N ⟨x.nd, by rw [code_succ]; simp, form_one.1 f1, ?_⟩
    rw [hN']; rfl
  · have k1 : x.k ≠ 1 := fun h => f1 (form_one.2 h)
    have hkv : ∀ N, IsVarOf (kids.flatMap code) N → N < f0 := fun N hN => hv N ((code_vars k1 N).2 hN)
    rw [if_neg f1, if_neg h2, if_neg h3, if_neg h4]
    by_cases f5 : formB x = 5
    · rw [if_pos f5, ext_nv (by simp), extV_append, hs.stay, hend]
    · rw [if_neg f5]
      by_cases f6 : formB x = 6
      · rw [if_pos f6]
        cases kids with
        | nil => exact heq
        | cons u l =>
          show extV f0 vs ((4, 0, [44], 2) :: ((bodyC u).getD [] ++ eqC s r)) = _
          rw [ext_nv (by simp), extV_append, ext_old (c := (bodyC u).getD []) (fun N hN => ?_), heq]
          have hwu : Wl u := hw.2 u (by simp [Tm.kids])
          cases hb : bodyC u with
          | none => rw [hb] at hN; obtain ⟨y, hy, _⟩ := hN; simp at hy
          | some c =>
            rw [hb] at hN
            exact hkv N (by rw [List.flatMap_cons]; exact (isVar_append _ _ N).2 (.inl ((body_has hwu hb N).1 hN)))
      · rw [if_neg f6]
        by_cases f7 : formB x = 7
        · rw [if_pos f7, ext_nv (by simp), ext_nv (by simp), heq]
        · rw [if_neg f7, ext_nv (by simp), extV_append, ext_old hkv, hsr]
theorem leaf_cnt {n : Nat} (t : Tm (n + 1)) (h2 : formB t.tv ≠ 2) (h3 : formB t.tv ≠ 3) (h4 : formB t.tv ≠ 4) : cntT t = 0 := by
  obtain ⟨x, kids⟩ := t
  simp only [Tm.tv] at h2 h3 h4
  rw [cntT_succ, if_neg (by omega), if_neg h3]
/-- .. and what is written is its goal between the points as they are written. -/
theorem leaf_ren {f0 f f' : Int} {vs : List Int} {s r : List Nd} {n : Nat} (t : Tm (n + 1)) (hw : Wl t) (ok : okT t = true) (h2 : formB t.tv ≠ 2) (h3 : formB t.tv ≠ 3) (h4 : formB t.tv ≠ 4) (hv : ∀ N, IsVarOf (code t) N → N < f0) : btwC t (renC (newR f0 vs) s) (renC (newR f0 vs) r) f' = renC (newR f0 vs) (btwC t s r f) :=
  (btw_ren (newR f0 vs) t hw ok t hw (ren_old (by rw [← okT_m]; exact ok) hv).symm).2.2 s r f f' (fun i hi => by rw [leaf_cnt t h2 h3 h4] at hi; omega)
theorem nodup_leG : ∀ (c : Nat) (l : List Int) (f : Int), l.Nodup → (∀ N ∈ l, f ≤ N ∧ N < f + c) → l.length ≤ c
  | 0, l, f, _, h => by
    cases l with
    | nil => simp
    | cons a l => have := h a (by simp); omega
  | c + 1, l, f, hn, h => by
    have h1 := nodup_leG c (l.erase (f + c)) f (hn.erase _) (fun N hN => by
      rw [hn.mem_erase_iff] at hN
      have := h N hN.2
      omega)
    by_cases hm : f + c ∈ l
    · rw [List.length_erase_of_mem hm] at h1; omega
    · rw [List.erase_of_not_mem hm] at h1; omega
/-- Which variables came when a goal was written. -/
theorem ext_in {f0 f : Int} {vs : List Int} {s r : List Nd} {n : Nat} {t : Tm n} (hw : Wl t) (ok : okT t = true) (hv : ∀ N, IsVarOf (code t) N → N < f0) (hs : ∀ N, IsVarOf s N → f0 ≤ N → N < f) (hr : ∀ N, IsVarOf r N → f0 ≤ N → N < f) (hi : ∀ N ∈ vs, f0 ≤ N ∧ N < f) : ∀ N ∈ extV f0 vs (btwC t s r f), f0 ≤ N ∧ N < f + cntT t := fun N hN => by
  rcases (extV_mem f0 _ vs N).1 hN with h | ⟨h, h'⟩
  · have := hi N h; omega
  · rcases (btw_vars t hw ok s r f N).1 h with h | h | h | h
    · have := hv N h; omega
    · have := hs N h h'; omega
    · have := hr N h h'; omega
    · omega
/-- A variable that is none of the points' and below what is new does not come. -/
theorem ext_not {f0 f v : Int} {vs : List Int} {s r : List Nd} {n : Nat} {t : Tm n} (hw : Wl t) (ok : okT t = true) (hv : ∀ N, IsVarOf (code t) N → N < f0) (hs : Come f0 vs s) (hr : ¬ IsVarOf r v) (h0 : f0 ≤ v) (hvs : v ∉ vs) (hf : v < f) : v ∉ extV f0 vs (btwC t s r f) := fun hN => by
  rcases (extV_mem f0 _ vs v).1 hN with h | ⟨h, _⟩
  · exact hvs h
  · rcases (btw_vars t hw ok s r f v).1 h with h | h | h | h
    · have := hv v h; omega
    · exact hvs (hs v h h0)
    · exact hr h
    · omega
/-- Only the writer, the second point, rows of tasks, new blocks and the place's four cells were changed. -/
structure FrT (wb pt pb po : Nat) (V V' : World) : Prop where
  fr : FrG wb (fun k => k = wb ∨ k = pt ∨ k = pb) V V'
  at4 : ∀ arr T, V.heap[pb]? = some (.cells arr T (0, 0)) → ∃ arr', V'.heap[pb]? = some (.cells arr' T (0, 0)) ∧ arr'.size = arr.size ∧ ∀ q, (q < po ∨ po + 3 < q) → arr'[q]? = arr[q]?
/-- A task's turn comes. -/
structure Tin (D wb : Nat) (f0 f : Int) (vs : List Int) (s r : List Nd) (S : List Task) (E : Task) (pb po : Nat) {m : Nat} (u : Tm m) (lf : Value) (V : World) : Prop where
  ws : Wst D wb wb E.pf E.pt f0 vs s r lf V
  st : StkK wb V lf (S ++ [E])
  hx : E.x = u.tv
  is : IsT wb V u
  ok : okT u = true
  er : berr u = 0
  vu : ∀ N, IsVarOf (code u) N → N < f0
  pl : E.pl = ⟨pb, po, none⟩
  pk : ∃ arr, V.heap[pb]? = some (.cells arr 24 (0, 0)) ∧ po + 4 ≤ arr.size
  pw : wb < pb
  ne : E.pf ≠ E.pt
  nd : vs.Nodup
  vi : ∀ N ∈ vs, f0 ≤ N ∧ N < f
  vf : ∀ N, IsVarOf s N → f0 ≤ N → N < f
  vr : ∀ N, IsVarOf r N → f0 ≤ N → N < f
  ff : f0 ≤ f
  fc : f + cntT u ≤ 1099511627777
/-- Its goal is written. -/
structure Tout (G D wb : Nat) (f0 f : Int) (vs : List Int) (s r : List Nd) (S : List Task) (E : Task) (pb po : Nat) {m : Nat} (u : Tm m) (lf' : Value) (V V' : World) : Prop where
  y : ∃ y : TV, cellsAt V' pb po y ∧ HoldsG anyP G V.heap.size V' y.val (renC (newR f0 (extV f0 vs (btwC u s r f))) (btwC u s r f))
  kf : PtK D wb f0 (extV f0 vs (btwC u s r f)) V' E.pf s
  kt : PtK D wb f0 (extV f0 vs (btwC u s r f)) V' E.pt r
  wr : WrB V' wb (f0 + (extV f0 vs (btwC u s r f)).length) lf'
  st : StkK wb V' lf' S
  fr : FrT wb E.pt pb po V V'
theorem notCome_new {f0 f : Int} {vs : List Int} {r : List Nd} {m : Nat} {u : Tm m} (nd : vs.Nodup) (vi : ∀ N ∈ vs, f0 ≤ N ∧ N < f) (vr : ∀ N, IsVarOf r N → f0 ≤ N → N < f) (ff : f0 ≤ f) (fc : f + cntT u ≤ 1099511627777) : ¬ Come f0 vs r → f0 + vs.length ≤ 1099511627776 := fun h => by
  by_cases he : f0 + (vs.length : Int) ≤ 1099511627776
  · exact he
  · exfalso
    apply h
    intro N h1 h2
    by_cases hm : N ∈ vs
    · exact hm
    · have hl := nodup_leG (f - f0).toNat (N :: vs) f0 (List.nodup_cons.2 ⟨hm, nd⟩) (fun M hM => by
        rcases List.mem_cons.1 hM with rfl | hM
        · have := vr _ h1 h2; omega
        · have := vi M hM; omega)
      simp only [List.length_cons] at hl
      omega
end Go.Proofs.Ytcdgmjpgmiehcaa

