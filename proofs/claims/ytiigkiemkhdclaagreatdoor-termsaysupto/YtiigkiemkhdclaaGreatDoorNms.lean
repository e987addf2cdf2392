import Derived.Test.YtiigkiemkhdclaaGreatDoorMcs
import Derived.BigRegion
/- The contract of term.number. -/
namespace Go.Proofs.YtiigkiemkhdclaaGreatDoor
open Go.RowKit Go.Shelf Go.Maps

/-- What lies behind number's first steps. -/
theorem number_world (w : World) (x : TV) (f : Int) : ∃ W5, ((((w.alloc (.cells #[.int .i64 x.k, .int .i64 x.N, .string x.s, .slice x.a x.len x.cap] 24)).alloc (.cells #[.int .i64 0, .int .i64 0, .string ⟨#[]⟩, .slice none 0 0] 24)).alloc (.cells #[.int .i64 f] 2)).alloc (.map #[] 0)).alloc (.cells #[.map (some (w.heap.size + 3))] 120) = W5 ∧
    Below w.heap.size w W5 ∧ W5.heap.size = w.heap.size + 5 ∧ BoxT W5 w.heap.size x ∧ W5.heap[w.heap.size + 1]? = some (.cells #[.int .i64 0, .int .i64 0, .string ⟨#[]⟩, .slice none 0 0] 24 (0, 0)) ∧ NumI f (w.heap.size + 3) (w.heap.size + 4) (w.heap.size + 2) [] W5 := by
  refine ⟨_, rfl, ((((Below.refl _ w).alloc (Nat.le_refl _) _).alloc (by simp) _).alloc (by simp; omega) _ |>.alloc (by simp; omega) _).alloc (by simp; omega) _, by simp, (((BoxT.new w x).alloc _).alloc _ |>.alloc _).alloc _, ?_, ?_⟩
  · have h := World.alloc_heap_new (w.alloc (.cells #[.int .i64 x.k, .int .i64 x.N, .string x.s, .slice x.a x.len x.cap] 24)) (.cells #[.int .i64 0, .int .i64 0, .string ⟨#[]⟩, .slice none 0 0] 24)
    rw [World.size_alloc] at h
    exact (Below.heap_alloc _ _ _ (by simp <;> omega)).trans ((Below.heap_alloc _ _ _ (by simp <;> omega)).trans ((Below.heap_alloc _ _ _ (by simp)).trans h))
  · refine ⟨List.nodup_nil, (fun N hN => by cases hN), ?_, ?_, .map [], ?_, (fun N => by simp [Maps.has]), (fun N hN => by cases hN)⟩
    · have h := World.alloc_heap_new ((((w.alloc (.cells #[.int .i64 x.k, .int .i64 x.N, .string x.s, .slice x.a x.len x.cap] 24)).alloc (.cells #[.int .i64 0, .int .i64 0, .string ⟨#[]⟩, .slice none 0 0] 24)).alloc (.cells #[.int .i64 f] 2)).alloc (.map #[] 0)) (.cells #[.map (some (w.heap.size + 3))] 120)
      simp only [World.size_alloc] at h
      exact h
    · have h := World.alloc_heap_new ((w.alloc (.cells #[.int .i64 x.k, .int .i64 x.N, .string x.s, .slice x.a x.len x.cap] 24)).alloc (.cells #[.int .i64 0, .int .i64 0, .string ⟨#[]⟩, .slice none 0 0] 24)) (.cells #[.int .i64 f] 2)
      simp only [World.size_alloc] at h
      have h2 := (Below.heap_alloc _ (.cells #[.map (some (w.heap.size + 3))] 120) _ (by simp <;> omega)).trans ((Below.heap_alloc _ (.map #[] 0) _ (by simp)).trans h)
      simpa using h2
    · have h := World.ownsMap_made (H := Unit) (((w.alloc (.cells #[.int .i64 x.k, .int .i64 x.N, .string x.s, .slice x.a x.len x.cap] 24)).alloc (.cells #[.int .i64 0, .int .i64 0, .string ⟨#[]⟩, .slice none 0 0] 24)).alloc (.cells #[.int .i64 f] 2)) Tryz.prog 2 (plainElem Tryz.prog 2)
      simp only [World.size_alloc] at h
      exact h.alloc _

set_option maxRecDepth 100000 in
set_option maxHeartbeats 1000000 in
theorem number_any {n : Nat} (t : Tm n) (f : Int) (w : World) (hT : IsT w.heap.size w t) (hok : okT t = true) (hf0 : 0 ≤ f) (hf1 : f ≤ 1099511627776) :
    Calls Tryz.prog 58 #[t.tv.val, .int .i64 f] w fun e W' => ∃ x : TV, e = .returned (.tuple #[x.val, .int .i64 (f + ((stepsN stpN [] (code t)).length : Nat))]) ∧ Below w.heap.size w W' ∧ HoldsT (n + 1) w.heap.size W' x.val ((code t).flatMap (subN (renN f (stepsN stpN [] (code t))))) := by
  obtain ⟨W5, hW5, hB5, hs5, hbt, hz5, hI5⟩ := number_world w t.tv f
  have hrep := replace_anyX (stately_num (f := f) (mb := w.heap.size + 3) (bb := w.heap.size + 4) (nb := w.heap.size + 2) (n₀ := w.heap.size) (lo := w.heap.size + 5) (by omega) ⟨by omega, by omega⟩ (by omega) ⟨by omega, by omega⟩) 86 #[.pointer (some ⟨w.heap.size + 4, 0, none⟩), .pointer (some ⟨w.heap.size + 2, 0, none⟩)] 1 (by omega) (enters_of Tryz.func86 (by kernel_rfl) rfl)
    (number1_becomes hf0 hf1 ⟨by omega, by omega, by omega⟩ ⟨by omega, by omega, by omega⟩) n t W5 [] (by omega) hI5 (hT.below hB5) hok
  have hmm := @run_makeMap Tryz.prog
  have c0 := hbt.c0
  have c1 := hbt.c1
  have c2 := hbt.c2
  have c3 := hbt.c3
  generalize stepsN stpN [] (code t) = cv at hrep ⊢
  have HB5 := hide hB5
  have HS5 := hide hs5
  have HZ5 := hide hz5
  clear hT hok hI5 hB5 hz5 hbt hs5
  simp only [TV.val] at hrep ⊢
  go_enter Tryz.func58, Tryz.ntmps58
  go_wp2_with fail
  refine hrep.mono ?_
  clear hrep c0 c1 c2 c3 hmm hW5
  rintro e W6 ⟨v, rfl, hg6, hI6, hv⟩
  obtain ⟨t6, ht6, -⟩ := hv _ (Nat.le_refl _)
  subst ht6
  have hs6 : w.heap.size + 5 ≤ W6.heap.size := by have := hg6.size; have := unhide HS5; omega
  have hB6 : Below w.heap.size w W6 := (unhide HB5).trans (hg6.below (fun k hx => by rcases hx with rfl | rfl <;> omega) (by have := unhide HS5; omega))
  have hz6 : W6.heap[w.heap.size + 1]? = some (.cells #[.int .i64 0, .int .i64 0, .string ⟨#[]⟩, .slice none 0 0] 24 (0, 0)) := (hg6.block _ (by have := unhide HS5; omega) (fun hx => by rcases hx with hx | hx <;> omega)).trans (unhide HZ5)
  have hb7 : Below W6.heap.size W6 (W6.alloc (.cells #[.int .i64 t6.tv.k, .int .i64 t6.tv.N, .string t6.tv.s, .slice t6.tv.a t6.tv.len t6.tv.cap] 24)) := (Below.refl _ W6).alloc (Nat.le_refl _) _
  have hbx := BoxT.new W6 t6.tv
  have hz7 := (hb7.block (w.heap.size + 1) (by omega)).trans hz6
  have hn7 := (hb7.block (w.heap.size + 2) (by omega)).trans hI6.next
  have hv7 : HoldsT (n + 1) W5.heap.size (W6.alloc (.cells #[.int .i64 t6.tv.k, .int .i64 t6.tv.N, .string t6.tv.s, .slice t6.tv.a t6.tv.len t6.tv.cap] 24)) t6.tv.val ((code t).flatMap (subN (renN f cv))) := hv.below hb7
  have hlt5 : w.heap.size + 1 < W5.heap.size := by have := unhide HS5; omega
  have hfin := (holds_set4 hv7 hlt5 0 t6.tv).mono (lo' := w.heap.size) (Nat.le_refl _) (by omega)
  have hbf := set4_below (hB6.trans (hb7.mono hB6.size)) (b := w.heap.size + 1) (by omega) 0 t6.tv
  have hx : (W6.alloc (.cells #[.int .i64 t6.tv.k, .int .i64 t6.tv.N, .string t6.tv.s, .slice t6.tv.a t6.tv.len t6.tv.cap] 24)).cell? ⟨w.heap.size + 1 + 1, 0, none⟩ = some (.int .i64 (f + (cv.length : Nat))) := (one_cell hn7).1
  obtain ⟨⟨z0, z1, z2, z3⟩, f0, f1, f2, f3⟩ := zbox_kept hz7
  have b0 := hbx.c0
  have b1 := hbx.c1
  have b2 := hbx.c2
  have b3 := hbx.c3
  have HF := hide (And.intro hbf hfin)
  clear hg6 hI6 hv hB6 hz6 hbx hz7 hn7 hv7 hfin hbf hb7
  simp only [TV.val]
  go_wp2_with fail
  go_region
  all_goals
    go_wp2_with fail
    exact bodyPost_ret (v := .tuple #[t6.tv.val, .int .i64 (f + (cv.length : Nat))]) (by simp [results, Tryz.results58, go_sem, TV.val, z0, z1, z2, z3]) rfl ⟨_, rfl, (unhide HF).1.drew, (unhide HF).2.below (Below.refl _ _).drew⟩
end Go.Proofs.YtiigkiemkhdclaaGreatDoor

/- Plain mathematics of variants: numbered from the same number on they are one; just if each matches the other. -/
namespace Go.Proofs.YtiigkiemkhdclaaGreatDoor
open Go.RowKit Go.Shelf Go.Maps

/-- The variables of a row of parts get numbers from f on, in the order of their coming. -/
def canon (f : Int) (c : List Nd) : List Nd := c.flatMap (subN (renN f (stepsN stpN [] c)))
def IsVarOf (c : List Nd) (N : Int) : Prop := ∃ x ∈ c, x.1 = 1 ∧ x.2.1 = N
theorem sub_congr_on {σ τ : Int → List Nd} {c : List Nd} (h : ∀ N, IsVarOf c N → σ N = τ N) : c.flatMap (subN σ) = c.flatMap (subN τ) :=
  flatMap_same c fun x hx => by
    unfold subN
    by_cases hk : x.1 = 1
    · rw [if_pos hk, if_pos hk, h _ ⟨x, hx, hk, rfl⟩]
    · rw [if_neg hk, if_neg hk]
theorem sub_id {c : List Nd} (h : okC c) : c.flatMap (subN fun N => [varNd N]) = c := by
  have h1 : ∀ x ∈ c, subN (fun N => [varNd N]) x = [x] := fun x hx => by
    unfold subN
    by_cases hk : x.1 = 1
    · rw [if_pos hk]
      show [varNd x.2.1] = [x]
      rw [← (okNd_var (List.all_eq_true.1 h x hx) hk).2]
    · rw [if_neg hk]
  rw [flatMap_same c h1]
  simp

theorem steps_mem : ∀ (c : List Nd) (acc : List Int) (N : Int), N ∈ stepsN stpN acc c ↔ N ∈ acc ∨ IsVarOf c N
  | [], acc, N => by simp [stepsN, IsVarOf]
  | x :: c, acc, N => by
    have e : stepsN stpN acc (x :: c) = stepsN stpN (if x.1 = 1 then stpN acc x.2.1 else acc) c := rfl
    rw [e, steps_mem c]
    have hv : IsVarOf (x :: c) N ↔ (x.1 = 1 ∧ x.2.1 = N) ∨ IsVarOf c N := by
      unfold IsVarOf
      constructor
      · rintro ⟨y, hy, h⟩
        rcases List.mem_cons.1 hy with rfl | hy
        · exact .inl h
        · exact .inr ⟨y, hy, h⟩
      · rintro (h | ⟨y, hy, h⟩)
        · exact ⟨x, by simp, h⟩
        · exact ⟨y, by simp [hy], h⟩
    rw [hv]
    by_cases hk : x.1 = 1
    · rw [if_pos hk]
      unfold stpN
      split
      · rename_i hm
        constructor
        · rintro (h | h)
          · exact .inl h
          · exact .inr (.inr h)
        · rintro (h | ⟨_, rfl⟩ | h)
          · exact .inl h
          · exact .inl hm
          · exact .inr h
      · constructor
        · rintro (h | h)
          · rcases List.mem_append.1 h with h | h
            · exact .inl h
            · simp at h; exact .inr (.inl ⟨hk, h.symm⟩)
          · exact .inr (.inr h)
        · rintro (h | ⟨_, rfl⟩ | h)
          · exact .inl (List.mem_append_left _ h)
          · exact .inl (List.mem_append_right _ (by simp))
          · exact .inr h
    · rw [if_neg hk]
      constructor
      · rintro (h | h)
        · exact .inl h
        · exact .inr (.inr h)
      · rintro (h | ⟨h, _⟩ | h)
        · exact .inl h
        · exact (hk h).elim
        · exact .inr h
/-- A renaming that keeps unlike variables unlike. -/
def InjOn (ρ : Int → Int) (P : Int → Prop) : Prop := ∀ M N, P M → P N → ρ M = ρ N → M = N
theorem idxOf_map {ρ : Int → Int} : ∀ (l : List Int) (N : Int), (∀ M ∈ l, ρ M = ρ N → M = N) → (l.map ρ).idxOf (ρ N) = l.idxOf N
  | [], N, _ => rfl
  | M :: l, N, h => by
    rw [List.map_cons, List.idxOf_cons, List.idxOf_cons]
    by_cases e : M = N
    · subst e; simp
    · have e' : ¬ ρ M = ρ N := fun h' => e (h M (by simp) h')
      simp only [beq_eq_false_iff_ne.2 e, beq_eq_false_iff_ne.2 e']
      rw [idxOf_map l N fun M hM => h M (by simp [hM])]
theorem steps_ren {ρ : Int → Int} {P : Int → Prop} (hρ : InjOn ρ P) : ∀ (c : List Nd) (acc : List Int), (∀ N ∈ acc, P N) → (∀ N, IsVarOf c N → P N) → stepsN stpN (acc.map ρ) (c.flatMap (subN fun N => [varNd (ρ N)])) = (stepsN stpN acc c).map ρ
  | [], acc, _, _ => rfl
  | x :: c, acc, ha, hc => by
    have hc' : ∀ N, IsVarOf c N → P N := fun N ⟨y, hy, h⟩ => hc N ⟨y, by simp [hy], h⟩
    rw [List.flatMap_cons, stepsN_append]
    have e : stepsN stpN acc (x :: c) = stepsN stpN (if x.1 = 1 then stpN acc x.2.1 else acc) c := rfl
    rw [e]
    by_cases hk : x.1 = 1
    · have hP : P x.2.1 := hc _ ⟨x, by simp, hk, rfl⟩
      rw [if_pos hk]
      have e1 : stepsN stpN (acc.map ρ) (subN (fun N => [varNd (ρ N)]) x) = (stpN acc x.2.1).map ρ := by
        unfold subN
        rw [if_pos hk]
        show stpN (acc.map ρ) (ρ x.2.1) = _
        unfold stpN
        by_cases hm : x.2.1 ∈ acc
        · rw [if_pos hm, if_pos (List.mem_map.2 ⟨_, hm, rfl⟩)]
        · rw [if_neg hm, if_neg]
          · simp
          · intro h
            obtain ⟨M, hM, e⟩ := List.mem_map.1 h
            exact hm (hρ M _ (ha M hM) hP e ▸ hM)
      rw [e1]
      refine steps_ren hρ c _ (fun N hN => ?_) hc'
      unfold stpN at hN
      split at hN
      · exact ha N hN
      · rcases List.mem_append.1 hN with hN | hN
        · exact ha N hN
        · simp at hN; subst hN; exact hP
    · rw [if_neg hk]
      have e1 : stepsN stpN (acc.map ρ) (subN (fun N => [varNd (ρ N)]) x) = acc.map ρ := by
        unfold subN
        rw [if_neg hk]
        show (if x.1 = 1 then _ else _) = _
        rw [if_neg hk]
      rw [e1]
      exact steps_ren hρ c acc ha hc'
/-- What is renamed is numbered as what was not. -/
theorem canon_ren {ρ : Int → Int} {c : List Nd} (hρ : InjOn ρ (IsVarOf c)) (f : Int) : canon f (c.flatMap (subN fun N => [varNd (ρ N)])) = canon f c := by
  have h1 := steps_ren hρ c [] (fun N h => by cases h) (fun N h => h)
  rw [List.map_nil] at h1
  unfold canon
  rw [h1, sub_sub]
  refine sub_congr_on fun N hN => ?_
  rw [sub_varNd]
  unfold renN
  rw [idxOf_map]
  intro M hM e
  rcases (steps_mem c [] M).1 hM with h | h
  · cases h
  · exact hρ M N h hN e
theorem canon_canon (f : Int) (c : List Nd) : canon 0 (canon f c) = canon 0 c := by
  have : canon f c = c.flatMap (subN fun N => [varNd (f + ((stepsN stpN [] c).idxOf N : Nat))]) := rfl
  rw [this]
  refine canon_ren (ρ := fun N => f + ((stepsN stpN [] c).idxOf N : Nat)) (fun M N hM hN e => ?_) 0
  have hM' := (steps_mem c [] M).2 (.inr hM)
  have hN' := (steps_mem c [] N).2 (.inr hN)
  have e' : (stepsN stpN [] c).idxOf M = (stepsN stpN [] c).idxOf N := by simp only at e; omega
  have h1 := List.getElem_idxOf (List.idxOf_lt_length_of_mem hM')
  have h2 := List.getElem_idxOf (List.idxOf_lt_length_of_mem hN')
  rw [← h1, ← h2]
  simp only [e']
/-- What is numbered can be given its own variables back. -/
theorem canon_back {c : List Nd} (h : okC c) : ∃ τ : Int → Int, (canon 0 c).flatMap (subN fun N => [varNd (τ N)]) = c := by
  refine ⟨fun M => (stepsN stpN [] c)[M.toNat]?.getD 0, ?_⟩
  unfold canon
  rw [sub_sub]
  refine Eq.trans (sub_congr_on fun N hN => ?_) (sub_id h)
  have hN' := (steps_mem c [] N).2 (.inr hN)
  unfold renN
  rw [sub_varNd]
  have hlt := List.idxOf_lt_length_of_mem hN'
  have e : ((0 : Int) + ((stepsN stpN [] c).idxOf N : Nat)).toNat = (stepsN stpN [] c).idxOf N := by omega
  simp only [e]
  rw [List.getElem?_eq_getElem hlt, List.getElem_idxOf hlt]
  rfl
theorem word_len {l : List Nd} (h : Word l) : 1 ≤ l.length := by
  cases l with
  | nil => simp [Word, runW] at h
  | cons x l => simp
theorem sub_len {σ : Int → List Nd} (hσ : ∀ N, Word (σ N)) : ∀ (c : List Nd), c.length ≤ (c.flatMap (subN σ)).length
  | [] => by simp
  | x :: c => by
    have h1 := sub_len hσ c
    have h2 : 1 ≤ (subN σ x).length := by
      unfold subN
      split
      · exact word_len (hσ _)
      · simp
    rw [List.flatMap_cons, List.length_append, List.length_cons]
    omega

/-- Variants, just if each matches the other. -/
theorem variants_iff {ca cb : List Nd} (ha : okC ca) (hb : okC cb) : canon 0 ca = canon 0 cb ↔ Matches ca cb ∧ Matches cb ca := by
  constructor
  · intro h
    have key : ∀ {x y : List Nd}, okC y → canon 0 x = canon 0 y → Matches x y := fun {x y} hy e => by
      obtain ⟨τ, hτ⟩ := canon_back hy
      rw [← e] at hτ
      unfold canon at hτ
      rw [sub_sub] at hτ
      exact ⟨_, fun N => by unfold renN; rw [sub_varNd]; exact word_var _, hτ⟩
    exact ⟨key hb h, key ha h.symm⟩
  · rintro ⟨⟨σ, hσ, h1⟩, ⟨τ, hτ, h2⟩⟩
    have hfix : ca.flatMap (subN fun N => (σ N).flatMap (subN τ)) = ca := by rw [← sub_sub, h1, h2]
    have hone : ∀ N, IsVarOf ca N → ∃ M, σ N = [varNd M] ∧ τ M = [varNd N] := by
      intro N hN
      have hlen : ∀ N', 1 ≤ ((σ N').flatMap (subN τ)).length := fun N' => Nat.le_trans (word_len (hσ N')) (sub_len hτ _)
      have hfx : (σ N).flatMap (subN τ) = [varNd N] := by
        have gen : ∀ {θ : Int → List Nd} (_ : ∀ N, 1 ≤ (θ N).length) {c : List Nd}, okC c → c.flatMap (subN θ) = c → ∀ N, IsVarOf c N → θ N = [varNd N] := by
          intro θ hθ c
          induction c with
          | nil => intro _ _ N ⟨x, hx, _⟩; cases hx
          | cons x c ih =>
            intro hok h N hN
            have hokx : okNd x = true ∧ okC c := by
              unfold okC at hok ⊢
              simpa using hok
            have hl0 : ∀ (c : List Nd), c.length ≤ (c.flatMap (subN θ)).length := by
              intro c
              induction c with
              | nil => simp
              | cons x c ih =>
                have h2 : 1 ≤ (subN θ x).length := by
                  unfold subN
                  split
                  · exact hθ _
                  · simp
                rw [List.flatMap_cons, List.length_append, List.length_cons]
                omega
            rw [List.flatMap_cons] at h
            have h1 := hl0 c
            have hl := congrArg List.length h
            rw [List.length_append, List.length_cons] at hl
            obtain ⟨y, hy⟩ : ∃ y, subN θ x = [y] := by
              have h2 : 1 ≤ (subN θ x).length := by
                unfold subN
                split
                · exact hθ _
                · simp
              exact List.length_eq_one_iff.1 (by omega)
            rw [hy, List.singleton_append, List.cons.injEq] at h
            obtain ⟨rfl, h⟩ := h
            obtain ⟨z, hz, hz1, rfl⟩ := hN
            rcases List.mem_cons.1 hz with rfl | hz
            · unfold subN at hy
              rw [if_pos hz1] at hy
              rw [hy, ← (okNd_var hokx.1 hz1).2]
            · exact ih hokx.2 h _ ⟨z, hz, hz1, rfl⟩
        exact gen hlen ha hfix N hN
      have h3 := sub_len hτ (σ N)
      have h4 := word_len (hσ N)
      rw [hfx, List.length_singleton] at h3
      obtain ⟨y, hy⟩ : ∃ y, σ N = [y] := List.length_eq_one_iff.1 (by omega)
      rw [hy] at hfx
      simp only [List.flatMap_cons, List.flatMap_nil, List.append_nil] at hfx
      have hk : y.1 = 1 := by
        by_cases hk : y.1 = 1
        · exact hk
        · unfold subN at hfx
          rw [if_neg hk] at hfx
          have : y = varNd N := by simpa using hfx
          rw [this] at hk
          exact (hk rfl).elim
      have hmem : y ∈ cb := by
        rw [← h1]
        obtain ⟨x, hx, hx1, rfl⟩ := hN
        refine List.mem_flatMap.2 ⟨x, hx, ?_⟩
        unfold subN
        rw [if_pos hx1, hy]
        simp
      have hyv := (okNd_var (List.all_eq_true.1 hb y hmem) hk).2
      refine ⟨y.2.1, by rw [hy, ← hyv], ?_⟩
      unfold subN at hfx
      rw [if_pos hk] at hfx
      exact hfx
    have hcb : cb = ca.flatMap (subN fun N => [varNd ((σ N).head?.getD (varNd 0)).2.1]) := by
      rw [← h1]
      refine sub_congr_on fun N hN => ?_
      obtain ⟨M, hM, _⟩ := hone N hN
      rw [hM]; rfl
    rw [hcb]
    refine (canon_ren (ρ := fun N => ((σ N).head?.getD (varNd 0)).2.1) (fun M N hM hN e => ?_) 0).symm
    obtain ⟨M1, k1, k2⟩ := hone M hM
    obtain ⟨N1, k3, k4⟩ := hone N hN
    simp only [k1, k3, List.head?_cons, Option.getD_some] at e
    have e' : M1 = N1 := e
    rw [e', k4] at k2
    have := (List.cons.inj k2).1
    simp [varNd] at this
    exact this.symm
end Go.Proofs.YtiigkiemkhdclaaGreatDoor

/- Plain mathematics of the least general generalization (Plotkin), by codes. -/
namespace Go.Proofs.YtiigkiemkhdclaaGreatDoor
open Go.RowKit Go.Shelf Go.Maps

abbrev Pr := List Nd × List Nd
/-- Two lists side by side. -/
def zf {α β : Type} (f : α → α → List β) : List α → List α → List β
  | x :: xs, y :: ys => f x y ++ zf f xs ys
  | _, _ => []
/-- Nothing in common at the top: a variable stands for the two. -/
def apart (x y : TV) : Bool := decide (x.k = 1) || !stop x y
/-- The pairs that a variable stands for, in the order of their coming. -/
def prs : {n : Nat} → Tm n → Tm n → List Pr
  | 0, _, _ => []
  | _ + 1, a, b => if apart a.tv b.tv then [(code a, code b)] else zf prs a.kids b.kids
/-- The generalization, if ι says which variable stands for a pair. -/
def Gc (ι : Pr → Int) : {n : Nat} → Tm n → Tm n → List Nd
  | 0, _, _ => []
  | _ + 1, a, b => if apart a.tv b.tv then [varNd (ι (code a, code b))] else a.tv.nd :: zf (Gc ι) a.kids b.kids
theorem prs_apart {n : Nat} {a b : Tm (n + 1)} (h : apart a.tv b.tv = true) : prs a b = [(code a, code b)] := by
  obtain ⟨x, k⟩ := a
  simp only [prs]; rw [if_pos h]
theorem prs_like {n : Nat} {a b : Tm (n + 1)} (h : apart a.tv b.tv = false) : prs a b = zf prs a.kids b.kids := by
  obtain ⟨x, k⟩ := a
  simp only [prs]; rw [if_neg (by rw [h]; simp)]
theorem Gc_apart {ι : Pr → Int} {n : Nat} {a b : Tm (n + 1)} (h : apart a.tv b.tv = true) : Gc ι a b = [varNd (ι (code a, code b))] := by
  obtain ⟨x, k⟩ := a
  simp only [Gc]; rw [if_pos h]
theorem Gc_like {ι : Pr → Int} {n : Nat} {a b : Tm (n + 1)} (h : apart a.tv b.tv = false) : Gc ι a b = a.tv.nd :: zf (Gc ι) a.kids b.kids := by
  obtain ⟨x, k⟩ := a
  simp only [Gc]; rw [if_neg (by rw [h]; simp)]
theorem apart_no {x y : TV} (h : apart x y = false) : ¬ x.k = 1 ∧ x.nd = y.nd := by
  simp only [apart, Bool.or_eq_false_iff, decide_eq_false_iff_not, Bool.not_eq_false'] at h
  exact ⟨h.1, nd_stop.2 h.2⟩
theorem apart_symm (x y : TV) : apart x y = apart y x := by
  rw [Bool.eq_iff_iff]
  simp only [apart, Bool.or_eq_true, decide_eq_true_eq, Bool.not_eq_true']
  have key : ∀ {x y : TV}, (x.k = 1 ∨ stop x y = false) → (y.k = 1 ∨ stop y x = false) := fun {x y} h => by
    by_cases hs : stop y x = true
    · have e := nd_stop.2 hs
      have ek : y.k = x.k := congrArg (fun z : Nd => z.1) e
      have hs' : stop x y = true := nd_stop.1 e.symm
      rcases h with h | h
      · exact .inl (by omega)
      · rw [hs'] at h; cases h
    · exact .inr (by simpa using hs)
  exact ⟨key, key⟩
theorem kids_len {n : Nat} {a b : Tm (n + 1)} (ha : Wl a) (hb : Wl b) (h : a.tv.nd = b.tv.nd) : a.kids.length = b.kids.length := by
  have h1 := ha.1
  have h2 := hb.1
  have h3 : a.tv.len = b.tv.len := congrArg (fun z : Nd => z.2.2.2) h
  omega

/-- The generalization makes the first, where a variable becomes the first of its pair. -/
theorem Gc_left {ι : Pr → Int} {σ : Int → List Nd} : ∀ {n : Nat} (a b : Tm n), Wl a → Wl b → (∀ p ∈ prs a b, σ (ι p) = p.1) → (Gc ι a b).flatMap (subN σ) = code a
  | 0, a, _, _, _, _ => Empty.elim a
  | n + 1, a, b, ha, hb, h => by
    cases hap : apart a.tv b.tv with
    | true =>
      rw [prs_apart hap] at h
      rw [Gc_apart hap, sub_varNd]
      exact h _ (by simp)
    | false =>
      obtain ⟨hk, hnd⟩ := apart_no hap
      rw [prs_like hap] at h
      rw [Gc_like hap, List.flatMap_cons, code_kids]
      have e : subN σ a.tv.nd = [a.tv.nd] := by unfold subN; rw [if_neg (by simpa [TV.nd] using hk)]
      rw [e, List.singleton_append]
      congr 1
      have key : ∀ (l r : List (Tm n)), l.length = r.length → (∀ u ∈ l, Wl u) → (∀ u ∈ r, Wl u) → (∀ p ∈ zf prs l r, σ (ι p) = p.1) → (zf (Gc ι) l r).flatMap (subN σ) = l.flatMap code := by
        intro l
        induction l with
        | nil => intro r _ _ _ _; cases r <;> rfl
        | cons u l ih =>
          intro r hl h1 h2 hp
          cases r with
          | nil => simp at hl
          | cons v r =>
            simp only [zf] at hp ⊢
            rw [List.flatMap_append, List.flatMap_cons, Gc_left u v (h1 u (by simp)) (h2 v (by simp)) (fun p hp' => hp p (List.mem_append_left _ hp')), ih r (by simpa using hl) (fun z hz => h1 z (by simp [hz])) (fun z hz => h2 z (by simp [hz])) (fun p hp' => hp p (List.mem_append_right _ hp'))]
      exact key _ _ (kids_len ha hb hnd) ha.2 hb.2 h
def swapP (p : Pr) : Pr := (p.2, p.1)
/-- The two sides may be changed: the same generalization. -/
theorem prs_swap : ∀ {n : Nat} (a b : Tm n), Wl a → Wl b → prs b a = (prs a b).map swapP
  | 0, a, _, _, _ => Empty.elim a
  | n + 1, a, b, ha, hb => by
    cases hap : apart a.tv b.tv with
    | true =>
      rw [prs_apart hap, prs_apart (by rw [apart_symm]; exact hap)]
      rfl
    | false =>
      rw [prs_like hap, prs_like (by rw [apart_symm]; exact hap)]
      have key : ∀ (l r : List (Tm n)), (∀ u ∈ l, Wl u) → (∀ u ∈ r, Wl u) → zf prs r l = (zf prs l r).map swapP := by
        intro l
        induction l with
        | nil => intro r _ _; cases r <;> rfl
        | cons u l ih =>
          intro r h1 h2
          cases r with
          | nil => rfl
          | cons v r =>
            simp only [zf]
            rw [List.map_append, prs_swap u v (h1 u (by simp)) (h2 v (by simp)), ih r (fun z hz => h1 z (by simp [hz])) (fun z hz => h2 z (by simp [hz]))]
      exact key _ _ ha.2 hb.2
theorem Gc_swap {ι ι' : Pr → Int} : ∀ {n : Nat} (a b : Tm n), Wl a → Wl b → (∀ p ∈ prs a b, ι' (swapP p) = ι p) → Gc ι' b a = Gc ι a b
  | 0, a, _, _, _, _ => Empty.elim a
  | n + 1, a, b, ha, hb, h => by
    cases hap : apart a.tv b.tv with
    | true =>
      rw [prs_apart hap] at h
      rw [Gc_apart hap, Gc_apart (by rw [apart_symm]; exact hap)]
      rw [← h (code a, code b) (by simp)]
      rfl
    | false =>
      obtain ⟨_, hnd⟩ := apart_no hap
      rw [prs_like hap] at h
      rw [Gc_like hap, Gc_like (by rw [apart_symm]; exact hap), hnd]
      congr 1
      have key : ∀ (l r : List (Tm n)), (∀ u ∈ l, Wl u) → (∀ u ∈ r, Wl u) → (∀ p ∈ zf prs l r, ι' (swapP p) = ι p) → zf (Gc ι') r l = zf (Gc ι) l r := by
        intro l
        induction l with
        | nil => intro r _ _ _; cases r <;> rfl
        | cons u l ih =>
          intro r h1 h2 hp
          cases r with
          | nil => rfl
          | cons v r =>
            simp only [zf] at hp ⊢
            rw [Gc_swap u v (h1 u (by simp)) (h2 v (by simp)) (fun p hp' => hp p (List.mem_append_left _ hp')), ih r (fun z hz => h1 z (by simp [hz])) (fun z hz => h2 z (by simp [hz])) (fun p hp' => hp p (List.mem_append_right _ hp'))]
      exact key _ _ ha.2 hb.2 h
theorem Gc_right {ι : Pr → Int} {σ : Int → List Nd} {n : Nat} (a b : Tm n) (ha : Wl a) (hb : Wl b) (h : ∀ p ∈ prs a b, σ (ι p) = p.2) : (Gc ι a b).flatMap (subN σ) = code b := by
  have h1 := Gc_left (ι := fun p => ι (swapP p)) (σ := σ) b a hb ha (fun p hp => by
    rw [prs_swap a b ha hb] at hp
    obtain ⟨q, hq, rfl⟩ := List.mem_map.1 hp
    exact h q hq)
  rw [Gc_swap (ι := ι) a b ha hb (fun p _ => rfl)] at h1
  exact h1

/-- Kids by their codes. -/
theorem kids_codes {n m : Nat} : ∀ (l : List (Tm n)) (r : List (Tm m)), l.length = r.length → (∀ u ∈ l, Wl u) → (∀ u ∈ r, Wl u) → l.flatMap code = r.flatMap code → l.map code = r.map code
  | [], [], _, _, _, _ => rfl
  | [], _ :: _, h, _, _, _ => by simp at h
  | _ :: _, [], h, _, _, _ => by simp at h
  | u :: l, v :: r, h, h1, h2, he => by
    rw [List.flatMap_cons, List.flatMap_cons] at he
    obtain ⟨e1, e2⟩ := word_same (word_code u (h1 u (by simp))) (word_code v (h2 v (by simp))) he
    rw [List.map_cons, List.map_cons, e1, kids_codes l r (by simpa using h) (fun z hz => h1 z (by simp [hz])) (fun z hz => h2 z (by simp [hz])) e2]
/-- The generalization hangs on the codes alone. -/
theorem Gc_codes {ι : Pr → Int} : ∀ {n m : Nat} (a b : Tm n) (a' b' : Tm m), Wl a → Wl b → Wl a' → Wl b' → code a = code a' → code b = code b' → Gc ι a b = Gc ι a' b'
  | 0, _, a, _, _, _, _, _, _, _, _, _ => Empty.elim a
  | _ + 1, 0, _, _, a', _, _, _, _, _, _, _ => Empty.elim a'
  | n + 1, m + 1, a, b, a', b', ha, hb, ha', hb', ea, eb => by
    have ea' := ea
    have eb' := eb
    rw [code_kids, code_kids a', List.cons.injEq] at ea'
    rw [code_kids, code_kids b', List.cons.injEq] at eb'
    have la : a.kids.length = a'.kids.length := by
      have h1 := ha.1
      have h2 := ha'.1
      have h3 : a.tv.len = a'.tv.len := congrArg (fun z : Nd => z.2.2.2) ea'.1
      omega
    have lb : b.kids.length = b'.kids.length := by
      have h1 := hb.1
      have h2 := hb'.1
      have h3 : b.tv.len = b'.tv.len := congrArg (fun z : Nd => z.2.2.2) eb'.1
      omega
    have hap : apart a.tv b.tv = apart a'.tv b'.tv := by
      unfold apart
      have h1 : a.tv.k = a'.tv.k := congrArg (fun z : Nd => z.1) ea'.1
      have h2 : stop a.tv b.tv = stop a'.tv b'.tv := by
        rw [Bool.eq_iff_iff, ← nd_stop, ← nd_stop, ea'.1, eb'.1]
      rw [h1, h2]
    cases h : apart a.tv b.tv with
    | true => rw [Gc_apart h, Gc_apart (by rw [← hap]; exact h), ea, eb]
    | false =>
      rw [Gc_like h, Gc_like (by rw [← hap]; exact h), ea'.1]
      congr 1
      have ka := kids_codes _ _ la ha.2 ha'.2 ea'.2
      have kb := kids_codes _ _ lb hb.2 hb'.2 eb'.2
      have key : ∀ (l r : List (Tm n)) (l' r' : List (Tm m)), l.map code = l'.map code → r.map code = r'.map code → (∀ u ∈ l, Wl u) → (∀ u ∈ r, Wl u) → (∀ u ∈ l', Wl u) → (∀ u ∈ r', Wl u) → zf (Gc ι) l r = zf (Gc ι) l' r' := by
        intro l
        induction l with
        | nil =>
          intro r l' r' e1 _ _ _ _ _
          have : l' = [] := by simpa using e1.symm
          subst this
          cases r <;> cases r' <;> rfl
        | cons u l ih =>
          intro r l' r' e1 e2 h1 h2 h3 h4
          cases l' with
          | nil => simp at e1
          | cons u' l' =>
            cases r with
            | nil =>
              have : r' = [] := by simpa using e2.symm
              subst this
              rfl
            | cons v r =>
              cases r' with
              | nil => simp at e2
              | cons v' r' =>
                simp only [List.map_cons, List.cons.injEq] at e1 e2
                simp only [zf]
                rw [Gc_codes u v u' v' (h1 u (by simp)) (h2 v (by simp)) (h3 u' (by simp)) (h4 v' (by simp)) e1.1 e2.1, ih r l' r' e1.2 e2.2 (fun z hz => h1 z (by simp [hz])) (fun z hz => h2 z (by simp [hz])) (fun z hz => h3 z (by simp [hz])) (fun z hz => h4 z (by simp [hz]))]
      exact key _ _ _ _ ka kb ha.2 hb.2 ha'.2 hb'.2
/-- It is a term's code. -/
theorem Gc_word {ι : Pr → Int} : ∀ {n : Nat} (a b : Tm n), Wl a → Wl b → Word (Gc ι a b)
  | 0, a, _, _, _ => Empty.elim a
  | n + 1, a, b, ha, hb => by
    cases hap : apart a.tv b.tv with
    | true => rw [Gc_apart hap]; exact word_var _
    | false =>
      obtain ⟨_, hnd⟩ := apart_no hap
      rw [Gc_like hap]
      unfold Word
      simp only [runW]
      have e : 0 + a.tv.nd.2.2.2 = a.kids.length := by simp [TV.nd, ha.1]
      rw [e]
      have key : ∀ (l r : List (Tm n)), l.length = r.length → (∀ u ∈ l, Wl u) → (∀ u ∈ r, Wl u) → runW l.length (zf (Gc ι) l r) = some [] := by
        intro l
        induction l with
        | nil => intro r _ _ _; cases r <;> rfl
        | cons u l ih =>
          intro r hl h1 h2
          cases r with
          | nil => simp at hl
          | cons v r =>
            simp only [zf]
            rw [List.length_cons, runW_add _ 1 _ _ (Gc_word u v (h1 u (by simp)) (h2 v (by simp)))]
            exact ih r (by simpa using hl) (fun z hz => h1 z (by simp [hz])) (fun z hz => h2 z (by simp [hz]))
      exact key _ _ (kids_len ha hb hnd) ha.2 hb.2
/-- What stands for a variable of a term that matches both. -/
noncomputable def both (ι : Pr → Int) (x y : List Nd) : List Nd :=
  open Classical in if h : ∃ (n : Nat) (a b : Tm n), Wl a ∧ Wl b ∧ code a = x ∧ code b = y then Gc ι h.choose_spec.choose h.choose_spec.choose_spec.choose else [varNd 0]
theorem both_word (ι : Pr → Int) (x y : List Nd) : Word (both ι x y) := by
  unfold both
  split
  · rename_i h
    obtain ⟨h1, h2, _⟩ := h.choose_spec.choose_spec.choose_spec
    exact Gc_word _ _ h1 h2
  · exact word_var 0
theorem both_eq (ι : Pr → Int) {n : Nat} (a b : Tm n) (ha : Wl a) (hb : Wl b) : both ι (code a) (code b) = Gc ι a b := by
  have h : ∃ (m : Nat) (a' b' : Tm m), Wl a' ∧ Wl b' ∧ code a' = code a ∧ code b' = code b := ⟨n, a, b, ha, hb, rfl, rfl⟩
  unfold both
  rw [dif_pos h]
  obtain ⟨h1, h2, h3, h4⟩ := h.choose_spec.choose_spec.choose_spec
  exact Gc_codes _ _ a b h1 h2 ha hb h3 h4
/-- What matches both matches the generalization. -/
theorem Gc_least {ι : Pr → Int} {θ τ : Int → List Nd} (hθ : ∀ N, Word (θ N)) (hτ : ∀ N, Word (τ N)) : ∀ {m : Nat} (c : Tm m), Wl c → okT c = true → ∀ {n : Nat} (a b : Tm n), Wl a → Wl b → (code c).flatMap (subN θ) = code a → (code c).flatMap (subN τ) = code b → (code c).flatMap (subN fun N => both ι (θ N) (τ N)) = Gc ι a b
  | 0, c, _, _, _, _, _, _, _, _, _ => Empty.elim c
  | _ + 1, _, _, _, 0, a, _, _, _, _, _ => Empty.elim a
  | m + 1, c, hc, ok, n + 1, a, b, ha, hb, h1, h2 => by
    by_cases hk : c.tv.k = 1
    · rw [var_code hc ok hk, sub_varNd] at h1 h2 ⊢
      rw [h1, h2]
      exact both_eq ι a b ha hb
    · rw [nd_novar _ hk] at h1 h2 ⊢
      have h1' := h1
      have h2' := h2
      rw [code_kids a, List.cons.injEq] at h1'
      rw [code_kids b, List.cons.injEq] at h2'
      have hka : a.tv.k = c.tv.k := congrArg (fun z : Nd => z.1) h1'.1.symm
      have hap : apart a.tv b.tv = false := by
        unfold apart
        rw [Bool.or_eq_false_iff]
        refine ⟨decide_eq_false (by omega), ?_⟩
        rw [Bool.not_eq_false']
        exact nd_stop.1 (h1'.1.symm.trans h2'.1)
      rw [Gc_like hap, ← h1'.1]
      congr 1
      have lc : ∀ {k : Nat} {z : Tm (k + 1)}, Wl z → c.tv.nd = z.tv.nd → c.kids.length = z.kids.length := fun {k z} hz e => by
        have e1 := hc.1
        have e2 := hz.1
        have e3 : c.tv.len = z.tv.len := congrArg (fun z : Nd => z.2.2.2) e
        omega
      have key : ∀ (cs : List (Tm m)) (l r : List (Tm n)), cs.length = l.length → cs.length = r.length → (∀ u ∈ cs, Wl u) → (∀ u ∈ cs, okT u = true) → (∀ u ∈ l, Wl u) → (∀ u ∈ r, Wl u) → (cs.flatMap code).flatMap (subN θ) = l.flatMap code → (cs.flatMap code).flatMap (subN τ) = r.flatMap code → (cs.flatMap code).flatMap (subN fun N => both ι (θ N) (τ N)) = zf (Gc ι) l r := by
        intro cs
        induction cs with
        | nil =>
          intro l r e1 _ _ _ _ _ _ _
          have : l = [] := List.length_eq_zero_iff.1 (by simpa using e1.symm)
          subst this
          rfl
        | cons c cs ih =>
          intro l r e1 e2 k1 k2 k3 k4 g1 g2
          cases l with
          | nil => simp at e1
          | cons u l =>
            cases r with
            | nil => simp at e2
            | cons v r =>
              rw [List.flatMap_cons, List.flatMap_append, List.flatMap_cons] at g1 g2
              have wc := word_code c (k1 c (by simp))
              have vc := okT_vok (k2 c (by simp))
              obtain ⟨p1, p2⟩ := word_same (word_sub hθ vc wc) (word_code u (k3 u (by simp))) g1
              obtain ⟨q1, q2⟩ := word_same (word_sub hτ vc wc) (word_code v (k4 v (by simp))) g2
              rw [List.flatMap_cons, List.flatMap_append]
              simp only [zf]
              rw [Gc_least hθ hτ c (k1 c (by simp)) (k2 c (by simp)) u v (k3 u (by simp)) (k4 v (by simp)) p1 q1, ih l r (by simpa using e1) (by simpa using e2) (fun z hz => k1 z (by simp [hz])) (fun z hz => k2 z (by simp [hz])) (fun z hz => k3 z (by simp [hz])) (fun z hz => k4 z (by simp [hz])) p2 q2]
      exact key _ _ _ (lc ha h1'.1) (lc hb h2'.1) hc.2 (ok_kids' ok) ha.2 hb.2 h1'.2 h2'.2
theorem matches_trans {x y z : List Nd} (h : Matches x y) (h' : Matches y z) (hv : ∀ (σ : Int → List Nd), (∀ N, Word (σ N)) → x.flatMap (subN σ) = y → ∀ N, IsVarOf x N → ∀ w ∈ σ N, vOk w) : Matches x z := by
  obtain ⟨σ, h1, h2⟩ := h
  obtain ⟨τ, h3, h4⟩ := h'
  open Classical in
  refine ⟨fun N => if IsVarOf x N then (σ N).flatMap (subN τ) else [varNd 0], fun N => ?_, ?_⟩
  · dsimp only
    split
    · rename_i hN
      exact word_sub h3 (hv σ h1 h2 N hN) (h1 N)
    · exact word_var 0
  · rw [← h4, ← h2, sub_sub]
    exact sub_congr_on fun N hN => by simp [hN]
end Go.Proofs.YtiigkiemkhdclaaGreatDoor

