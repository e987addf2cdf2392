import Derived.Test.YtcdgmjpgmiehcaaGqMs
/- The writer's loop by its steps: every task's goal is written. -/
namespace Go.Proofs.Ytcdgmjpgmiehcaa
open Go.RowKit Go.Shelf

section
variable {D wb : Nat} {f0 f : Int} {vs : List Int} {s r : List Nd} {S : List Task} {E : Task} {pb po : Nat} {lf lf' : Value} {V U : World}
/-- top at a body that has no bodies in it. -/
theorem leaf_top {n : Nat} {u : Tm (n + 1)} (h : Tin D wb f0 f vs s r S E pb po u lf V) (hp : PopS wb (f0 + vs.length) lf lf' S E V U) (h2 : formB u.tv ≠ 2) (h3 : formB u.tv ≠ 3) (h4 : formB u.tv ≠ 4) (hn : n ≤ 549755813888) (hlim : 3 * (n + 1) + D + 12 ≤ 2199023255552) :
    Calls Try.prog 37 #[.pointer (some ⟨wb, 0, none⟩), E.val] U fun e V' => ∃ y : TV, e = .returned y.val ∧ HoldsG anyP (3 * (n + 1) + D + 12) U.heap.size V' y.val (btwC u (renC (newR f0 (extV f0 vs r)) s) (renC (newR f0 (extV f0 vs r)) r) 0) ∧ Wen D wb wb E.pf E.pt f0 vs s r lf' U V' := by
  have hws := h.ws.pop hp
  have hwl := h.ws.wr.lt
  have hlow : ∀ k, k < wb → U.heap[k]? = V.heap[k]? := fun k hk => hp.gr.block k (by omega) (by omega)
  have hTU : IsT U.heap.size U u := (isT_low h.is hlow).mono (by have := hp.sz; omega)
  have hblk : ∀ k ∈ blks u, k < wb := fun k hk => h.is.blks_lt k hk
  have hwt := h.ws.w0t
  have her := h.er
  have hx := h.hx
  have ok := h.ok
  obtain ⟨x, kids⟩ := u
  simp only [Tm.tv] at h2 h3 h4 hx
  rw [berr_succ, if_neg (by omega), partE_succ] at her
  rw [btwC_succ, if_neg h2, if_neg h3, if_neg h4]
  by_cases f1 : formB x = 1
  · rw [if_pos f1]
    refine (top_unknown E (by rw [hx]; exact f1) (by omega) hws).mono fun e V' hq => ?_
    obtain ⟨y, e1, e2, e3⟩ := hq
    rw [hx] at e2
    exact ⟨y, e1, e2.mono (by omega) (Nat.le_refl _) (fun _ h => h), e3⟩
  · rw [if_neg f1]
    by_cases f0' : formB x = 0
    · rw [if_pos f0'] at her; omega
    · rw [if_neg f0'] at her
      by_cases f5 : formB x = 5
      · rw [if_pos f5]
        refine (top_words (n := n) ((x, kids) : TV × List (Tm n)) E hx hTU ok (by rw [hx]; exact f5) (by omega) hws).mono fun e V' hq => ?_
        obtain ⟨y, e1, e2, e3⟩ := hq
        exact ⟨y, e1, e2.mono (by omega) (Nat.le_refl _) (fun _ h => h), e3⟩
      · rw [if_neg f5] at her ⊢
        by_cases f6 : formB x = 6
        · rw [if_pos f6] at her ⊢
          have hb : kids.all (fun u => (bodyC u).isSome) = true := by
            by_cases hb : kids.all (fun u => (bodyC u).isSome) = true
            · exact hb
            · rw [if_neg hb] at her; omega
          refine (top_block (n := n) ((x, kids) : TV × List (Tm n)) E hx hTU ok (by rw [hx]; exact f6) hb hn (by omega) hws).mono fun e V' hq => ?_
          obtain ⟨y, e1, e2, e3⟩ := hq
          exact ⟨y, e1, e2.mono (by omega) (Nat.le_refl _) (fun _ h => h), e3⟩
        · rw [if_neg f6] at her ⊢
          by_cases f7 : formB x = 7
          · rw [if_pos f7]
            refine (top_cut E (by rw [hx]; exact f7) (by omega) hws).mono fun e V' hq => ?_
            obtain ⟨y, e1, e2, e3⟩ := hq
            exact ⟨y, e1, e2.mono (by omega) (Nat.le_refl _) (fun _ h => h), e3⟩
          · rw [if_neg f7]
            have hr9 : 0 ≤ formB x ∧ formB x ≤ 9 := by unfold formB; repeat' split <;> omega
            have hf : formB x = 8 ∨ formB x = 9 := by omega
            have hlen : x.len ≤ 48 := by
              rcases hf with h8 | h9
              · rw [if_pos h8] at her
                by_cases hl : 8 < x.len + 2
                · rw [if_pos hl] at her; omega
                · omega
              · rw [if_neg (by omega), if_pos h9] at her
                unfold extE at her
                split at her
                · omega
                · split at her
                  · omega
                  · omega
            refine (top_other (n := n) ((x, kids) : TV × List (Tm n)) E (fun k hk => by have := hblk k hk; omega) (fun k hk => by have := hblk k hk; omega) hx hTU ok (by rw [hx]; exact hf) hlen (by omega) hws).mono fun e V' hq => ?_
            obtain ⟨y, e1, e2, e3⟩ := hq
            exact ⟨y, e1, e2.mono (by omega) (Nat.le_refl _) (fun _ h => h), e3⟩
end
/-- A round of the loop: the last task is taken, its top written and stored. -/
def Steps (_D wb L : Nat) (R : Nat → Act → World → Prop) (GA : Act → Prop) : Prop :=
  ∀ (k : Nat) (S : List Task) (E : Task) (pb po : Nat) (V : World) (nx : Int) (lf : Value) (act : Act) (TP : TV → World → Prop), GA act → WrB V wb nx lf → StkK wb V lf (S ++ [E]) → E.pl = ⟨pb, po, none⟩ → S.length ≤ L → pb < V.heap.size →
    (∀ (U : World) (lf' : Value), PopS wb nx lf lf' S E V U → Calls Try.prog 37 #[.pointer (some ⟨wb, 0, none⟩), E.val] U fun e V' => ∃ y : TV, e = .returned y.val ∧ TkB V' V.heap.size E ∧ Spot V' pb po ∧ TP y V') →
    (∀ (y : TV) (V' : World) (act' : Act), GA act' → TP y V' → R k act' (set4 V' pb po y)) → R (k + 1) act V
def KeyP (D wb L : Nat) (f0 : Int) (R : Nat → Act → World → Prop) (GA : Act → Prop) {m : Nat} (u : Tm m) (cnt : Nat) : Prop :=
  ∀ (k : Nat) (S : List Task) (E : Task) (pb po : Nat) (V : World) (lf : Value) (vs : List Int) (s r : List Nd) (f : Int) (act : Act), GA act → Tin D wb f0 f vs s r S E pb po u lf V → S.length + 2 * m ≤ L →
    (∀ (lf' : Value) (V' : World) (act' : Act), GA act' → Tout (3 * m + D + 12) D wb f0 f vs s r S E pb po u lf' V V' → R k act' V') → R (cnt + k) act V
section
variable {D wb L : Nat} {f0 : Int} {R : Nat → Act → World → Prop} {GA : Act → Prop}
theorem key_leaf (hst : Steps D wb L R GA) {n : Nat} (u : Tm (n + 1)) (h2 : formB u.tv ≠ 2) (h3 : formB u.tv ≠ 3) (h4 : formB u.tv ≠ 4) (hn : n ≤ 549755813888) (hlim : 3 * (n + 1) + D + 12 ≤ 2199023255552) : KeyP D wb L f0 R GA u 1 := fun k S E pb po V lf vs s r f act hA hT hL hK => by
  rw [Nat.add_comm 1 k]
  refine hst k S E pb po V _ lf act (fun y V' => ∃ lf', Tout (3 * (n + 1) + D + 12) D wb f0 f vs s r S E pb po u lf' V (set4 V' pb po y)) hA hT.ws.wr hT.st hT.pl (by omega) hT.apart.2.2.2.1 (fun U lf' hp => ?_) (fun y V' act' hA' hTP => ?_)
  · refine (leaf_top hT hp h2 h3 h4 hn hlim).mono fun e V' hq => ?_
    obtain ⟨y, e1, e2, e3⟩ := hq
    obtain ⟨o1, o2, o3⟩ := leaf_out hT hp h2 h3 h4 e2 e3 (Nat.le_refl _)
    exact ⟨y, e1, o1, o2, lf', o3⟩
  · obtain ⟨lf', ht⟩ := hTP
    exact hK lf' _ act' hA' ht
theorem key_all (hst : Steps D wb L R GA) (hD1 : 1 ≤ D) (hL : L + 2 ≤ 1099511627776) : ∀ {m : Nat} (u : Tm m), m ≤ 549755813888 → 3 * m + D + 12 ≤ 2199023255552 → ∃ cnt, KeyP D wb L f0 R GA u cnt := by
  intro m
  induction m with
  | zero => intro u; exact Empty.elim u
  | succ n ih =>
    intro u hm hlim
    obtain ⟨x, kids⟩ := u
    by_cases f2 : formB x = 2
    · by_cases hk2 : ¬ ∃ a b, kids = [a, b]
      · exact ⟨0, fun k S E pb po V lf vs s r f act hA hT => absurd (two_kids hT.is.wl (form_two f2)) hk2⟩
      obtain ⟨a, b, rfl⟩ := Classical.not_not.1 hk2
      obtain ⟨ca, hca⟩ := ih a (by omega) (by omega)
      obtain ⟨cb, hcb⟩ := ih b (by omega) (by omega)
      refine ⟨ca + cb + 1, fun k S E pb po V lf vs s r f act hA hT hSL hK => ?_⟩
      obtain ⟨a1, a2, a3, a4, a5, a6, a7, a8⟩ := hT.apart
      have hkid := kid_in hT (.inl f2)
      have ec : cntT (n := n + 1) ((x, [a, b]) : TV × List (Tm n)) = 1 + (cntT a + cntT b) := by rw [cntT_succ, if_pos (.inl f2)]; simp
      have hcode : btwC (n := n + 1) ((x, [a, b]) : TV × List (Tm n)) s r f = (4, 0, x.s.toList, 2) :: (btwC a s [varNd f] (f + 1) ++ btwC b [varNd f] r (f + 1 + cntT a)) := by rw [btwC_succ, if_neg (by omega), if_pos f2]
      have hfc := hT.fc
      rw [ec] at hfc
      have hcs : Come f0 vs s := by obtain ⟨x, _, _, _, hc⟩ := hT.ws.kf; exact hc
      have hff := hT.ff
      have hpw := hT.pw
      have hx := hT.hx
      simp only [Tm.tv] at hx
      have hfv : f ∉ vs := fun hm => by have := hT.vi f hm; omega
      rw [show ca + cb + 1 + k = ca + (cb + k) + 1 by omega]
      refine hst (ca + (cb + k)) S E pb po V _ lf act (fun y V' => ∃ R' q, y = compV x.s (some ⟨R', 0, none⟩) 2 2 ∧ V.heap.size ≤ R' ∧ V.heap.size ≤ q ∧ Row4 (set4 V' pb po y) R' 2 ∧ PtB (set4 V' pb po y) q noTerm false ∧ Mid D wb f0 vs s r E pb po y (S ++ [⟨b.tv, q, E.pt, ⟨R', 4, none⟩⟩] ++ [⟨a.tv, E.pf, q, ⟨R', 0, none⟩⟩]) V (set4 V' pb po y)) hA hT.ws.wr hT.st hT.pl (by omega) hT.apart.2.2.2.1 (fun U lf' hp => ?_) (fun y V' act' hA' hTP => ?_)
      · have hsz := hp.sz
        have hlow : ∀ k, k < wb → U.heap[k]? = V.heap[k]? := fun k hk => hp.gr.block k (by omega) (by omega)
        rcases hT.is.2.2.2 with h4 | ⟨Bk, off, hxa, hBk, hcs'⟩
        · cases h4
        have hca0 := (hcs' 0 a rfl).1
        have hcb0 := (hcs' 1 b rfl).1
        rw [Nat.zero_mul, Nat.add_zero] at hca0
        rw [Nat.one_mul] at hcb0
        refine (top_seq (B := wb) E (by rw [hx]; exact f2) hp.wr hp.st (by omega) (by omega) (Nat.le_refl _) hBk (by rw [hx]; exact hxa) (by rw [hx]; exact form_two f2) (hca0.kept (hlow Bk hBk)) (hcb0.kept (hlow Bk hBk))).mono fun e V' hq => ?_
        obtain ⟨R', q, e1, e2, e3, e4⟩ := hq
        obtain ⟨o1, o2, o3⟩ := mid_of hT hp e4.gr e4.fr e4.st (compV E.x.s (some ⟨R', 0, none⟩) 2 2)
        have hR' := e4.hR
        have ot := fun k (hk : k ≠ pb) => set4_other V' pb po (compV E.x.s (some ⟨R', 0, none⟩) 2 2) hk
        refine ⟨_, e1, o1, o2, R', q, by rw [hx], by omega, by omega, e4.rR.kept (ot _ (by omega)), e3.kept (ot _ (by omega)), o3⟩
      · obtain ⟨R', q, rfl, hR', hq', hrow, hpq, hM⟩ := hTP
        have z1 := hM.fr.fr.size
        have hRl := hrow.lt
        have hql := hpq.lt
        have hqR : q ≠ R' := by obtain ⟨arr, ha, _⟩ := hrow; exact hpq.ne_term ha
        have hlow1 := hM.fr.low a1 (Nat.le_refl _) hpw
        obtain ⟨lf1, tin1⟩ := tin_child (D := D) (f' := f + 1) (r' := [varNd f]) (S' := S ++ [⟨b.tv, q, E.pt, ⟨R', 4, none⟩⟩]) (hkid a (by simp)) hlow1 hM.kf (.inr ⟨f, rfl, hff, hfv, hpq⟩) hM.st hrow (by omega) (by omega) (by omega) hT.ws.w0f (by omega) hD1 hT.ws.f00 hT.nd (fun N hN => by have := hT.vi N hN; omega) (fun N h1 h2 => by have := hT.vf N h1 h2; omega) (fun N h1 h2 => by have := (var_one f N).1 h1; omega) (by omega) (by omega)
        refine hca (cb + k) _ _ R' 0 _ lf1 vs s [varNd f] (f + 1) act' hA' tin1 (by simp only [List.length_append, List.length_cons, List.length_nil]; omega) (fun lf2 V2 act2 hA2 t2 => ?_)
        have z2 := t2.fr.fr.size
        have fr2 : FrT wb q R' 0 _ V2 := t2.fr
        have hvi1 := ext_in (f := f + 1) (hkid a (by simp)).1.wl (hkid a (by simp)).2.1 (hkid a (by simp)).2.2.2 (fun N h1 h2 => by have := hT.vf N h1 h2; omega) (fun N h1 h2 => by have := (var_one f N).1 h1; omega) (fun N hN => by have := hT.vi N hN; omega) (s := s) (r := [varNd f]) (vs := vs)
        have hlow2 : ∀ k, k < wb → V2.heap[k]? = V.heap[k]? := fun k hk => (fr2.low (by omega) (by omega) (by omega) k hk).trans (hlow1 k hk)
        have kt2 := pt_behind (D := D) (a := a) (ra := [varNd f]) (fa := f + 1) (s := s) hM.kt fr2 (by omega) (by omega) (by omega) (by omega) (by omega) (by omega) (hkid a (by simp)).1.wl (hkid a (by simp)).2.1 (hkid a (by simp)).2.2.2 hcs (fun v hv hc => by
          have h1 := (var_one f v).1 hc
          rcases hM.kt with hk | ⟨v', e1, e2, e3, _⟩
          · have hlt : v < f := by
              by_cases h0 : f0 ≤ v
              · exact hT.vr v (by rw [hv]; exact (var_one v v).2 rfl) h0
              · omega
            omega
          · have := hT.vr v (by rw [hv]; exact (var_one v v).2 rfl) (by omega)
            omega) (fun N h1 h2 => by have := hT.vr N h1 h2; omega)
        obtain ⟨lf3, tin2⟩ := tin_child (D := D) (f' := f + 1 + cntT a) (s' := [varNd f]) (r' := r) (S' := S) (hkid b (by simp)) hlow2 t2.kt kt2 ⟨lf2, t2.wr, t2.st⟩ (fr2.row hrow) (o := 4) (by omega) (by omega) (by show q ≠ E.pt; omega) (by show wb ≤ q; omega) hT.ws.w0t hD1 hT.ws.f00 (extV_nodup f0 _ vs hT.nd) hvi1 (fun N h1 h2 => by have := (var_one f N).1 h1; omega) (fun N h1 h2 => by have := hT.vr N h1 h2; omega) (by omega) (by omega)
        refine hcb k S _ R' 4 V2 lf3 _ [varNd f] r (f + 1 + cntT a) act2 hA2 tin2 (by omega) (fun lf4 V3 act3 hA3 t3 => ?_)
        exact hK lf4 V3 act3 hA3 (two_out (Ga := 3 * n + D + 12) hM hT.ne hcode (hT.is.2.2.1) a1 hT.ws.w0t hpw a4 a3 a2 (fun e => a5 e.symm) (fun e => a6 e.symm) a7 a8 hR' hrow (.inr hq') hql hqR (by omega) t2 t3 (by omega))
    · by_cases f3 : formB x = 3
      · by_cases hk2 : ¬ ∃ a b, kids = [a, b]
        · exact ⟨0, fun k S E pb po V lf vs s r f act hA hT => absurd (two_kids hT.is.wl (form_three f3)) hk2⟩
        obtain ⟨a, b, rfl⟩ := Classical.not_not.1 hk2
        obtain ⟨ca, hca⟩ := ih a (by omega) (by omega)
        obtain ⟨cb, hcb⟩ := ih b (by omega) (by omega)
        refine ⟨ca + cb + 1, fun k S E pb po V lf vs s r f act hA hT hSL hK => ?_⟩
        obtain ⟨a1, a2, a3, a4, a5, a6, a7, a8⟩ := hT.apart
        have hkid := kid_in hT (.inr (.inl f3))
        have ec : cntT (n := n + 1) ((x, [a, b]) : TV × List (Tm n)) = cntT a + cntT b := by rw [cntT_succ, if_neg (by omega), if_pos f3]; simp
        have hcode : btwC (n := n + 1) ((x, [a, b]) : TV × List (Tm n)) s r f = (4, 0, x.s.toList, 2) :: (btwC a s r f ++ btwC b s r (f + cntT a)) := by rw [btwC_succ, if_neg (by omega), if_neg f2, if_pos f3]
        have hfc := hT.fc
        rw [ec] at hfc
        have hff := hT.ff
        have hpw := hT.pw
        have hx := hT.hx
        simp only [Tm.tv] at hx
        rw [show ca + cb + 1 + k = ca + (cb + k) + 1 by omega]
        refine hst (ca + (cb + k)) S E pb po V _ lf act (fun y V' => ∃ R', y = compV x.s (some ⟨R', 0, none⟩) 2 2 ∧ V.heap.size ≤ R' ∧ Row4 (set4 V' pb po y) R' 2 ∧ Mid D wb f0 vs s r E pb po y (S ++ [⟨b.tv, E.pf, E.pt, ⟨R', 4, none⟩⟩] ++ [⟨a.tv, E.pf, E.pt, ⟨R', 0, none⟩⟩]) V (set4 V' pb po y)) hA hT.ws.wr hT.st hT.pl (by omega) hT.apart.2.2.2.1 (fun U lf' hp => ?_) (fun y V' act' hA' hTP => ?_)
        · have hsz := hp.sz
          have hlow : ∀ k, k < wb → U.heap[k]? = V.heap[k]? := fun k hk => hp.gr.block k (by omega) (by omega)
          rcases hT.is.2.2.2 with h4 | ⟨Bk, off, hxa, hBk, hcs'⟩
          · cases h4
          have hca0 := (hcs' 0 a rfl).1
          have hcb0 := (hcs' 1 b rfl).1
          rw [Nat.zero_mul, Nat.add_zero] at hca0
          rw [Nat.one_mul] at hcb0
          refine (top_choice (B := wb) E (by rw [hx]; exact f3) hp.wr hp.st (by omega) (by omega) (Nat.le_refl _) hBk (by rw [hx]; exact hxa) (by rw [hx]; exact form_three f3) (hca0.kept (hlow Bk hBk)) (hcb0.kept (hlow Bk hBk))).mono fun e V' hq => ?_
          obtain ⟨R', e1, e4⟩ := hq
          obtain ⟨o1, o2, o3⟩ := mid_of hT hp e4.gr e4.fr e4.st (compV E.x.s (some ⟨R', 0, none⟩) 2 2)
          have hR' := e4.hR
          have ot := fun k (hk : k ≠ pb) => set4_other V' pb po (compV E.x.s (some ⟨R', 0, none⟩) 2 2) hk
          exact ⟨_, e1, o1, o2, R', by rw [hx], by omega, e4.rR.kept (ot _ (by omega)), o3⟩
        · obtain ⟨R', rfl, hR', hrow, hM⟩ := hTP
          have z1 := hM.fr.fr.size
          have hRl := hrow.lt
          have hlow1 := hM.fr.low a1 (Nat.le_refl _) hpw
          obtain ⟨lf1, tin1⟩ := tin_child (D := D) (f' := f) (r' := r) (S' := S ++ [⟨b.tv, E.pf, E.pt, ⟨R', 4, none⟩⟩]) (hkid a (by simp)) hlow1 hM.kf hM.kt hM.st hrow (by omega) (by omega) hT.ne hT.ws.w0f hT.ws.w0t hD1 hT.ws.f00 hT.nd hT.vi hT.vf hT.vr hff (by omega)
          refine hca (cb + k) _ _ R' 0 _ lf1 vs s r f act' hA' tin1 (by simp only [List.length_append, List.length_cons, List.length_nil]; omega) (fun lf2 V2 act2 hA2 t2 => ?_)
          have z2 := t2.fr.fr.size
          have fr2 : FrT wb E.pt R' 0 _ V2 := t2.fr
          have hwt := hT.ws.w0t
          have hvi1 := ext_in (f := f) (hkid a (by simp)).1.wl (hkid a (by simp)).2.1 (hkid a (by simp)).2.2.2 hT.vf hT.vr hT.vi (s := s) (r := r) (vs := vs)
          have hlow2 : ∀ k, k < wb → V2.heap[k]? = V.heap[k]? := fun k hk => (fr2.low (by omega) hwt (by omega) k hk).trans (hlow1 k hk)
          obtain ⟨lf3, tin2⟩ := tin_child (D := D) (f' := f + cntT a) (s' := s) (r' := r) (S' := S) (hkid b (by simp)) hlow2 t2.kf (.inl t2.kt) ⟨lf2, t2.wr, t2.st⟩ (fr2.row hrow) (o := 4) (by omega) (by omega) hT.ne hT.ws.w0f hT.ws.w0t hD1 hT.ws.f00 (extV_nodup f0 _ vs hT.nd) hvi1 (fun N h1 h2 => by have := hT.vf N h1 h2; omega) (fun N h1 h2 => by have := hT.vr N h1 h2; omega) (by omega) (by omega)
          refine hcb k S _ R' 4 V2 lf3 _ s r (f + cntT a) act2 hA2 tin2 (by omega) (fun lf4 V3 act3 hA3 t3 => ?_)
          exact hK lf4 V3 act3 hA3 (two_out (Ga := 3 * n + D + 12) hM hT.ne hcode (hT.is.2.2.1) a1 hT.ws.w0t hpw a4 a3 a2 (fun e => a5 e.symm) (fun e => a6 e.symm) a7 a8 hR' hrow (.inl rfl) (by omega) (by omega) hwt t2 t3 (by omega))
      · by_cases f4 : formB x = 4
        · by_cases hk1 : ¬ ∃ a, kids = [a]
          · exact ⟨0, fun k S E pb po V lf vs s r f act hA hT => absurd (one_kid hT.is.wl (form_four f4)) hk1⟩
          obtain ⟨a, rfl⟩ := Classical.not_not.1 hk1
          obtain ⟨ca, hca⟩ := ih a (by omega) (by omega)
          have hcb := key_leaf (f0 := f0) hst nilB (by rw [nilB_form]; decide) (by rw [nilB_form]; decide) (by rw [nilB_form]; decide) (by omega) (by omega)
          refine ⟨ca + 1 + 1, fun k S E pb po V lf vs s r f act hA hT hSL hK => ?_⟩
          obtain ⟨a1, a2, a3, a4, a5, a6, a7, a8⟩ := hT.apart
          have hkid := kid_in hT (.inr (.inr f4))
          have ec : cntT (n := n + 1) ((x, [a]) : TV × List (Tm n)) = 1 + cntT a := by rw [cntT_succ, if_pos (.inr f4)]; simp
          have hcode : btwC (n := n + 1) ((x, [a]) : TV × List (Tm n)) s r f = (4, 0, [44], 2) :: ((4, 0, x.s.toList, 1) :: (btwC a s [varNd f] (f + 1) ++ eqC s r)) := by rw [btwC_succ, if_neg (by omega), if_neg f2, if_neg f3, if_pos f4]
          have hn0 : 1 ≤ n := by
            cases n with
            | zero => exact Empty.elim a
            | succ n => omega
          have hfc := hT.fc
          rw [ec] at hfc
          have hcs : Come f0 vs s := by obtain ⟨x, _, _, _, hc⟩ := hT.ws.kf; exact hc
          have hff := hT.ff
          have hpw := hT.pw
          have hx := hT.hx
          simp only [Tm.tv] at hx
          have hfv : f ∉ vs := fun hm => by have := hT.vi f hm; omega
          rw [show ca + 1 + 1 + k = ca + (1 + k) + 1 by omega]
          refine hst (ca + (1 + k)) S E pb po V _ lf act (fun y V' => ∃ I A q, y = compV ⟨#[44]⟩ (some ⟨A, 0, none⟩) 2 2 ∧ V.heap.size ≤ I ∧ V.heap.size ≤ A ∧ V.heap.size ≤ q ∧ I ≠ A ∧ Row4 (set4 V' pb po y) I 1 ∧ Row4 (set4 V' pb po y) A 2 ∧ cellsAt (set4 V' pb po y) A 0 (compV x.s (some ⟨I, 0, none⟩) 1 1) ∧ PtB (set4 V' pb po y) q noTerm false ∧ Mid D wb f0 vs s r E pb po y (S ++ [⟨nilT, E.pf, E.pt, ⟨A, 4, none⟩⟩] ++ [⟨a.tv, E.pf, q, ⟨I, 0, none⟩⟩]) V (set4 V' pb po y)) hA hT.ws.wr hT.st hT.pl (by omega) hT.apart.2.2.2.1 (fun U lf' hp => ?_) (fun y V' act' hA' hTP => ?_)
          · have hsz := hp.sz
            have hlow : ∀ k, k < wb → U.heap[k]? = V.heap[k]? := fun k hk => hp.gr.block k (by omega) (by omega)
            rcases hT.is.2.2.2 with h4 | ⟨Bk, off, hxa, hBk, hcs'⟩
            · cases h4
            have hca0 := (hcs' 0 a rfl).1
            rw [Nat.zero_mul, Nat.add_zero] at hca0
            refine (top_not (B := wb) E (by rw [hx]; exact f4) hp.wr hp.st (by omega) (by omega) (Nat.le_refl _) hBk (by rw [hx]; exact hxa) (by rw [hx]; exact form_four f4) (hca0.kept (hlow Bk hBk))).mono fun e V' hq => ?_
            obtain ⟨I, A, q, e1, e4⟩ := hq
            obtain ⟨o1, o2, o3⟩ := mid_of hT hp e4.gr e4.fr e4.st (compV ⟨#[44]⟩ (some ⟨A, 0, none⟩) 2 2)
            have hI := e4.hI
            have hA := e4.hA
            have hq := e4.hq
            have ot := fun k (hk : k ≠ pb) => set4_other V' pb po (compV ⟨#[44]⟩ (some ⟨A, 0, none⟩) 2 2) hk
            refine ⟨_, e1, o1, o2, I, A, q, rfl, by omega, by omega, by omega, e4.ne, e4.rI.kept (ot _ (by omega)), e4.rA.kept (ot _ (by omega)), ?_, e4.pq.kept (ot _ (by omega)), o3⟩
            have := e4.cA.kept (ot A (by omega))
            rw [hx] at this
            exact this
          · obtain ⟨I, A, q, rfl, hI, hA2, hq', hIA, rI, rA, cA, hpq, hM⟩ := hTP
            have z1 := hM.fr.fr.size
            have hIl := rI.lt
            have hAl := rA.lt
            have hql := hpq.lt
            have hqI : q ≠ I := by obtain ⟨arr, ha, _⟩ := rI; exact hpq.ne_term ha
            have hqA : q ≠ A := by obtain ⟨arr, ha, _⟩ := rA; exact hpq.ne_term ha
            have hqp : q ≠ pb := by omega
            have hlow1 := hM.fr.low a1 (Nat.le_refl _) hpw
            obtain ⟨lf1, tin1⟩ := tin_child (D := D) (f' := f + 1) (r' := [varNd f]) (S' := S ++ [⟨nilT, E.pf, E.pt, ⟨A, 4, none⟩⟩]) (hkid a (by simp)) hlow1 hM.kf (.inr ⟨f, rfl, hff, hfv, hpq⟩) hM.st rI (by omega) (by omega) (by omega) hT.ws.w0f (by omega) hD1 hT.ws.f00 hT.nd (fun N hN => by have := hT.vi N hN; omega) (fun N h1 h2 => by have := hT.vf N h1 h2; omega) (fun N h1 h2 => by have := (var_one f N).1 h1; omega) (by omega) (by omega)
            refine hca (1 + k) _ _ I 0 _ lf1 vs s [varNd f] (f + 1) act' hA' tin1 (by simp only [List.length_append, List.length_cons, List.length_nil]; omega) (fun lf2 V2 act2 hA2' t2 => ?_)
            have z2 := t2.fr.fr.size
            have fr2 : FrT wb q I 0 _ V2 := t2.fr
            have hvi1 := ext_in (f := f + 1) (hkid a (by simp)).1.wl (hkid a (by simp)).2.1 (hkid a (by simp)).2.2.2 (fun N h1 h2 => by have := hT.vf N h1 h2; omega) (fun N h1 h2 => by have := (var_one f N).1 h1; omega) (fun N hN => by have := hT.vi N hN; omega) (s := s) (r := [varNd f]) (vs := vs)
            have kt2 := pt_behind (D := D) (a := a) (ra := [varNd f]) (fa := f + 1) (s := s) hM.kt fr2 (by omega) (by omega) (by omega) (by omega) (by omega) (by omega) (hkid a (by simp)).1.wl (hkid a (by simp)).2.1 (hkid a (by simp)).2.2.2 hcs (fun v hv hc => by
              have h1 := (var_one f v).1 hc
              have hlt : v < f := by
                by_cases h0 : f0 ≤ v
                · exact hT.vr v (by rw [hv]; exact (var_one v v).2 rfl) h0
                · omega
              omega) (fun N h1 h2 => by have := hT.vr N h1 h2; omega)
            obtain ⟨arA, aA, hAs⟩ := rA
            have aA2 := fr2.terms aA (by omega) (fun e => hqA e.symm) (fun e => hIA e.symm)
            obtain ⟨lf3, tin2⟩ := tin_child (D := D) (f' := f + 1 + cntT a) (s' := s) (r' := r) (S' := S) (V := V2) (nilB_facts V2 wb) (fun _ _ => rfl) t2.kf kt2 ⟨lf2, t2.wr, t2.st⟩ ⟨arA, aA2.trans aA, hAs⟩ (o := 4) (by omega) (by omega) hT.ne hT.ws.w0f hT.ws.w0t hD1 hT.ws.f00 (extV_nodup f0 _ vs hT.nd) hvi1 (fun N h1 h2 => by have := hT.vf N h1 h2; omega) (fun N h1 h2 => by have := hT.vr N h1 h2; omega) (by omega) (by rw [nilB_cnt]; omega)
            refine hcb k S _ A 4 V2 lf3 _ s r (f + 1 + cntT a) act2 hA2' tin2 (by omega) (fun lf4 V3 act3 hA3 t3 => ?_)
            have t3' : Tout (3 * n + D + 12) D wb f0 (f + 1 + cntT a) (extV f0 vs (btwC a s [varNd f] (f + 1))) s r S ⟨nilT, E.pf, E.pt, ⟨A, 4, none⟩⟩ A 4 nilB lf4 V2 V3 := by
              obtain ⟨⟨y, y1, y2⟩, k1, k2, k3, k4, k5⟩ := t3
              exact ⟨⟨y, y1, y2.mono (by omega) (Nat.le_refl _) (fun _ h => h)⟩, k1, k2, k3, k4, k5⟩
            exact hK lf4 V3 act3 hA3 (not_out (Ga := 3 * n + D + 12) hM hT.ne hcode (hT.is.2.2.1) a1 hT.ws.w0t hpw a4 a3 a2 (fun e => a5 e.symm) a8 hI hA2 hIA rI ⟨arA, aA, hAs⟩ cA hq' hql hqI hqA hqp t2 t3' (by omega))
        · exact ⟨1, key_leaf hst _ f2 f3 f4 (by omega) hlim⟩
end
end Go.Proofs.Ytcdgmjpgmiehcaa

