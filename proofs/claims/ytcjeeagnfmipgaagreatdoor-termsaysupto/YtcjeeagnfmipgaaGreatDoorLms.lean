import Derived.Test.YtcjeeagnfmipgaaGreatDoorGss
import Derived.Test.YtcjeeagnfmipgaaGreatDoorVms
import Derived.Test.YtcjeeagnfmipgaaGreatDoorXs
import Derived.Test.YtcjeeagnfmipgaaGreatDoorAns
import Derived.Test.YtcjeeagnfmipgaaGreatDoorMps
/- What General answers: it matches both; what matches both matches it; the two sides may be changed. -/
namespace Go.Proofs.YtcjeeagnfmipgaaGreatDoor
open Go.RowKit Go.Shelf Go.Maps

theorem prs_word : ∀ {n : Nat} (a b : Tm n), Wl a → Wl b → ∀ p ∈ prs a b, WordP p
  | 0, a, _, _, _, _, _ => Empty.elim a
  | n + 1, a, b, ha, hb, p, hp => by
    cases hap : apart a.tv b.tv with
    | true =>
      rw [prs_apart hap] at hp
      simp at hp; subst hp
      exact ⟨word_code a ha, word_code b hb⟩
    | false =>
      rw [prs_like hap] at hp
      have key : ∀ (l r : List (Tm n)), (∀ u ∈ l, Wl u) → (∀ u ∈ r, Wl u) → ∀ p ∈ zf prs l r, WordP p := by
        intro l
        induction l with
        | nil => intro r _ _ p hp; cases r <;> simp [zf] at hp
        | cons u l ih =>
          intro r h1 h2 p hp
          cases r with
          | nil => simp [zf] at hp
          | cons v r =>
            simp only [zf] at hp
            rcases List.mem_append.1 hp with hp | hp
            · exact prs_word u v (h1 u (by simp)) (h2 v (by simp)) p hp
            · exact ih r (fun z hz => h1 z (by simp [hz])) (fun z hz => h2 z (by simp [hz])) p hp
      exact key _ _ ha.2 hb.2 p hp
theorem stepsP_sub : ∀ (l ps : List Pr), ∀ p ∈ stepsP ps l, p ∈ ps ∨ p ∈ l
  | [], ps, p, hp => .inl hp
  | q :: l, ps, p, hp => by
    have e : stepsP ps (q :: l) = stepsP (stpP ps q) l := rfl
    rw [e] at hp
    rcases stepsP_sub l _ p hp with h | h
    · unfold stpP at h
      split at h
      · exact .inl h
      · rcases List.mem_append.1 h with h | h
        · exact .inl h
        · simp at h; subst h; exact .inr (by simp)
    · exact .inr (by simp [h])
/-- The pair that a variable stands for. -/
def pairOf (P : List Pr) (N : Int) : Pr := P[N.toNat]?.getD ([varNd 0], [varNd 0])
theorem pairOf_ι {P : List Pr} {p : Pr} (h : p ∈ P) : pairOf P (ιP P p) = p := by
  have hlt := List.idxOf_lt_length_of_mem h
  unfold pairOf ιP
  have e : ((P.idxOf p : Nat) : Int).toNat = P.idxOf p := by omega
  rw [e, List.getElem?_eq_getElem hlt, List.getElem_idxOf hlt]
  rfl
theorem pairOf_word {P : List Pr} (h : ∀ p ∈ P, WordP p) (N : Int) : WordP (pairOf P N) := by
  unfold pairOf
  cases hg : P[N.toNat]? with
  | none => exact ⟨word_var 0, word_var 0⟩
  | some p => exact h p (List.mem_of_getElem? hg)
theorem lgg_words {n : Nat} {a b : Tm n} (ha : Wl a) (hb : Wl b) : ∀ p ∈ stepsP [] (prs a b), WordP p := fun p hp => by
  rcases stepsP_sub _ _ p hp with h | h
  · cases h
  · exact prs_word a b ha hb p h
theorem lgg_left {n : Nat} (a b : Tm n) (ha : Wl a) (hb : Wl b) : Matches (lgg a b) (code a) :=
  ⟨fun N => (pairOf (stepsP [] (prs a b)) N).1, fun N => (pairOf_word (lgg_words ha hb) N).1, Gc_left a b ha hb fun p hp => by rw [pairOf_ι (stepsP_mem _ _ p hp)]⟩
theorem lgg_right {n : Nat} (a b : Tm n) (ha : Wl a) (hb : Wl b) : Matches (lgg a b) (code b) :=
  ⟨fun N => (pairOf (stepsP [] (prs a b)) N).2, fun N => (pairOf_word (lgg_words ha hb) N).2, Gc_right a b ha hb fun p hp => by rw [pairOf_ι (stepsP_mem _ _ p hp)]⟩
theorem lgg_least {m n : Nat} (c : Tm m) (a b : Tm n) (hc : Wl c) (ok : okT c = true) (ha : Wl a) (hb : Wl b) (h1 : Matches (code c) (code a)) (h2 : Matches (code c) (code b)) : Matches (code c) (lgg a b) := by
  obtain ⟨θ, t1, t2⟩ := h1
  obtain ⟨τ, s1, s2⟩ := h2
  exact ⟨_, fun N => both_word _ _ _, Gc_least t1 s1 c hc ok a b ha hb t2 s2⟩
theorem swap_inj {p q : Pr} (h : swapP p = swapP q) : p = q := by
  have h1 := congrArg Prod.fst h
  have h2 := congrArg Prod.snd h
  exact Prod.ext h2 h1
theorem idxOf_swap : ∀ (P : List Pr) (p : Pr), (P.map swapP).idxOf (swapP p) = P.idxOf p
  | [], _ => rfl
  | q :: P, p => by
    rw [List.map_cons, List.idxOf_cons, List.idxOf_cons]
    by_cases e : q = p
    · subst e; simp
    · have e' : ¬ swapP q = swapP p := fun h => e (swap_inj h)
      simp only [beq_eq_false_iff_ne.2 e, beq_eq_false_iff_ne.2 e', cond_false]
      rw [idxOf_swap P p]
theorem stepsP_swap : ∀ (l ps : List Pr), stepsP (ps.map swapP) (l.map swapP) = (stepsP ps l).map swapP
  | [], _ => rfl
  | q :: l, ps => by
    have e1 : stepsP (ps.map swapP) ((q :: l).map swapP) = stepsP (stpP (ps.map swapP) (swapP q)) (l.map swapP) := rfl
    have e2 : stepsP ps (q :: l) = stepsP (stpP ps q) l := rfl
    rw [e1, e2, ← stepsP_swap l]
    congr 1
    unfold stpP
    by_cases h : q ∈ ps
    · rw [if_pos h, if_pos (List.mem_map.2 ⟨q, h, rfl⟩)]
    · rw [if_neg h, if_neg]
      · simp
      · intro h'
        obtain ⟨r, hr, e⟩ := List.mem_map.1 h'
        exact h (swap_inj e ▸ hr)
theorem lgg_swap {n : Nat} (a b : Tm n) (ha : Wl a) (hb : Wl b) : lgg b a = lgg a b := by
  unfold lgg
  refine Gc_swap a b ha hb fun p _ => ?_
  have h := stepsP_swap (prs a b) []
  rw [List.map_nil] at h
  rw [prs_swap a b ha hb, h]
  unfold ιP
  rw [idxOf_swap]
theorem Gc_ok {ι : Pr → Int} : ∀ {n : Nat} (a b : Tm n), okT a = true → (∀ p ∈ prs a b, 0 ≤ ι p ∧ ι p ≤ 1099511627776) → okC (Gc ι a b) ∧ (Gc ι a b).length ≤ (code a).length
  | 0, a, _, _, _ => Empty.elim a
  | n + 1, a, b, ok, h => by
    rw [code_kids, List.length_cons]
    cases hap : apart a.tv b.tv with
    | true =>
      rw [prs_apart hap] at h
      rw [Gc_apart hap]
      obtain ⟨h0, h1⟩ := h _ (List.mem_singleton.2 rfl)
      exact ⟨by simp [okC, okNd, varNd, h0, h1], by simp⟩
    | false =>
      rw [prs_like hap] at h
      rw [Gc_like hap]
      have h2 : okNd a.tv.nd = true := by
        rw [okT_code, code_kids] at ok
        simp only [List.all_cons, Bool.and_eq_true] at ok
        exact ok.1
      have key : ∀ (l r : List (Tm n)), (∀ u ∈ l, okT u = true) → (∀ p ∈ zf prs l r, 0 ≤ ι p ∧ ι p ≤ 1099511627776) → okC (zf (Gc ι) l r) ∧ (zf (Gc ι) l r).length ≤ (l.flatMap code).length := by
        intro l
        induction l with
        | nil => intro r _ _; cases r <;> exact ⟨rfl, by simp [zf]⟩
        | cons u l ih =>
          intro r k1 k2
          cases r with
          | nil => exact ⟨rfl, by simp [zf]⟩
          | cons v r =>
            simp only [zf] at k2 ⊢
            obtain ⟨p1, p2⟩ := Gc_ok u v (k1 u (by simp)) (fun p hp => k2 p (List.mem_append_left _ hp))
            obtain ⟨q1, q2⟩ := ih r (fun z hz => k1 z (by simp [hz])) (fun p hp => k2 p (List.mem_append_right _ hp))
            refine ⟨?_, by rw [List.length_append, List.flatMap_cons, List.length_append]; omega⟩
            unfold okC at *
            rw [List.all_append, p1, q1]; rfl
      obtain ⟨r1, r2⟩ := key a.kids b.kids (ok_kids' ok) h
      refine ⟨?_, by rw [List.length_cons]; omega⟩
      unfold okC at *
      rw [List.all_cons, h2, r1]; rfl
theorem lgg_ok {n : Nat} (a b : Tm n) (ok : okT a = true) (hl : (code a).length ≤ 1000000000) : okC (lgg a b) ∧ (lgg a b).length ≤ (code a).length := by
  refine Gc_ok a b ok fun p hp => ?_
  have hm := stepsP_mem (prs a b) [] p hp
  have hlt := List.idxOf_lt_length_of_mem hm
  obtain ⟨d, hd, hdl⟩ := stepsP_ext (prs a b) []
  have h1 := prs_len a b
  have h2 : (stepsP [] (prs a b)).length ≤ (prs a b).length := by rw [hd]; simpa using hdl
  unfold ιP
  omega
/-- What matches a term that matches another matches that. -/
theorem matches_on {x y z : List Nd} (hy : okC y) (h : Matches x y) (h' : Matches y z) : Matches x z :=
  matches_trans h h' fun σ h1 h2 N ⟨w, hw, hk, e⟩ v hv => by
    refine okC_vok hy v ?_
    rw [← h2]
    refine List.mem_flatMap.2 ⟨w, hw, ?_⟩
    unfold subN
    rw [if_pos hk, e]
    exact hv
end Go.Proofs.YtcjeeagnfmipgaaGreatDoor

/- What is read of a term's numbers: they are of 64 bits. A term that is formed has parts of a kind that can be written. -/
namespace Go.Proofs.YtcjeeagnfmipgaaGreatDoor
open Go.RowKit Go.Joins Go.WideShapes

theorem okNd_le {k N : Int} {s : List UInt8} {len : Nat} (h : okNd (k, N, s, len) = true) : (1 ≤ k ∧ k ≤ 4) ∧ s.length ≤ 100 ∧ len ≤ 50 := by
  simp only [okNd] at h
  by_cases h1 : k = 1
  · rw [if_pos h1] at h
    simp at h
    obtain ⟨⟨_, h2⟩, h3⟩ := h
    subst h2
    simp
    omega
  · rw [if_neg h1] at h
    by_cases h2 : k = 2
    · rw [if_pos h2] at h
      simp at h
      obtain ⟨h2, h3⟩ := h
      subst h2
      simp
      omega
    · rw [if_neg h2] at h
      by_cases h3 : k = 3
      · rw [if_pos h3] at h
        simp at h
        omega
      · rw [if_neg h3] at h
        by_cases h4 : k = 4
        · rw [if_pos h4] at h
          simp at h
          omega
        · rw [if_neg h4] at h
          cases h
theorem pw_of {n : Nat} {t : Tm n} (ok : okT t = true) (h : ∀ x ∈ parts t, Nw x) : ∀ x ∈ parts t, Pw x := fun x hx => by
  rw [okT_code] at ok
  have h1 : x.nd ∈ code t := List.mem_map.2 ⟨x, hx, rfl⟩
  have h2 := List.all_eq_true.1 ok _ h1
  obtain ⟨h4, h5, h6⟩ := okNd_le (show okNd (x.k, x.N, x.s.toList, x.len) = true from h2)
  rw [bytes_len] at h5
  exact ⟨⟨by omega, by omega⟩, h x hx, h5, h6⟩
end Go.Proofs.YtcjeeagnfmipgaaGreatDoor

/- The contract of hornref.Flat: a new row with the cells of all parts of a term, in their order. -/
namespace Go.Proofs.YtcjeeagnfmipgaaGreatDoor
open Go.RowKit Go.Shelf

theorem parts_pos : ∀ {n : Nat} (t : Tm n), 1 ≤ (parts t).length
  | 0, t => Empty.elim t
  | _ + 1, t => by simp [parts]
theorem row_all {l : List TV} : ∀ u ∈ l.flatMap TV.row, u.oneCell' = true := by
  intro u hu
  obtain ⟨x, _, hx⟩ := List.mem_flatMap.1 hu
  exact row_one u hx
/-- What a row that is not empty is, cell by cell. -/
theorem owns_src {W : World} {base : Nat} {v : Value} {l : List TV} (h : W.ownsRow base 24 4 v l.length (l.flatMap TV.row)) (h1 : 1 ≤ l.length) :
    ∃ g cap, v = .slice (some ⟨g, 0, none⟩) l.length cap ∧ base ≤ g ∧ g < W.heap.size ∧ ∀ j u, (l.flatMap TV.row)[j]? = some u → W.cell? ((⟨g, 0, none⟩ : Addr).add j) = some u := by
  obtain ⟨_, h2⟩ := h
  rcases h2 with ⟨_, hn⟩ | ⟨g, cap, cur, hv, hg, hb, _, _, _, htk⟩
  · omega
  · refine ⟨g, cap, hv, hg, (Array.getElem?_eq_some_iff.1 hb).1, fun j u hj => ?_⟩
    rw [addr_add, Nat.zero_add]
    rw [← htk, List.getElem?_take] at hj
    split at hj
    · simp [World.cell?, hb]
      simpa using hj
    · cases hj

set_option maxRecDepth 100000 in
set_option maxHeartbeats 1000000 in
theorem flat_any : ∀ (n : Nat) (t : Tm n) (w : World), IsT w.heap.size w t → (parts t).length ≤ 1000000000 → Calls Tryz.prog 36 #[t.tv.val] w fun e W' => ∃ v, e = .returned v ∧ Below w.heap.size w W' ∧ W'.ownsRow w.heap.size 24 4 v (parts t).length ((parts t).flatMap TV.row) := by
  intro n
  induction n with
  | zero => intro t; exact Empty.elim t
  | succ n ih =>
    intro t w ht hp
    obtain ⟨⟨k, kN, s, a, len, cap⟩, kids⟩ := t
    obtain ⟨hlen, hmax, hsm, hkids⟩ := ht
    simp only [Tm.tv, Tm.kids] at hlen hmax hsm hkids
    have hp' : (kids.flatMap parts).length + 1 ≤ 1000000000 := by simpa [parts, Tm.tv, Tm.kids] using hp
    simp only [Tm.tv, TV.val, parts, Tm.kids]
    have HI := hide ih
    have hl1 : len ≤ kids.length := by omega
    have hl2 : kids.length ≤ len := by omega
    clear ih hp hlen
    obtain ⟨i0, hi, hz0, hz1, hz2⟩ := info_parts Tryz.info28
    go_enter Tryz.func36, Tryz.ntmps36
    go_wp2_with fail
    obtain ⟨W2, hW2, hB2, hbx, hb2, hsz2⟩ := two_new w ⟨k, kN, s, a, len, cap⟩ ⟨k, kN, s, a, len, cap⟩
    simp only at hW2
    rw [hW2]
    clear hW2
    have hown0 : W2.ownsRow (w.heap.size + 1) 24 4 (.slice (some ⟨w.heap.size + 1, 0, none⟩) 1 1) ((⟨k, kN, s, a, len, cap⟩ :: (kids.take 0).flatMap parts : List TV)).length ((⟨k, kN, s, a, len, cap⟩ :: (kids.take 0).flatMap parts : List TV).flatMap TV.row) :=
      ⟨by simp [TV.row], .inr ⟨w.heap.size + 1, 1, _, rfl, Nat.le_refl _, hb2, by simp, by decide, rfl, by simp [TV.row]⟩⟩
    have HB2 := hide hB2
    have HBX := hide hbx
    clear hB2 hbx hb2
    go_loopw [3, 4] (fun av i wr => ∃ j : Nat, j ≤ len ∧ i = .int .i64 j ∧ Below (w.heap.size + 1) W2 wr ∧ wr.ownsRow (w.heap.size + 1) 24 4 av ((⟨k, kN, s, a, len, cap⟩ :: (kids.take j).flatMap parts : List TV)).length ((⟨k, kN, s, a, len, cap⟩ :: (kids.take j).flatMap parts : List TV).flatMap TV.row)) (fun _ i _ => len - (intOf i).toNat)
    case atStart => exact ⟨0, Nat.zero_le _, rfl, Below.refl _ _, hown0⟩
    case round =>
      obtain ⟨j, hj, rfl, hb, hm⟩ := hrel
      clear hown0
      have hwr : w.heap.size + 2 ≤ wr.heap.size := by have := hb.size; omega
      have hbw : Below w.heap.size w wr := (unhide HB2).trans (hb.mono (by omega))
      have hbr : BoxT wr w.heap.size ⟨k, kN, s, a, len, cap⟩ := (hb.block w.heap.size (by omega)).trans (unhide HBX)
      have x3 := hbr.c3
      simp only at x3
      have HM := hide hm
      clear hm hbr
      by_cases hlt : j < len
      · obtain ⟨u, b, off, hu, rfl, ⟨c0, c1, c2, c3⟩, hT, hbk⟩ := kid_at hkids hbw hlt hl1
        have hpp := pre_parts kids j u hu
        have ihu := (unhide HI) u wr hT (by omega)
        have htk := take_parts kids j u hu
        have hpos := parts_pos u
        have HTK := hide htk
        clear hT hkids hu htk
        simp only [TV.val] at ihu
        have hj1 : (j : Int) < len := by omega
        go_wp2_with fail
        refine ihu.mono ?_
        clear ihu
        rintro e W5 ⟨v5, rfl, hb5, hown5⟩
        obtain ⟨g5, cap5, rfl, hg5, hlt5, hsrc⟩ := owns_src hown5 hpos
        have hgl : ∀ g, u3.ownBlock = some g → w.heap.size + 1 ≤ g ∧ g < wr.heap.size := fun g hg => owns_lt (unhide HM) hg
        have hown6 := owns_below (W' := W5) (unhide HM) (fun g hg => hb5.block g (hgl g hg).2)
        obtain ⟨l, hl⟩ : ∃ l : List TV, (⟨k, kN, s, some ⟨b, off, none⟩, len, cap⟩ :: (kids.take j).flatMap parts) = l := ⟨_, rfl⟩
        have hll : l.length = ((kids.take j).flatMap parts).length + 1 := by rw [← hl]; simp
        rw [hl] at hown6
        clear x3 c0 c1 c2 c3
        go_wp2_with (at_builtin; go_must (refine wpList_append_own_at _ rfl _ _ 22 rfl (w.heap.size + 1) 24 i0 _ 4 56 Tryz.underlying22 hi hz0 hz1 hz2 rfl (by decide) u3 l.length (l.flatMap TV.row) rfl hown6 ⟨g5, 0, none⟩ (parts u).length cap5 ((parts u).flatMap TV.row) rfl (row_len _) hsrc row_all (by unfold maxLen; omega) (by omega) (by have := hb5.size; omega) ?_; intro v' w1 hown' hgrow hnil hbk))
        have hbel : Below (w.heap.size + 1) W2 w1 := (hb.trans (hb5.mono (by omega))).grown hgrow (by have := hb5.size; omega) (fun g hg => (hgl g hg).1)
        have hlast : w1.ownsRow (w.heap.size + 1) 24 4 v' ((⟨k, kN, s, some ⟨b, off, none⟩, len, cap⟩ :: (kids.take (j + 1)).flatMap parts : List TV)).length ((⟨k, kN, s, some ⟨b, off, none⟩, len, cap⟩ :: (kids.take (j + 1)).flatMap parts : List TV).flatMap TV.row) := by
          rw [unhide HTK, ← List.cons_append, hl, List.length_append, List.flatMap_append]
          exact hown'
        exact ⟨⟨j + 1, by omega, by go_num, hbel, hlast⟩, by simp [intOf]; omega⟩
      · have ht : kids.take j = kids := List.take_of_length_le (by omega)
        have hm := unhide HM
        rw [ht] at hm
        have HM2 := hide hm
        clear hm ht hkids
        go_wp2_with fail
        refine bodyPost_ret (v := u3) (by simp [results, Tryz.results36, go_sem]) rfl ⟨_, rfl, hbw, ?_⟩
        obtain ⟨q1, q2⟩ := unhide HM2
        refine ⟨q1, ?_⟩
        rcases q2 with q2 | ⟨g, cp, cur, e1, e2, e3⟩
        · exact .inl q2
        · exact .inr ⟨g, cp, cur, e1, by omega, e3⟩
end Go.Proofs.YtcjeeagnfmipgaaGreatDoor

