import Derived.Test.YtcjeeagnfmipgaaDoorGn
import Derived.Test.YtcjeeagnfmipgaaDoorVl
/- The contract of term.General. -/
namespace Go.Proofs.YtcjeeagnfmipgaaDoor
open Go.RowKit Go.Shelf Go.Maps

/-- The generalization of two terms. -/
def lgg {n : Nat} (a b : Tm n) : List Nd := Gc (ιP (stepsP [] (prs a b))) a b
theorem checkPair {n : Nat} (x y : Tm n) (w W : World) (hx : IsT w.heap.size w x) (hy : IsT w.heap.size w y) (hb : Below w.heap.size w W) :
    Calls Tryd.prog 8 #[.slice (some ⟨W.heap.size, 0, none⟩) 2 2] (W.alloc (.cells #[.int .i64 x.tv.k, .int .i64 x.tv.N, .string x.tv.s, .slice x.tv.a x.tv.len x.tv.cap, .int .i64 y.tv.k, .int .i64 y.tv.N, .string y.tv.s, .slice y.tv.a y.tv.len y.tv.cap] 24)) fun e W2 => e = .returned (.int .i64 (chkL [x, y])) ∧ Below W.heap.size W W2 := by
  have hp := pair_lies hx hy W hb
  have hB : Below W.heap.size W (W.alloc (.cells #[.int .i64 x.tv.k, .int .i64 x.tv.N, .string x.tv.s, .slice x.tv.a x.tv.len x.tv.cap, .int .i64 y.tv.k, .int .i64 y.tv.N, .string y.tv.s, .slice y.tv.a y.tv.len y.tv.cap] 24)) := (Below.refl _ W).alloc (Nat.le_refl _) _
  have h := checkAll_any [x, y] (some ⟨W.heap.size, 0, none⟩) 2 2 (W.alloc (.cells #[.int .i64 x.tv.k, .int .i64 x.tv.N, .string x.tv.s, .slice x.tv.a x.tv.len x.tv.cap, .int .i64 y.tv.k, .int .i64 y.tv.N, .string y.tv.s, .slice y.tv.a y.tv.len y.tv.cap] 24)) rfl (by omega) hp
  exact h.mono fun e W2 h => ⟨h.1, hB.trans (h.2.mono hB.size)⟩

set_option maxRecDepth 100000 in
set_option maxHeartbeats 1000000 in
theorem general_any {n : Nat} (a b : Tm n) (w : World) (ha : IsT w.heap.size w a) (hb : IsT w.heap.size w b) (oka : okT a = true) (okb : okT b = true) (pa : ∀ x ∈ parts a, Pw x) (pb : ∀ x ∈ parts b, Pw x) (hla : (parts a).length ≤ 1000000000) (hlb : (parts b).length ≤ 1000000000) (htab : Tab w.heap.size w) :
    Calls Tryd.prog 5 #[a.tv.val, b.tv.val] w fun e W' => ∃ x : TV, e = .returned (.tuple #[x.val, .int .i64 0]) ∧ Below w.heap.size w W' ∧ HoldsT (n + 1) w.heap.size W' x.val (lgg a b) := by
  obtain ⟨W3, hW3, hB3, hba, hbb, hbz, hs3⟩ := three_new w a.tv b.tv
  have hck := checkPair a b w W3 ha hb hB3
  rw [chkL_yes (show [a, b].all okT = true by simp [oka, okb])] at hck
  have hadr : (⟨W3.heap.size, 0, none⟩ : Addr) = ⟨w.heap.size + 1 + 1 + 1, 0, none⟩ := by rw [hs3]
  rw [hadr] at hck
  clear hadr
  have hpl : (prs a b).length ≤ 1000000000 := by
    have h1 := prs_len a b
    have h2 : (code a).length = (parts a).length := by simp [code]
    omega
  have hgen : ∀ (gb mb : Nat) (W : World), Sta w.heap.size gb mb W → Si w.heap.size gb mb [] W → Below w.heap.size w W → Calls Tryd.prog 9 #[a.tv.val, b.tv.val, .func (.func 10) #[] #[.pointer (some ⟨gb, 0, none⟩)]] W fun e W' => ∃ x : TV, e = .returned x.val ∧ GrB (fun k => k = mb) W.heap.size W W' ∧ HoldsT (n + 1) W.heap.size W' x.val (lgg a b) := fun gb mb W hS hI hbw => by
    refine (generalize_any n a b [] W hS hI (ha.below hbw) (hb.below hbw) oka pa pb hla hlb (by simpa using hpl)).mono fun e W' h => ?_
    obtain ⟨x, e1, e2, _, e4⟩ := h
    exact ⟨x, e1, e2, e4⟩
  have hsi : ∀ W5, Below w.heap.size w W5 → Si w.heap.size (W5.heap.size + 1) W5.heap.size [] ((W5.alloc (.map #[] 0)).alloc (.cells #[.map (some W5.heap.size)] 36)) := fun W5 hb5 => by
    have hb7 : Below w.heap.size w ((W5.alloc (.map #[] 0)).alloc (.cells #[.map (some W5.heap.size)] 36)) := (hb5.alloc hb5.size _).alloc (by have := hb5.size; simp; omega) _
    refine ⟨List.nodup_nil, (fun q hq => by cases hq), htab.on hb7, ?_, .map [], (World.ownsMap_made W5 Tryd.prog 9 (plainElem Tryd.prog 2)).alloc _, rfl, (fun k => by simp [Maps.has]), (fun q hq => by cases hq)⟩
    have h := World.alloc_heap_new (W5.alloc (.map #[] 0)) (.cells #[.map (some W5.heap.size)] 36)
    rw [World.size_alloc] at h
    exact h
  have a0 := hba.c0
  have a1 := hba.c1
  have a2 := hba.c2
  have a3 := hba.c3
  have b0 := hbb.c0
  have b1 := hbb.c1
  have b2 := hbb.c2
  have b3 := hbb.c3
  have hmm := @run_makeMap Tryd.prog
  simp only [TV.val] at hck hgen ⊢
  have HGEN := hide hgen
  have HSI := hide hsi
  have HB3 := hide hB3
  have HBA := hide hba
  have HBB := hide hbb
  have HBZ := hide hbz
  clear ha hb oka okb pa pb htab hpl hgen hsi hB3 hba hbb hbz
  go_enter Tryd.func5, Tryd.ntmps5
  go_wp2_with fail
  refine hck.mono ?_
  clear hck a0 a1 a2 a3 b0 b1 b2 b3
  rintro e W5 ⟨rfl, hb5⟩
  have hs5 := hb5.size
  have hB5 : Below w.heap.size w W5 := (unhide HB3).trans (hb5.mono (by omega))
  have hB7 : Below W5.heap.size W5 ((W5.alloc (.map #[] 0)).alloc (.cells #[.map (some W5.heap.size)] 36)) := ((Below.refl _ W5).alloc (Nat.le_refl _) _).alloc (by simp) _
  have hs7 : ((W5.alloc (.map #[] 0)).alloc (.cells #[.map (some W5.heap.size)] 36)).heap.size = W5.heap.size + 2 := by simp
  have hbw7 := hB5.trans (hB7.mono (by omega))
  have hI7 := (unhide HSI) W5 hB5
  have hba7 := ((unhide HBA).kept hb5).kept hB7
  have hbb7 := ((unhide HBB).kept hb5).kept hB7
  have hbz7 := ((unhide HBZ).kept hb5).kept hB7
  have hg7 := (unhide HGEN) (W5.heap.size + 1) W5.heap.size _ ⟨by omega, by omega, by omega, by omega⟩ hI7 hbw7
  have a0 := hba7.c0
  have a1 := hba7.c1
  have a2 := hba7.c2
  have a3 := hba7.c3
  have b0 := hbb7.c0
  have b1 := hbb7.c1
  have b2 := hbb7.c2
  have b3 := hbb7.c3
  have HBZ7 := hide hbz7
  have HBW7 := hide hbw7
  clear hI7 hba7 hbb7 hbz7 hbw7 hB7 hb5 HSI HGEN HBA HBB HBZ
  go_wp2_with fail
  refine hg7.mono ?_
  clear hg7 a0 a1 a2 a3 b0 b1 b2 b3 hmm
  rintro e W8 ⟨x, rfl, hg8, hx8⟩
  rw [hs7] at hg8 hx8
  have hs8 := hg8.size
  have hbz8 : BoxT W8 (w.heap.size + 2) ⟨0, 0, ⟨#[]⟩, none, 0, 0⟩ := (hg8.block _ (by omega) (by omega)).trans (unhide HBZ7)
  obtain ⟨⟨z0, z1, z2, z3⟩, y0, y1, y2, y3⟩ := zbox_kept hbz8
  have hfin := (holds_set4 hx8 (b := w.heap.size + 2) (by omega) 0 x).mono (lo' := w.heap.size) (Nat.le_refl _) (by omega)
  have hbf := set4_below ((unhide HBW7).trans (hg8.below (n₀ := w.heap.size) (fun k hx => by omega) (by omega))) (b := w.heap.size + 2) (by omega) 0 x
  have HF := hide (And.intro hbf hfin)
  clear hbf hfin hx8 hg8 hbz8
  go_wp2_with fail
  exact bodyPost_ret (v := .tuple #[x.val, .int .i64 0]) (by simp [results, Tryd.results5, go_sem, TV.val, z0, z1, z2, z3]) rfl ⟨x, rfl, unhide HF⟩
end Go.Proofs.YtcjeeagnfmipgaaDoor

/- What General answers: it matches both; what matches both matches it; the two sides may be changed. -/
namespace Go.Proofs.YtcjeeagnfmipgaaDoor
open Go.RowKit Go.Shelf Go.Maps

theorem prs_word : ∀ {n : Nat} (a b : Tm n), Wl a → Wl b → ∀ p ∈ prs a b, WordP p
  | 0, a, _, _, _, _, _ => Empty.elim a
  | n + 1, a, b, ha, hb, p, hp => by
    cases hap : apart a.tv b.tv with
    | true =>
      rw [prs_apart hap] at hp
      simp at hp; subst hp
      exact ⟨word_code a ha, word_code b hb⟩
    | false =>
      rw [prs_like hap] at hp
      have key : ∀ (l r : List (Tm n)), (∀ u ∈ l, Wl u) → (∀ u ∈ r, Wl u) → ∀ p ∈ zf prs l r, WordP p := by
        intro l
        induction l with
        | nil => intro r _ _ p hp; cases r <;> simp [zf] at hp
        | cons u l ih =>
          intro r h1 h2 p hp
          cases r with
          | nil => simp [zf] at hp
          | cons v r =>
            simp only [zf] at hp
            rcases List.mem_append.1 hp with hp | hp
            · exact prs_word u v (h1 u (by simp)) (h2 v (by simp)) p hp
            · exact ih r (fun z hz => h1 z (by simp [hz])) (fun z hz => h2 z (by simp [hz])) p hp
      exact key _ _ ha.2 hb.2 p hp
theorem stepsP_sub : ∀ (l ps : List Pr), ∀ p ∈ stepsP ps l, p ∈ ps ∨ p ∈ l
  | [], ps, p, hp => .inl hp
  | q :: l, ps, p, hp => by
    have e : stepsP ps (q :: l) = stepsP (stpP ps q) l := rfl
    rw [e] at hp
    rcases stepsP_sub l _ p hp with h | h
    · unfold stpP at h
      split at h
      · exact .inl h
      · rcases List.mem_append.1 h with h | h
        · exact .inl h
        · simp at h; subst h; exact .inr (by simp)
    · exact .inr (by simp [h])
/-- The pair that a variable stands for. -/
def pairOf (P : List Pr) (N : Int) : Pr := P[N.toNat]?.getD ([varNd 0], [varNd 0])
theorem pairOf_ι {P : List Pr} {p : Pr} (h : p ∈ P) : pairOf P (ιP P p) = p := by
  have hlt := List.idxOf_lt_length_of_mem h
  unfold pairOf ιP
  have e : ((P.idxOf p : Nat) : Int).toNat = P.idxOf p := by omega
  rw [e, List.getElem?_eq_getElem hlt, List.getElem_idxOf hlt]
  rfl
theorem pairOf_word {P : List Pr} (h : ∀ p ∈ P, WordP p) (N : Int) : WordP (pairOf P N) := by
  unfold pairOf
  cases hg : P[N.toNat]? with
  | none => exact ⟨word_var 0, word_var 0⟩
  | some p => exact h p (List.mem_of_getElem? hg)
theorem lgg_words {n : Nat} {a b : Tm n} (ha : Wl a) (hb : Wl b) : ∀ p ∈ stepsP [] (prs a b), WordP p := fun p hp => by
  rcases stepsP_sub _ _ p hp with h | h
  · cases h
  · exact prs_word a b ha hb p h
theorem lgg_left {n : Nat} (a b : Tm n) (ha : Wl a) (hb : Wl b) : Matches (lgg a b) (code a) :=
  ⟨fun N => (pairOf (stepsP [] (prs a b)) N).1, fun N => (pairOf_word (lgg_words ha hb) N).1, Gc_left a b ha hb fun p hp => by rw [pairOf_ι (stepsP_mem _ _ p hp)]⟩
theorem lgg_right {n : Nat} (a b : Tm n) (ha : Wl a) (hb : Wl b) : Matches (lgg a b) (code b) :=
  ⟨fun N => (pairOf (stepsP [] (prs a b)) N).2, fun N => (pairOf_word (lgg_words ha hb) N).2, Gc_right a b ha hb fun p hp => by rw [pairOf_ι (stepsP_mem _ _ p hp)]⟩
theorem lgg_least {m n : Nat} (c : Tm m) (a b : Tm n) (hc : Wl c) (ok : okT c = true) (ha : Wl a) (hb : Wl b) (h1 : Matches (code c) (code a)) (h2 : Matches (code c) (code b)) : Matches (code c) (lgg a b) := by
  obtain ⟨θ, t1, t2⟩ := h1
  obtain ⟨τ, s1, s2⟩ := h2
  exact ⟨_, fun N => both_word _ _ _, Gc_least t1 s1 c hc ok a b ha hb t2 s2⟩
theorem swap_inj {p q : Pr} (h : swapP p = swapP q) : p = q := by
  have h1 := congrArg Prod.fst h
  have h2 := congrArg Prod.snd h
  exact Prod.ext h2 h1
theorem idxOf_swap : ∀ (P : List Pr) (p : Pr), (P.map swapP).idxOf (swapP p) = P.idxOf p
  | [], _ => rfl
  | q :: P, p => by
    rw [List.map_cons, List.idxOf_cons, List.idxOf_cons]
    by_cases e : q = p
    · subst e; simp
    · have e' : ¬ swapP q = swapP p := fun h => e (swap_inj h)
      simp only [beq_eq_false_iff_ne.2 e, beq_eq_false_iff_ne.2 e', cond_false]
      rw [idxOf_swap P p]
theorem stepsP_swap : ∀ (l ps : List Pr), stepsP (ps.map swapP) (l.map swapP) = (stepsP ps l).map swapP
  | [], _ => rfl
  | q :: l, ps => by
    have e1 : stepsP (ps.map swapP) ((q :: l).map swapP) = stepsP (stpP (ps.map swapP) (swapP q)) (l.map swapP) := rfl
    have e2 : stepsP ps (q :: l) = stepsP (stpP ps q) l := rfl
    rw [e1, e2, ← stepsP_swap l]
    congr 1
    unfold stpP
    by_cases h : q ∈ ps
    · rw [if_pos h, if_pos (List.mem_map.2 ⟨q, h, rfl⟩)]
    · rw [if_neg h, if_neg]
      · simp
      · intro h'
        obtain ⟨r, hr, e⟩ := List.mem_map.1 h'
        exact h (swap_inj e ▸ hr)
theorem lgg_swap {n : Nat} (a b : Tm n) (ha : Wl a) (hb : Wl b) : lgg b a = lgg a b := by
  unfold lgg
  refine Gc_swap a b ha hb fun p _ => ?_
  have h := stepsP_swap (prs a b) []
  rw [List.map_nil] at h
  rw [prs_swap a b ha hb, h]
  unfold ιP
  rw [idxOf_swap]
theorem Gc_ok {ι : Pr → Int} : ∀ {n : Nat} (a b : Tm n), okT a = true → (∀ p ∈ prs a b, 0 ≤ ι p ∧ ι p ≤ 1099511627776) → okC (Gc ι a b) ∧ (Gc ι a b).length ≤ (code a).length
  | 0, a, _, _, _ => Empty.elim a
  | n + 1, a, b, ok, h => by
    rw [code_kids, List.length_cons]
    cases hap : apart a.tv b.tv with
    | true =>
      rw [prs_apart hap] at h
      rw [Gc_apart hap]
      obtain ⟨h0, h1⟩ := h _ (List.mem_singleton.2 rfl)
      exact ⟨by simp [okC, okNd, varNd, h0, h1], by simp⟩
    | false =>
      rw [prs_like hap] at h
      rw [Gc_like hap]
      have h2 : okNd a.tv.nd = true := by
        rw [okT_code, code_kids] at ok
        simp only [List.all_cons, Bool.and_eq_true] at ok
        exact ok.1
      have key : ∀ (l r : List (Tm n)), (∀ u ∈ l, okT u = true) → (∀ p ∈ zf prs l r, 0 ≤ ι p ∧ ι p ≤ 1099511627776) → okC (zf (Gc ι) l r) ∧ (zf (Gc ι) l r).length ≤ (l.flatMap code).length := by
        intro l
        induction l with
        | nil => intro r _ _; cases r <;> exact ⟨rfl, by simp [zf]⟩
        | cons u l ih =>
          intro r k1 k2
          cases r with
          | nil => exact ⟨rfl, by simp [zf]⟩
          | cons v r =>
            simp only [zf] at k2 ⊢
            obtain ⟨p1, p2⟩ := Gc_ok u v (k1 u (by simp)) (fun p hp => k2 p (List.mem_append_left _ hp))
            obtain ⟨q1, q2⟩ := ih r (fun z hz => k1 z (by simp [hz])) (fun p hp => k2 p (List.mem_append_right _ hp))
            refine ⟨?_, by rw [List.length_append, List.flatMap_cons, List.length_append]; omega⟩
            unfold okC at *
            rw [List.all_append, p1, q1]; rfl
      obtain ⟨r1, r2⟩ := key a.kids b.kids (ok_kids' ok) h
      refine ⟨?_, by rw [List.length_cons]; omega⟩
      unfold okC at *
      rw [List.all_cons, h2, r1]; rfl
theorem lgg_ok {n : Nat} (a b : Tm n) (ok : okT a = true) (hl : (code a).length ≤ 1000000000) : okC (lgg a b) ∧ (lgg a b).length ≤ (code a).length := by
  refine Gc_ok a b ok fun p hp => ?_
  have hm := stepsP_mem (prs a b) [] p hp
  have hlt := List.idxOf_lt_length_of_mem hm
  obtain ⟨d, hd, hdl⟩ := stepsP_ext (prs a b) []
  have h1 := prs_len a b
  have h2 : (stepsP [] (prs a b)).length ≤ (prs a b).length := by rw [hd]; simpa using hdl
  unfold ιP
  omega
/-- What matches a term that matches another matches that. -/
theorem matches_on {x y z : List Nd} (hy : okC y) (h : Matches x y) (h' : Matches y z) : Matches x z :=
  matches_trans h h' fun σ h1 h2 N ⟨w, hw, hk, e⟩ v hv => by
    refine okC_vok hy v ?_
    rw [← h2]
    refine List.mem_flatMap.2 ⟨w, hw, ?_⟩
    unfold subN
    rw [if_pos hk, e]
    exact hv
end Go.Proofs.YtcjeeagnfmipgaaDoor

/- The law hornkeep.TermLeast: it answers true, whatever the three terms (within a bound of their parts). -/
namespace Go.Proofs.YtcjeeagnfmipgaaDoor
open Go.RowKit Go.Shelf Go.Maps

theorem three_boxes (w : World) (x y z : TV) : ∃ W3, ((w.alloc (.cells #[.int .i64 x.k, .int .i64 x.N, .string x.s, .slice x.a x.len x.cap] 24)).alloc (.cells #[.int .i64 y.k, .int .i64 y.N, .string y.s, .slice y.a y.len y.cap] 24)).alloc (.cells #[.int .i64 z.k, .int .i64 z.N, .string z.s, .slice z.a z.len z.cap] 24) = W3 ∧ Below w.heap.size w W3 ∧ BoxT W3 w.heap.size x ∧ BoxT W3 (w.heap.size + 1) y ∧ BoxT W3 (w.heap.size + 2) z ∧ W3.heap.size = w.heap.size + 3 := by
  obtain ⟨W2, h1, h2, h3, h4, h5⟩ := two_new w x y
  rw [h1]
  refine ⟨_, rfl, h2.alloc (by omega) _, h3.alloc _, h4.alloc _, ?_, by simp [h5]⟩
  have := BoxT.new W2 z
  rw [h5] at this
  exact this
/-- The three boxes of the law's arguments. -/
structure B3 (w : World) (x y z : TV) (W : World) : Prop where
  bel : Below w.heap.size w W
  ba : BoxT W w.heap.size x
  bb : BoxT W (w.heap.size + 1) y
  bc : BoxT W (w.heap.size + 2) z
theorem B3.kept {w W W' : World} {x y z : TV} (h : B3 w x y z W) (hb : Below W.heap.size W W') : B3 w x y z W' :=
  ⟨h.bel.trans (hb.mono h.bel.size), h.ba.kept hb, h.bb.kept hb, h.bc.kept hb⟩
theorem B3.new (w : World) (x y z : TV) : ∃ W3, ((w.alloc (.cells #[.int .i64 x.k, .int .i64 x.N, .string x.s, .slice x.a x.len x.cap] 24)).alloc (.cells #[.int .i64 y.k, .int .i64 y.N, .string y.s, .slice y.a y.len y.cap] 24)).alloc (.cells #[.int .i64 z.k, .int .i64 z.N, .string z.s, .slice z.a z.len z.cap] 24) = W3 ∧ B3 w x y z W3 := by
  obtain ⟨W3, h1, h2, h3, h4, h5, _⟩ := three_boxes w x y z
  exact ⟨W3, h1, h2, h3, h4, h5⟩
theorem iff_true {b : Bool} {p : Prop} (h : b = true ↔ p) (hp : p) : b = true := h.2 hp

set_option maxRecDepth 100000 in
set_option maxHeartbeats 4000000 in
theorem termLeast_ok {n : Nat} (a b c : Tm n) (w : World) (ha : IsT w.heap.size w a) (hb : IsT w.heap.size w b) (hc : IsT w.heap.size w c) (oka : okT a = true) (okb : okT b = true) (okc : okT c = true) (pa : ∀ x ∈ parts a, Pw x) (pb : ∀ x ∈ parts b, Pw x) (hla : (code a).length ≤ 4194304) (hlb : (code b).length ≤ 4194304) (hlc : (code c).length ≤ 4194304) (hn40 : n ≤ 1048576) (htab : Tab w.heap.size w) :
    Calls Tryd.prog 3 #[a.tv.val, b.tv.val, c.tv.val] w fun e W' => e = .returned (.bool true) ∧ Below w.heap.size w W' := by
  obtain ⟨W0, hW0, hS0⟩ := B3.new w a.tv b.tv c.tv
  have hfa := fun (W : World) (hb' : Below w.heap.size w W) => formed_any n a W ((ha.below hb').mono hb'.size)
  have hfb := fun (W : World) (hb' : Below w.heap.size w W) => formed_any n b W ((hb.below hb').mono hb'.size)
  have hfc := fun (W : World) (hb' : Below w.heap.size w W) => formed_any n c W ((hc.below hb').mono hb'.size)
  have lpa : (parts a).length ≤ 1000000000 := by have : (code a).length = (parts a).length := by simp [code]
                                                 omega
  have lpb : (parts b).length ≤ 1000000000 := by have : (code b).length = (parts b).length := by simp [code]
                                                 omega
  have hgab := fun (W : World) (hb' : Below w.heap.size w W) => general_any a b W ((ha.below hb').mono hb'.size) ((hb.below hb').mono hb'.size) oka okb pa pb lpa lpb ((htab.on hb').mono hb'.size)
  have hgba := fun (W : World) (hb' : Below w.heap.size w W) => general_any b a W ((hb.below hb').mono hb'.size) ((ha.below hb').mono hb'.size) okb oka pb pa lpb lpa ((htab.on hb').mono hb'.size)
  rw [oka] at hfa
  rw [okb] at hfb
  rw [okc] at hfc
  obtain ⟨okg, llg⟩ := lgg_ok a b oka (by omega)
  have hl := lgg_left a b ha.wl hb.wl
  have hr := lgg_right a b ha.wl hb.wl
  have hsw := lgg_swap a b ha.wl hb.wl
  have hle := lgg_least c a b hc.wl okc ha.wl hb.wl
  have llg' : (lgg a b).length ≤ 4194304 := by omega
  rw [hsw] at hgba
  have ta : TC n w a.tv.val (code a) := tc_of ha
  have tb : TC n w b.tv.val (code b) := tc_of hb
  have tc : TC n w c.tv.val (code c) := tc_of hc
  have oca : okC (code a) := by unfold okC; rw [← okT_code]; exact oka
  have ocb : okC (code b) := by unfold okC; rw [← okT_code]; exact okb
  have occ : okC (code c) := by unfold okC; rw [← okT_code]; exact okc
  have hzz : Matches (code c) (lgg a b) ↔ Matches (code c) (code a) ∧ Matches (code c) (code b) := ⟨fun h => ⟨matches_on okg h hl, matches_on okg h hr⟩, fun h => hle h.1 h.2⟩
  generalize lgg a b = cg at *
  generalize code a = ca at *
  generalize code b = cb at *
  generalize code c = cc at *
  have TA := hide ta
  have TB := hide tb
  have TCC := hide tc
  have OCA := hide oca
  have OCB := hide ocb
  have OCC := hide occ
  have OKG := hide okg
  have HL := hide hl
  have HR := hide hr
  have HZZ := hide hzz
  clear hle hsw
  simp only [TV.val] at hfa hfb hfc hgab hgba ⊢
  have HFB := hide hfb
  have HFC := hide hfc
  have HGAB := hide hgab
  have HGBA := hide hgba
  have hfa0 := hfa W0 hS0.bel
  have c0 := hS0.ba.c0
  have c1 := hS0.ba.c1
  have c2 := hS0.ba.c2
  have c3 := hS0.ba.c3
  have HS := hide hS0
  clear hfa hfb hfc hgab hgba ta tb tc oca ocb occ okg hl hr hzz ha hb hc oka okb okc pa pb lpa lpb htab hS0
  go_enter Tryd.func3, Tryd.ntmps3
  go_wp2_with fail
  refine hfa0.mono ?_
  clear hfa0 c0 c1 c2 c3 hW0
  rintro e W1 ⟨rfl, hb1⟩
  have hS1 := (unhide HS).kept hb1
  have hfb1 := (unhide HFB) W1 hS1.bel
  have d0 := hS1.bb.c0
  have d1 := hS1.bb.c1
  have d2 := hS1.bb.c2
  have d3 := hS1.bb.c3
  have HS1 := hide hS1
  clear hS1 hb1 HS HFB
  go_wp2_with fail
  refine hfb1.mono ?_
  clear hfb1 d0 d1 d2 d3
  rintro e W2 ⟨rfl, hb2⟩
  have hS2 := (unhide HS1).kept hb2
  have hfc2 := (unhide HFC) W2 hS2.bel
  have d0 := hS2.bc.c0
  have d1 := hS2.bc.c1
  have d2 := hS2.bc.c2
  have d3 := hS2.bc.c3
  have HS2 := hide hS2
  clear hS2 hb2 HS1 HFC
  go_wp2_with fail
  refine hfc2.mono ?_
  clear hfc2 d0 d1 d2 d3
  rintro e W3 ⟨rfl, hb3⟩
  have hS3 := (unhide HS2).kept hb3
  have hg3 := (unhide HGAB) W3 hS3.bel
  have c0 := hS3.ba.c0
  have c1 := hS3.ba.c1
  have c2 := hS3.ba.c2
  have c3 := hS3.ba.c3
  have d0 := hS3.bb.c0
  have d1 := hS3.bb.c1
  have d2 := hS3.bb.c2
  have d3 := hS3.bb.c3
  have HS3 := hide hS3
  clear hS3 hb3 HS2 HGAB
  go_wp2_with fail
  refine hg3.mono ?_
  clear hg3 c0 c1 c2 c3 d0 d1 d2 d3
  rintro e W4 ⟨x, rfl, hb4, hx⟩
  have hb5 : Below W4.heap.size W4 (W4.alloc (.cells #[.int .i64 x.k, .int .i64 x.N, .string x.s, .slice x.a x.len x.cap] 24)) := (Below.refl _ W4).alloc (Nat.le_refl _) _
  have hS5 := ((unhide HS3).kept hb4).kept hb5
  have tx : TC (n + 1) (W4.alloc (.cells #[.int .i64 x.k, .int .i64 x.N, .string x.s, .slice x.a x.len x.cap] 24)) x.val cg := hx.holdsS.tc.below hb5
  have hbx := BoxT.new W4 x
  have hm5 := match_c tx (((unhide TA).below hS5.bel).mono (Nat.le_succ n)) (unhide OKG) (unhide OCA) llg'
  have c0 := hS5.ba.c0
  have c1 := hS5.ba.c1
  have c2 := hS5.ba.c2
  have c3 := hS5.ba.c3
  have x0 := hbx.c0
  have x1 := hbx.c1
  have x2 := hbx.c2
  have x3 := hbx.c3
  have HS5 := hide hS5
  have HBX := hide hbx
  have TX := hide tx
  simp only [TV.val] at hm5
  clear hS5 hb4 hb5 hx tx hbx HS3
  go_wp2_with fail
  refine hm5.mono ?_
  clear hm5 c0 c1 c2 c3 x0 x1 x2 x3
  rintro e W6 ⟨la1, ll1, lc1, f1, rfl, hb6, hf1, -⟩
  obtain rfl : f1 = true := iff_true hf1 (unhide HL)
  have hS6 := (unhide HS5).kept hb6
  have hbx := (unhide HBX).kept hb6
  have tx := (unhide TX).below hb6
  have hm6 := match_c tx (((unhide TB).below hS6.bel).mono (Nat.le_succ n)) (unhide OKG) (unhide OCB) llg'
  have c0 := hS6.bb.c0
  have c1 := hS6.bb.c1
  have c2 := hS6.bb.c2
  have c3 := hS6.bb.c3
  have x0 := hbx.c0
  have x1 := hbx.c1
  have x2 := hbx.c2
  have x3 := hbx.c3
  have HS6 := hide hS6
  have HBX6 := hide hbx
  have TX6 := hide tx
  simp only [TV.val] at hm6
  clear hS6 hb6 hf1 tx hbx HS5 HBX TX
  go_wp2_with fail
  refine hm6.mono ?_
  clear hm6 c0 c1 c2 c3 x0 x1 x2 x3
  rintro e W7 ⟨la2, ll2, lc2, f2, rfl, hb7, hf2, -⟩
  obtain rfl : f2 = true := iff_true hf2 (unhide HR)
  have hS7 := (unhide HS6).kept hb7
  have hbx := (unhide HBX6).kept hb7
  have tx := (unhide TX6).below hb7
  have hm7 := match_c ((unhide TCC).below hS7.bel) ((unhide TA).below hS7.bel) (unhide OCC) (unhide OCA) hlc
  have c0 := hS7.ba.c0
  have c1 := hS7.ba.c1
  have c2 := hS7.ba.c2
  have c3 := hS7.ba.c3
  have d0 := hS7.bc.c0
  have d1 := hS7.bc.c1
  have d2 := hS7.bc.c2
  have d3 := hS7.bc.c3
  have HS7 := hide hS7
  have HBX7 := hide hbx
  have TX7 := hide tx
  simp only [TV.val] at hm7
  clear hS7 hb7 hf2 tx hbx HS6 HBX6 TX6
  go_wp2_with fail
  refine hm7.mono ?_
  clear hm7 c0 c1 c2 c3 d0 d1 d2 d3
  rintro e W8 ⟨la3, ll3, lc3, xx, rfl, hb8, hxx, -⟩
  have hS8 := (unhide HS7).kept hb8
  have hbx := (unhide HBX7).kept hb8
  have tx := (unhide TX7).below hb8
  have hm8 := match_c ((unhide TCC).below hS8.bel) ((unhide TB).below hS8.bel) (unhide OCC) (unhide OCB) hlc
  have c0 := hS8.bb.c0
  have c1 := hS8.bb.c1
  have c2 := hS8.bb.c2
  have c3 := hS8.bb.c3
  have d0 := hS8.bc.c0
  have d1 := hS8.bc.c1
  have d2 := hS8.bc.c2
  have d3 := hS8.bc.c3
  have HS8 := hide hS8
  have HBX8 := hide hbx
  have TX8 := hide tx
  have HXX := hide hxx
  simp only [TV.val] at hm8
  clear hS8 hb8 hxx tx hbx HS7 HBX7 TX7
  go_wp2_with fail
  refine hm8.mono ?_
  clear hm8 c0 c1 c2 c3 d0 d1 d2 d3
  rintro e W9 ⟨la4, ll4, lc4, yy, rfl, hb9, hyy, -⟩
  have hS9 := (unhide HS8).kept hb9
  have hbx := (unhide HBX8).kept hb9
  have tx := (unhide TX8).below hb9
  have hm9 := match_c (((unhide TCC).below hS9.bel).mono (Nat.le_succ n)) tx (unhide OCC) (unhide OKG) hlc
  have x0 := hbx.c0
  have x1 := hbx.c1
  have x2 := hbx.c2
  have x3 := hbx.c3
  have d0 := hS9.bc.c0
  have d1 := hS9.bc.c1
  have d2 := hS9.bc.c2
  have d3 := hS9.bc.c3
  have HS9 := hide hS9
  have HBX9 := hide hbx
  have TX9 := hide tx
  have HYY := hide hyy
  simp only [TV.val] at hm9
  clear hS9 hb9 hyy tx hbx HS8 HBX8 TX8
  go_wp2_with fail
  refine hm9.mono ?_
  clear hm9 x0 x1 x2 x3 d0 d1 d2 d3
  rintro e W10 ⟨la5, ll5, lc5, zz, rfl, hb10, hzz, -⟩
  have hS10 := (unhide HS9).kept hb10
  have hbx := (unhide HBX9).kept hb10
  have tx := (unhide TX9).below hb10
  have hall : zz = (xx && yy) := by
    rw [Bool.eq_iff_iff, Bool.and_eq_true, hzz, unhide HXX, unhide HYY]
    exact unhide HZZ
  subst hall
  have hg10 := (unhide HGBA) W10 hS10.bel
  have c0 := hS10.ba.c0
  have c1 := hS10.ba.c1
  have c2 := hS10.ba.c2
  have c3 := hS10.ba.c3
  have d0 := hS10.bb.c0
  have d1 := hS10.bb.c1
  have d2 := hS10.bb.c2
  have d3 := hS10.bb.c3
  have HS10 := hide hS10
  have HBX10 := hide hbx
  have TX10 := hide tx
  have HG10 := hide hg10
  clear hS10 hb10 hzz tx hbx hg10 HS9 HBX9 TX9 HXX HYY HGBA
  have hfin : ∀ (W11 : World) (y : TV), Below W10.heap.size W10 W11 → HoldsT (n + 1) W10.heap.size W11 y.val cg → B3 w a.tv b.tv c.tv (W11.alloc (.cells #[.int .i64 y.k, .int .i64 y.N, .string y.s, .slice y.a y.len y.cap] 24)) ∧ BoxT (W11.alloc (.cells #[.int .i64 y.k, .int .i64 y.N, .string y.s, .slice y.a y.len y.cap] 24)) W4.heap.size x ∧ Calls Tryd.prog 7 #[x.val, y.val] (W11.alloc (.cells #[.int .i64 y.k, .int .i64 y.N, .string y.s, .slice y.a y.len y.cap] 24)) fun e W' => ∃ r : Int, e = .returned (.tuple #[.bool true, .int .i64 r]) ∧ Below w.heap.size w W' := fun W11 y hb11 hy => by
    have hb12 : Below W11.heap.size W11 (W11.alloc (.cells #[.int .i64 y.k, .int .i64 y.N, .string y.s, .slice y.a y.len y.cap] 24)) := (Below.refl _ W11).alloc (Nat.le_refl _) _
    have hb1012 := hb11.trans (hb12.mono hb11.size)
    have hS12 := (unhide HS10).kept hb1012
    refine ⟨hS12, (unhide HBX10).kept hb1012, ?_⟩
    refine (variant_c ((unhide TX10).below hb1012) (hy.holdsS.tc.below hb12)).mono fun e W' h => ?_
    obtain ⟨f, r, e1, e2, e3⟩ := h
    have := e3 (unhide OKG) (unhide OKG)
    simp at this
    subst this
    exact ⟨r, e1, hS12.bel.trans (e2.mono hS12.bel.size)⟩
  have HFIN := hide hfin
  clear hfin
  cases xx
  all_goals cases yy
  all_goals
    go_wp2_with fail
    have hg10 := unhide HG10
    refine hg10.mono ?_
    clear hg10 c0 c1 c2 c3 d0 d1 d2 d3
    rintro e W11 ⟨y, rfl, hb11, hy⟩
    obtain ⟨hS12, hbx, hva⟩ := (unhide HFIN) W11 y hb11 hy
    have hby := BoxT.new W11 y
    have x0 := hbx.c0
    have x1 := hbx.c1
    have x2 := hbx.c2
    have x3 := hbx.c3
    have y0 := hby.c0
    have y1 := hby.c1
    have y2 := hby.c2
    have y3 := hby.c3
    simp only [TV.val] at hva
    clear hS12 hbx hby hb11 hy HFIN
    go_wp2_with fail
    refine hva.mono ?_
    clear hva x0 x1 x2 x3 y0 y1 y2 y3
    rintro e W13 ⟨r, rfl, hB13⟩
    go_wp2_with fail
    exact bodyPost_ret (v := .bool true) (by simp [results, Tryd.results3, go_sem]) rfl ⟨rfl, hB13⟩

set_option maxRecDepth 100000 in
set_option maxHeartbeats 1000000 in
theorem termLeast_no {n : Nat} (a b c : Tm n) (w : World) (ha : IsT w.heap.size w a) (hb : IsT w.heap.size w b) (hc : IsT w.heap.size w c) (hno : ¬ (okT a = true ∧ okT b = true ∧ okT c = true)) :
    Calls Tryd.prog 3 #[a.tv.val, b.tv.val, c.tv.val] w fun e W' => e = .returned (.bool true) ∧ Below w.heap.size w W' := by
  obtain ⟨W0, hW0, hS0⟩ := B3.new w a.tv b.tv c.tv
  have hfa := formed_any n a W0 ((ha.below hS0.bel).mono hS0.bel.size)
  have hfb := fun (W : World) (hb' : Below w.heap.size w W) => formed_any n b W ((hb.below hb').mono hb'.size)
  have hfc := fun (W : World) (hb' : Below w.heap.size w W) => formed_any n c W ((hc.below hb').mono hb'.size)
  have c0 := hS0.ba.c0
  have c1 := hS0.ba.c1
  have c2 := hS0.ba.c2
  have c3 := hS0.ba.c3
  simp only [TV.val] at hfa hfb hfc ⊢
  have HFB := hide hfb
  have HFC := hide hfc
  have HS := hide hS0
  clear hfb hfc ha hb hc hS0
  cases oka : okT a with
  | false =>
    rw [oka] at hfa
    clear oka hno
    go_enter Tryd.func3, Tryd.ntmps3
    go_wp2_with fail
    refine hfa.mono ?_
    clear hfa c0 c1 c2 c3 hW0
    rintro e W1 ⟨rfl, hb1⟩
    have hB1 := ((unhide HS).kept hb1).bel
    clear hb1
    go_wp2_with fail
    exact bodyPost_ret (v := .bool true) (by simp [results, Tryd.results3, go_sem]) rfl ⟨rfl, hB1⟩
  | true =>
    rw [oka] at hfa
    cases okb : okT b with
    | false =>
      rw [okb] at HFB
      clear oka hno okb
      go_enter Tryd.func3, Tryd.ntmps3
      go_wp2_with fail
      refine hfa.mono ?_
      clear hfa c0 c1 c2 c3 hW0
      rintro e W1 ⟨rfl, hb1⟩
      have hS1 := (unhide HS).kept hb1
      have hfb1 := (unhide HFB) W1 hS1.bel
      have d0 := hS1.bb.c0
      have d1 := hS1.bb.c1
      have d2 := hS1.bb.c2
      have d3 := hS1.bb.c3
      have HS1 := hide hS1
      clear hS1 hb1 HS HFB
      go_wp2_with fail
      refine hfb1.mono ?_
      clear hfb1 d0 d1 d2 d3
      rintro e W2 ⟨rfl, hb2⟩
      have hB2 := ((unhide HS1).kept hb2).bel
      clear hb2
      go_wp2_with fail
      exact bodyPost_ret (v := .bool true) (by simp [results, Tryd.results3, go_sem]) rfl ⟨rfl, hB2⟩
    | true =>
      have okc : okT c = false := by
        cases okc : okT c with
        | false => rfl
        | true => exact (hno ⟨oka, okb, okc⟩).elim
      rw [okb] at HFB
      rw [okc] at HFC
      clear oka hno okb okc
      go_enter Tryd.func3, Tryd.ntmps3
      go_wp2_with fail
      refine hfa.mono ?_
      clear hfa c0 c1 c2 c3 hW0
      rintro e W1 ⟨rfl, hb1⟩
      have hS1 := (unhide HS).kept hb1
      have hfb1 := (unhide HFB) W1 hS1.bel
      have d0 := hS1.bb.c0
      have d1 := hS1.bb.c1
      have d2 := hS1.bb.c2
      have d3 := hS1.bb.c3
      have HS1 := hide hS1
      clear hS1 hb1 HS HFB
      go_wp2_with fail
      refine hfb1.mono ?_
      clear hfb1 d0 d1 d2 d3
      rintro e W2 ⟨rfl, hb2⟩
      have hS2 := (unhide HS1).kept hb2
      have hfc2 := (unhide HFC) W2 hS2.bel
      have d0 := hS2.bc.c0
      have d1 := hS2.bc.c1
      have d2 := hS2.bc.c2
      have d3 := hS2.bc.c3
      have HS2 := hide hS2
      clear hS2 hb2 HS1 HFC
      go_wp2_with fail
      refine hfc2.mono ?_
      clear hfc2 d0 d1 d2 d3
      rintro e W3 ⟨rfl, hb3⟩
      have hB3 := ((unhide HS2).kept hb3).bel
      clear hb3
      go_wp2_with fail
      exact bodyPost_ret (v := .bool true) (by simp [results, Tryd.results3, go_sem]) rfl ⟨rfl, hB3⟩
end Go.Proofs.YtcjeeagnfmipgaaDoor

