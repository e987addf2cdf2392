import Derived.Test.YtcdbbimhbijipaaDoorGn
import Derived.Test.YtcdbbimhbijipaaDoorVr
import Derived.Test.YtcdbbimhbijipaaDoorTw
/- The contract of term.General. -/
namespace Go.Proofs.YtcdbbimhbijipaaDoor
open Go.RowKit Go.Shelf Go.Maps

/-- The generalization of two terms. -/
def lgg {n : Nat} (a b : Tm n) : List Nd := Gc (ιP (stepsP [] (prs a b))) a b
theorem checkPair {n : Nat} (x y : Tm n) (w W : World) (hx : IsT w.heap.size w x) (hy : IsT w.heap.size w y) (hb : Below w.heap.size w W) :
    Calls Tryd.prog 8 #[.slice (some ⟨W.heap.size, 0, none⟩) 2 2] (W.alloc (.cells #[.int .i64 x.tv.k, .int .i64 x.tv.N, .string x.tv.s, .slice x.tv.a x.tv.len x.tv.cap, .int .i64 y.tv.k, .int .i64 y.tv.N, .string y.tv.s, .slice y.tv.a y.tv.len y.tv.cap] 24)) fun e W2 => e = .returned (.int .i64 (chkL [x, y])) ∧ Below W.heap.size W W2 := by
  have hp := pair_lies hx hy W hb
  have hB : Below W.heap.size W (W.alloc (.cells #[.int .i64 x.tv.k, .int .i64 x.tv.N, .string x.tv.s, .slice x.tv.a x.tv.len x.tv.cap, .int .i64 y.tv.k, .int .i64 y.tv.N, .string y.tv.s, .slice y.tv.a y.tv.len y.tv.cap] 24)) := (Below.refl _ W).alloc (Nat.le_refl _) _
  have h := checkAll_any [x, y] (some ⟨W.heap.size, 0, none⟩) 2 2 (W.alloc (.cells #[.int .i64 x.tv.k, .int .i64 x.tv.N, .string x.tv.s, .slice x.tv.a x.tv.len x.tv.cap, .int .i64 y.tv.k, .int .i64 y.tv.N, .string y.tv.s, .slice y.tv.a y.tv.len y.tv.cap] 24)) rfl (by omega) hp
  exact h.mono fun e W2 h => ⟨h.1, hB.trans (h.2.mono hB.size)⟩

set_option maxRecDepth 100000 in
set_option maxHeartbeats 1000000 in
theorem general_any {n : Nat} (a b : Tm n) (w : World) (ha : IsT w.heap.size w a) (hb : IsT w.heap.size w b) (oka : okT a = true) (okb : okT b = true) (pa : ∀ x ∈ parts a, Pw x) (pb : ∀ x ∈ parts b, Pw x) (hla : (parts a).length ≤ 1000000000) (hlb : (parts b).length ≤ 1000000000) (htab : Tab w.heap.size w) :
    Calls Tryd.prog 5 #[a.tv.val, b.tv.val] w fun e W' => ∃ x : TV, e = .returned (.tuple #[x.val, .int .i64 0]) ∧ Below w.heap.size w W' ∧ HoldsT (n + 1) w.heap.size W' x.val (lgg a b) := by
  obtain ⟨W3, hW3, hB3, hba, hbb, hbz, hs3⟩ := three_new w a.tv b.tv
  have hck := checkPair a b w W3 ha hb hB3
  rw [chkL_yes (show [a, b].all okT = true by simp [oka, okb])] at hck
  have hadr : (⟨W3.heap.size, 0, none⟩ : Addr) = ⟨w.heap.size + 1 + 1 + 1, 0, none⟩ := by rw [hs3]
  rw [hadr] at hck
  clear hadr
  have hpl : (prs a b).length ≤ 1000000000 := by
    have h1 := prs_len a b
    have h2 : (code a).length = (parts a).length := by simp [code]
    omega
  have hgen : ∀ (gb mb : Nat) (W : World), Sta w.heap.size gb mb W → Si w.heap.size gb mb [] W → Below w.heap.size w W → Calls Tryd.prog 9 #[a.tv.val, b.tv.val, .func (.func 10) #[] #[.pointer (some ⟨gb, 0, none⟩)]] W fun e W' => ∃ x : TV, e = .returned x.val ∧ GrB (fun k => k = mb) W.heap.size W W' ∧ HoldsT (n + 1) W.heap.size W' x.val (lgg a b) := fun gb mb W hS hI hbw => by
    refine (generalize_any n a b [] W hS hI (ha.below hbw) (hb.below hbw) oka pa pb hla hlb (by simpa using hpl)).mono fun e W' h => ?_
    obtain ⟨x, e1, e2, _, e4⟩ := h
    exact ⟨x, e1, e2, e4⟩
  have hsi : ∀ W5, Below w.heap.size w W5 → Si w.heap.size (W5.heap.size + 1) W5.heap.size [] ((W5.alloc (.map #[] 0)).alloc (.cells #[.map (some W5.heap.size)] 36)) := fun W5 hb5 => by
    have hb7 : Below w.heap.size w ((W5.alloc (.map #[] 0)).alloc (.cells #[.map (some W5.heap.size)] 36)) := (hb5.alloc hb5.size _).alloc (by have := hb5.size; simp; omega) _
    refine ⟨List.nodup_nil, (fun q hq => by cases hq), htab.on hb7, ?_, .map [], (World.ownsMap_made W5 Tryd.prog 9 (plainElem Tryd.prog 2)).alloc _, rfl, (fun k => by simp [Maps.has]), (fun q hq => by cases hq)⟩
    have h := World.alloc_heap_new (W5.alloc (.map #[] 0)) (.cells #[.map (some W5.heap.size)] 36)
    rw [World.size_alloc] at h
    exact h
  have a0 := hba.c0
  have a1 := hba.c1
  have a2 := hba.c2
  have a3 := hba.c3
  have b0 := hbb.c0
  have b1 := hbb.c1
  have b2 := hbb.c2
  have b3 := hbb.c3
  have hmm := @run_makeMap Tryd.prog
  simp only [TV.val] at hck hgen ⊢
  have HGEN := hide hgen
  have HSI := hide hsi
  have HB3 := hide hB3
  have HBA := hide hba
  have HBB := hide hbb
  have HBZ := hide hbz
  clear ha hb oka okb pa pb htab hpl hgen hsi hB3 hba hbb hbz
  go_enter Tryd.func5, Tryd.ntmps5
  go_wp2_with fail
  refine hck.mono ?_
  clear hck a0 a1 a2 a3 b0 b1 b2 b3
  rintro e W5 ⟨rfl, hb5⟩
  have hs5 := hb5.size
  have hB5 : Below w.heap.size w W5 := (unhide HB3).trans (hb5.mono (by omega))
  have hB7 : Below W5.heap.size W5 ((W5.alloc (.map #[] 0)).alloc (.cells #[.map (some W5.heap.size)] 36)) := ((Below.refl _ W5).alloc (Nat.le_refl _) _).alloc (by simp) _
  have hs7 : ((W5.alloc (.map #[] 0)).alloc (.cells #[.map (some W5.heap.size)] 36)).heap.size = W5.heap.size + 2 := by simp
  have hbw7 := hB5.trans (hB7.mono (by omega))
  have hI7 := (unhide HSI) W5 hB5
  have hba7 := ((unhide HBA).kept hb5).kept hB7
  have hbb7 := ((unhide HBB).kept hb5).kept hB7
  have hbz7 := ((unhide HBZ).kept hb5).kept hB7
  have hg7 := (unhide HGEN) (W5.heap.size + 1) W5.heap.size _ ⟨by omega, by omega, by omega, by omega⟩ hI7 hbw7
  have a0 := hba7.c0
  have a1 := hba7.c1
  have a2 := hba7.c2
  have a3 := hba7.c3
  have b0 := hbb7.c0
  have b1 := hbb7.c1
  have b2 := hbb7.c2
  have b3 := hbb7.c3
  have HBZ7 := hide hbz7
  have HBW7 := hide hbw7
  clear hI7 hba7 hbb7 hbz7 hbw7 hB7 hb5 HSI HGEN HBA HBB HBZ
  go_wp2_with fail
  refine hg7.mono ?_
  clear hg7 a0 a1 a2 a3 b0 b1 b2 b3 hmm
  rintro e W8 ⟨x, rfl, hg8, hx8⟩
  rw [hs7] at hg8 hx8
  have hs8 := hg8.size
  have hbz8 : BoxT W8 (w.heap.size + 2) ⟨0, 0, ⟨#[]⟩, none, 0, 0⟩ := (hg8.block _ (by omega) (by omega)).trans (unhide HBZ7)
  obtain ⟨⟨z0, z1, z2, z3⟩, y0, y1, y2, y3⟩ := zbox_kept hbz8
  have hfin := (holds_set4 hx8 (b := w.heap.size + 2) (by omega) 0 x).mono (lo' := w.heap.size) (Nat.le_refl _) (by omega)
  have hbf := set4_below ((unhide HBW7).trans (hg8.below (n₀ := w.heap.size) (fun k hx => by omega) (by omega))) (b := w.heap.size + 2) (by omega) 0 x
  have HF := hide (And.intro hbf hfin)
  clear hbf hfin hx8 hg8 hbz8
  go_wp2_with fail
  exact bodyPost_ret (v := .tuple #[x.val, .int .i64 0]) (by simp [results, Tryd.results5, go_sem, TV.val, z0, z1, z2, z3]) rfl ⟨x, rfl, unhide HF⟩
end Go.Proofs.YtcdbbimhbijipaaDoor

/- The law hornkeep.TermVariants: it answers true, whatever the two terms and the number (within a bound of the terms' parts). -/
namespace Go.Proofs.YtcdbbimhbijipaaDoor
open Go.RowKit Go.Shelf Go.Maps

theorem variant_c {D : Nat} {W : World} {v v' : Value} {c c' : List Nd} (h : TC D W v c) (h' : TC D W v' c') :
    Calls Tryd.prog 7 #[v, v'] W fun e W' => ∃ (f : Bool) (r : Int), e = .returned (.tuple #[.bool f, .int .i64 r]) ∧ Below W.heap.size W W' ∧ (okC c → okC c' → f = decide (canon 0 c = canon 0 c')) := by
  obtain ⟨p, rfl, hp, _, rfl⟩ := h D (Nat.le_refl _)
  obtain ⟨t, rfl, ht, _, rfl⟩ := h' D (Nat.le_refl _)
  by_cases hok : (okT p && okT t) = true
  · rw [Bool.and_eq_true] at hok
    refine (variant_any p t W hp ht hok.1 hok.2).mono fun e W' h => ?_
    exact ⟨_, _, h.1, h.2, fun _ _ => rfl⟩
  · refine (variant_no p t W hp ht (by simpa using hok)).mono fun e W' h => ?_
    refine ⟨_, _, h.1, h.2, fun h1 h2 => ?_⟩
    unfold okC at h1 h2
    rw [← okT_code] at h1 h2
    exact (hok (by rw [h1, h2]; rfl)).elim
theorem zero_tc (D : Nat) (W : World) : TC (D + 1) W (⟨0, 0, ⟨#[]⟩, none, 0, 0⟩ : TV).val [(⟨0, 0, ⟨#[]⟩, none, 0, 0⟩ : TV).nd] :=
  ((holds_leaf ⟨0, 0, ⟨#[]⟩, none, 0, 0⟩ rfl (by simp [ByteArray.size]) 0 W).mono (by omega) (Nat.le_refl _)).holdsS.tc
/-- What Rename answers: a term in any case; where there is no error, one that is numbered as the first. -/
theorem ren_tc {n : Nat} {t : Tm n} {lo : Nat} {W' : World} {x : TV} {r : Int} (h : RenSays t lo W' x r) : ∃ c, TC (n + 1) W' x.val c ∧ (r = 0 → okC c ∧ canon 0 (code t) = canon 0 c) := by
  rcases h with ⟨rfl, f, h1, h2⟩ | ⟨h1, rfl⟩
  · exact ⟨_, h2.holdsS.tc, fun _ => ⟨h1, (canon_canon f (code t)).symm⟩⟩
  · exact ⟨_, zero_tc n W', fun h => (h1 h).elim⟩

end Go.Proofs.YtcdbbimhbijipaaDoor

/- What General answers: it matches both; what matches both matches it; the two sides may be changed. -/
namespace Go.Proofs.YtcdbbimhbijipaaDoor
open Go.RowKit Go.Shelf Go.Maps

theorem prs_word : ∀ {n : Nat} (a b : Tm n), Wl a → Wl b → ∀ p ∈ prs a b, WordP p
  | 0, a, _, _, _, _, _ => Empty.elim a
  | n + 1, a, b, ha, hb, p, hp => by
    cases hap : apart a.tv b.tv with
    | true =>
      rw [prs_apart hap] at hp
      simp at hp; subst hp
      exact ⟨word_code a ha, word_code b hb⟩
    | false =>
      rw [prs_like hap] at hp
      have key : ∀ (l r : List (Tm n)), (∀ u ∈ l, Wl u) → (∀ u ∈ r, Wl u) → ∀ p ∈ zf prs l r, WordP p := by
        intro l
        induction l with
        | nil => intro r _ _ p hp; cases r <;> simp [zf] at hp
        | cons u l ih =>
          intro r h1 h2 p hp
          cases r with
          | nil => simp [zf] at hp
          | cons v r =>
            simp only [zf] at hp
            rcases List.mem_append.1 hp with hp | hp
            · exact prs_word u v (h1 u (by simp)) (h2 v (by simp)) p hp
            · exact ih r (fun z hz => h1 z (by simp [hz])) (fun z hz => h2 z (by simp [hz])) p hp
      exact key _ _ ha.2 hb.2 p hp
theorem stepsP_sub : ∀ (l ps : List Pr), ∀ p ∈ stepsP ps l, p ∈ ps ∨ p ∈ l
  | [], ps, p, hp => .inl hp
  | q :: l, ps, p, hp => by
    have e : stepsP ps (q :: l) = stepsP (stpP ps q) l := rfl
    rw [e] at hp
    rcases stepsP_sub l _ p hp with h | h
    · unfold stpP at h
      split at h
      · exact .inl h
      · rcases List.mem_append.1 h with h | h
        · exact .inl h
        · simp at h; subst h; exact .inr (by simp)
    · exact .inr (by simp [h])
/-- The pair that a variable stands for. -/
def pairOf (P : List Pr) (N : Int) : Pr := P[N.toNat]?.getD ([varNd 0], [varNd 0])
theorem pairOf_ι {P : List Pr} {p : Pr} (h : p ∈ P) : pairOf P (ιP P p) = p := by
  have hlt := List.idxOf_lt_length_of_mem h
  unfold pairOf ιP
  have e : ((P.idxOf p : Nat) : Int).toNat = P.idxOf p := by omega
  rw [e, List.getElem?_eq_getElem hlt, List.getElem_idxOf hlt]
  rfl
theorem pairOf_word {P : List Pr} (h : ∀ p ∈ P, WordP p) (N : Int) : WordP (pairOf P N) := by
  unfold pairOf
  cases hg : P[N.toNat]? with
  | none => exact ⟨word_var 0, word_var 0⟩
  | some p => exact h p (List.mem_of_getElem? hg)
theorem lgg_words {n : Nat} {a b : Tm n} (ha : Wl a) (hb : Wl b) : ∀ p ∈ stepsP [] (prs a b), WordP p := fun p hp => by
  rcases stepsP_sub _ _ p hp with h | h
  · cases h
  · exact prs_word a b ha hb p h
theorem lgg_left {n : Nat} (a b : Tm n) (ha : Wl a) (hb : Wl b) : Matches (lgg a b) (code a) :=
  ⟨fun N => (pairOf (stepsP [] (prs a b)) N).1, fun N => (pairOf_word (lgg_words ha hb) N).1, Gc_left a b ha hb fun p hp => by rw [pairOf_ι (stepsP_mem _ _ p hp)]⟩
theorem lgg_right {n : Nat} (a b : Tm n) (ha : Wl a) (hb : Wl b) : Matches (lgg a b) (code b) :=
  ⟨fun N => (pairOf (stepsP [] (prs a b)) N).2, fun N => (pairOf_word (lgg_words ha hb) N).2, Gc_right a b ha hb fun p hp => by rw [pairOf_ι (stepsP_mem _ _ p hp)]⟩
theorem lgg_least {m n : Nat} (c : Tm m) (a b : Tm n) (hc : Wl c) (ok : okT c = true) (ha : Wl a) (hb : Wl b) (h1 : Matches (code c) (code a)) (h2 : Matches (code c) (code b)) : Matches (code c) (lgg a b) := by
  obtain ⟨θ, t1, t2⟩ := h1
  obtain ⟨τ, s1, s2⟩ := h2
  exact ⟨_, fun N => both_word _ _ _, Gc_least t1 s1 c hc ok a b ha hb t2 s2⟩
theorem swap_inj {p q : Pr} (h : swapP p = swapP q) : p = q := by
  have h1 := congrArg Prod.fst h
  have h2 := congrArg Prod.snd h
  exact Prod.ext h2 h1
theorem idxOf_swap : ∀ (P : List Pr) (p : Pr), (P.map swapP).idxOf (swapP p) = P.idxOf p
  | [], _ => rfl
  | q :: P, p => by
    rw [List.map_cons, List.idxOf_cons, List.idxOf_cons]
    by_cases e : q = p
    · subst e; simp
    · have e' : ¬ swapP q = swapP p := fun h => e (swap_inj h)
      simp only [beq_eq_false_iff_ne.2 e, beq_eq_false_iff_ne.2 e', cond_false]
      rw [idxOf_swap P p]
theorem stepsP_swap : ∀ (l ps : List Pr), stepsP (ps.map swapP) (l.map swapP) = (stepsP ps l).map swapP
  | [], _ => rfl
  | q :: l, ps => by
    have e1 : stepsP (ps.map swapP) ((q :: l).map swapP) = stepsP (stpP (ps.map swapP) (swapP q)) (l.map swapP) := rfl
    have e2 : stepsP ps (q :: l) = stepsP (stpP ps q) l := rfl
    rw [e1, e2, ← stepsP_swap l]
    congr 1
    unfold stpP
    by_cases h : q ∈ ps
    · rw [if_pos h, if_pos (List.mem_map.2 ⟨q, h, rfl⟩)]
    · rw [if_neg h, if_neg]
      · simp
      · intro h'
        obtain ⟨r, hr, e⟩ := List.mem_map.1 h'
        exact h (swap_inj e ▸ hr)
theorem lgg_swap {n : Nat} (a b : Tm n) (ha : Wl a) (hb : Wl b) : lgg b a = lgg a b := by
  unfold lgg
  refine Gc_swap a b ha hb fun p _ => ?_
  have h := stepsP_swap (prs a b) []
  rw [List.map_nil] at h
  rw [prs_swap a b ha hb, h]
  unfold ιP
  rw [idxOf_swap]
theorem Gc_ok {ι : Pr → Int} : ∀ {n : Nat} (a b : Tm n), okT a = true → (∀ p ∈ prs a b, 0 ≤ ι p ∧ ι p ≤ 1099511627776) → okC (Gc ι a b) ∧ (Gc ι a b).length ≤ (code a).length
  | 0, a, _, _, _ => Empty.elim a
  | n + 1, a, b, ok, h => by
    rw [code_kids, List.length_cons]
    cases hap : apart a.tv b.tv with
    | true =>
      rw [prs_apart hap] at h
      rw [Gc_apart hap]
      obtain ⟨h0, h1⟩ := h _ (List.mem_singleton.2 rfl)
      exact ⟨by simp [okC, okNd, varNd, h0, h1], by simp⟩
    | false =>
      rw [prs_like hap] at h
      rw [Gc_like hap]
      have h2 : okNd a.tv.nd = true := by
        rw [okT_code, code_kids] at ok
        simp only [List.all_cons, Bool.and_eq_true] at ok
        exact ok.1
      have key : ∀ (l r : List (Tm n)), (∀ u ∈ l, okT u = true) → (∀ p ∈ zf prs l r, 0 ≤ ι p ∧ ι p ≤ 1099511627776) → okC (zf (Gc ι) l r) ∧ (zf (Gc ι) l r).length ≤ (l.flatMap code).length := by
        intro l
        induction l with
        | nil => intro r _ _; cases r <;> exact ⟨rfl, by simp [zf]⟩
        | cons u l ih =>
          intro r k1 k2
          cases r with
          | nil => exact ⟨rfl, by simp [zf]⟩
          | cons v r =>
            simp only [zf] at k2 ⊢
            obtain ⟨p1, p2⟩ := Gc_ok u v (k1 u (by simp)) (fun p hp => k2 p (List.mem_append_left _ hp))
            obtain ⟨q1, q2⟩ := ih r (fun z hz => k1 z (by simp [hz])) (fun p hp => k2 p (List.mem_append_right _ hp))
            refine ⟨?_, by rw [List.length_append, List.flatMap_cons, List.length_append]; omega⟩
            unfold okC at *
            rw [List.all_append, p1, q1]; rfl
      obtain ⟨r1, r2⟩ := key a.kids b.kids (ok_kids' ok) h
      refine ⟨?_, by rw [List.length_cons]; omega⟩
      unfold okC at *
      rw [List.all_cons, h2, r1]; rfl
theorem lgg_ok {n : Nat} (a b : Tm n) (ok : okT a = true) (hl : (code a).length ≤ 1000000000) : okC (lgg a b) ∧ (lgg a b).length ≤ (code a).length := by
  refine Gc_ok a b ok fun p hp => ?_
  have hm := stepsP_mem (prs a b) [] p hp
  have hlt := List.idxOf_lt_length_of_mem hm
  obtain ⟨d, hd, hdl⟩ := stepsP_ext (prs a b) []
  have h1 := prs_len a b
  have h2 : (stepsP [] (prs a b)).length ≤ (prs a b).length := by rw [hd]; simpa using hdl
  unfold ιP
  omega
/-- What matches a term that matches another matches that. -/
theorem matches_on {x y z : List Nd} (hy : okC y) (h : Matches x y) (h' : Matches y z) : Matches x z :=
  matches_trans h h' fun σ h1 h2 N ⟨w, hw, hk, e⟩ v hv => by
    refine okC_vok hy v ?_
    rw [← h2]
    refine List.mem_flatMap.2 ⟨w, hw, ?_⟩
    unfold subN
    rw [if_pos hk, e]
    exact hv
end Go.Proofs.YtcdbbimhbijipaaDoor

