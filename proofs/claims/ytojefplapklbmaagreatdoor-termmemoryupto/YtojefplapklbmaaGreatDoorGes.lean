import Derived.Test.YtojefplapklbmaaGreatDoorGn
import Derived.Test.YtojefplapklbmaaGreatDoorVrs
import Derived.Test.YtojefplapklbmaaGreatDoorXs
import Derived.Test.YtojefplapklbmaaGreatDoorAns
import Derived.Test.YtojefplapklbmaaGreatDoorObs
import Derived.Test.YtojefplapklbmaaGreatDoorNss
import Derived.Maps.RangeWalk
import Derived.Maps.OwnSet
import Derived.Maps.Views
/- The contract of term.General. -/
namespace Go.Proofs.YtojefplapklbmaaGreatDoor
open Go.RowKit Go.Shelf Go.Maps

/-- The generalization of two terms. -/
def lgg {n : Nat} (a b : Tm n) : List Nd := Gc (ιP (stepsP [] (prs a b))) a b
theorem checkPair {n : Nat} (x y : Tm n) (w W : World) (hx : IsT w.heap.size w x) (hy : IsT w.heap.size w y) (hb : Below w.heap.size w W) :
    Calls Tryz.prog 62 #[.slice (some ⟨W.heap.size, 0, none⟩) 2 2] (W.alloc (.cells #[.int .i64 x.tv.k, .int .i64 x.tv.N, .string x.tv.s, .slice x.tv.a x.tv.len x.tv.cap, .int .i64 y.tv.k, .int .i64 y.tv.N, .string y.tv.s, .slice y.tv.a y.tv.len y.tv.cap] 24)) fun e W2 => e = .returned (.int .i64 (chkL [x, y])) ∧ Below W.heap.size W W2 := by
  have hp := pair_lies hx hy W hb
  have hB : Below W.heap.size W (W.alloc (.cells #[.int .i64 x.tv.k, .int .i64 x.tv.N, .string x.tv.s, .slice x.tv.a x.tv.len x.tv.cap, .int .i64 y.tv.k, .int .i64 y.tv.N, .string y.tv.s, .slice y.tv.a y.tv.len y.tv.cap] 24)) := (Below.refl _ W).alloc (Nat.le_refl _) _
  have h := checkAll_any [x, y] (some ⟨W.heap.size, 0, none⟩) 2 2 (W.alloc (.cells #[.int .i64 x.tv.k, .int .i64 x.tv.N, .string x.tv.s, .slice x.tv.a x.tv.len x.tv.cap, .int .i64 y.tv.k, .int .i64 y.tv.N, .string y.tv.s, .slice y.tv.a y.tv.len y.tv.cap] 24)) rfl (by omega) hp
  exact h.mono fun e W2 h => ⟨h.1, hB.trans (h.2.mono hB.size)⟩

set_option maxRecDepth 100000 in
set_option maxHeartbeats 1000000 in
theorem general_any {n : Nat} (a b : Tm n) (w : World) (ha : IsT w.heap.size w a) (hb : IsT w.heap.size w b) (oka : okT a = true) (okb : okT b = true) (pa : ∀ x ∈ parts a, Pw x) (pb : ∀ x ∈ parts b, Pw x) (hla : (parts a).length ≤ 1000000000) (hlb : (parts b).length ≤ 1000000000) (htab : Tab w.heap.size w) :
    Calls Tryz.prog 19 #[a.tv.val, b.tv.val] w fun e W' => ∃ x : TV, e = .returned (.tuple #[x.val, .int .i64 0]) ∧ Below w.heap.size w W' ∧ HoldsT (n + 1) w.heap.size W' x.val (lgg a b) := by
  obtain ⟨W3, hW3, hB3, hba, hbb, hbz, hs3⟩ := three_new w a.tv b.tv
  have hck := checkPair a b w W3 ha hb hB3
  rw [chkL_yes (show [a, b].all okT = true by simp [oka, okb])] at hck
  have hadr : (⟨W3.heap.size, 0, none⟩ : Addr) = ⟨w.heap.size + 1 + 1 + 1, 0, none⟩ := by rw [hs3]
  rw [hadr] at hck
  clear hadr
  have hpl : (prs a b).length ≤ 1000000000 := by
    have h1 := prs_len a b
    have h2 : (code a).length = (parts a).length := by simp [code]
    omega
  have hgen : ∀ (gb mb : Nat) (W : World), Sta w.heap.size gb mb W → Si w.heap.size gb mb [] W → Below w.heap.size w W → Calls Tryz.prog 63 #[a.tv.val, b.tv.val, .func (.func 64) #[] #[.pointer (some ⟨gb, 0, none⟩)]] W fun e W' => ∃ x : TV, e = .returned x.val ∧ GrB (fun k => k = mb) W.heap.size W W' ∧ HoldsT (n + 1) W.heap.size W' x.val (lgg a b) := fun gb mb W hS hI hbw => by
    refine (generalize_any n a b [] W hS hI (ha.below hbw) (hb.below hbw) oka pa pb hla hlb (by simpa using hpl)).mono fun e W' h => ?_
    obtain ⟨x, e1, e2, _, e4⟩ := h
    exact ⟨x, e1, e2, e4⟩
  have hsi : ∀ W5, Below w.heap.size w W5 → Si w.heap.size (W5.heap.size + 1) W5.heap.size [] ((W5.alloc (.map #[] 0)).alloc (.cells #[.map (some W5.heap.size)] 92)) := fun W5 hb5 => by
    have hb7 : Below w.heap.size w ((W5.alloc (.map #[] 0)).alloc (.cells #[.map (some W5.heap.size)] 92)) := (hb5.alloc hb5.size _).alloc (by have := hb5.size; simp; omega) _
    refine ⟨List.nodup_nil, (fun q hq => by cases hq), htab.on hb7, ?_, .map [], (World.ownsMap_made W5 Tryz.prog 9 (plainElem Tryz.prog 2)).alloc _, rfl, (fun k => by simp [Maps.has]), (fun q hq => by cases hq)⟩
    have h := World.alloc_heap_new (W5.alloc (.map #[] 0)) (.cells #[.map (some W5.heap.size)] 92)
    rw [World.size_alloc] at h
    exact h
  have a0 := hba.c0
  have a1 := hba.c1
  have a2 := hba.c2
  have a3 := hba.c3
  have b0 := hbb.c0
  have b1 := hbb.c1
  have b2 := hbb.c2
  have b3 := hbb.c3
  have hmm := @run_makeMap Tryz.prog
  simp only [TV.val] at hck hgen ⊢
  have HGEN := hide hgen
  have HSI := hide hsi
  have HB3 := hide hB3
  have HBA := hide hba
  have HBB := hide hbb
  have HBZ := hide hbz
  clear ha hb oka okb pa pb htab hpl hgen hsi hB3 hba hbb hbz
  go_enter Tryz.func19, Tryz.ntmps19
  go_wp2_with fail
  refine hck.mono ?_
  clear hck a0 a1 a2 a3 b0 b1 b2 b3
  rintro e W5 ⟨rfl, hb5⟩
  have hs5 := hb5.size
  have hB5 : Below w.heap.size w W5 := (unhide HB3).trans (hb5.mono (by omega))
  have hB7 : Below W5.heap.size W5 ((W5.alloc (.map #[] 0)).alloc (.cells #[.map (some W5.heap.size)] 92)) := ((Below.refl _ W5).alloc (Nat.le_refl _) _).alloc (by simp) _
  have hs7 : ((W5.alloc (.map #[] 0)).alloc (.cells #[.map (some W5.heap.size)] 92)).heap.size = W5.heap.size + 2 := by simp
  have hbw7 := hB5.trans (hB7.mono (by omega))
  have hI7 := (unhide HSI) W5 hB5
  have hba7 := ((unhide HBA).kept hb5).kept hB7
  have hbb7 := ((unhide HBB).kept hb5).kept hB7
  have hbz7 := ((unhide HBZ).kept hb5).kept hB7
  have hg7 := (unhide HGEN) (W5.heap.size + 1) W5.heap.size _ ⟨by omega, by omega, by omega, by omega⟩ hI7 hbw7
  have a0 := hba7.c0
  have a1 := hba7.c1
  have a2 := hba7.c2
  have a3 := hba7.c3
  have b0 := hbb7.c0
  have b1 := hbb7.c1
  have b2 := hbb7.c2
  have b3 := hbb7.c3
  have HBZ7 := hide hbz7
  have HBW7 := hide hbw7
  clear hI7 hba7 hbb7 hbz7 hbw7 hB7 hb5 HSI HGEN HBA HBB HBZ
  go_wp2_with fail
  refine hg7.mono ?_
  clear hg7 a0 a1 a2 a3 b0 b1 b2 b3 hmm
  rintro e W8 ⟨x, rfl, hg8, hx8⟩
  rw [hs7] at hg8 hx8
  have hs8 := hg8.size
  have hbz8 : BoxT W8 (w.heap.size + 2) ⟨0, 0, ⟨#[]⟩, none, 0, 0⟩ := (hg8.block _ (by omega) (by omega)).trans (unhide HBZ7)
  obtain ⟨⟨z0, z1, z2, z3⟩, y0, y1, y2, y3⟩ := zbox_kept hbz8
  have hfin := (holds_set4 hx8 (b := w.heap.size + 2) (by omega) 0 x).mono (lo' := w.heap.size) (Nat.le_refl _) (by omega)
  have hbf := set4_below ((unhide HBW7).trans (hg8.below (n₀ := w.heap.size) (fun k hx => by omega) (by omega))) (b := w.heap.size + 2) (by omega) 0 x
  have HF := hide (And.intro hbf hfin)
  clear hbf hfin hx8 hg8 hbz8
  go_wp2_with fail
  exact bodyPost_ret (v := .tuple #[x.val, .int .i64 0]) (by simp [results, Tryz.results19, go_sem, TV.val, z0, z1, z2, z3]) rfl ⟨x, rfl, unhide HF⟩
end Go.Proofs.YtojefplapklbmaaGreatDoor

/- What General answers: it matches both; what matches both matches it; the two sides may be changed. -/
namespace Go.Proofs.YtojefplapklbmaaGreatDoor
open Go.RowKit Go.Shelf Go.Maps

theorem prs_word : ∀ {n : Nat} (a b : Tm n), Wl a → Wl b → ∀ p ∈ prs a b, WordP p
  | 0, a, _, _, _, _, _ => Empty.elim a
  | n + 1, a, b, ha, hb, p, hp => by
    cases hap : apart a.tv b.tv with
    | true =>
      rw [prs_apart hap] at hp
      simp at hp; subst hp
      exact ⟨word_code a ha, word_code b hb⟩
    | false =>
      rw [prs_like hap] at hp
      have key : ∀ (l r : List (Tm n)), (∀ u ∈ l, Wl u) → (∀ u ∈ r, Wl u) → ∀ p ∈ zf prs l r, WordP p := by
        intro l
        induction l with
        | nil => intro r _ _ p hp; cases r <;> simp [zf] at hp
        | cons u l ih =>
          intro r h1 h2 p hp
          cases r with
          | nil => simp [zf] at hp
          | cons v r =>
            simp only [zf] at hp
            rcases List.mem_append.1 hp with hp | hp
            · exact prs_word u v (h1 u (by simp)) (h2 v (by simp)) p hp
            · exact ih r (fun z hz => h1 z (by simp [hz])) (fun z hz => h2 z (by simp [hz])) p hp
      exact key _ _ ha.2 hb.2 p hp
theorem stepsP_sub : ∀ (l ps : List Pr), ∀ p ∈ stepsP ps l, p ∈ ps ∨ p ∈ l
  | [], ps, p, hp => .inl hp
  | q :: l, ps, p, hp => by
    have e : stepsP ps (q :: l) = stepsP (stpP ps q) l := rfl
    rw [e] at hp
    rcases stepsP_sub l _ p hp with h | h
    · unfold stpP at h
      split at h
      · exact .inl h
      · rcases List.mem_append.1 h with h | h
        · exact .inl h
        · simp at h; subst h; exact .inr (by simp)
    · exact .inr (by simp [h])
/-- The pair that a variable stands for. -/
def pairOf (P : List Pr) (N : Int) : Pr := P[N.toNat]?.getD ([varNd 0], [varNd 0])
theorem pairOf_ι {P : List Pr} {p : Pr} (h : p ∈ P) : pairOf P (ιP P p) = p := by
  have hlt := List.idxOf_lt_length_of_mem h
  unfold pairOf ιP
  have e : ((P.idxOf p : Nat) : Int).toNat = P.idxOf p := by omega
  rw [e, List.getElem?_eq_getElem hlt, List.getElem_idxOf hlt]
  rfl
theorem pairOf_word {P : List Pr} (h : ∀ p ∈ P, WordP p) (N : Int) : WordP (pairOf P N) := by
  unfold pairOf
  cases hg : P[N.toNat]? with
  | none => exact ⟨word_var 0, word_var 0⟩
  | some p => exact h p (List.mem_of_getElem? hg)
theorem lgg_words {n : Nat} {a b : Tm n} (ha : Wl a) (hb : Wl b) : ∀ p ∈ stepsP [] (prs a b), WordP p := fun p hp => by
  rcases stepsP_sub _ _ p hp with h | h
  · cases h
  · exact prs_word a b ha hb p h
theorem lgg_left {n : Nat} (a b : Tm n) (ha : Wl a) (hb : Wl b) : Matches (lgg a b) (code a) :=
  ⟨fun N => (pairOf (stepsP [] (prs a b)) N).1, fun N => (pairOf_word (lgg_words ha hb) N).1, Gc_left a b ha hb fun p hp => by rw [pairOf_ι (stepsP_mem _ _ p hp)]⟩
theorem lgg_right {n : Nat} (a b : Tm n) (ha : Wl a) (hb : Wl b) : Matches (lgg a b) (code b) :=
  ⟨fun N => (pairOf (stepsP [] (prs a b)) N).2, fun N => (pairOf_word (lgg_words ha hb) N).2, Gc_right a b ha hb fun p hp => by rw [pairOf_ι (stepsP_mem _ _ p hp)]⟩
theorem lgg_least {m n : Nat} (c : Tm m) (a b : Tm n) (hc : Wl c) (ok : okT c = true) (ha : Wl a) (hb : Wl b) (h1 : Matches (code c) (code a)) (h2 : Matches (code c) (code b)) : Matches (code c) (lgg a b) := by
  obtain ⟨θ, t1, t2⟩ := h1
  obtain ⟨τ, s1, s2⟩ := h2
  exact ⟨_, fun N => both_word _ _ _, Gc_least t1 s1 c hc ok a b ha hb t2 s2⟩
theorem swap_inj {p q : Pr} (h : swapP p = swapP q) : p = q := by
  have h1 := congrArg Prod.fst h
  have h2 := congrArg Prod.snd h
  exact Prod.ext h2 h1
theorem idxOf_swap : ∀ (P : List Pr) (p : Pr), (P.map swapP).idxOf (swapP p) = P.idxOf p
  | [], _ => rfl
  | q :: P, p => by
    rw [List.map_cons, List.idxOf_cons, List.idxOf_cons]
    by_cases e : q = p
    · subst e; simp
    · have e' : ¬ swapP q = swapP p := fun h => e (swap_inj h)
      simp only [beq_eq_false_iff_ne.2 e, beq_eq_false_iff_ne.2 e', cond_false]
      rw [idxOf_swap P p]
theorem stepsP_swap : ∀ (l ps : List Pr), stepsP (ps.map swapP) (l.map swapP) = (stepsP ps l).map swapP
  | [], _ => rfl
  | q :: l, ps => by
    have e1 : stepsP (ps.map swapP) ((q :: l).map swapP) = stepsP (stpP (ps.map swapP) (swapP q)) (l.map swapP) := rfl
    have e2 : stepsP ps (q :: l) = stepsP (stpP ps q) l := rfl
    rw [e1, e2, ← stepsP_swap l]
    congr 1
    unfold stpP
    by_cases h : q ∈ ps
    · rw [if_pos h, if_pos (List.mem_map.2 ⟨q, h, rfl⟩)]
    · rw [if_neg h, if_neg]
      · simp
      · intro h'
        obtain ⟨r, hr, e⟩ := List.mem_map.1 h'
        exact h (swap_inj e ▸ hr)
theorem lgg_swap {n : Nat} (a b : Tm n) (ha : Wl a) (hb : Wl b) : lgg b a = lgg a b := by
  unfold lgg
  refine Gc_swap a b ha hb fun p _ => ?_
  have h := stepsP_swap (prs a b) []
  rw [List.map_nil] at h
  rw [prs_swap a b ha hb, h]
  unfold ιP
  rw [idxOf_swap]
theorem Gc_ok {ι : Pr → Int} : ∀ {n : Nat} (a b : Tm n), okT a = true → (∀ p ∈ prs a b, 0 ≤ ι p ∧ ι p ≤ 1099511627776) → okC (Gc ι a b) ∧ (Gc ι a b).length ≤ (code a).length
  | 0, a, _, _, _ => Empty.elim a
  | n + 1, a, b, ok, h => by
    rw [code_kids, List.length_cons]
    cases hap : apart a.tv b.tv with
    | true =>
      rw [prs_apart hap] at h
      rw [Gc_apart hap]
      obtain ⟨h0, h1⟩ := h _ (List.mem_singleton.2 rfl)
      exact ⟨by simp [okC, okNd, varNd, h0, h1], by simp⟩
    | false =>
      rw [prs_like hap] at h
      rw [Gc_like hap]
      have h2 : okNd a.tv.nd = true := by
        rw [okT_code, code_kids] at ok
        simp only [List.all_cons, Bool.and_eq_true] at ok
        exact ok.1
      have key : ∀ (l r : List (Tm n)), (∀ u ∈ l, okT u = true) → (∀ p ∈ zf prs l r, 0 ≤ ι p ∧ ι p ≤ 1099511627776) → okC (zf (Gc ι) l r) ∧ (zf (Gc ι) l r).length ≤ (l.flatMap code).length := by
        intro l
        induction l with
        | nil => intro r _ _; cases r <;> exact ⟨rfl, by simp [zf]⟩
        | cons u l ih =>
          intro r k1 k2
          cases r with
          | nil => exact ⟨rfl, by simp [zf]⟩
          | cons v r =>
            simp only [zf] at k2 ⊢
            obtain ⟨p1, p2⟩ := Gc_ok u v (k1 u (by simp)) (fun p hp => k2 p (List.mem_append_left _ hp))
            obtain ⟨q1, q2⟩ := ih r (fun z hz => k1 z (by simp [hz])) (fun p hp => k2 p (List.mem_append_right _ hp))
            refine ⟨?_, by rw [List.length_append, List.flatMap_cons, List.length_append]; omega⟩
            unfold okC at *
            rw [List.all_append, p1, q1]; rfl
      obtain ⟨r1, r2⟩ := key a.kids b.kids (ok_kids' ok) h
      refine ⟨?_, by rw [List.length_cons]; omega⟩
      unfold okC at *
      rw [List.all_cons, h2, r1]; rfl
theorem lgg_ok {n : Nat} (a b : Tm n) (ok : okT a = true) (hl : (code a).length ≤ 1000000000) : okC (lgg a b) ∧ (lgg a b).length ≤ (code a).length := by
  refine Gc_ok a b ok fun p hp => ?_
  have hm := stepsP_mem (prs a b) [] p hp
  have hlt := List.idxOf_lt_length_of_mem hm
  obtain ⟨d, hd, hdl⟩ := stepsP_ext (prs a b) []
  have h1 := prs_len a b
  have h2 : (stepsP [] (prs a b)).length ≤ (prs a b).length := by rw [hd]; simpa using hdl
  unfold ιP
  omega
/-- What matches a term that matches another matches that. -/
theorem matches_on {x y z : List Nd} (hy : okC y) (h : Matches x y) (h' : Matches y z) : Matches x z :=
  matches_trans h h' fun σ h1 h2 N ⟨w, hw, hk, e⟩ v hv => by
    refine okC_vok hy v ?_
    rw [← h2]
    refine List.mem_flatMap.2 ⟨w, hw, ?_⟩
    unfold subN
    rw [if_pos hk, e]
    exact hv
end Go.Proofs.YtojefplapklbmaaGreatDoor

/- What is read of a term's numbers: they are of 64 bits. A term that is formed has parts of a kind that can be written. -/
namespace Go.Proofs.YtojefplapklbmaaGreatDoor
open Go.RowKit Go.Joins Go.WideShapes

theorem okNd_le {k N : Int} {s : List UInt8} {len : Nat} (h : okNd (k, N, s, len) = true) : (1 ≤ k ∧ k ≤ 4) ∧ s.length ≤ 100 ∧ len ≤ 50 := by
  simp only [okNd] at h
  by_cases h1 : k = 1
  · rw [if_pos h1] at h
    simp at h
    obtain ⟨⟨_, h2⟩, h3⟩ := h
    subst h2
    simp
    omega
  · rw [if_neg h1] at h
    by_cases h2 : k = 2
    · rw [if_pos h2] at h
      simp at h
      obtain ⟨h2, h3⟩ := h
      subst h2
      simp
      omega
    · rw [if_neg h2] at h
      by_cases h3 : k = 3
      · rw [if_pos h3] at h
        simp at h
        omega
      · rw [if_neg h3] at h
        by_cases h4 : k = 4
        · rw [if_pos h4] at h
          simp at h
          omega
        · rw [if_neg h4] at h
          cases h
theorem pw_of {n : Nat} {t : Tm n} (ok : okT t = true) (h : ∀ x ∈ parts t, Nw x) : ∀ x ∈ parts t, Pw x := fun x hx => by
  rw [okT_code] at ok
  have h1 : x.nd ∈ code t := List.mem_map.2 ⟨x, hx, rfl⟩
  have h2 := List.all_eq_true.1 ok _ h1
  obtain ⟨h4, h5, h6⟩ := okNd_le (show okNd (x.k, x.N, x.s.toList, x.len) = true from h2)
  rw [bytes_len] at h5
  exact ⟨⟨by omega, by omega⟩, h x hx, h5, h6⟩
end Go.Proofs.YtojefplapklbmaaGreatDoor

/- The contract of hornref.Flat: a new row with the cells of all parts of a term, in their order. -/
namespace Go.Proofs.YtojefplapklbmaaGreatDoor
open Go.RowKit Go.Shelf

theorem parts_pos : ∀ {n : Nat} (t : Tm n), 1 ≤ (parts t).length
  | 0, t => Empty.elim t
  | _ + 1, t => by simp [parts]
theorem row_all {l : List TV} : ∀ u ∈ l.flatMap TV.row, u.oneCell' = true := by
  intro u hu
  obtain ⟨x, _, hx⟩ := List.mem_flatMap.1 hu
  exact row_one u hx
/-- What a row that is not empty is, cell by cell. -/
theorem owns_src {W : World} {base : Nat} {v : Value} {l : List TV} (h : W.ownsRow base 24 4 v l.length (l.flatMap TV.row)) (h1 : 1 ≤ l.length) :
    ∃ g cap, v = .slice (some ⟨g, 0, none⟩) l.length cap ∧ base ≤ g ∧ g < W.heap.size ∧ ∀ j u, (l.flatMap TV.row)[j]? = some u → W.cell? ((⟨g, 0, none⟩ : Addr).add j) = some u := by
  obtain ⟨_, h2⟩ := h
  rcases h2 with ⟨_, hn⟩ | ⟨g, cap, cur, hv, hg, hb, _, _, _, htk⟩
  · omega
  · refine ⟨g, cap, hv, hg, (Array.getElem?_eq_some_iff.1 hb).1, fun j u hj => ?_⟩
    rw [addr_add, Nat.zero_add]
    rw [← htk, List.getElem?_take] at hj
    split at hj
    · simp [World.cell?, hb]
      simpa using hj
    · cases hj

set_option maxRecDepth 100000 in
set_option maxHeartbeats 1000000 in
theorem flat_any : ∀ (n : Nat) (t : Tm n) (w : World), IsT w.heap.size w t → (parts t).length ≤ 1000000000 → Calls Tryz.prog 36 #[t.tv.val] w fun e W' => ∃ v, e = .returned v ∧ Below w.heap.size w W' ∧ W'.ownsRow w.heap.size 24 4 v (parts t).length ((parts t).flatMap TV.row) := by
  intro n
  induction n with
  | zero => intro t; exact Empty.elim t
  | succ n ih =>
    intro t w ht hp
    obtain ⟨⟨k, kN, s, a, len, cap⟩, kids⟩ := t
    obtain ⟨hlen, hmax, hsm, hkids⟩ := ht
    simp only [Tm.tv, Tm.kids] at hlen hmax hsm hkids
    have hp' : (kids.flatMap parts).length + 1 ≤ 1000000000 := by simpa [parts, Tm.tv, Tm.kids] using hp
    simp only [Tm.tv, TV.val, parts, Tm.kids]
    have HI := hide ih
    have hl1 : len ≤ kids.length := by omega
    have hl2 : kids.length ≤ len := by omega
    clear ih hp hlen
    obtain ⟨i0, hi, hz0, hz1, hz2⟩ := info_parts Tryz.info28
    go_enter Tryz.func36, Tryz.ntmps36
    go_wp2_with fail
    obtain ⟨W2, hW2, hB2, hbx, hb2, hsz2⟩ := two_new w ⟨k, kN, s, a, len, cap⟩ ⟨k, kN, s, a, len, cap⟩
    simp only at hW2
    rw [hW2]
    clear hW2
    have hown0 : W2.ownsRow (w.heap.size + 1) 24 4 (.slice (some ⟨w.heap.size + 1, 0, none⟩) 1 1) ((⟨k, kN, s, a, len, cap⟩ :: (kids.take 0).flatMap parts : List TV)).length ((⟨k, kN, s, a, len, cap⟩ :: (kids.take 0).flatMap parts : List TV).flatMap TV.row) :=
      ⟨by simp [TV.row], .inr ⟨w.heap.size + 1, 1, _, rfl, Nat.le_refl _, hb2, by simp, by decide, rfl, by simp [TV.row]⟩⟩
    have HB2 := hide hB2
    have HBX := hide hbx
    clear hB2 hbx hb2
    go_loopw [3, 4] (fun av i wr => ∃ j : Nat, j ≤ len ∧ i = .int .i64 j ∧ Below (w.heap.size + 1) W2 wr ∧ wr.ownsRow (w.heap.size + 1) 24 4 av ((⟨k, kN, s, a, len, cap⟩ :: (kids.take j).flatMap parts : List TV)).length ((⟨k, kN, s, a, len, cap⟩ :: (kids.take j).flatMap parts : List TV).flatMap TV.row)) (fun _ i _ => len - (intOf i).toNat)
    case atStart => exact ⟨0, Nat.zero_le _, rfl, Below.refl _ _, hown0⟩
    case round =>
      obtain ⟨j, hj, rfl, hb, hm⟩ := hrel
      clear hown0
      have hwr : w.heap.size + 2 ≤ wr.heap.size := by have := hb.size; omega
      have hbw : Below w.heap.size w wr := (unhide HB2).trans (hb.mono (by omega))
      have hbr : BoxT wr w.heap.size ⟨k, kN, s, a, len, cap⟩ := (hb.block w.heap.size (by omega)).trans (unhide HBX)
      have x3 := hbr.c3
      simp only at x3
      have HM := hide hm
      clear hm hbr
      by_cases hlt : j < len
      · obtain ⟨u, b, off, hu, rfl, ⟨c0, c1, c2, c3⟩, hT, hbk⟩ := kid_at hkids hbw hlt hl1
        have hpp := pre_parts kids j u hu
        have ihu := (unhide HI) u wr hT (by omega)
        have htk := take_parts kids j u hu
        have hpos := parts_pos u
        have HTK := hide htk
        clear hT hkids hu htk
        simp only [TV.val] at ihu
        have hj1 : (j : Int) < len := by omega
        go_wp2_with fail
        refine ihu.mono ?_
        clear ihu
        rintro e W5 ⟨v5, rfl, hb5, hown5⟩
        obtain ⟨g5, cap5, rfl, hg5, hlt5, hsrc⟩ := owns_src hown5 hpos
        have hgl : ∀ g, u3.ownBlock = some g → w.heap.size + 1 ≤ g ∧ g < wr.heap.size := fun g hg => owns_lt (unhide HM) hg
        have hown6 := owns_below (W' := W5) (unhide HM) (fun g hg => hb5.block g (hgl g hg).2)
        obtain ⟨l, hl⟩ : ∃ l : List TV, (⟨k, kN, s, some ⟨b, off, none⟩, len, cap⟩ :: (kids.take j).flatMap parts) = l := ⟨_, rfl⟩
        have hll : l.length = ((kids.take j).flatMap parts).length + 1 := by rw [← hl]; simp
        rw [hl] at hown6
        clear x3 c0 c1 c2 c3
        go_wp2_with (at_builtin; go_must (refine wpList_append_own_at _ rfl _ _ 22 rfl (w.heap.size + 1) 24 i0 _ 4 56 Tryz.underlying22 hi hz0 hz1 hz2 rfl (by decide) u3 l.length (l.flatMap TV.row) rfl hown6 ⟨g5, 0, none⟩ (parts u).length cap5 ((parts u).flatMap TV.row) rfl (row_len _) hsrc row_all (by unfold maxLen; omega) (by omega) (by have := hb5.size; omega) ?_; intro v' w1 hown' hgrow hnil hbk))
        have hbel : Below (w.heap.size + 1) W2 w1 := (hb.trans (hb5.mono (by omega))).grown hgrow (by have := hb5.size; omega) (fun g hg => (hgl g hg).1)
        have hlast : w1.ownsRow (w.heap.size + 1) 24 4 v' ((⟨k, kN, s, some ⟨b, off, none⟩, len, cap⟩ :: (kids.take (j + 1)).flatMap parts : List TV)).length ((⟨k, kN, s, some ⟨b, off, none⟩, len, cap⟩ :: (kids.take (j + 1)).flatMap parts : List TV).flatMap TV.row) := by
          rw [unhide HTK, ← List.cons_append, hl, List.length_append, List.flatMap_append]
          exact hown'
        exact ⟨⟨j + 1, by omega, by go_num, hbel, hlast⟩, by simp [intOf]; omega⟩
      · have ht : kids.take j = kids := List.take_of_length_le (by omega)
        have hm := unhide HM
        rw [ht] at hm
        have HM2 := hide hm
        clear hm ht hkids
        go_wp2_with fail
        refine bodyPost_ret (v := u3) (by simp [results, Tryz.results36, go_sem]) rfl ⟨_, rfl, hbw, ?_⟩
        obtain ⟨q1, q2⟩ := unhide HM2
        refine ⟨q1, ?_⟩
        rcases q2 with q2 | ⟨g, cp, cur, e1, e2, e3⟩
        · exact .inl q2
        · exact .inr ⟨g, cp, cur, e1, by omega, e3⟩
end Go.Proofs.YtojefplapklbmaaGreatDoor

/- Rows of numbers: the contracts of hornref.Has and hornref.SameNumbers. -/
namespace Go.Proofs.YtojefplapklbmaaGreatDoor
open Go.RowKit Go.Shelf Go.Maps

def i64s (l : List Int) : List Value := l.map (Value.int .i64)
/-- Numbers that lie in a row. -/
def IsN (W : World) (a : Option Addr) (len : Nat) (ns : List Int) : Prop :=
  len = ns.length ∧ len ≤ 1152921504606846976 ∧ (ns = [] ∨ ∃ b off, a = some ⟨b, off, none⟩ ∧ b < W.heap.size ∧ ∀ (j : Nat) N, ns[j]? = some N → W.cell? ⟨b, off + j, none⟩ = some (.int .i64 N))
theorem IsN.below {W W' : World} {a : Option Addr} {len : Nat} {ns : List Int} (h : IsN W a len ns) (hb : Below W.heap.size W W') : IsN W' a len ns := by
  obtain ⟨h1, h2, h3⟩ := h
  refine ⟨h1, h2, ?_⟩
  rcases h3 with h3 | ⟨b, off, ha, hlt, hk⟩
  · exact .inl h3
  · exact .inr ⟨b, off, ha, Nat.lt_of_lt_of_le hlt hb.size, fun j N hj => (hb.cell (p := ⟨b, off + j, none⟩) hlt).trans (hk j N hj)⟩
/-- A row of numbers of the call's own. -/
def OwnN (base : Nat) (W : World) (v : Value) (ns : List Int) : Prop := W.ownsRow base 2 1 v ns.length (i64s ns)
theorem OwnN.isN {base : Nat} {W : World} {v : Value} {ns : List Int} (h : OwnN base W v ns) (hl : ns.length ≤ 1152921504606846976) : ∃ a cap, v = .slice a ns.length cap ∧ IsN W a ns.length ns := by
  obtain ⟨_, h2⟩ := h
  rcases h2 with ⟨hv, hn⟩ | ⟨g, cap, cur, hv, hg, hb, _, _, _, htk⟩
  · exact ⟨none, 0, by rw [hv, hn], rfl, hl, .inl (List.length_eq_zero_iff.1 hn)⟩
  · refine ⟨_, cap, hv, rfl, hl, .inr ⟨g, 0, rfl, (Array.getElem?_eq_some_iff.1 hb).1, fun j N hj => ?_⟩⟩
    have hj' : (i64s ns)[j]? = some (.int .i64 N) := by unfold i64s; rw [List.getElem?_map, hj]; rfl
    rw [← htk, List.getElem?_take] at hj'
    split at hj'
    · simp [World.cell?, hb]
      simpa using hj'
    · cases hj'
theorem OwnN.nil (base : Nat) (W : World) : OwnN base W (.slice none 0 0) [] := ⟨rfl, .inl ⟨rfl, rfl⟩⟩
/-- The j-th number. -/
theorem num_at {W : World} {a : Option Addr} {len : Nat} {ns : List Int} (h : IsN W a len ns) {j : Nat} (hj : j < len) : ∃ N b off, ns[j]? = some N ∧ a = some ⟨b, off, none⟩ ∧ W.cell? ⟨b, off + j, none⟩ = some (.int .i64 N) := by
  obtain ⟨h1, _, h3⟩ := h
  obtain ⟨N, hN⟩ : ∃ N, ns[j]? = some N := ⟨ns[j]'(by omega), List.getElem?_eq_getElem (by omega)⟩
  have hne : ns ≠ [] := by rintro rfl; simp at hN
  obtain ⟨b, off, ha, _, hk⟩ := h3.resolve_left hne
  exact ⟨N, b, off, hN, ha, hk j N hN⟩

/-- What Has answers. -/
def hasI (ns : List Int) (N : Int) : Int := if N ∈ ns then (ns.idxOf N : Nat) else -1
theorem hasI_at {ns : List Int} {N : Int} {j : Nat} (h : ns[j]? = some N) (hn : ∀ i M, ns[i]? = some M → i < j → M ≠ N) : hasI ns N = (j : Nat) := by
  unfold hasI
  rw [if_pos (List.mem_of_getElem? h)]
  obtain ⟨hj, hjN⟩ := List.getElem?_eq_some_iff.1 h
  have h1 : ns.idxOf N < ns.length := List.idxOf_lt_length_of_mem (List.mem_of_getElem? h)
  have h2 : ns[ns.idxOf N] = N := List.getElem_idxOf h1
  have h3 : ¬ ns.idxOf N < j := fun hlt => hn _ _ (List.getElem?_eq_getElem h1) hlt h2
  have h4 : ¬ j < ns.idxOf N := fun hlt => by
    have := List.not_of_lt_findIdx (p := (· == N)) (xs := ns) (i := j) hlt
    simp [hjN] at this
  have : ns.idxOf N = j := by omega
  rw [this]
theorem hasI_no {ns : List Int} {N : Int} (h : N ∉ ns) : hasI ns N = -1 := if_neg h
theorem hasI_neg {ns : List Int} {N : Int} : hasI ns N < 0 ↔ N ∉ ns := by
  unfold hasI
  split <;> simp_all

set_option maxRecDepth 100000 in
set_option maxHeartbeats 1000000 in
theorem has_any (ns : List Int) (a : Option Addr) (len cap : Nat) (N : Int) (w : World) (hn : IsN w a len ns) :
    Calls Tryz.prog 97 #[.slice a len cap, .int .i64 N] w fun e W' => e = .returned (.int .i64 (hasI ns N)) ∧ Below w.heap.size w W' := by
  have h1 := hn.1
  have h2 := hn.2.1
  have hl1 : len ≤ ns.length := by omega
  have hl2 : ns.length ≤ len := by omega
  clear h1
  have HN := hide hn
  clear hn
  go_enter Tryz.func97, Tryz.ntmps97
  go_wp2_with fail
  go_loop [5] (fun i => ∃ j : Nat, j ≤ len ∧ i = .int .i64 j ∧ ∀ (i : Nat) M, ns[i]? = some M → i < j → M ≠ N) (fun i => len - (intOf i).toNat)
  case atStart => exact ⟨0, Nat.zero_le _, rfl, fun i M _ h => by omega⟩
  case round =>
    obtain ⟨j, hj, rfl, hs⟩ := hrel
    have HS := hide hs
    clear hs
    by_cases hlt : j < len
    · obtain ⟨M, b, off, hM, rfl, c0⟩ := num_at (unhide HN) hlt
      have HM := hide hM
      clear hM
      have hj1 : (j : Int) < len := by omega
      by_cases hV : M = N
      · have hV' : (M == N) = true := by simp [hV]
        have HV := hide hV
        clear hV
        go_wp2_with fail
        go_ret
        exact ⟨by rw [hasI_at (by rw [← unhide HV]; exact unhide HM) (unhide HS)]; rfl, Below.refl _ _⟩
      · have hV' : (M == N) = false := by simp [hV]
        have HV := hide hV
        clear hV
        go_wp2_with fail
        go_round
        case rel => exact ⟨j + 1, by omega, by go_num, fun i q hq hi => by
          by_cases e : i = j
          · subst e; rw [unhide HM] at hq; cases hq; exact unhide HV
          · exact (unhide HS) i q hq (by omega)⟩
        case measure => simp [intOf]; omega
    · have hno : N ∉ ns := fun h => by
        obtain ⟨i, hi⟩ := List.mem_iff_getElem?.1 h
        exact (unhide HS) i N hi (by have := (List.getElem?_eq_some_iff.1 hi).1; omega) rfl
      have HNO := hide hno
      clear hno
      go_wp2_with fail
      go_ret
      exact ⟨by rw [hasI_no (unhide HNO)]; rfl, Below.refl _ _⟩

set_option maxRecDepth 100000 in
set_option maxHeartbeats 1000000 in
theorem sameNumbers_any (ns ms : List Int) (a a' : Option Addr) (len cap len' cap' : Nat) (w : World) (hn : IsN w a len ns) (hm : IsN w a' len' ms) :
    Calls Tryz.prog 38 #[.slice a len cap, .slice a' len' cap'] w fun e W' => e = .returned (.bool (decide (ns = ms))) ∧ Below w.heap.size w W' := by
  have h1 := hn.1
  have h2 := hn.2.1
  have h3 := hm.1
  have h4 := hm.2.1
  by_cases hll : len = len'
  · have hl1 : len ≤ ns.length := by omega
    have hl2 : ns.length ≤ len := by omega
    have hl3 : len ≤ ms.length := by omega
    have hl4 : ms.length ≤ len := by omega
    have hlx : ((len : Int) != (len' : Int)) = false := by simp; omega
    have hle : (len : Int) ≤ len' := by omega
    clear h1 h3 hll
    have HN := hide hn
    have HM := hide hm
    clear hn hm
    go_enter Tryz.func38, Tryz.ntmps38
    go_wp2_with fail
    go_loopw [5] (fun i wr => ∃ j : Nat, j ≤ len ∧ i = .int .i64 j ∧ ns.take j = ms.take j ∧ Below w.heap.size w wr) (fun i _ => len - (intOf i).toNat)
    case atStart => exact ⟨0, Nat.zero_le _, rfl, rfl, Below.refl _ _⟩
    case round =>
      obtain ⟨j, hj, rfl, hs, hb⟩ := hrel
      by_cases hlt : j < len
      · obtain ⟨M, b, off, hM, rfl, c0⟩ := num_at ((unhide HN).below hb) hlt
        obtain ⟨M', b', off', hM', rfl, d0⟩ := num_at ((unhide HM).below hb) (show j < len' by omega)
        have hnext : M = M' → ns.take (j + 1) = ms.take (j + 1) := fun e => by
          rw [List.take_add_one, List.take_add_one, hs, hM, hM', e]
        have hstop : M ≠ M' → ns ≠ ms := fun hne e => by
          subst e; rw [hM] at hM'; exact hne (Option.some.inj hM')
        have HX := hide hnext
        have HS := hide hstop
        clear hM hM' hnext hstop hs
        have hj1 : (j : Int) < len := by omega
        have hj2 : (j : Int) < len' := by omega
        have hbd : Below w.heap.size w wr.drew := hb.drew
        by_cases hV : M = M'
        · have hV' : (M != M') = false := by simp [hV]
          have HV := hide hV
          clear hV
          go_wp2_with fail
          go_region
          go_wp2_with fail
          go_roundw
          case rel => exact ⟨j + 1, by omega, by go_num, (unhide HX) (unhide HV), hbd⟩
          case measure => simp [intOf]; omega
        · have hV' : (M != M') = true := by simp [hV]
          have HV := hide hV
          clear hV
          go_wp2_with fail
          go_region
          go_wp2_with fail
          go_ret
          exact ⟨by rw [decide_eq_false ((unhide HS) (unhide HV))]; rfl, hbd⟩
      · have heq : ns = ms := by
          rw [List.take_of_length_le (by omega), List.take_of_length_le (by omega)] at hs
          exact hs
        have HE := hide heq
        clear heq hs
        go_wp2_with fail
        go_ret
        exact ⟨by rw [decide_eq_true (unhide HE)]; rfl, hb⟩
  · have hlx : ((len : Int) != (len' : Int)) = true := by simp; omega
    have hne : ns ≠ ms := fun e => by subst e; omega
    rw [decide_eq_false hne]
    clear hn hm h1 h3 hll hne
    go_enter Tryz.func38, Tryz.ntmps38
    go_wp2_with fail
    go_ret
    exact ⟨rfl, Below.refl _ _⟩
end Go.Proofs.YtojefplapklbmaaGreatDoor

