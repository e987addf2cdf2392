import Derived.Test.YtcjeeagnfmipgaaGreatDoorKbs
import Derived.Test.YtcjeeagnfmipgaaGreatDoorWos
import Derived.Test.YtcjeeagnfmipgaaGreatDoorSs
/- Plain mathematics of variants: numbered from the same number on they are one; just if each matches the other. -/
namespace Go.Proofs.YtcjeeagnfmipgaaGreatDoor
open Go.RowKit Go.Shelf Go.Maps

theorem sub_id {c : List Nd} (h : okC c) : c.flatMap (subN fun N => [varNd N]) = c := by
  have h1 : ∀ x ∈ c, subN (fun N => [varNd N]) x = [x] := fun x hx => by
    unfold subN
    by_cases hk : x.1 = 1
    · rw [if_pos hk]
      show [varNd x.2.1] = [x]
      rw [← (okNd_var (List.all_eq_true.1 h x hx) hk).2]
    · rw [if_neg hk]
  rw [flatMap_same c h1]
  simp

/-- What is numbered can be given its own variables back. -/
theorem canon_back {c : List Nd} (h : okC c) : ∃ τ : Int → Int, (canon 0 c).flatMap (subN fun N => [varNd (τ N)]) = c := by
  refine ⟨fun M => (stepsN stpN [] c)[M.toNat]?.getD 0, ?_⟩
  unfold canon
  rw [sub_sub]
  refine Eq.trans (sub_congr_on fun N hN => ?_) (sub_id h)
  have hN' := (steps_mem c [] N).2 (.inr hN)
  unfold renN
  rw [sub_varNd]
  have hlt := List.idxOf_lt_length_of_mem hN'
  have e : ((0 : Int) + ((stepsN stpN [] c).idxOf N : Nat)).toNat = (stepsN stpN [] c).idxOf N := by omega
  simp only [e]
  rw [List.getElem?_eq_getElem hlt, List.getElem_idxOf hlt]
  rfl
theorem word_len {l : List Nd} (h : Word l) : 1 ≤ l.length := by
  cases l with
  | nil => simp [Word, runW] at h
  | cons x l => simp
theorem sub_len {σ : Int → List Nd} (hσ : ∀ N, Word (σ N)) : ∀ (c : List Nd), c.length ≤ (c.flatMap (subN σ)).length
  | [] => by simp
  | x :: c => by
    have h1 := sub_len hσ c
    have h2 : 1 ≤ (subN σ x).length := by
      unfold subN
      split
      · exact word_len (hσ _)
      · simp
    rw [List.flatMap_cons, List.length_append, List.length_cons]
    omega

/-- Variants, just if each matches the other. -/
theorem variants_iff {ca cb : List Nd} (ha : okC ca) (hb : okC cb) : canon 0 ca = canon 0 cb ↔ Matches ca cb ∧ Matches cb ca := by
  constructor
  · intro h
    have key : ∀ {x y : List Nd}, okC y → canon 0 x = canon 0 y → Matches x y := fun {x y} hy e => by
      obtain ⟨τ, hτ⟩ := canon_back hy
      rw [← e] at hτ
      unfold canon at hτ
      rw [sub_sub] at hτ
      exact ⟨_, fun N => by unfold renN; rw [sub_varNd]; exact word_var _, hτ⟩
    exact ⟨key hb h, key ha h.symm⟩
  · rintro ⟨⟨σ, hσ, h1⟩, ⟨τ, hτ, h2⟩⟩
    have hfix : ca.flatMap (subN fun N => (σ N).flatMap (subN τ)) = ca := by rw [← sub_sub, h1, h2]
    have hone : ∀ N, IsVarOf ca N → ∃ M, σ N = [varNd M] ∧ τ M = [varNd N] := by
      intro N hN
      have hlen : ∀ N', 1 ≤ ((σ N').flatMap (subN τ)).length := fun N' => Nat.le_trans (word_len (hσ N')) (sub_len hτ _)
      have hfx : (σ N).flatMap (subN τ) = [varNd N] := by
        have gen : ∀ {θ : Int → List Nd} (_ : ∀ N, 1 ≤ (θ N).length) {c : List Nd}, okC c → c.flatMap (subN θ) = c → ∀ N, IsVarOf c N → θ N = [varNd N] := by
          intro θ hθ c
          induction c with
          | nil => intro _ _ N ⟨x, hx, _⟩; cases hx
          | cons x c ih =>
            intro hok h N hN
            have hokx : okNd x = true ∧ okC c := by
              unfold okC at hok ⊢
              simpa using hok
            have hl0 : ∀ (c : List Nd), c.length ≤ (c.flatMap (subN θ)).length := by
              intro c
              induction c with
              | nil => simp
              | cons x c ih =>
                have h2 : 1 ≤ (subN θ x).length := by
                  unfold subN
                  split
                  · exact hθ _
                  · simp
                rw [List.flatMap_cons, List.length_append, List.length_cons]
                omega
            rw [List.flatMap_cons] at h
            have h1 := hl0 c
            have hl := congrArg List.length h
            rw [List.length_append, List.length_cons] at hl
            obtain ⟨y, hy⟩ : ∃ y, subN θ x = [y] := by
              have h2 : 1 ≤ (subN θ x).length := by
                unfold subN
                split
                · exact hθ _
                · simp
              exact List.length_eq_one_iff.1 (by omega)
            rw [hy, List.singleton_append, List.cons.injEq] at h
            obtain ⟨rfl, h⟩ := h
            obtain ⟨z, hz, hz1, rfl⟩ := hN
            rcases List.mem_cons.1 hz with rfl | hz
            · unfold subN at hy
              rw [if_pos hz1] at hy
              rw [hy, ← (okNd_var hokx.1 hz1).2]
            · exact ih hokx.2 h _ ⟨z, hz, hz1, rfl⟩
        exact gen hlen ha hfix N hN
      have h3 := sub_len hτ (σ N)
      have h4 := word_len (hσ N)
      rw [hfx, List.length_singleton] at h3
      obtain ⟨y, hy⟩ : ∃ y, σ N = [y] := List.length_eq_one_iff.1 (by omega)
      rw [hy] at hfx
      simp only [List.flatMap_cons, List.flatMap_nil, List.append_nil] at hfx
      have hk : y.1 = 1 := by
        by_cases hk : y.1 = 1
        · exact hk
        · unfold subN at hfx
          rw [if_neg hk] at hfx
          have : y = varNd N := by simpa using hfx
          rw [this] at hk
          exact (hk rfl).elim
      have hmem : y ∈ cb := by
        rw [← h1]
        obtain ⟨x, hx, hx1, rfl⟩ := hN
        refine List.mem_flatMap.2 ⟨x, hx, ?_⟩
        unfold subN
        rw [if_pos hx1, hy]
        simp
      have hyv := (okNd_var (List.all_eq_true.1 hb y hmem) hk).2
      refine ⟨y.2.1, by rw [hy, ← hyv], ?_⟩
      unfold subN at hfx
      rw [if_pos hk] at hfx
      exact hfx
    have hcb : cb = ca.flatMap (subN fun N => [varNd ((σ N).head?.getD (varNd 0)).2.1]) := by
      rw [← h1]
      refine sub_congr_on fun N hN => ?_
      obtain ⟨M, hM, _⟩ := hone N hN
      rw [hM]; rfl
    rw [hcb]
    refine (canon_ren (ρ := fun N => ((σ N).head?.getD (varNd 0)).2.1) (fun M N hM hN e => ?_) 0).symm
    obtain ⟨M1, k1, k2⟩ := hone M hM
    obtain ⟨N1, k3, k4⟩ := hone N hN
    simp only [k1, k3, List.head?_cons, Option.getD_some] at e
    have e' : M1 = N1 := e
    rw [e', k4] at k2
    have := (List.cons.inj k2).1
    simp [varNd] at this
    exact this.symm
end Go.Proofs.YtcjeeagnfmipgaaGreatDoor

/- The contracts of term.Variant and term.Rename. -/
namespace Go.Proofs.YtcjeeagnfmipgaaGreatDoor
open Go.RowKit Go.Shelf Go.Maps

set_option maxRecDepth 100000 in
set_option maxHeartbeats 1000000 in
theorem variant_any {n : Nat} (p t : Tm n) (w : World) (hp : IsT w.heap.size w p) (ht : IsT w.heap.size w t) (okp : okT p = true) (okt : okT t = true) (hn40 : n ≤ 549755813888) :
    Calls Tryz.prog 44 #[p.tv.val, t.tv.val] w fun e W' => e = .returned (.tuple #[.bool (decide (canon 0 (code p) = canon 0 (code t))), .int .i64 0]) ∧ Below w.heap.size w W' := by
  have hc := checkTwo p t w hp ht
  have h0 : chkL [p, t] = 0 := chkL_yes (by simp [okp, okt])
  rw [h0] at hc
  have hnp := fun (W : World) (hb : Below w.heap.size w W) => number_any p 0 W ((hp.below hb).mono hb.size) okp (by omega) (by omega)
  have hnt := fun (W : World) (hb : Below w.heap.size w W) => number_any t 0 W ((ht.below hb).mono hb.size) okt (by omega) (by omega)
  simp only [TV.val] at hnp hnt hc ⊢
  have HNP := hide hnp
  have HNT := hide hnt
  clear h0 okp okt hp ht hnp hnt
  go_enter Tryz.func44, Tryz.ntmps44
  go_wp2_with fail
  refine hc.mono ?_
  clear hc
  rintro e W2 ⟨rfl, hb2, bx, bby⟩
  have c0 := bx.c0
  have c1 := bx.c1
  have c2 := bx.c2
  have c3 := bx.c3
  go_wp2_with fail
  refine ((unhide HNP) W2 hb2).mono ?_
  clear c0 c1 c2 c3 HNP
  rintro e W3 ⟨x, rfl, hb3, hx⟩
  have hb4 : Below W3.heap.size W3 (W3.alloc (.cells #[.int .i64 x.k, .int .i64 x.N, .string x.s, .slice x.a x.len x.cap] 24)) := (Below.refl _ W3).alloc (Nat.le_refl _) _
  have hbx := BoxT.new W3 x
  have hb24 : Below W2.heap.size W2 (W3.alloc (.cells #[.int .i64 x.k, .int .i64 x.N, .string x.s, .slice x.a x.len x.cap] 24)) := hb3.trans (hb4.mono hb3.size)
  have hB4 := hb2.trans (hb24.mono hb2.size)
  have bby4 : BoxT (W3.alloc (.cells #[.int .i64 x.k, .int .i64 x.N, .string x.s, .slice x.a x.len x.cap] 24)) (w.heap.size + 1) t.tv := (hb24.block _ bby.lt).trans bby
  have hx4 : HoldsT (n + 1) W2.heap.size (W3.alloc (.cells #[.int .i64 x.k, .int .i64 x.N, .string x.s, .slice x.a x.len x.cap] 24)) x.val (canon 0 (code p)) := hx.below hb4
  have hnt4 := (unhide HNT) _ hB4
  have d0 := bby4.c0
  have d1 := bby4.c1
  have d2 := bby4.c2
  have d3 := bby4.c3
  clear hx hb3 hb4 hb24 bx bby bby4 HNT hb2
  go_wp2_with fail
  refine hnt4.mono ?_
  obtain ⟨W4, hW4⟩ : ∃ W4, W3.alloc (.cells #[.int .i64 x.k, .int .i64 x.N, .string x.s, .slice x.a x.len x.cap] 24) = W4 := ⟨_, rfl⟩
  rw [hW4] at hbx hB4 hx4
  simp only [hW4]
  clear hnt4 hW4 d0 d1 d2 d3
  rintro e W5 ⟨y, rfl, hb5, hy⟩
  have hb6 : Below W5.heap.size W5 (W5.alloc (.cells #[.int .i64 y.k, .int .i64 y.N, .string y.s, .slice y.a y.len y.cap] 24)) := (Below.refl _ W5).alloc (Nat.le_refl _) _
  have hb46 := hb5.trans (hb6.mono hb5.size)
  have hbx6 := (hb46.block _ hbx.lt).trans hbx
  have hby6 := BoxT.new W5 y
  have hB6 := hB4.trans (hb46.mono hB4.size)
  obtain ⟨u, hu, huT, -, huc⟩ := (hx4.below hb46) _ (Nat.le_refl _)
  obtain ⟨v, hv, hvT, -, hvc⟩ := (hy.below hb6) _ (Nat.le_refl _)
  have huT := huT (by omega)
  have hvT := hvT (by omega)
  have hord := order_any _ u v _ huT hvT
  rw [← hu] at hord
  have hvv : (.agg #[.int .i64 y.k, .int .i64 y.N, .string y.s, .slice y.a y.len y.cap] : Value) = v.tv.val := hv
  rw [← hvv] at hord
  have hres : (ordT u v == 0) = decide (canon 0 (code p) = canon 0 (code t)) := by
    rw [Bool.eq_iff_iff, beq_iff_eq, ord_zero, sameT_code huT.wl hvT.wl, decide_eq_true_eq, huc, hvc, decide_eq_true_eq]
    rfl
  have x0 : _ := BoxT.c0 hbx6
  have x1 : _ := BoxT.c1 hbx6
  have x2 : _ := BoxT.c2 hbx6
  have x3 : _ := BoxT.c3 hbx6
  have y0 := hby6.c0
  have y1 := hby6.c1
  have y2 := hby6.c2
  have y3 := hby6.c3
  have HRES := hide hres
  have HB6 := hide hB6
  simp only [TV.val] at hord
  clear hu huT huc hv hvT hvc hvv hx4 hy hb5 hb6 hb46 hbx hbx6 hby6 hB4 hB6 hres
  go_wp2_with fail
  refine hord.mono ?_
  clear hord x0 x1 x2 x3 y0 y1 y2 y3
  rintro e W7 ⟨rfl, hb7⟩
  have hBf := (unhide HB6).trans (hb7.mono (unhide HB6).size)
  clear hb7
  go_wp2_with fail
  exact bodyPost_ret (v := .tuple #[.bool (ordT u v == 0), .int .i64 0]) (by simp [results, Tryz.results44, go_sem]) rfl ⟨by rw [unhide HRES], hBf⟩

set_option maxRecDepth 100000 in
set_option maxHeartbeats 1000000 in
theorem variant_no {n : Nat} (p t : Tm n) (w : World) (hp : IsT w.heap.size w p) (ht : IsT w.heap.size w t) (ox : (okT p && okT t) = false) :
    Calls Tryz.prog 44 #[p.tv.val, t.tv.val] w fun e W' => e = .returned (.tuple #[.bool false, .int .i64 2]) ∧ Below w.heap.size w W' := by
  have hc := checkTwo p t w hp ht
  have h0 : chkL [p, t] = 2 := chkL_no (by simpa using ox)
  rw [h0] at hc
  clear h0 ox hp ht
  simp only [TV.val]
  go_enter Tryz.func44, Tryz.ntmps44
  go_wp2_with (go_at_call 62; refine hc.mono ?_; clear hc; rintro e W2 ⟨rfl, hb2, bx, bby⟩)
  go_ret2
  exact ⟨rfl, hb2⟩

theorem steps_len {c : List Nd} (h : okC c) : (stepsN stpN [] c).length ≤ 1099511627777 :=
  nodup_range (steps_nodup c [] List.nodup_nil) fun N hN => by
    rcases (steps_mem c [] N).1 hN with h' | ⟨x, hx, hk, rfl⟩
    · cases h'
    · exact (okNd_var (List.all_eq_true.1 h x hx) hk).1
/-- What Rename answers, of a term. -/
def RenSays {n : Nat} (t : Tm n) (lo : Nat) (W' : World) (x : TV) (e : Int) : Prop :=
  (e = 0 ∧ ∃ f, okC (canon f (code t)) ∧ HoldsT (n + 1) lo W' x.val (canon f (code t))) ∨ (e ≠ 0 ∧ x = ⟨0, 0, ⟨#[]⟩, none, 0, 0⟩)
theorem okC_canon {f : Int} {c : List Nd} (h : okC c) (hf0 : 0 ≤ f) (hl : f + ((stepsN stpN [] c).length : Nat) - 1 ≤ 1099511627776) : okC (canon f c) := by
  unfold okC canon at *
  rw [List.all_eq_true] at h ⊢
  intro y hy
  obtain ⟨x, hx, hxy⟩ := List.mem_flatMap.1 hy
  unfold subN at hxy
  split at hxy
  · rename_i hk
    have hm := (steps_mem c [] x.2.1).2 (.inr ⟨x, hx, hk, rfl⟩)
    have hlt := List.idxOf_lt_length_of_mem hm
    simp only [renN, List.mem_singleton] at hxy
    subst hxy
    have h0 : 0 ≤ f + ((stepsN stpN [] c).idxOf x.2.1 : Nat) := by omega
    have h1 : f + ((stepsN stpN [] c).idxOf x.2.1 : Nat) ≤ 1099511627776 := by omega
    generalize f + ((stepsN stpN [] c).idxOf x.2.1 : Nat) = M at h0 h1
    simp [okNd, varNd, h0, h1]
  · simp at hxy; subst hxy; exact h _ hx

set_option maxRecDepth 100000 in
set_option maxHeartbeats 1000000 in
theorem rename_any {n : Nat} (t : Tm n) (f : Int) (w : World) (hT : IsT w.heap.size w t) (hok : okT t = true) :
    Calls Tryz.prog 15 #[t.tv.val, .int .i64 f] w fun e W' => ∃ (x : TV) (k r : Int), e = .returned (.tuple #[x.val, .int .i64 k, .int .i64 r]) ∧ Below w.heap.size w W' ∧ RenSays t w.heap.size W' x r := by
  have hH := Head.new w t.tv
  have hB1 : Below w.heap.size w ((w.alloc (.cells #[.int .i64 t.tv.k, .int .i64 t.tv.N, .string t.tv.s, .slice t.tv.a t.tv.len t.tv.cap] 24)).alloc (.cells #[.int .i64 0, .int .i64 0, .string ⟨#[]⟩, .slice none 0 0] 24)) := ((Below.refl _ w).alloc (Nat.le_refl _) _).alloc (by simp) _
  have hck := check_any t _ ((hT.below hB1).mono hB1.size)
  rw [chk_yes hok] at hck
  have hokc : okC (code t) := by unfold okC; rw [← okT_code]; exact hok
  by_cases hf : 0 ≤ f ∧ f ≤ 1099511627776
  · obtain ⟨hf0, hf1⟩ := hf
    have hnm := fun (W : World) (hb : Below w.heap.size w W) => number_any t f W ((hT.below hb).mono hb.size) hok hf0 hf1
    have hokn := fun h => okC_canon (f := f) hokc hf0 h
    have hlen : (stepsN stpN [] (code t)).length ≤ 1099511627777 := steps_len hokc
    generalize (stepsN stpN [] (code t)).length = L at hnm hokn hlen
    have hiv := fun (W : World) => isVar_any f W
    have hdd : (decide (0 ≤ f) && decide (f ≤ 1099511627776)) = true := by simp [hf0, hf1]
    simp only [hdd] at hiv
    have hwr : IntKind.i64.wrap (f + (L : Nat) - 1) = f + (L : Nat) - 1 := by simp [IntKind.wrap, IntKind.bits, IntKind.signed]; omega
    simp only [TV.val] at hnm hck ⊢
    have HNM := hide hnm
    have HOKN := hide hokn
    clear hT hok hokc hnm hokn hdd hB1
    go_enter Tryz.func15, Tryz.ntmps15
    go_wp2_with fail
    refine hck.mono ?_
    clear hck
    rintro e W1 ⟨rfl, hb1⟩
    replace hH := hH.next hb1
    clear hb1
    go_wp2_with fail
    refine (hiv _).mono ?_
    clear hiv
    rintro e W2 ⟨rfl, hb2⟩
    replace hH := hH.next hb2
    clear hb2
    have c0 := hH.ba.c0
    have c1 := hH.ba.c1
    have c2 := hH.ba.c2
    have c3 := hH.ba.c3
    go_wp2_with fail
    refine ((unhide HNM) W2 hH.below).mono ?_
    clear c0 c1 c2 c3 HNM
    rintro e W3 ⟨x, rfl, hb3, hx⟩
    have hb4 : Below W3.heap.size W3 (W3.alloc (.cells #[.int .i64 x.k, .int .i64 x.N, .string x.s, .slice x.a x.len x.cap] 24)) := (Below.refl _ W3).alloc (Nat.le_refl _) _
    have hb24 := hb3.trans (hb4.mono hb3.size)
    have hlt2 := hH.lt
    replace hH := hH.next hb24
    have hbx := BoxT.new W3 x
    have hx4 : HoldsT (n + 1) W2.heap.size (W3.alloc (.cells #[.int .i64 x.k, .int .i64 x.N, .string x.s, .slice x.a x.len x.cap] 24)) x.val (canon f (code t)) := hx.below hb4
    obtain ⟨⟨z0, z1, z2, z3⟩, y0, y1, y2, y3⟩ := zbox_kept hH.bz
    by_cases hbig : f + (L : Nat) - 1 ≤ 1099511627776
    · have hg : ¬ 1099511627776 < f + (L : Nat) - 1 := by omega
      have hfin := (holds_set4 hx4 hlt2 0 x).mono (lo' := w.heap.size) (Nat.le_refl _) (by omega)
      have hbf := set4_below hH.below (b := w.heap.size + 1) (by omega) 0 x
      have b0 := hbx.c0
      have b1 := hbx.c1
      have b2 := hbx.c2
      have b3 := hbx.c3
      have HF := hide (And.intro hbf (And.intro ((unhide HOKN) hbig) hfin))
      clear hfin hbf hx4 hx hbx hH hb3 hb4 hb24 hbig HOKN
      go_wp2_with fail
      exact bodyPost_ret (v := .tuple #[x.val, .int .i64 (f + (L : Nat)), .int .i64 0]) (by simp [results, Tryz.results15, go_sem, TV.val, z0, z1, z2, z3]) rfl ⟨x, _, 0, rfl, (unhide HF).1, .inl ⟨rfl, f, (unhide HF).2.1, (unhide HF).2.2⟩⟩
    · have hg : 1099511627776 < f + (L : Nat) - 1 := by omega
      have hbf := set4_below hH.below (b := w.heap.size + 1) (by omega) 0 ⟨0, 0, ⟨#[]⟩, none, 0, 0⟩
      have HF := hide hbf
      clear hbf hx4 hx hbx hH hb3 hb4 hb24 hbig HOKN
      go_wp2_with fail
      exact bodyPost_ret (v := .tuple #[.agg #[.int .i64 0, .int .i64 0, .string ⟨#[]⟩, .slice none 0 0], .int .i64 0, .int .i64 9]) (by simp [results, Tryz.results15, go_sem, z0, z1, z2, z3]) rfl ⟨⟨0, 0, ⟨#[]⟩, none, 0, 0⟩, 0, 9, rfl, unhide HF, .inr ⟨by decide, rfl⟩⟩
  · have hiv := fun (W : World) => isVar_any f W
    have hdd : (decide (0 ≤ f) && decide (f ≤ 1099511627776)) = false := by
      rw [Bool.and_eq_false_iff, decide_eq_false_iff_not, decide_eq_false_iff_not]; omega
    simp only [hdd] at hiv
    simp only [TV.val] at hck ⊢
    clear hT hok hokc hdd hB1 hf
    go_enter Tryz.func15, Tryz.ntmps15
    go_wp2_with fail
    refine hck.mono ?_
    clear hck
    rintro e W1 ⟨rfl, hb1⟩
    replace hH := hH.next hb1
    clear hb1
    go_wp2_with fail
    refine (hiv _).mono ?_
    clear hiv
    rintro e W2 ⟨rfl, hb2⟩
    replace hH := hH.next hb2
    clear hb2
    obtain ⟨⟨z0, z1, z2, z3⟩, y0, y1, y2, y3⟩ := zbox_kept hH.bz
    have hbf := set4_below hH.below (b := w.heap.size + 1) (by omega) 0 ⟨0, 0, ⟨#[]⟩, none, 0, 0⟩
    have HF := hide hbf
    clear hbf hH
    go_wp2_with fail
    exact bodyPost_ret (v := .tuple #[.agg #[.int .i64 0, .int .i64 0, .string ⟨#[]⟩, .slice none 0 0], .int .i64 0, .int .i64 1]) (by simp [results, Tryz.results15, go_sem, z0, z1, z2, z3]) rfl ⟨⟨0, 0, ⟨#[]⟩, none, 0, 0⟩, 0, 1, rfl, unhide HF, .inr ⟨by decide, rfl⟩⟩
end Go.Proofs.YtcjeeagnfmipgaaGreatDoor

/- The law hornkeep.TermVariants: it answers true, whatever the two terms and the number (within a bound of the terms' parts). -/
namespace Go.Proofs.YtcjeeagnfmipgaaGreatDoor
open Go.RowKit Go.Shelf Go.Maps

theorem variant_c {D : Nat} {W : World} {v v' : Value} {c c' : List Nd} (h : TC D W v c) (h' : TC D W v' c') (hD39 : D ≤ 549755813888 := by omega) :
    Calls Tryz.prog 44 #[v, v'] W fun e W' => ∃ (f : Bool) (r : Int), e = .returned (.tuple #[.bool f, .int .i64 r]) ∧ Below W.heap.size W W' ∧ (okC c → okC c' → f = decide (canon 0 c = canon 0 c')) := by
  obtain ⟨p, rfl, hp, _, rfl⟩ := h.2 D (Nat.le_refl _) h.1
  obtain ⟨t, rfl, ht, _, rfl⟩ := h'.2 D (Nat.le_refl _) h'.1
  by_cases hok : (okT p && okT t) = true
  · rw [Bool.and_eq_true] at hok
    refine (variant_any p t W hp ht hok.1 hok.2 hD39).mono fun e W' h => ?_
    exact ⟨_, _, h.1, h.2, fun _ _ => rfl⟩
  · refine (variant_no p t W hp ht (by simpa using hok)).mono fun e W' h => ?_
    refine ⟨_, _, h.1, h.2, fun h1 h2 => ?_⟩
    unfold okC at h1 h2
    rw [← okT_code] at h1 h2
    exact (hok (by rw [h1, h2]; rfl)).elim
theorem zero_tc (D : Nat) (W : World) (hDl : D + 1 ≤ 2199023255552 := by omega) : TC (D + 1) W (⟨0, 0, ⟨#[]⟩, none, 0, 0⟩ : TV).val [(⟨0, 0, ⟨#[]⟩, none, 0, 0⟩ : TV).nd] :=
  ((holds_leaf ⟨0, 0, ⟨#[]⟩, none, 0, 0⟩ rfl rfl rfl (by simp [ByteArray.size]) 0 W).mono (by omega) (Nat.le_refl _)).holdsS.tc hDl
/-- What Rename answers: a term in any case; where there is no error, one that is numbered as the first. -/
theorem ren_tc {n : Nat} {t : Tm n} {lo : Nat} {W' : World} {x : TV} {r : Int} (h : RenSays t lo W' x r) (hDl : n + 1 ≤ 2199023255552 := by omega) : ∃ c, TC (n + 1) W' x.val c ∧ (r = 0 → okC c ∧ canon 0 (code t) = canon 0 c) := by
  rcases h with ⟨rfl, f, h1, h2⟩ | ⟨h1, rfl⟩
  · exact ⟨_, h2.holdsS.tc hDl, fun _ => ⟨h1, (canon_canon f (code t)).symm⟩⟩
  · exact ⟨_, zero_tc n W' hDl, fun h => (h1 h).elim⟩

end Go.Proofs.YtcjeeagnfmipgaaGreatDoor

