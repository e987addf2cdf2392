import Derived.Test.YtcjeeagnfmipgaaDoorNus
import Derived.Test.YtcjeeagnfmipgaaDoorNqs
import Derived.Test.YtcjeeagnfmipgaaDoorMc
import Derived.Test.YtcjeeagnfmipgaaDoorQs
/- Plain mathematics of variants: numbered from the same number on they are one; just if each matches the other. -/
namespace Go.Proofs.YtcjeeagnfmipgaaDoor
open Go.RowKit Go.Shelf Go.Maps

theorem sub_id {c : List Nd} (h : okC c) : c.flatMap (subN fun N => [varNd N]) = c := by
  have h1 : ∀ x ∈ c, subN (fun N => [varNd N]) x = [x] := fun x hx => by
    unfold subN
    by_cases hk : x.1 = 1
    · rw [if_pos hk]
      show [varNd x.2.1] = [x]
      rw [← (okNd_var (List.all_eq_true.1 h x hx) hk).2]
    · rw [if_neg hk]
  rw [flatMap_same c h1]
  simp

/-- What is numbered can be given its own variables back. -/
theorem canon_back {c : List Nd} (h : okC c) : ∃ τ : Int → Int, (canon 0 c).flatMap (subN fun N => [varNd (τ N)]) = c := by
  refine ⟨fun M => (stepsN stpN [] c)[M.toNat]?.getD 0, ?_⟩
  unfold canon
  rw [sub_sub]
  refine Eq.trans (sub_congr_on fun N hN => ?_) (sub_id h)
  have hN' := (steps_mem c [] N).2 (.inr hN)
  unfold renN
  rw [sub_varNd]
  have hlt := List.idxOf_lt_length_of_mem hN'
  have e : ((0 : Int) + ((stepsN stpN [] c).idxOf N : Nat)).toNat = (stepsN stpN [] c).idxOf N := by omega
  simp only [e]
  rw [List.getElem?_eq_getElem hlt, List.getElem_idxOf hlt]
  rfl
theorem word_len {l : List Nd} (h : Word l) : 1 ≤ l.length := by
  cases l with
  | nil => simp [Word, runW] at h
  | cons x l => simp
theorem sub_len {σ : Int → List Nd} (hσ : ∀ N, Word (σ N)) : ∀ (c : List Nd), c.length ≤ (c.flatMap (subN σ)).length
  | [] => by simp
  | x :: c => by
    have h1 := sub_len hσ c
    have h2 : 1 ≤ (subN σ x).length := by
      unfold subN
      split
      · exact word_len (hσ _)
      · simp
    rw [List.flatMap_cons, List.length_append, List.length_cons]
    omega

/-- Variants, just if each matches the other. -/
theorem variants_iff {ca cb : List Nd} (ha : okC ca) (hb : okC cb) : canon 0 ca = canon 0 cb ↔ Matches ca cb ∧ Matches cb ca := by
  constructor
  · intro h
    have key : ∀ {x y : List Nd}, okC y → canon 0 x = canon 0 y → Matches x y := fun {x y} hy e => by
      obtain ⟨τ, hτ⟩ := canon_back hy
      rw [← e] at hτ
      unfold canon at hτ
      rw [sub_sub] at hτ
      exact ⟨_, fun N => by unfold renN; rw [sub_varNd]; exact word_var _, hτ⟩
    exact ⟨key hb h, key ha h.symm⟩
  · rintro ⟨⟨σ, hσ, h1⟩, ⟨τ, hτ, h2⟩⟩
    have hfix : ca.flatMap (subN fun N => (σ N).flatMap (subN τ)) = ca := by rw [← sub_sub, h1, h2]
    have hone : ∀ N, IsVarOf ca N → ∃ M, σ N = [varNd M] ∧ τ M = [varNd N] := by
      intro N hN
      have hlen : ∀ N', 1 ≤ ((σ N').flatMap (subN τ)).length := fun N' => Nat.le_trans (word_len (hσ N')) (sub_len hτ _)
      have hfx : (σ N).flatMap (subN τ) = [varNd N] := by
        have gen : ∀ {θ : Int → List Nd} (_ : ∀ N, 1 ≤ (θ N).length) {c : List Nd}, okC c → c.flatMap (subN θ) = c → ∀ N, IsVarOf c N → θ N = [varNd N] := by
          intro θ hθ c
          induction c with
          | nil => intro _ _ N ⟨x, hx, _⟩; cases hx
          | cons x c ih =>
            intro hok h N hN
            have hokx : okNd x = true ∧ okC c := by
              unfold okC at hok ⊢
              simpa using hok
            have hl0 : ∀ (c : List Nd), c.length ≤ (c.flatMap (subN θ)).length := by
              intro c
              induction c with
              | nil => simp
              | cons x c ih =>
                have h2 : 1 ≤ (subN θ x).length := by
                  unfold subN
                  split
                  · exact hθ _
                  · simp
                rw [List.flatMap_cons, List.length_append, List.length_cons]
                omega
            rw [List.flatMap_cons] at h
            have h1 := hl0 c
            have hl := congrArg List.length h
            rw [List.length_append, List.length_cons] at hl
            obtain ⟨y, hy⟩ : ∃ y, subN θ x = [y] := by
              have h2 : 1 ≤ (subN θ x).length := by
                unfold subN
                split
                · exact hθ _
                · simp
              exact List.length_eq_one_iff.1 (by omega)
            rw [hy, List.singleton_append, List.cons.injEq] at h
            obtain ⟨rfl, h⟩ := h
            obtain ⟨z, hz, hz1, rfl⟩ := hN
            rcases List.mem_cons.1 hz with rfl | hz
            · unfold subN at hy
              rw [if_pos hz1] at hy
              rw [hy, ← (okNd_var hokx.1 hz1).2]
            · exact ih hokx.2 h _ ⟨z, hz, hz1, rfl⟩
        exact gen hlen ha hfix N hN
      have h3 := sub_len hτ (σ N)
      have h4 := word_len (hσ N)
      rw [hfx, List.length_singleton] at h3
      obtain ⟨y, hy⟩ : ∃ y, σ N = [y] := List.length_eq_one_iff.1 (by omega)
      rw [hy] at hfx
      simp only [List.flatMap_cons, List.flatMap_nil, List.append_nil] at hfx
      have hk : y.1 = 1 := by
        by_cases hk : y.1 = 1
        · exact hk
        · unfold subN at hfx
          rw [if_neg hk] at hfx
          have : y = varNd N := by simpa using hfx
          rw [this] at hk
          exact (hk rfl).elim
      have hmem : y ∈ cb := by
        rw [← h1]
        obtain ⟨x, hx, hx1, rfl⟩ := hN
        refine List.mem_flatMap.2 ⟨x, hx, ?_⟩
        unfold subN
        rw [if_pos hx1, hy]
        simp
      have hyv := (okNd_var (List.all_eq_true.1 hb y hmem) hk).2
      refine ⟨y.2.1, by rw [hy, ← hyv], ?_⟩
      unfold subN at hfx
      rw [if_pos hk] at hfx
      exact hfx
    have hcb : cb = ca.flatMap (subN fun N => [varNd ((σ N).head?.getD (varNd 0)).2.1]) := by
      rw [← h1]
      refine sub_congr_on fun N hN => ?_
      obtain ⟨M, hM, _⟩ := hone N hN
      rw [hM]; rfl
    rw [hcb]
    refine (canon_ren (ρ := fun N => ((σ N).head?.getD (varNd 0)).2.1) (fun M N hM hN e => ?_) 0).symm
    obtain ⟨M1, k1, k2⟩ := hone M hM
    obtain ⟨N1, k3, k4⟩ := hone N hN
    simp only [k1, k3, List.head?_cons, Option.getD_some] at e
    have e' : M1 = N1 := e
    rw [e', k4] at k2
    have := (List.cons.inj k2).1
    simp [varNd] at this
    exact this.symm
end Go.Proofs.YtcjeeagnfmipgaaDoor

/- The contracts of term.Variant and term.Rename. -/
namespace Go.Proofs.YtcjeeagnfmipgaaDoor
open Go.RowKit Go.Shelf Go.Maps

set_option maxRecDepth 100000 in
set_option maxHeartbeats 1000000 in
theorem variant_any {n : Nat} (p t : Tm n) (w : World) (hp : IsT w.heap.size w p) (ht : IsT w.heap.size w t) (okp : okT p = true) (okt : okT t = true) (hn40 : n ≤ 549755813888) :
    Calls Tryd.prog 7 #[p.tv.val, t.tv.val] w fun e W' => e = .returned (.tuple #[.bool (decide (canon 0 (code p) = canon 0 (code t))), .int .i64 0]) ∧ Below w.heap.size w W' := by
  have hc := checkTwo p t w hp ht
  have h0 : chkL [p, t] = 0 := chkL_yes (by simp [okp, okt])
  rw [h0] at hc
  have hnp := fun (W : World) (hb : Below w.heap.size w W) => number_any p 0 W ((hp.below hb).mono hb.size) okp (by omega) (by omega)
  have hnt := fun (W : World) (hb : Below w.heap.size w W) => number_any t 0 W ((ht.below hb).mono hb.size) okt (by omega) (by omega)
  simp only [TV.val] at hnp hnt hc ⊢
  have HNP := hide hnp
  have HNT := hide hnt
  clear h0 okp okt hp ht hnp hnt
  go_enter Tryd.func7, Tryd.ntmps7
  go_wp2_with fail
  refine hc.mono ?_
  clear hc
  rintro e W2 ⟨rfl, hb2, bx, bby⟩
  have c0 := bx.c0
  have c1 := bx.c1
  have c2 := bx.c2
  have c3 := bx.c3
  go_wp2_with fail
  refine ((unhide HNP) W2 hb2).mono ?_
  clear c0 c1 c2 c3 HNP
  rintro e W3 ⟨x, rfl, hb3, hx⟩
  have hb4 : Below W3.heap.size W3 (W3.alloc (.cells #[.int .i64 x.k, .int .i64 x.N, .string x.s, .slice x.a x.len x.cap] 24)) := (Below.refl _ W3).alloc (Nat.le_refl _) _
  have hbx := BoxT.new W3 x
  have hb24 : Below W2.heap.size W2 (W3.alloc (.cells #[.int .i64 x.k, .int .i64 x.N, .string x.s, .slice x.a x.len x.cap] 24)) := hb3.trans (hb4.mono hb3.size)
  have hB4 := hb2.trans (hb24.mono hb2.size)
  have bby4 : BoxT (W3.alloc (.cells #[.int .i64 x.k, .int .i64 x.N, .string x.s, .slice x.a x.len x.cap] 24)) (w.heap.size + 1) t.tv := (hb24.block _ bby.lt).trans bby
  have hx4 : HoldsT (n + 1) W2.heap.size (W3.alloc (.cells #[.int .i64 x.k, .int .i64 x.N, .string x.s, .slice x.a x.len x.cap] 24)) x.val (canon 0 (code p)) := hx.below hb4
  have hnt4 := (unhide HNT) _ hB4
  have d0 := bby4.c0
  have d1 := bby4.c1
  have d2 := bby4.c2
  have d3 := bby4.c3
  clear hx hb3 hb4 hb24 bx bby bby4 HNT hb2
  go_wp2_with fail
  refine hnt4.mono ?_
  obtain ⟨W4, hW4⟩ : ∃ W4, W3.alloc (.cells #[.int .i64 x.k, .int .i64 x.N, .string x.s, .slice x.a x.len x.cap] 24) = W4 := ⟨_, rfl⟩
  rw [hW4] at hbx hB4 hx4
  simp only [hW4]
  clear hnt4 hW4 d0 d1 d2 d3
  rintro e W5 ⟨y, rfl, hb5, hy⟩
  have hb6 : Below W5.heap.size W5 (W5.alloc (.cells #[.int .i64 y.k, .int .i64 y.N, .string y.s, .slice y.a y.len y.cap] 24)) := (Below.refl _ W5).alloc (Nat.le_refl _) _
  have hb46 := hb5.trans (hb6.mono hb5.size)
  have hbx6 := (hb46.block _ hbx.lt).trans hbx
  have hby6 := BoxT.new W5 y
  have hB6 := hB4.trans (hb46.mono hB4.size)
  obtain ⟨u, hu, huT, -, huc⟩ := (hx4.below hb46) _ (Nat.le_refl _)
  obtain ⟨v, hv, hvT, -, hvc⟩ := (hy.below hb6) _ (Nat.le_refl _)
  have huT := huT (by omega)
  have hvT := hvT (by omega)
  have hord := order_any _ u v _ huT hvT
  rw [← hu] at hord
  have hvv : (.agg #[.int .i64 y.k, .int .i64 y.N, .string y.s, .slice y.a y.len y.cap] : Value) = v.tv.val := hv
  rw [← hvv] at hord
  have hres : (ordT u v == 0) = decide (canon 0 (code p) = canon 0 (code t)) := by
    rw [Bool.eq_iff_iff, beq_iff_eq, ord_zero, sameT_code huT.wl hvT.wl, decide_eq_true_eq, huc, hvc, decide_eq_true_eq]
    rfl
  have x0 : _ := BoxT.c0 hbx6
  have x1 : _ := BoxT.c1 hbx6
  have x2 : _ := BoxT.c2 hbx6
  have x3 : _ := BoxT.c3 hbx6
  have y0 := hby6.c0
  have y1 := hby6.c1
  have y2 := hby6.c2
  have y3 := hby6.c3
  have HRES := hide hres
  have HB6 := hide hB6
  simp only [TV.val] at hord
  clear hu huT huc hv hvT hvc hvv hx4 hy hb5 hb6 hb46 hbx hbx6 hby6 hB4 hB6 hres
  go_wp2_with fail
  refine hord.mono ?_
  clear hord x0 x1 x2 x3 y0 y1 y2 y3
  rintro e W7 ⟨rfl, hb7⟩
  have hBf := (unhide HB6).trans (hb7.mono (unhide HB6).size)
  clear hb7
  go_wp2_with fail
  exact bodyPost_ret (v := .tuple #[.bool (ordT u v == 0), .int .i64 0]) (by simp [results, Tryd.results7, go_sem]) rfl ⟨by rw [unhide HRES], hBf⟩

set_option maxRecDepth 100000 in
set_option maxHeartbeats 1000000 in
theorem variant_no {n : Nat} (p t : Tm n) (w : World) (hp : IsT w.heap.size w p) (ht : IsT w.heap.size w t) (ox : (okT p && okT t) = false) :
    Calls Tryd.prog 7 #[p.tv.val, t.tv.val] w fun e W' => e = .returned (.tuple #[.bool false, .int .i64 2]) ∧ Below w.heap.size w W' := by
  have hc := checkTwo p t w hp ht
  have h0 : chkL [p, t] = 2 := chkL_no (by simpa using ox)
  rw [h0] at hc
  clear h0 ox hp ht
  simp only [TV.val]
  go_enter Tryd.func7, Tryd.ntmps7
  go_wp2_with (go_at_call 8; refine hc.mono ?_; clear hc; rintro e W2 ⟨rfl, hb2, bx, bby⟩)
  go_ret2
  exact ⟨rfl, hb2⟩

theorem steps_len {c : List Nd} (h : okC c) : (stepsN stpN [] c).length ≤ 1099511627777 :=
  nodup_range (steps_nodup c [] List.nodup_nil) fun N hN => by
    rcases (steps_mem c [] N).1 hN with h' | ⟨x, hx, hk, rfl⟩
    · cases h'
    · exact (okNd_var (List.all_eq_true.1 h x hx) hk).1
/-- What Rename answers, of a term. -/
def RenSays {n : Nat} (t : Tm n) (lo : Nat) (W' : World) (x : TV) (e : Int) : Prop :=
  (e = 0 ∧ ∃ f, okC (canon f (code t)) ∧ HoldsT (n + 1) lo W' x.val (canon f (code t))) ∨ (e ≠ 0 ∧ x = ⟨0, 0, ⟨#[]⟩, none, 0, 0⟩)
theorem okC_canon {f : Int} {c : List Nd} (h : okC c) (hf0 : 0 ≤ f) (hl : f + ((stepsN stpN [] c).length : Nat) - 1 ≤ 1099511627776) : okC (canon f c) := by
  unfold okC canon at *
  rw [List.all_eq_true] at h ⊢
  intro y hy
  obtain ⟨x, hx, hxy⟩ := List.mem_flatMap.1 hy
  unfold subN at hxy
  split at hxy
  · rename_i hk
    have hm := (steps_mem c [] x.2.1).2 (.inr ⟨x, hx, hk, rfl⟩)
    have hlt := List.idxOf_lt_length_of_mem hm
    simp only [renN, List.mem_singleton] at hxy
    subst hxy
    have h0 : 0 ≤ f + ((stepsN stpN [] c).idxOf x.2.1 : Nat) := by omega
    have h1 : f + ((stepsN stpN [] c).idxOf x.2.1 : Nat) ≤ 1099511627776 := by omega
    generalize f + ((stepsN stpN [] c).idxOf x.2.1 : Nat) = M at h0 h1
    simp [okNd, varNd, h0, h1]
  · simp at hxy; subst hxy; exact h _ hx

end Go.Proofs.YtcjeeagnfmipgaaDoor

