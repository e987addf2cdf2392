import Derived.Test.YtojefplapklbmaaGreatDoorLa
/- The contracts of hornref.laid, whatever the terms, and of hornref.General: the document's generalization is ours (lgg). -/
namespace Go.Proofs.YtojefplapklbmaaGreatDoor
open Go.RowKit Go.Shelf Go.Maps

theorem apart_nd {x y x' y' : TV} (h1 : x.nd = x'.nd) (h2 : y.nd = y'.nd) : apart x y = apart x' y' := by
  have hk : x.k = x'.k := congrArg Prod.fst h1
  have hs : stop x y = stop x' y' := by
    rw [Bool.eq_iff_iff, ← nd_stop, ← nd_stop, h1, h2]
  unfold apart
  rw [hk, hs]
/-- All pairs of a list have nothing in common at the top. -/
def AllApart (cs : List Pr) : Prop := ∀ q ∈ cs, ∃ (n : Nat) (p r : Tm (n + 1)), q = (code p, code r) ∧ apart p.tv r.tv = true
theorem zf_all {n : Nat} {P : Pr → Prop} (hf : ∀ a b : Tm n, ∀ q ∈ prs a b, P q) : ∀ (a b : List (Tm n)), ∀ q ∈ zf prs a b, P q
  | [], _, q, h => by simp [zf] at h
  | _ :: _, [], q, h => by simp [zf] at h
  | x :: a, y :: b, q, h => by
    simp only [zf, List.mem_append] at h
    rcases h with h | h
    · exact hf x y q h
    · exact zf_all hf a b q h
theorem prs_allApart : ∀ {n : Nat} (a b : Tm n), AllApart (prs a b) := by
  intro n
  induction n with
  | zero => intro a; exact Empty.elim a
  | succ n ih =>
    intro a b
    cases h : apart a.tv b.tv with
    | true =>
      rw [prs_apart h]
      intro q hq
      simp at hq
      exact ⟨n, a, b, hq, h⟩
    | false =>
      rw [prs_like h]
      exact zf_all (P := fun q => ∃ (n : Nat) (p r : Tm (n + 1)), q = (code p, code r) ∧ apart p.tv r.tv = true) ih a.kids b.kids
theorem notin_like {cs : List Pr} (h : AllApart cs) {n : Nat} {x y : Tm (n + 1)} (hl : apart x.tv y.tv = false) : (code x, code y) ∉ cs := fun hm => by
  obtain ⟨m, p, r, hq, hp⟩ := h _ hm
  have h1 := congrArg Prod.fst hq
  have h2 := congrArg Prod.snd hq
  simp only at h1 h2
  rw [code_kids x, code_kids p] at h1
  rw [code_kids y, code_kids r] at h2
  simp only [List.cons.injEq] at h1 h2
  rw [apart_nd h1.1 h2.1, hp] at hl
  cases hl
theorem prs_kid {n : Nat} {x y : Tm (n + 1)} (hl : apart x.tv y.tv = false) {j : Nat} {u v : Tm n} (hu : x.kids[j]? = some u) (hv : y.kids[j]? = some v) : ∀ q ∈ prs u v, q ∈ prs x y := fun q hq => by
  rw [prs_like hl]
  have h1 := zfU_take (f := prs) x.kids y.kids j u v hu hv
  have h2 : ∀ (a b : List (Tm n)) (i : Nat), ∀ q ∈ zf prs (a.take i) (b.take i), q ∈ zf prs a b := by
    intro a
    induction a with
    | nil => intro b i q h; simp [zf] at h
    | cons z a ih =>
      intro b i q h
      cases b with
      | nil => simp [zf] at h
      | cons z' b =>
        cases i with
        | zero => simp [zf] at h
        | succ i =>
          simp only [List.take_succ_cons, zf, List.mem_append] at h ⊢
          rcases h with h | h
          · exact .inl h
          · exact .inr (ih b i q h)
  refine h2 _ _ (j + 1) q ?_
  rw [h1]
  exact List.mem_append.2 (.inr hq)

set_option maxRecDepth 100000 in
set_option maxHeartbeats 1000000 in
theorem laid_var {n : Nat} (la : Option Addr) (ll lc : Nat) (x y : Tm n) (i : Nat) (W : World)
    (hnt : ∀ W2, Below W.heap.size W W2 → Calls Tryz.prog 81 #[.slice la ll lc, x.tv.val, y.tv.val] W2 fun e W3 => e = .returned (.int .i64 (i : Nat)) ∧ Below W2.heap.size W2 W3) :
    Calls Tryz.prog 82 #[x.tv.val, y.tv.val, .slice la ll lc] W (LaidSays 1 W [varNd (i : Nat)]) := by
  obtain ⟨W3, hW3, hB3, hba, hbb, hbz, hsz⟩ := three_z W x.tv y.tv
  have hn3 := hnt W3 hB3
  have b0 := hba.c0
  have b1 := hba.c1
  have b2 := hba.c2
  have b3 := hba.c3
  have d0 := hbb.c0
  have d1 := hbb.c1
  have d2 := hbb.c2
  have d3 := hbb.c3
  have HB3 := hide hB3
  have HBZ := hide hbz
  have HSZ := hide hsz
  clear hB3 hba hbb hbz hsz hnt
  simp only [TV.val] at hn3 ⊢
  go_enter Tryz.func82, Tryz.ntmps82
  go_wp2_with fail
  refine hn3.mono ?_
  clear hn3 b0 b1 b2 b3 d0 d1 d2 d3 hW3
  rintro e W4 ⟨rfl, hb4⟩
  have hB4 : Below W.heap.size W W4 := (unhide HB3).trans (hb4.mono (unhide HB3).size)
  have hbz4 := (hb4.block (W.heap.size + 2) (by have := unhide HSZ; omega)).trans (unhide HBZ)
  have hs4 : W.heap.size + 2 < W4.heap.size := (Array.getElem?_eq_some_iff.1 hbz4).1
  have hv := v_any (i : Nat) W4
  simp only [TV.val, varV] at hv
  have HB4 := hide hB4
  have HBZ4 := hide hbz4
  clear hb4 hB4 hbz4 HB3 HBZ HSZ
  go_wp2_with fail
  refine hv.mono ?_
  clear hv
  rintro e W5 ⟨rfl, hb5⟩
  obtain ⟨⟨z0, z1, z2, z3⟩, y0, y1, y2, y3⟩ := zbox_kept ((hb5.block (W.heap.size + 2) hs4).trans (unhide HBZ4))
  have hfin : HoldsS 1 (Mix 0 W.heap.size) (set4 W5 (W.heap.size + 2) 0 (varV (i : Nat))) (varV (i : Nat)).val [varNd (i : Nat)] := (varV_holds (i : Nat) W.heap.size _).holdsS.mono (Nat.le_refl _) (fun b hb => .inr hb)
  have hbf : Below W.heap.size W (set4 W5 (W.heap.size + 2) 0 (varV (i : Nat))) := set4_below ((unhide HB4).trans (hb5.mono (unhide HB4).size)) (by omega) 0 _
  have HF := hide hfin
  have HBF := hide hbf
  clear hfin hbf hb5
  go_wp2_with fail
  refine bodyPost_ret (v := (varV (i : Nat)).val) ?_ rfl ⟨_, rfl, unhide HBF, unhide HF⟩
  simp [results, Tryz.results82, go_sem, TV.val, varV, z0, z1, z2, z3]

/-- hornref.laid, whatever the terms. -/
theorem laid_any {m : Nat} (ps : List (Tm m × Tm m)) (la : Option Addr) (ll lc : Nat) (hap : AllApart (cpP ps)) (hml : m ≤ 2199023255552) : ∀ (n : Nat) (x y : Tm n) (W : World), n ≤ m → IsP W.heap.size W la ll ps → IsT W.heap.size W x → IsT W.heap.size W y → okT x = true → okT y = true → (∀ q ∈ prs x y, q ∈ cpP ps) →
    Calls Tryz.prog 82 #[x.tv.val, y.tv.val, .slice la ll lc] W (LaidSays (n + 1) W (Gc (ιP (cpP ps)) x y)) := by
  intro n
  induction n with
  | zero => intro x; exact Empty.elim x
  | succ n ih =>
    intro x y W hnm hP hx hy ox oy hsub
    have hnt : ∀ W2, Below W.heap.size W W2 → Calls Tryz.prog 81 #[.slice la ll lc, x.tv.val, y.tv.val] W2 fun e W3 => e = .returned (.int .i64 (nthI (cpP ps) (code x, code y))) ∧ Below W2.heap.size W2 W3 := fun W2 hb => by
      obtain ⟨x', a1, a2, a3⟩ := lift_to ((hx.below hb).mono hb.size) m hnm hml
      obtain ⟨y', b1, b2, b3⟩ := lift_to ((hy.below hb).mono hb.size) m hnm hml
      have h := nth_any ps la ll lc x' y' W2 ((hP.below hb).mono hb.size) a2 b2
      rw [a1, b1, a3, b3] at h
      exact h
    cases hpp : apart x.tv y.tv with
    | true =>
      have hmem : (code x, code y) ∈ cpP ps := hsub _ (by rw [prs_apart hpp]; simp)
      have hni : nthI (cpP ps) (code x, code y) = ((cpP ps).idxOf (code x, code y) : Nat) := if_pos hmem
      rw [hni] at hnt
      rw [Gc_apart hpp]
      refine (laid_var la ll lc x y _ W hnt).mono fun e W' h => ?_
      obtain ⟨z, g1, g2, g3⟩ := h
      exact ⟨z, g1, g2, g3.mono (by omega) (fun _ h => h)⟩
    | false =>
      rw [nthI_no (notin_like hap hpp)] at hnt
      rw [Gc_like hpp]
      have hkid := fun (j : Nat) (u v : Tm n) (hu : x.kids[j]? = some u) (hv : y.kids[j]? = some v) q hq => hsub q (prs_kid hpp hu hv q hq)
      obtain ⟨_, hnd⟩ := apart_no hpp
      obtain ⟨⟨k, N, s, a, len, cap⟩, kids⟩ := x
      obtain ⟨⟨k', N', s', a', len', cap'⟩, kids'⟩ := y
      obtain ⟨wx, okx⟩ := ok_kids ox
      obtain ⟨wy, oky⟩ := ok_kids oy
      obtain ⟨hlen, hmax, hsm, hkids⟩ := hx
      obtain ⟨hlen', hmax', hsm', hkids'⟩ := hy
      have hl50 : len ≤ 50 := by
        simp only at wx
        rcases wm_cases wx with ⟨_, _, _, _, h⟩ | ⟨_, h⟩ | ⟨_, _, _, h⟩ <;> omega
      have hlq : len = len' := by simp only [Tm.tv, TV.nd, Prod.mk.injEq] at hnd; exact hnd.2.2.2
      exact laid_comp ps la ll lc (fun x y W h1 h2 h3 h4 h5 h6 => ih x y W (by omega) h1 h2 h3 h4 h5 h6) k N s s' k' N' a a' len cap len' cap' kids kids' W hP hnt hlq hlen hlen' hl50 hsm hkids hkids' okx oky hkid
end Go.Proofs.YtojefplapklbmaaGreatDoor

/- The contract of hornref.General: the document's generalization is ours (lgg). -/
namespace Go.Proofs.YtojefplapklbmaaGreatDoor
open Go.RowKit Go.Shelf Go.Maps

theorem stepsP_take {l : List Pr} {j : Nat} {q : Pr} (h : l[j]? = some q) : stepsP [] (l.take (j + 1)) = stpP (stepsP [] (l.take j)) q := by
  obtain ⟨hj, rfl⟩ := List.getElem?_eq_some_iff.1 h
  rw [List.take_succ_eq_append_getElem hj, stepsP_append]
  rfl
theorem wpList_append_row {P : Program} {w w' : World} {ops : Array Oper} {rest : List Oper} {o : Oper} {a : Act} {Q : Exit → Act → World → Prop} (hgd : o.guard = none) (s x : Operand) (t : TypeId) {v u v' : Value}
    (ho : o.op = .call { callee := .builtin .append, args := #[s, x], argTypes := #[t, t] }) (hs : a.eval s = v) (hx : a.eval x = u) (hr : (Builtin.append_ #[t, t] o.type #[v, u]).run P w = .ok v' w') (h : wpList P ops Q rest (a.put o.dst v') w') : wpList P ops Q (o :: rest) a w :=
  wpList_plain hgd fun _ hK => wp_append_row s x t ho hs hx hr (hK _ _ h)
theorem stepsP_short (l : List Pr) : (stepsP [] l).length ≤ l.length := by
  obtain ⟨d, h1, h2⟩ := stepsP_ext l []
  rw [h1]; simpa using h2

set_option maxRecDepth 100000 in
set_option maxHeartbeats 4000000 in
theorem rgeneral_any {n : Nat} (x y : Tm n) (w : World) (hx : IsT w.heap.size w x) (hy : IsT w.heap.size w y) (ox : okT x = true) (oy : okT y = true) (hbig : (code x).length ≤ 4194304) :
    Calls Tryz.prog 47 #[x.tv.val, y.tv.val] w fun e W' => ∃ z : TV, e = .returned z.val ∧ Below w.heap.size w W' ∧ HoldsS (n + 1) (fun _ => True) W' z.val (lgg x y) := by
  obtain ⟨W1, hW1, hB1, hba, hbb, hbz, hsz⟩ := three_z w x.tv y.tv
  have hDl := hx.lim
  have hun := unlike_any (n₀ := w.heap.size) n x y W1 (hx.below hB1) (hy.below hB1) hB1.size ox oy hbig
  have hpl := prsU_len x y
  have hapart := prs_allApart x y
  have hlaid := fun (ps : List (Tm n × Tm n)) (la : Option Addr) (ll lc : Nat) (W : World) (h1 : cpP ps = stepsP [] (prs x y)) (hb : Below w.heap.size w W) (hP : IsP W.heap.size W la ll ps) =>
    laid_any ps la ll lc (by rw [h1]; exact fun q hq => hapart q ((stepsP_sub _ _ q hq).resolve_left (by simp))) hx.lim n x y W (Nat.le_refl _) hP ((hx.below hb).mono hb.size) ((hy.below hb).mono hb.size) ox oy (fun q hq => by rw [h1]; exact stepsP_mem _ _ q hq)
  have hlg : ∀ ps : List (Tm n × Tm n), cpP ps = stepsP [] (prs x y) → Gc (ιP (cpP ps)) x y = lgg x y := fun ps h => by rw [h]; rfl
  obtain ⟨c, hc⟩ : ∃ c, prs x y = c := ⟨_, rfl⟩
  rw [hc] at hun hpl hlaid hlg
  have b0 := hba.c0
  have b1 := hba.c1
  have b2 := hba.c2
  have b3 := hba.c3
  have d0 := hbb.c0
  have d1 := hbb.c1
  have d2 := hbb.c2
  have d3 := hbb.c3
  obtain ⟨i0, hi, hz0, hz1, hz2⟩ := info_parts Tryz.info_pair
  have HLA := hide hlaid
  have HLG := hide hlg
  have HB1 := hide hB1
  have HBA := hide hba
  have HBB := hide hbb
  have HBZ := hide hbz
  have HSZ := hide hsz
  clear hx hy ox oy hapart hlaid hlg hc hB1 hba hbb hbz hsz
  simp only [TV.val] at hun ⊢
  go_enter Tryz.func47, Tryz.ntmps47
  go_wp2_with fail
  refine hun.mono ?_
  clear hun b0 b1 b2 b3 d0 d1 d2 d3 hW1
  rintro e W2 ⟨pa, pl, pc, lp, rfl, hb2, hm2⟩
  have hsz := unhide HSZ
  have hs2 := hb2.size
  have hB2 : Below w.heap.size w W2 := (unhide HB1).trans (hb2.mono (unhide HB1).size)
  have hlen2 := hm2.len
  obtain ⟨pa', pc', e2, hall⟩ := hm2.isP (by omega) hB2.size
  simp only [Value.slice.injEq] at e2
  obtain ⟨rfl, rfl, rfl⟩ := e2
  obtain ⟨ks, hks, hcks, hkT⟩ := hall n (Nat.le_refl _) hm2.lim
  have hba2 : BoxT W2 w.heap.size x.tv := boxT_on (unhide HBA) hb2
  have hbb2 : BoxT W2 (w.heap.size + 1) y.tv := boxT_on (unhide HBB) hb2
  have hbz2 := (hb2.block (w.heap.size + 2) (by omega)).trans (unhide HBZ)
  have HKS := hide hks
  have HKT := hide hkT
  clear hkT
  have HCK := hide hcks
  have HB2 := hide hB2
  have HBA2 := hide hba2
  have HBB2 := hide hbb2
  have HBZ2 := hide hbz2
  have hlc : lp.length ≤ 4194304 := by omega
  have HL2 := hide hlen2
  clear hm2 hb2 hall hks hcks hba2 hbb2 hbz2 hB2 hlen2 HB1 HBA HBB HBZ
  go_wp2_with fail
  go_loopw [5, 7] (fun lv i wr => ∃ (j : Nat) (l : List (TV × TV)), j ≤ lp.length ∧ i = .int .i64 j ∧ Below W2.heap.size W2 wr ∧ MadeP n w.heap.size W2.heap.size wr lv l (stepsP [] (c.take j))) (fun _ i _ => lp.length - (intOf i).toNat)
  case atStart => exact ⟨0, [], Nat.zero_le _, rfl, Below.refl _ _, by simpa [stepsP] using MadeP.zero _ _ _ _⟩
  case round =>
    obtain ⟨j, l, hj, rfl, hb, hm⟩ := hrel
    have hbs := hb.size
    have hBw : Below w.heap.size w wr := (unhide HB2).trans (hb.mono (unhide HB2).size)
    have hml := hm.len
    have hsl := stepsP_short (c.take j)
    have htl : (c.take j).length ≤ j := by rw [List.length_take]; omega
    obtain ⟨va, vc, hv5, hall⟩ := hm.isP (by omega) hBw.size
    subst hv5
    obtain ⟨ms, hms, hcms, -⟩ := hall n (Nat.le_refl _) hm.lim
    have HM := hide hm
    clear hm hall
    by_cases hlt : j < lp.length
    · obtain ⟨u, v, b, off, hu, rfl, hbk, hTu, hTv, ⟨c0, c1, c2, c3⟩, ⟨d0, d1, d2, d3⟩⟩ := pair_at (unhide HKS) hb hlt
      have hcj : c[j]? = some (code u, code v) := by rw [← unhide HCK]; unfold cpP; rw [List.getElem?_map, hu]; rfl
      have hstep := stepsP_take hcj
      have hdr : Below wr.heap.size wr wr.drew := (Below.refl _ wr).drew
      have hnt := nth_any ms va l.length vc u v wr.drew (hms.below hdr) (hTu.below hdr) (hTv.below hdr)
      rw [hcms] at hnt
      replace hnt := hnt.mono (R' := fun e W3 => e = .returned (.int .i64 (nthI (stepsP [] (c.take j)) (code u, code v))) ∧ Below wr.heap.size wr W3) (fun e W3 h => ⟨h.1, hdr.trans h.2⟩)
      have hj1 : (j : Int) < lp.length := by omega
      have hy2 : b < wr.heap.size := by omega
      obtain ⟨r, hr⟩ : ∃ r, nthI (stepsP [] (c.take j)) (code u, code v) = r := ⟨_, rfl⟩
      rw [hr] at hnt
      have hone := fun (W : World) (hbW : Below wr.heap.size wr W) => one_pair (n₀ := w.heap.size) (x := u) (y := v) hbW
      have HSTEP := hide hstep
      have HMS := hide hms
      clear hms hcms hdr hone hstep
      by_cases hmem : (code u, code v) ∈ stepsP [] (c.take j)
      · have hstp : stpP (stepsP [] (c.take j)) (code u, code v) = stepsP [] (c.take j) := if_pos hmem
        have hr0 : ¬ r < 0 := by rw [← hr]; unfold nthI; rw [if_pos hmem]; omega
        have hr1 : decide (r < 0) = false := decide_eq_false hr0
        have HST := hide hstp
        clear hmem hstp hr hTu hTv hu hcj
        simp only [TV.val] at hnt
        go_wp2_with fail
        go_region_held3 (fun w' => w'.cell? ⟨b, off + j * 8, none⟩ = some (.int .i64 u.tv.k) ∧ w'.cell? ⟨b, off + j * 8 + 1, none⟩ = some (.int .i64 u.tv.N) ∧ w'.cell? ⟨b, off + j * 8 + 2, none⟩ = some (.string u.tv.s) ∧ w'.cell? ⟨b, off + j * 8 + 3, none⟩ = some (.slice u.tv.a u.tv.len u.tv.cap)
          ∧ w'.cell? ⟨b, off + j * 8 + 4, none⟩ = some (.int .i64 v.tv.k) ∧ w'.cell? ⟨b, off + j * 8 + 4 + 1, none⟩ = some (.int .i64 v.tv.N) ∧ w'.cell? ⟨b, off + j * 8 + 4 + 2, none⟩ = some (.string v.tv.s) ∧ w'.cell? ⟨b, off + j * 8 + 4 + 3, none⟩ = some (.slice v.tv.a v.tv.len v.tv.cap)) (go_keep)
          (first | (go_at_call 81; refine hnt.mono ?_; clear hnt; rintro e W3 ⟨rfl, hb3⟩; have hbc := bcell hb3))
        clear hbc
        have hfin : MadeP n w.heap.size W2.heap.size W3 (.slice va l.length vc) l (stepsP [] (c.take (j + 1))) := by rw [unhide HSTEP, unhide HST]; exact (unhide HM).below hb3 hBw.size
        have HF := hide hfin
        clear hfin
        go_wp2_with fail
        exact ⟨⟨j + 1, l, by omega, by go_num, hb.trans (hb3.mono hbs), unhide HF⟩, by simp [intOf]; omega⟩
      · have hstp : stpP (stepsP [] (c.take j)) (code u, code v) = stepsP [] (c.take j) ++ [(code u, code v)] := if_neg hmem
        have hr0 : r < 0 := by rw [← hr]; unfold nthI; rw [if_neg hmem]; omega
        have hr1 : decide (r < 0) = true := decide_eq_true hr0
        have HST := hide hstp
        have hTn := (unhide HKT) (u, v) (List.mem_of_getElem? hu)
        have hTu0 : IsT w.heap.size wr u := hTn.1.below (hb.mono (unhide HB2).size)
        have hTv0 : IsT w.heap.size wr v := hTn.2.below (hb.mono (unhide HB2).size)
        have HTU := hide hTu0
        have HTV := hide hTv0
        clear hTn hTu0 hTv0
        clear hmem hstp hr hTu hTv hu hcj
        simp only [TV.val] at hnt
        go_wp2_with fail
        go_region_held3 (fun w' => w'.cell? ⟨b, off + j * 8, none⟩ = some (.int .i64 u.tv.k) ∧ w'.cell? ⟨b, off + j * 8 + 1, none⟩ = some (.int .i64 u.tv.N) ∧ w'.cell? ⟨b, off + j * 8 + 2, none⟩ = some (.string u.tv.s) ∧ w'.cell? ⟨b, off + j * 8 + 3, none⟩ = some (.slice u.tv.a u.tv.len u.tv.cap)
          ∧ w'.cell? ⟨b, off + j * 8 + 4, none⟩ = some (.int .i64 v.tv.k) ∧ w'.cell? ⟨b, off + j * 8 + 4 + 1, none⟩ = some (.int .i64 v.tv.N) ∧ w'.cell? ⟨b, off + j * 8 + 4 + 2, none⟩ = some (.string v.tv.s) ∧ w'.cell? ⟨b, off + j * 8 + 4 + 3, none⟩ = some (.slice v.tv.a v.tv.len v.tv.cap)) (go_keep)
          (first | (go_at_call 81; refine hnt.mono ?_; clear hnt; rintro e W3 ⟨rfl, hb3⟩; have hbc := bcell hb3))
        have hs3 := hb3.size
        have e0 := (hbc b (off + j * 8) hy2).trans c0
        have e1 := (hbc b (off + j * 8 + 1) hy2).trans c1
        have e2 := (hbc b (off + j * 8 + 2) hy2).trans c2
        have e3 := (hbc b (off + j * 8 + 3) hy2).trans c3
        have e4 := (hbc b (off + j * 8 + 4) hy2).trans d0
        have e5 : W3.cell? ⟨b, off + j * 8 + 5, none⟩ = some (.int .i64 v.tv.N) := (hbc b (off + j * 8 + 5) hy2).trans d1
        have e6 : W3.cell? ⟨b, off + j * 8 + 6, none⟩ = some (.string v.tv.s) := (hbc b (off + j * 8 + 6) hy2).trans d2
        have e7 : W3.cell? ⟨b, off + j * 8 + 7, none⟩ = some (.slice v.tv.a v.tv.len v.tv.cap) := (hbc b (off + j * 8 + 7) hy2).trans d3
        have hm3 := (unhide HM).below hb3 hBw.size
        obtain ⟨_, _, _, lq, hq1, hq2, hq3⟩ := one_pair (n₀ := w.heap.size) hb3 (unhide HTU) (unhide HTV) hBw.size
        simp only [Ending.returned.injEq, Value.slice.injEq] at hq1
        obtain ⟨rfl, rfl, rfl⟩ := hq1
        obtain ⟨u6, w6, hr6, hm6, hg6⟩ := (hm3.below ((Below.refl _ W3).alloc (Nat.le_refl _) (.cells #[.int .i64 u.tv.k, .int .i64 u.tv.N, .string u.tv.s, .slice u.tv.a u.tv.len u.tv.cap, .int .i64 v.tv.k, .int .i64 v.tv.N, .string v.tv.s, .slice v.tv.a v.tv.len v.tv.cap] 114)) (by have := hBw.size; omega)).append hq3 110 (by have := hq3.len; simp at this; omega) (by have := (unhide HB2).size; omega) (by simp; omega)
        have hbf : Below W2.heap.size W2 w6 := ((hb.trans (hb3.mono hbs)).alloc (by omega) _).grown hg6 (by simp; omega) (fun g hg => (owns_lt (unhide HM).owns hg).1)
        obtain ⟨va6, vc6, rfl⟩ := hm6.slice
        have hfin : MadeP n w.heap.size W2.heap.size w6 (.slice va6 (l ++ lq).length vc6) (l ++ lq) (stepsP [] (c.take (j + 1))) := by rw [unhide HSTEP, unhide HST]; exact hm6
        have HF := hide hfin
        clear hfin hm6 hm3 hq3 hq2 hbc c0 c1 c2 c3 d0 d1 d2 d3 hg6
        go_wp2_with (at_builtin; go_must (refine wpList_append_row rfl _ _ _ rfl rfl rfl hr6 ?_))
        exact ⟨⟨j + 1, l ++ lq, by omega, by go_num, hbf, by have h := unhide HF; rw [List.length_append] at h; exact h⟩, by simp [intOf]; omega⟩
    · have ht : c.take j = c := List.take_of_length_le (by have := unhide HL2; omega)
      rw [ht] at hcms
      have hbar : BoxT wr w.heap.size x.tv := boxT_on (unhide HBA2) hb
      have hbbr : BoxT wr (w.heap.size + 1) y.tv := boxT_on (unhide HBB2) hb
      have hbzr := (hb.block (w.heap.size + 2) (by omega)).trans (unhide HBZ2)
      have hla := (unhide HLA) ms va l.length vc wr hcms hBw hms
      rw [(unhide HLG) ms hcms] at hla
      have b0 := hbar.c0
      have b1 := hbar.c1
      have b2 := hbar.c2
      have b3 := hbar.c3
      have d0 := hbbr.c0
      have d1 := hbbr.c1
      have d2 := hbbr.c2
      have d3 := hbbr.c3
      have HBW := hide hBw
      have HBZR := hide hbzr
      have hzl : w.heap.size + 2 < wr.heap.size := (Array.getElem?_eq_some_iff.1 hbzr).1
      simp only [TV.val] at hla
      clear hms hcms ht hbar hbbr hbzr hBw
      go_wp2_with fail
      refine hla.mono ?_
      clear hla b0 b1 b2 b3 d0 d1 d2 d3
      rintro e W5 ⟨z, rfl, hb5, hz⟩
      obtain ⟨⟨z0, z1, z2, z3⟩, y0, y1, y2, y3⟩ := zbox_kept ((hb5.block (w.heap.size + 2) hzl).trans (unhide HBZR))
      have hB5 : Below w.heap.size w W5 := (unhide HBW).trans (hb5.mono (unhide HBW).size)
      have hfin : HoldsS (n + 1) (fun _ => True) (set4 W5 (w.heap.size + 2) 0 z) z.val (lgg x y) := (hz.fromS (fun b hb _ => set4_other _ _ 0 z (by unfold Mix at hb; omega)) (by rw [set4_size]; exact Nat.le_refl _)).mono (Nat.le_refl _) (fun _ _ => trivial)
      have hbf : Below w.heap.size w (set4 W5 (w.heap.size + 2) 0 z) := set4_below hB5 (by omega) 0 z
      have HF := hide hfin
      have HBF := hide hbf
      clear hfin hbf hz hB5 hb5
      simp only [TV.val]
      go_wp2_with fail
      refine bodyPost_ret (v := z.val) ?_ rfl ⟨z, rfl, unhide HBF, unhide HF⟩
      simp [results, Tryz.results47, go_sem, TV.val, z0, z1, z2, z3]
end Go.Proofs.YtojefplapklbmaaGreatDoor

