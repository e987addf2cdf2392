import Derived.Test.YtcdgmjpgmiehcaaGqWs
/- grammar's Translate. (Written by wip/gqtranslgen.py.) -/
namespace Go.Proofs.Ytcdgmjpgmiehcaa
open Go.RowKit Go.Shelf

/-- How a rule is renamed. -/
def sigT {n : Nat} (t : Tm n) (N : Int) : Int := 0 + ((stepsN stpN [] (code t)).idxOf N : Nat)
def ruleL : List UInt8 := [45, 45, 62]
/-- What is known of the renamed rule. -/
structure Own {n m : Nat} (t : Tm n) (o : Tm m) : Prop where
  wl : Wl o
  cd : code o = canon 0 (code t)
/-- A rule's renamed parts: a head and a body. -/
theorem own_parts {n m : Nat} {x : TV} {h b : Tm n} {ox : TV} {ok : List (Tm m)} (hw : Wl (n := n + 1) ((x, [h, b]) : TV × List (Tm n))) (okt : okT (n := n + 1) ((x, [h, b]) : TV × List (Tm n)) = true) (hx : isB x ruleL 2 = true) (ho : Own (n := n + 1) (m := m + 1) ((x, [h, b]) : TV × List (Tm n)) ((ox, ok) : TV × List (Tm m))) :
    ∃ oh ob, ok = [oh, ob] ∧ ox.len = 2 ∧ code oh = renC (sigT (n := n + 1) ((x, [h, b]) : TV × List (Tm n))) (code h) ∧ code ob = renC (sigT (n := n + 1) ((x, [h, b]) : TV × List (Tm n))) (code b) ∧ Wl oh ∧ Wl ob := by
  have hc : code (n := m + 1) ((ox, ok) : TV × List (Tm m)) = renC (sigT (n := n + 1) ((x, [h, b]) : TV × List (Tm n))) (code (n := n + 1) ((x, [h, b]) : TV × List (Tm n))) := ho.cd
  have k1 := isB_kind hx
  obtain ⟨e1, e2⟩ := renV_root _ k1 hc
  have hl : x.len = 2 := by have := isB_len hx; omega
  have hol : ox.len = 2 := by rw [(nd_parts e1).2.2.2]; exact hl
  obtain ⟨oh, ob, rfl⟩ := two_kids ho.wl hol
  obtain ⟨c1, c2⟩ := ren_kids2 _ hw okt ho.wl e2
  have hwk : ∀ z ∈ [oh, ob], Wl z := ho.wl.2
  exact ⟨oh, ob, rfl, hol, c1, c2, hwk oh (by simp), hwk ob (by simp)⟩
theorem head_ren (σ : Int → Int) {n m : Nat} {u : Tm (n + 1)} {o : Tm (m + 1)} (hu : Wl u) (ok : okT u = true) (h : code o = renC σ (code u)) : headE o.tv = headE u.tv ∧ (headE u.tv = 0 → o.tv.s.toList = u.tv.s.toList ∧ o.tv.len = u.tv.len ∧ o.kids.flatMap code = renC σ (u.kids.flatMap code)) := by
  obtain ⟨x, kids⟩ := u
  obtain ⟨y, ky⟩ := o
  by_cases k1 : x.k = 1
  · obtain rfl := var_kids hu ok k1
    have e : renC σ (code (n := n + 1) ((x, []) : TV × List (Tm n))) = [varNd (σ x.N)] := by
      rw [code_succ, List.flatMap_nil]; exact renV_one σ _ k1
    rw [e, code_succ] at h
    simp only [List.cons.injEq] at h
    have hy1 : y.k = 1 := congrArg (fun z : Nd => z.1) h.1
    have h7 : ∀ {z : TV}, z.k = 1 → headE z = 7 := fun {z} hz => by unfold headE; rw [if_neg (by omega)]
    refine ⟨(h7 hy1).trans (h7 k1).symm, fun h0 => ?_⟩
    have := h7 k1
    simp only [Tm.tv] at h0
    omega
  · obtain ⟨e1, e2⟩ := renV_root σ k1 h
    have hp := nd_parts e1
    refine ⟨?_, fun _ => ⟨hp.2.2.1, hp.2.2.2, e2⟩⟩
    show headE y = headE x
    unfold headE
    rw [hp.1, ext_nd e1]
theorem renC_nil (σ : Int → Int) : renC σ [] = [] := rfl
theorem renC_split (σ : Int → Int) (x : Nd) (c : List Nd) : renC σ (x :: c) = (if x.1 = 1 then [varNd (σ x.2.1)] else [x]) ++ renC σ c := by
  by_cases h : x.1 = 1
  · rw [if_pos h, ← renV_one σ x h, ← renC_append]; rfl
  · rw [if_neg h, renC_cons σ x c h]; rfl
theorem ren_ok {σ : Int → Int} : ∀ {c : List Nd}, c.all okM = true → (∀ N, IsVarOf c N → 0 ≤ σ N ∧ σ N ≤ 1099511627776) → (renC σ c).all okM = true
  | [], _, _ => rfl
  | x :: c, h, hσ => by
    rw [all_cons] at h
    rw [renC_split, all_app]
    refine ⟨?_, ren_ok h.2 (fun N hN => hσ N ((isVar_cons x c N).2 (.inr hN)))⟩
    by_cases h1 : x.1 = 1
    · rw [if_pos h1]
      have := hσ x.2.1 ((isVar_cons x c _).2 (.inl ⟨h1, rfl⟩))
      exact varOk this.1 this.2
    · rw [if_neg h1, all_cons]; exact ⟨h.1, rfl⟩
theorem ren_has {σ : Int → Int} : ∀ {c : List Nd} {M : Int}, IsVarOf (renC σ c) M → ∃ N, IsVarOf c N ∧ M = σ N
  | [], M, h => by obtain ⟨y, hy, _⟩ := h; cases hy
  | x :: c, M, h => by
    rw [renC_split, isVar_append] at h
    rcases h with h | h
    · by_cases h1 : x.1 = 1
      · rw [if_pos h1] at h
        exact ⟨x.2.1, (isVar_cons x c _).2 (.inl ⟨h1, rfl⟩), (var_one _ M).1 h⟩
      · rw [if_neg h1] at h
        obtain ⟨y, hy, hk, _⟩ := h
        have : y = x := by simpa using hy
        subst this
        exact absurd hk h1
    · obtain ⟨N, hN, e⟩ := ren_has h
      exact ⟨N, (isVar_cons x c N).2 (.inr hN), e⟩
/-- The goal of a rule's body, numbered: right, its variables in a row. -/
theorem goal_fine {m : Nat} {ob : Tm m} {k : Int} (hw : Wl ob) (ok : okT ob = true) (he : berr ob = 0) (hv : ∀ N, IsVarOf (code ob) N → 0 ≤ N ∧ N < k) (hk : 0 ≤ k) (hc : k + 2 + cntT ob ≤ 1099511627776) :
    (renC (newR (k + 2) (extV (k + 2) [] (btwC ob [varNd k] [varNd (k + 1)] (k + 2)))) (btwC ob [varNd k] [varNd (k + 1)] (k + 2))).all okM = true ∧
    ∀ N, IsVarOf (renC (newR (k + 2) (extV (k + 2) [] (btwC ob [varNd k] [varNd (k + 1)] (k + 2)))) (btwC ob [varNd k] [varNd (k + 1)] (k + 2))) N → 0 ≤ N ∧ N < k + 2 + cntT ob := by
  have hin : ∀ N, IsVarOf (btwC ob [varNd k] [varNd (k + 1)] (k + 2)) N → 0 ≤ N ∧ N < k + 2 + cntT ob := fun N hN => by
    rcases (btw_vars ob hw ok _ _ _ N).1 hN with h | h | h | h
    · have := hv N h; omega
    · have := (var_one k N).1 h; omega
    · have := (var_one (k + 1) N).1 h; omega
    · omega
  have hlen := cnt_ext (f := k + 2) hw ok (s := [varNd k]) (r := [varNd (k + 1)]) he (fun N h => by have := hv N h; omega) (fun N h => by have := (var_one k N).1 h; omega) (fun N h => by have := (var_one (k + 1) N).1 h; omega)
  have hσ : ∀ N, IsVarOf (btwC ob [varNd k] [varNd (k + 1)] (k + 2)) N → 0 ≤ newR (k + 2) (extV (k + 2) [] (btwC ob [varNd k] [varNd (k + 1)] (k + 2))) N ∧ newR (k + 2) (extV (k + 2) [] (btwC ob [varNd k] [varNd (k + 1)] (k + 2))) N < k + 2 + cntT ob := fun N hN => by
    unfold newR
    by_cases h2 : k + 2 ≤ N
    · rw [if_pos h2]
      have hm : N ∈ extV (k + 2) [] (btwC ob [varNd k] [varNd (k + 1)] (k + 2)) := (extV_mem _ _ _ N).2 (.inr ⟨hN, h2⟩)
      have := List.idxOf_lt_length_of_mem hm
      omega
    · rw [if_neg h2]; exact hin N hN
  have hok : (btwC ob [varNd k] [varNd (k + 1)] (k + 2)).all okM = true := btw_all (p := okM) (fun l j h1 h2 h3 => by simp [okM]; omega) (by decide) (fun u c hwu oku hb _ => (body_fine hwu oku hb).1) (fun x hx hp => by
    unfold TV.nd at hp
    simp [okM, hx] at hp
    have := varOk (N := x.N) (by omega) (by omega)
    rw [all_cons] at this
    exact this.1) ob hw ok he (by rw [← okT_m]; exact ok) _ _ _ (varOk hk (by omega)) (varOk (by omega) (by omega)) (fun i hi => by have := varOk (N := k + 2 + i) (by omega) (by omega); rw [all_cons] at this; exact this.1)
  refine ⟨ren_ok hok (fun N hN => by have := hσ N hN; omega), fun N hN => ?_⟩
  obtain ⟨M, hM, rfl⟩ := ren_has hN
  exact hσ M hM
/-- Rename, of what is right and not too large. -/
theorem own_ren {n : Nat} (t : Tm n) (V : World) (hT : IsT V.heap.size V t) (ok : okT t = true) (pl : (parts t).length ≤ 4194304) (hn : n + 1 ≤ 2199023255552) :
    ∀ U, Below V.heap.size V U → Calls Try.prog 19 #[t.tv.val, .int .i64 0] U fun e W' => ∃ o : Tm (n + 1), e = .returned (.tuple #[o.tv.val, .int .i64 ((stepsN stpN [] (code t)).length : Nat), .int .i64 0]) ∧ Below U.heap.size U W' ∧ IsT W'.heap.size W' o ∧ Own t o := fun U hU => by
  refine (rename_full t 0 U ((hT.below hU).mono hU.size) ok).mono fun e W' hq => ?_
  obtain ⟨x, k, r, e1, e2, e3⟩ := hq
  have hlen : (stepsN stpN [] (code t)).length ≤ 4194304 := by
    have h1 := varsC_len [] (code t)
    have h2 : (code t).length = (parts t).length := (by unfold code; rw [List.length_map])
    have h3 : (varsC [] (code t)).length = (stepsN stpN [] (code t)).length := rfl
    simp only [List.length_nil] at h1
    omega
  rcases e3 with ⟨_, _, _, rfl, rfl, hH⟩ | ⟨_, _, hno, _⟩ | ⟨hno, _⟩
  · obtain ⟨o, o1, o2, o3, o4⟩ := hH (n + 1) (Nat.le_refl _)
    have hI := o2 hn
    refine ⟨o, ?_, e2, hI, hI.wl, o4⟩
    rw [e1, o1]
    simp
  · omega
  · exact absurd ⟨by omega, by omega⟩ hno
/-- The clause is renamed. -/
theorem clause_ren {n : Nat} {oh ob : Tm (n + 2)} {k : Int} (hw1 : Wl oh) (hw2 : Wl ob) (ok1 : okT oh = true) (ok2 : okT ob = true) (he : berr ob = 0) (hv : ∀ N, IsVarOf (code oh) N ∨ IsVarOf (code ob) N → 0 ≤ N ∧ N < k) (hl : oh.tv.len ≤ 48) (hk : 0 ≤ k) (hc : k + 2 + cntT ob ≤ 1099511627776) :
    ∀ (WF : World) (lo g3 : Nat), HoldsG anyP (3 * n + 30 + 1) lo WF (compV ⟨#[58, 45]⟩ (some ⟨g3, 0, none⟩) 2 2).val ((4, 0, (⟨#[58, 45]⟩ : ByteArray).toList, 2) :: ((4, 0, oh.tv.s.toList, oh.tv.len + 2) :: (oh.kids.flatMap code ++ ([varNd k] ++ [varNd (k + 1)])) ++ renC (newR (k + 2) (extV (k + 2) [] (btwC ob [varNd k] [varNd (k + 1)] (k + 2)))) (btwC ob [varNd k] [varNd (k + 1)] (k + 2)))) → 3 * n + 32 ≤ 2199023255552 →
    Calls Try.prog 19 #[(compV ⟨#[58, 45]⟩ (some ⟨g3, 0, none⟩) 2 2).val, .int .i64 0] WF fun e W' => ∃ (y : TV) (j : Int), e = .returned (.tuple #[y.val, .int .i64 j, .int .i64 0]) ∧ Below WF.heap.size WF W' ∧ HoldsG anyP (3 * n + 32) WF.heap.size W' y.val (canon 0 ((4, 0, (⟨#[58, 45]⟩ : ByteArray).toList, 2) :: ((4, 0, oh.tv.s.toList, oh.tv.len + 2) :: (oh.kids.flatMap code ++ ([varNd k] ++ [varNd (k + 1)])) ++ renC (newR (k + 2) (extV (k + 2) [] (btwC ob [varNd k] [varNd (k + 1)] (k + 2)))) (btwC ob [varNd k] [varNd (k + 1)] (k + 2))))) := fun WF lo g3 hG hlim => by
  obtain ⟨c, c1, c2, _, c4⟩ := hG (3 * n + 31) (by omega) (by omega)
  obtain ⟨gf1, gf2⟩ := goal_fine hw2 ok2 he (fun N h => hv N (.inr h)) hk hc
  have hkids : (oh.kids.flatMap code).all okM = true ∧ oh.tv.s.toList.length ≤ 100 ∧ ∀ N, IsVarOf (oh.kids.flatMap code) N → IsVarOf (code oh) N := by
    have h0 : (code oh).all okM = true := by rw [← okT_m]; exact ok1
    obtain ⟨x, kids⟩ := oh
    obtain ⟨p1, p2, _⟩ := kid_all h0
    refine ⟨p2, okM_name p1, fun N hN => ?_⟩
    obtain ⟨y, hy, e⟩ := hN
    exact ⟨y, by rw [code_succ]; exact List.mem_cons_of_mem _ hy, e⟩
  have hname : (⟨#[58, 45]⟩ : ByteArray).toList = [58, 45] := by decide +kernel
  have hok : (code c).all okM = true := by
    rw [c4, hname, all_cons, all_app, all_cons, all_app, all_app]
    exact ⟨by decide, ⟨by have := hkids.2.1; simp [okM]; omega, hkids.1, varOk hk (by omega), varOk (by omega) (by omega)⟩, gf1⟩
  have hvars : ∀ N, IsVarOf (code c) N → 0 ≤ N ∧ N < k + 2 + cntT ob := fun N hN => by
    rw [c4, not_var _ _ _ (by simp), isVar_append, not_var _ _ _ (by simp), isVar_append, isVar_append] at hN
    rcases hN with (h | h | h) | h
    · have := hv N (.inl (hkids.2.2 N h)); omega
    · have := (var_one k N).1 h; omega
    · have := (var_one (k + 1) N).1 h; omega
    · exact gf2 N h
  have hlen : ((stepsN stpN [] (code c)).length : Int) ≤ k + 2 + cntT ob := by
    have := nodup_leG (k + 2 + cntT ob).toNat (stepsN stpN [] (code c)) 0 (steps_nodup _ _ List.nodup_nil) (fun N hN => by
      rcases (steps_mem (code c) [] N).1 hN with h | h
      · cases h
      · have := hvars N h; omega)
    omega
  rw [c1]
  refine (rename_full c 0 WF c2 (by rw [okT_m]; exact hok)).mono fun e W' hq => ?_
  obtain ⟨x, j, r, e1, e2, e3⟩ := hq
  rcases e3 with ⟨_, _, _, rfl, _, hH⟩ | ⟨_, _, hno, _⟩ | ⟨hno, _⟩
  · rw [c4] at hH
    exact ⟨x, j, e1, e2, (hH.holdsG (P := anyP) (fun _ _ => trivial)).mono (by omega) (Nat.le_refl _) (fun _ h => h)⟩
  · omega
  · exact absurd ⟨by omega, by omega⟩ hno
set_option maxRecDepth 100000 in
set_option maxHeartbeats 8000000 in
theorem trans_yes {n : Nat} (x : TV) (h b : Tm (n + 1)) (V : World) (hT : IsT (n := n + 2) V.heap.size V ((x, [h, b]) : TV × List (Tm (n + 1)))) (ok : okT (n := n + 2) ((x, [h, b]) : TV × List (Tm (n + 1))) = true) (pl : (parts (n := n + 2) ((x, [h, b]) : TV × List (Tm (n + 1)))).length ≤ 4194304) (hn : n ≤ 68719476736) (hx : isB x ruleL 2 = true) (hh : headE h.tv = 0) (hb : berr b = 0) :
    Calls Try.prog 8 #[x.val] V fun e V' => ∃ y : TV, e = .returned (.tuple #[y.val, .int .i64 0]) ∧ (∀ n0, (∀ N, IsVarOf (code (n := n + 2) ((x, [h, b]) : TV × List (Tm (n + 1)))) N → N < n0) → HoldsG anyP (3 * n + 32) V.heap.size V' y.val (canon 0 ((4, 0, [58, 45], 2) :: ((4, 0, h.tv.s.toList, h.tv.len + 2) :: (h.kids.flatMap code ++ ([varNd n0] ++ [varNd (n0 + 1)])) ++ btwC b [varNd n0] [varNd (n0 + 1)] (n0 + 2))))) ∧ Below V.heap.size V V' := by
  have HR1 := hide (own_ren (n := n + 2) ((x, [h, b]) : TV × List (Tm (n + 1))) V hT ok pl (by omega))
  obtain ⟨K, hK⟩ : ∃ K : Nat, (stepsN stpN [] (code (n := n + 2) ((x, [h, b]) : TV × List (Tm (n + 1))))).length = K := ⟨_, rfl⟩
  rw [hK] at HR1
  have hKb0 : K ≤ 4194304 ∧ cntT b ≤ 4194304 := by
    have h1 := varsC_len [] (code (n := n + 2) ((x, [h, b]) : TV × List (Tm (n + 1))))
    have h2 : (code (n := n + 2) ((x, [h, b]) : TV × List (Tm (n + 1)))).length = (parts (n := n + 2) ((x, [h, b]) : TV × List (Tm (n + 1)))).length := (by unfold code; rw [List.length_map])
    have h3 : (varsC [] (code (n := n + 2) ((x, [h, b]) : TV × List (Tm (n + 1))))).length = K := hK
    have h4 := cnt_le b (hT.wl.2 b (by simp [Tm.kids]))
    have h5 : (code (n := n + 2) ((x, [h, b]) : TV × List (Tm (n + 1)))).length = 1 + ((code h).length + (code b).length) := by rw [code_succ]; simp; omega
    simp only [List.length_nil] at h1
    omega
  have HK0 : Hid (∀ N, IsVarOf (code (n := n + 2) ((x, [h, b]) : TV × List (Tm (n + 1)))) N → 0 ≤ sigT (n := n + 2) ((x, [h, b]) : TV × List (Tm (n + 1))) N ∧ sigT (n := n + 2) ((x, [h, b]) : TV × List (Tm (n + 1))) N < K) := hide fun N hN => by
    have hm : N ∈ stepsN stpN [] (code (n := n + 2) ((x, [h, b]) : TV × List (Tm (n + 1)))) := (steps_mem _ [] N).2 (.inr hN)
    have := List.idxOf_lt_length_of_mem hm
    unfold sigT
    omega
  have hKb0' := hide hKb0
  clear hKb0 hK
  obtain ⟨W2, hW2, g2, hs2, b0, b1⟩ := box_zero V x
  have HRU := hide ((unhide HR1) W2 g2)
  have HIS : Hid (∀ (V : World) (x : TV), Calls Try.prog 20 #[.agg #[.int .i64 x.k, .int .i64 x.N, .string x.s, .slice x.a x.len x.cap], .string ⟨#[45, 45, 62]⟩, .int .i64 2] V fun e W' => e = .returned (.bool (isB x ruleL 2)) ∧ Below V.heap.size V W') := hide fun V x => by
    have := gis_any x ⟨#[45, 45, 62]⟩ 2 V
    rw [show (⟨#[45, 45, 62]⟩ : ByteArray).toList = ruleL by decide +kernel] at this
    exact this
  have HB := hide (And.intro g2 b1)
  have c0 := b0.c0
  have c1 := b0.c1
  have c2 := b0.c2
  have c3 := b0.c3
  have HT := hide (And.intro hT (And.intro ok (And.intro hx (And.intro hh hb))))
  clear hT ok hx hh hb b0 b1 g2 HR1 pl
  simp only [TV.val, Tm.tv] at HRU ⊢
  go_enter Try.func8, Try.ntmps8
  go_wp2_with fail
  try rw [hW2]
  go_wp2_with fail
  clear hW2 c0 c1 c2 c3
  refine (unhide HRU).mono ?_
  rintro e W3 ⟨o, rfl, h3, hTo, hOwn⟩
  obtain ⟨ox, okk⟩ := o
  obtain ⟨hT, ok, hx, hh, hb⟩ := unhide HT
  have hw : Wl (n := n + 2) ((x, [h, b]) : TV × List (Tm (n + 1))) := hT.wl
  obtain ⟨oh, ob, rfl, hol, hc1, hc2, hw1, hw2⟩ := own_parts (n := n + 1) hw ok hx hOwn
  have hox : isB ox ruleL 2 = true := by
    have := isB_ren (sigT (n := n + 2) ((x, [h, b]) : TV × List (Tm (n + 1)))) hw ok hOwn.cd ruleL 2
    exact this.trans hx
  rcases hTo.2.2.2 with h4 | ⟨Bk, off, hxa, hBk, hcs⟩
  · cases h4
  obtain ⟨ch, hTh⟩ := hcs 0 oh rfl
  obtain ⟨cb, hTb⟩ := hcs 1 ob rfl
  simp only [Nat.zero_mul, Nat.add_zero, Nat.one_mul] at ch cb
  obtain ⟨k0, N0, s0, a0, l0, cp0⟩ := ox
  have hxa' : a0 = some ⟨Bk, off, none⟩ := hxa
  have hol' : l0 = 2 := hol
  subst hxa' hol'
  obtain ⟨W4, hW4⟩ : ∃ W4, W3.alloc (.cells #[.int .i64 k0, .int .i64 N0, .string s0, .slice (some ⟨Bk, off, none⟩) 2 cp0] 24) = W4 := ⟨_, rfl⟩
  have g4 : Below W3.heap.size W3 W4 := by rw [← hW4]; exact (Below.refl _ W3).alloc (Nat.le_refl _) _
  have hs4 : W4.heap.size = W3.heap.size + 1 := by rw [← hW4]; simp
  have bo : BoxT W4 W3.heap.size ⟨k0, N0, s0, some ⟨Bk, off, none⟩, 2, cp0⟩ := by rw [← hW4]; exact BoxT.new W3 ⟨k0, N0, s0, some ⟨Bk, off, none⟩, 2, cp0⟩
  have d0 := bo.c0
  have d1 := bo.c1
  have d2 := bo.c2
  have d3 := bo.c3
  have HIU := hide ((unhide HIS) W4 ⟨k0, N0, s0, some ⟨Bk, off, none⟩, 2, cp0⟩)
  rw [hox] at HIU
  clear HRU HT hcs hxa hol hTo
  simp only at HIU ⊢
  go_wp2_with fail
  try rw [hW4]
  go_wp2_with fail
  refine (unhide HIU).mono ?_
  rintro e W5 ⟨rfl, h5⟩
  have hs5 := h5.size
  have bo5 := bo.below h5 bo.lt
  have kk : ∀ k, k < W3.heap.size → W5.heap[k]? = W3.heap[k]? := fun k hk => (h5.block k (by omega)).trans (g4.block k hk)
  have ch5 := ch.kept (kk Bk hBk)
  have cb5 := cb.kept (kk Bk hBk)
  clear d0 d1 d2 d3 HIU
  go_wp2_with fail
  refine wp_trans6 (ob := W3.heap.size) (Bk := Bk) (off := off) (oc := cp0) (h := oh.tv) (b := ob.tv) (by omega) (by omega) ⟨bo5.c3, ch5.1, ch5.2.1, ch5.2.2.1, ch5.2.2.2, cb5.1, cb5.2.1, cb5.2.2.1, cb5.2.2.2⟩ ?_
  intro W6 q1 q2 u30 u31 u32 u33 u34 u35 u36 u37 h6 hq1 hq2 hq12 bh bb
  have hs6 := h6.size
  obtain ⟨he1, he2⟩ := head_ren (sigT (n := n + 2) ((x, [h, b]) : TV × List (Tm (n + 1)))) (u := h) (o := oh) (hw.2 h (by simp [Tm.kids])) ((ok_kids ok).2 h (by simp)) hc1
  rw [hh] at he1
  obtain ⟨hq1', hq2', _⟩ := btw_ren (sigT (n := n + 2) ((x, [h, b]) : TV × List (Tm (n + 1)))) b (hw.2 b (by simp [Tm.kids])) ((ok_kids ok).2 b (by simp)) ob hw2 hc2
  rw [hb] at hq2'
  obtain ⟨hKb0, hcb0⟩ := unhide hKb0'
  have oko : okT (n := n + 3) ((⟨k0, N0, s0, some ⟨Bk, off, none⟩, 2, cp0⟩, [oh, ob]) : TV × List (Tm (n + 2))) = true := by
    have h1 : (renC (sigT (n := n + 2) ((x, [h, b]) : TV × List (Tm (n + 1)))) (code (n := n + 2) ((x, [h, b]) : TV × List (Tm (n + 1))))).all okM = true := ren_ok ((okT_m (n := n + 2) ((x, [h, b]) : TV × List (Tm (n + 1)))).symm.trans ok) (fun N hN => by have := (unhide HK0) N hN; omega)
    exact (okT_m (n := n + 3) ((⟨k0, N0, s0, some ⟨Bk, off, none⟩, 2, cp0⟩, [oh, ob]) : TV × List (Tm (n + 2)))).trans ((congrArg (fun c => List.all c okM) hOwn.cd).trans h1)
  have hxk := isB_kind hx
  have hcv : ∀ N, IsVarOf (code oh) N ∨ IsVarOf (code ob) N → 0 ≤ N ∧ N < (K : Int) := fun N hN => by
    rcases hN with hN | hN
    · rw [hc1] at hN
      obtain ⟨M, hM, rfl⟩ := ren_has hN
      exact (unhide HK0) M ((code_vars hxk M).2 (by rw [List.flatMap_cons]; exact (isVar_append _ _ M).2 (.inl hM)))
    · rw [hc2] at hN
      obtain ⟨M, hM, rfl⟩ := ren_has hN
      exact (unhide HK0) M ((code_vars hxk M).2 (by rw [List.flatMap_cons, List.flatMap_cons]; exact (isVar_append _ _ M).2 (.inr ((isVar_append _ _ M).2 (.inl hM)))))
  have hcn : cntT ob ≤ 4194304 := by rw [hq1']; exact hcb0
  have HCE : Hid (∀ n0, (∀ N, IsVarOf (code (n := n + 2) ((x, [h, b]) : TV × List (Tm (n + 1)))) N → N < n0) → canon 0 ((4, 0, (⟨#[58, 45]⟩ : ByteArray).toList, 2) :: ((4, 0, oh.tv.s.toList, oh.tv.len + 2) :: (oh.kids.flatMap code ++ ([varNd K] ++ [varNd ((K : Int) + 1)])) ++ renC (newR ((K : Int) + 2) (extV ((K : Int) + 2) [] (btwC ob [varNd K] [varNd ((K : Int) + 1)] ((K : Int) + 2)))) (btwC ob [varNd K] [varNd ((K : Int) + 1)] ((K : Int) + 2)))) = (canon 0 ((4, 0, [58, 45], 2) :: ((4, 0, h.tv.s.toList, h.tv.len + 2) :: (h.kids.flatMap code ++ ([varNd n0] ++ [varNd (n0 + 1)])) ++ btwC b [varNd n0] [varNd (n0 + 1)] (n0 + 2))))) := hide fun n0 hn0 => by
    obtain ⟨e1, e2, e3⟩ := he2 hh
    have hsub : ∀ N, IsVarOf (code b) N ∨ IsVarOf ((4, 0, [58, 45], 2) :: ((4, 0, h.tv.s.toList, h.tv.len + 2) :: h.kids.flatMap code)) N → IsVarOf (code (n := n + 2) ((x, [h, b]) : TV × List (Tm (n + 1)))) N := fun N hN => by
      refine (code_vars hxk N).2 ?_
      rw [List.flatMap_cons, List.flatMap_cons]
      rcases hN with hN | hN
      · exact (isVar_append _ _ N).2 (.inr ((isVar_append _ _ N).2 (.inl hN)))
      · rw [not_var _ _ _ (by simp), not_var _ _ _ (by simp)] at hN
        refine (isVar_append _ _ N).2 (.inl ?_)
        obtain ⟨y, hy, e⟩ := hN
        obtain ⟨hx', hk'⟩ := h
        exact ⟨y, by rw [code_succ]; exact List.mem_cons_of_mem _ hy, e⟩
    have := trans_code (u := b) (t := ob) (σ := sigT (n := n + 2) ((x, [h, b]) : TV × List (Tm (n + 1)))) (k := K) (n0 := n0) (h := (4, 0, [58, 45], 2) :: ((4, 0, h.tv.s.toList, h.tv.len + 2) :: h.kids.flatMap code)) (hw.2 b (by simp [Tm.kids])) ((ok_kids ok).2 b (by simp)) hw2 hc2 (fun N hN => hn0 N (hsub N hN)) (fun N hN => ((unhide HK0) N (hsub N hN)).2) (fun a a' ha ha' e => by
      have hm : a ∈ stepsN stpN [] (code (n := n + 2) ((x, [h, b]) : TV × List (Tm (n + 1)))) := (steps_mem _ [] a).2 (.inr (hsub a ha))
      unfold sigT at e
      exact idx_inj hm (by omega))
    rw [renC_cons _ _ _ (by simp), renC_cons _ _ _ (by simp), ← e3, ← e1, ← e2] at this
    rw [show (⟨#[58, 45]⟩ : ByteArray).toList = [58, 45] by decide +kernel]
    rw [e1, e2] at this
    rw [e1, e2]
    simpa only [List.cons_append, List.append_assoc] using this
  have hhl : oh.tv.len ≤ 48 := by
    have h0 := hh
    have hl2 := (he2 hh).2.1
    unfold headE at h0
    split at h0
    · unfold extE at h0
      split at h0
      · omega
      · split at h0
        · omega
        · omega
    · omega
  have hlo := ok_len ((ok_kids oko).2 oh (by simp))
  have k36 : ∀ k, k < W3.heap.size → W6.heap[k]? = W3.heap[k]? := fun k hk => (h6.block k (by omega)).trans (kk k hk)
  have tb6 : IsT W6.heap.size W6 ob := (hTb.fromS (S := (· < W3.heap.size)) k36 hTb.blk).mono (by omega)
  have th6 : IsT W6.heap.size W6 oh := (hTh.fromS (S := (· < W3.heap.size)) k36 hTh.blk).mono (by omega)
  have HHD := hide (ghead_any oh.tv W6 hlo)
  rw [he1] at HHD
  have HCB : Hid (∀ U, Below W6.heap.size W6 U → Calls Try.prog 22 #[.agg #[.int .i64 ob.tv.k, .int .i64 ob.tv.N, .string ob.tv.s, .slice ob.tv.a ob.tv.len ob.tv.cap]] U fun e W' => e = .returned (.tuple #[.int .i64 (cntT ob), .int .i64 0]) ∧ Below U.heap.size U W') := hide fun U hU => by
    have := gcheck_any ob U ((tb6.below hU).mono hU.size) ((ok_kids oko).2 ob (by simp)) (by omega) (by omega)
    rw [hq2', if_pos rfl] at this
    exact this
  have HV1 : Hid (∀ U, Calls Try.prog 23 #[.int .i64 (K : Int)] U fun e W' => e = .returned (.agg #[.int .i64 1, .int .i64 (K : Int), .string ⟨#[]⟩, .slice none 0 0]) ∧ Below U.heap.size U W') := hide fun U => gvar_any K U
  have HV2 : Hid (∀ U, Calls Try.prog 23 #[.int .i64 ((K : Int) + 1)] U fun e W' => e = .returned (.agg #[.int .i64 1, .int .i64 ((K : Int) + 1), .string ⟨#[]⟩, .slice none 0 0]) ∧ Below U.heap.size U W') := hide fun U => gvar_any _ U
  have a0 := bh.c0
  have a1 := bh.c1
  have a2 := bh.c2
  have a3 := bh.c3
  have hKb : (K : Int) ≤ 4194304 := by omega
  have HREN := hide (clause_ren (n := n) (oh := oh) (ob := ob) (k := K) hw1 hw2 ((ok_kids oko).2 oh (by simp)) ((ok_kids oko).2 ob (by simp)) hq2' hcv hhl (by omega) (by have := hcn; omega))
  have HVB : Hid (∀ N, IsVarOf (code ob) N → N < (K : Int) + 2) := hide fun N hN => by have := hcv N (.inr hN); omega
  have HCN : Hid (cntT ob ≤ 4194304) := hide hcn
  have HPT := hide (And.intro hc1 (And.intro hc2 (And.intro he2 (And.intro hq1' (And.intro hq2' (And.intro oko (And.intro tb6 (And.intro th6 (And.intro hT (And.intro ok (And.intro hh (And.intro hb hOwn))))))))))))
  have HBX6 := hide (And.intro bh (And.intro bb (And.intro h6 (And.intro h5 (And.intro g4 h3)))))
  clear hc1 hc2 he1 he2 hq1' hq2' oko tb6 th6 hT ok hh hb hOwn hx hox hw hw1 hw2 ch cb ch5 cb5 hTh hTb bo bo5 hcv hcn hhl hxk hKb0 hcb0 hKb0' HK0 g4 hW4 h5 h3 h6 kk k36 hlo
  simp only [TV.val] at HHD
  go_wp2_with fail
  refine (unhide HHD).mono ?_
  rintro e W7 ⟨rfl, h7⟩
  have hs7 := h7.size
  clear bh bb
  obtain ⟨bh, bb, h6, h5, g4, h3⟩ := unhide HBX6
  have bb7 := bb.below h7 bb.lt
  have bh7 := bh.below h7 bh.lt
  have e0 := bb7.c0
  have e1 := bb7.c1
  have e2 := bb7.c2
  have e3 := bb7.c3
  clear a0 a1 a2 a3 HHD
  have HC7 := hide ((unhide HCB) W7 h7)
  go_wp2_with fail
  refine (unhide HC7).mono ?_
  rintro e W8 ⟨rfl, h8⟩
  clear e0 e1 e2 e3 HC7 HCB
  go_wp2_with fail
  refine ((unhide HV1) W8).mono ?_
  rintro e W9 ⟨rfl, h9⟩
  go_wp2_with fail
  refine ((unhide HV2) W9).mono ?_
  rintro e W10 ⟨rfl, h10⟩
  have hs9 := h9.size
  have hs10 := h10.size
  have hs8 := h8.size
  obtain ⟨W11, hW11⟩ : ∃ W11, ((W10.alloc (.cells #[.int .i64 1, .int .i64 (K : Int), .string ⟨#[]⟩, .slice none 0 0] 24)).alloc (.cells #[.int .i64 1, .int .i64 ((K : Int) + 1), .string ⟨#[]⟩, .slice none 0 0] 24)).alloc (.cells #[.int .i64 ((K : Int) + 2), .slice none 0 0] 48) = W11 := ⟨_, rfl⟩
  have hs11 : W11.heap.size = W10.heap.size + 3 := by rw [← hW11]; simp
  have g11 : Below W10.heap.size W10 W11 := by rw [← hW11]; exact (((Below.refl _ W10).alloc (Nat.le_refl _) _).alloc (by simp) _).alloc (by simp; omega) _
  have bf : BoxT W11 W10.heap.size (varV K) := by rw [← hW11]; exact ((BoxT.new W10 (varV K)).alloc _).alloc _
  have bt : BoxT W11 (W10.heap.size + 1) (varV ((K : Int) + 1)) := by
    rw [← hW11]
    have h0 := BoxT.new (W10.alloc (.cells #[.int .i64 1, .int .i64 (K : Int), .string ⟨#[]⟩, .slice none 0 0] 24)) (varV ((K : Int) + 1))
    rw [World.size_alloc] at h0
    exact h0.alloc _
  have wr : WrB W11 (W10.heap.size + 1 + 1) ((K : Int) + 2) (.slice none 0 0) := by
    rw [← hW11]
    have h0 := World.alloc_heap_new ((W10.alloc (.cells #[.int .i64 1, .int .i64 (K : Int), .string ⟨#[]⟩, .slice none 0 0] 24)).alloc (.cells #[.int .i64 1, .int .i64 ((K : Int) + 1), .string ⟨#[]⟩, .slice none 0 0] 24)) (.cells #[.int .i64 ((K : Int) + 2), .slice none 0 0] 48)
    rw [World.size_alloc, World.size_alloc] at h0
    exact h0
  have g711 : Below W7.heap.size W7 W11 := ((h8.trans (h9.mono hs8)).trans (h10.mono (by omega))).trans (g11.mono (by omega))
  have bh11 := bh7.below g711 bh7.lt
  have bb11 := bb7.below g711 bb7.lt
  have g611 : Below W6.heap.size W6 W11 := h7.trans (g711.mono hs7)
  obtain ⟨hc1, hc2, he2, hq1', hq2', oko, tb6, th6, hT, ok, hh, hb, hOwn⟩ := unhide HPT
  have hHE : ∀ U, FrG (W10.heap.size + 1 + 1) (fun k => k = W10.heap.size + 1 + 1) W11 U → Calls Try.prog 25 #[.agg #[.int .i64 oh.tv.k, .int .i64 oh.tv.N, .string oh.tv.s, .slice oh.tv.a oh.tv.len oh.tv.cap], .agg #[.int .i64 1, .int .i64 (K : Int), .string ⟨#[]⟩, .slice none 0 0], .agg #[.int .i64 1, .int .i64 ((K : Int) + 1), .string ⟨#[]⟩, .slice none 0 0]] U fun e V' => ∃ x : TV, e = .returned x.val ∧ HoldsG anyP (3 * n + 30) U.heap.size V' x.val ((4, 0, oh.tv.s.toList, oh.tv.len + 2) :: (oh.kids.flatMap code ++ ([varNd K] ++ [varNd ((K : Int) + 1)]))) ∧ Below U.heap.size U V' := fun U hU => by
    have hkU : ∀ k, k < W6.heap.size → U.heap[k]? = W6.heap[k]? := fun k hk => (hU.block k (by omega) (by omega) (.inl (by omega))).trans (g611.block k hk)
    have hTU : IsT U.heap.size U oh := (th6.fromS (S := (· < W6.heap.size)) hkU th6.blk).mono (by have := hU.size; omega)
    have hlen : oh.tv.len ≤ 48 := by
      have h0 := hh
      have hl2 := (he2 hh).2.1
      unfold headE at h0
      split at h0
      · unfold extE at h0
        split at h0
        · omega
        · split at h0
          · omega
          · omega
      · omega
    refine (extd_any (D := n + 2) oh (varV K) (varV ((K : Int) + 1)) U hTU ((ok_kids oko).2 oh (by simp)) hlen ((varG _ anyP U.heap.size U).mono (by omega) (Nat.le_refl _) (fun _ h => h)) ((varG _ anyP U.heap.size U).mono (by omega) (Nat.le_refl _) (fun _ h => h)) (Nat.le_refl _) (by omega)).mono fun e V' hq => ?_
    obtain ⟨y, p1, p2, p3⟩ := hq
    exact ⟨y, p1, p2.mono (by omega) (Nat.le_refl _) (fun _ h => h), p3⟩
  have hHG : ∀ U, FrG (W10.heap.size + 1 + 1) (fun k => k = W10.heap.size + 1 + 1) W11 U → WrB U (W10.heap.size + 1 + 1) ((K : Int) + 2) (.slice none 0 0) → Calls Try.prog 26 #[.pointer (some ⟨W10.heap.size + 1 + 1, 0, none⟩), .agg #[.int .i64 ob.tv.k, .int .i64 ob.tv.N, .string ob.tv.s, .slice ob.tv.a ob.tv.len ob.tv.cap], .agg #[.int .i64 1, .int .i64 (K : Int), .string ⟨#[]⟩, .slice none 0 0], .agg #[.int .i64 1, .int .i64 ((K : Int) + 1), .string ⟨#[]⟩, .slice none 0 0]] U fun e V' => ∃ y : TV, e = .returned y.val ∧ HoldsG anyP (3 * n + 30) U.heap.size V' y.val (renC (newR ((K : Int) + 2) (extV ((K : Int) + 2) [] (btwC ob [varNd K] [varNd ((K : Int) + 1)] ((K : Int) + 2)))) (btwC ob [varNd K] [varNd ((K : Int) + 1)] ((K : Int) + 2))) ∧ FrG (W10.heap.size + 1 + 1) (fun k => k = W10.heap.size + 1 + 1) U V' := fun U hU hwU => by
    have hkU : ∀ k, k < W6.heap.size → U.heap[k]? = W6.heap[k]? := fun k hk => (hU.block k (by omega) (by omega) (.inl (by omega))).trans (g611.block k hk)
    have hTU : IsT (W10.heap.size + 1 + 1) U ob := (tb6.fromS (S := (· < W6.heap.size)) hkU tb6.blk).mono (by omega)
    have hvb : ∀ N, IsVarOf (code ob) N → N < (K : Int) + 2 := fun N hN => (unhide HVB) N hN
    refine (goal_any (D := 1) (wb := W10.heap.size + 1 + 1) (f0 := (K : Int) + 2) ob (varV K) (varV ((K : Int) + 1)) (s := [varNd K]) (r := [varNd ((K : Int) + 1)]) U hTU ((ok_kids oko).2 ob (by simp)) (hq2') hvb (varS K _ U) (varOk (by omega) (by omega)) (fun N hN => by have := (var_one (K : Int) N).1 hN; omega) (varS _ _ U) (varOk (by omega) (by omega)) (fun N hN => by have := (var_one ((K : Int) + 1) N).1 hN; omega) hwU (by omega) (by have := unhide HCN; omega) (by omega) (by omega) (by omega)).mono fun e V' hq => ?_
    obtain ⟨y, p1, p2, p3⟩ := hq
    exact ⟨y, p1, p2.mono (by omega) (Nat.le_refl _) (fun _ h => h), p3⟩
  have HPT2 := hide (And.intro hc1 (And.intro hc2 (And.intro he2 (And.intro hq1' (And.intro hq2' (And.intro oko (And.intro hT (And.intro ok (And.intro hh (And.intro hb hOwn))))))))))
  clear hc1 hc2 he2 hq1' hq2' oko tb6 th6 hT ok hh hb hOwn HPT
  have HW11 := hide hW11
  clear hW11
  go_wp2_with fail
  rw [unhide HW11]
  clear HW11
  refine wp_trans15 (wb := W10.heap.size + 1 + 1) (hb := q1) (bb := q2) (fb := W10.heap.size) (tb := W10.heap.size + 1) (D := 3 * n + 30) (nx := (K : Int) + 2) (h := oh.tv) (b := ob.tv) (xf := varV K) (xt := varV ((K : Int) + 1)) wr bh11 bb11 bf bt hHE hHG ?_
  intro WF b15 g3 u61 u62 u63 u64 u65 u66 u67 u68 u69 u70 hWF
  obtain ⟨hF, hb15, bx15, hGF⟩ := hWF
  have hFs := hF.size
  have g26 : Below W2.heap.size W2 W6 := ((h3.trans (g4.mono h3.size)).trans (h5.mono (by have := h3.size; omega))).trans (h6.mono (by have := h3.size; omega))
  have rF : BoxT WF (V.heap.size + 1) noTerm := hF.box (BoxT.below (x := noTerm) (unhide HB).2 (g26.trans (g611.mono g26.size)) (by omega)) (by have := g26.size; omega)
  have hBF : Below V.heap.size V WF := by
    have g211 : Below V.heap.size V W11 := ((unhide HB).1.trans (g26.mono (unhide HB).1.size)).trans (g611.mono (by have := (unhide HB).1.size; have := g26.size; omega))
    exact ⟨hF.os.trans g211.os, hF.tape.trans g211.tape, hF.output.trans g211.output, Nat.le_trans g211.size hF.size, fun k hk => (hF.block k (by have := g211.size; omega) (by have := g26.size; omega) (.inl (by have := g26.size; omega))).trans (g211.block k hk)⟩
  have HR2 := hide ((unhide HREN) WF _ g3 hGF (by omega))
  have i0 := bx15.c0
  have i1 := bx15.c1
  have i2 := bx15.c2
  have i3 := bx15.c3
  have HFF := hide (And.intro hBF (And.intro bx15 rF))
  have h15 : V.heap.size + 2 ≤ b15 := by have := g26.size; omega
  clear hF hGF hBF bx15 rF wr bh11 bb11 bf bt hHE hHG g711 g611 bh7 bb7 h7 h8 h9 h10 g11 bh bb h6 h5 g4 h3 g26
  simp only [TV.val, compV] at HR2 i0 i1 i2 i3 ⊢
  go_wp2_with fail
  refine (unhide HR2).mono ?_
  rintro e WG ⟨y, j, rfl, hWG, hy⟩
  obtain ⟨hBF, bx15, rF⟩ := unhide HFF
  have bG := bx15.below hWG bx15.lt
  have rG := rF.below hWG rF.lt
  obtain ⟨WH, hWH⟩ : ∃ WH, set4 WG b15 0 y = WH := ⟨_, rfl⟩
  have bH : BoxT WH b15 y := by rw [← hWH]; exact set4_box bG y
  have rH : BoxT WH (V.heap.size + 1) noTerm := by rw [← hWH]; exact (set4_other WG b15 0 y (by omega)).trans rG
  have hBG : Below V.heap.size V WG := hBF.trans (hWG.mono hBF.size)
  have hBH : Below V.heap.size V WH := by rw [← hWH]; exact set4_below hBG (by omega) 0 y
  have hbF := bx15.lt
  have hrF := rF.lt
  have hyH := hy.set4 (b := b15) hbF 0 y
  rw [hWH] at hyH
  have hyR := (hyH.set4 (b := V.heap.size + 1) hrF 0 y).mono (Nat.le_refl _) (show V.heap.size ≤ WF.heap.size by have := hBF.size; omega) (fun _ h => h)
  have HZ : Hid ((∀ n0, (∀ N, IsVarOf (code (n := n + 2) ((x, [h, b]) : TV × List (Tm (n + 1)))) N → N < n0) → HoldsG anyP (3 * n + 32) V.heap.size (set4 WH (V.heap.size + 1) 0 y) y.val (canon 0 ((4, 0, [58, 45], 2) :: ((4, 0, h.tv.s.toList, h.tv.len + 2) :: (h.kids.flatMap code ++ ([varNd n0] ++ [varNd (n0 + 1)])) ++ btwC b [varNd n0] [varNd (n0 + 1)] (n0 + 2))))) ∧ Below V.heap.size V (set4 WH (V.heap.size + 1) 0 y)) := hide ⟨fun n0 hn0 => by
    rw [← (unhide HCE) n0 hn0]
    exact hyR, set4_below hBH (by omega) 0 y⟩
  obtain ⟨m0, m1, m2, m3⟩ := bG.frz
  have n0 := bG.c0
  have n1 := bG.c1
  have n2 := bG.c2
  have n3 := bG.c3
  have o0 := bH.c0
  have o1 := bH.c1
  have o2 := bH.c2
  have o3 := bH.c3
  obtain ⟨v0, v1, v2, v3⟩ := rH.frz
  have w0 := rH.c0
  have w1 := rH.c1
  have w2 := rH.c2
  have w3 := rH.c3
  have b6 := set4_box rH y
  have z0 := b6.c0
  have z1 := b6.c1
  have z2 := b6.c2
  have z3 := b6.c3
  unfold set4 at hWH
  simp only [Nat.zero_add] at hWH
  clear hy hyH hyR bG rG bH rH hBG hBH hBF bx15 rF b6 HFF HR2 HCE i0 i1 i2 i3 hWG
  go_wp2_with fail
  try rw [hWH]
  go_wp2_with fail
  exact bodyPost_ret (v := .tuple #[y.val, .int .i64 0]) (by
    have e : (((WH.setCell ⟨V.heap.size + 1, 0, none⟩ (.int .i64 y.k)).setCell ⟨V.heap.size + 1, 1, none⟩ (.int .i64 y.N)).setCell ⟨V.heap.size + 1, 2, none⟩ (.string y.s)).setCell ⟨V.heap.size + 1, 3, none⟩ (.slice y.a y.len y.cap) = set4 WH (V.heap.size + 1) 0 y := rfl
    rw [e]
    simp [results, Try.results8, go_sem, TV.val, z0, z1, z2, z3]) rfl ⟨y, rfl, (unhide HZ).1, (unhide HZ).2⟩
end Go.Proofs.Ytcdgmjpgmiehcaa

