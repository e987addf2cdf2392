import Derived.Test.YtlbobmebbllifaaGreatBaEs
/- A clause, as a term, makes the same clause: mathematics. -/
namespace Go.Proofs.YtlbobmebbllifaaGreat
open Go.RowKit Go.Shelf
theorem ren_one (f : Int → Int) (x : Nd) (h : x.1 ≠ 1) : subN (fun N => [varNd (f N)]) x = [x] := if_neg h
theorem nd_one {x : TV} (h : x.k ≠ 1) : x.nd.1 ≠ 1 := h
theorem kids_nil {n : Nat} {x : TV} {kids : List (Tm n)} (hw : Wl (n := n + 1) ((x, kids) : TV × List (Tm n))) (h : x.len = 0) : kids = [] := by
 have : x.len = kids.length := hw.1
 exact List.length_eq_zero_iff.1 (by omega)
theorem ren_parse (f : Int → Int) : ∀ {n : Nat} (u : Tm n), Wl u → okT u = true → ∀ {m : Nat} (t : Tm m), Wl t → ∀ r r' : List Nd, code t ++ r = (code u).flatMap (subN fun N => [varNd (f N)]) ++ r' → code t = (code u).flatMap (subN fun N => [varNd (f N)]) ∧ r = r' := by
 intro n
 induction n with
 | zero => intro u; exact Empty.elim u
 | succ n ih =>
  intro u hu ok m t ht r r' h
  cases m with
  | zero => exact Empty.elim t
  | succ m =>
   obtain ⟨x, kids⟩ := u
   obtain ⟨y, ky⟩ := t
   have hk := ok_kids ok
   rw [code_succ, code_succ] at h ⊢
   by_cases k1 : x.k = 1
   ·have hx0 : x.len = 0 := by
     rcases wm_cases hk.1 with ⟨_, _, _, _, h⟩ | ⟨h, _⟩ | ⟨h, _⟩
     ·exact h
     ·omega
     ·omega
    obtain rfl := kids_nil hu hx0
    have e : ([x.nd] : List Nd).flatMap (subN fun N => [varNd (f N)]) = [varNd (f x.N)] := by
     simp only [List.flatMap_cons, List.flatMap_nil, List.append_nil]
     exact if_pos k1
    rw [List.flatMap_nil, e] at h ⊢
    simp only [List.cons_append, List.nil_append, List.cons.injEq] at h
    have hy0 : y.len = 0 := by
     have := congrArg (fun z : Nd => z.2.2.2) h.1
     exact this
    obtain rfl := kids_nil ht hy0
    exact ⟨by rw [h.1]; rfl, by simpa using h.2⟩
   ·rw [List.flatMap_cons, ren_one f _ (nd_one k1)] at h ⊢
    simp only [List.cons_append, List.nil_append, List.cons.injEq] at h ⊢
    have hl : ky.length = kids.length := by
     have h0 := congrArg (fun z : Nd => z.2.2.2) h.1
     have h1 : y.len = x.len := h0
     have h2 : x.len = kids.length := hu.1
     have h3 : y.len = ky.length := ht.1
     omega
    have key : ∀ (b : List (Tm n)) (a : List (Tm m)), a.length = b.length → (∀ z ∈ a, Wl z) → (∀ z ∈ b, Wl z) → (∀ z ∈ b, okT z = true) → a.flatMap code ++ r = (b.flatMap code).flatMap (subN fun N => [varNd (f N)]) ++ r' → a.flatMap code = (b.flatMap code).flatMap (subN fun N => [varNd (f N)]) ∧ r = r' := by
     intro b
     induction b with
     | nil =>
      intro a hl _ _ _ hh
      obtain rfl := List.length_eq_zero_iff.1 hl
      exact ⟨rfl, by simpa using hh⟩
     | cons v b ihb =>
      intro a hl ha hb ho hh
      cases a with
      | nil => simp at hl
      | cons w a =>
       simp only [List.flatMap_cons, List.flatMap_append, List.append_assoc] at hh ⊢
       obtain ⟨k1, k2⟩ := ih v (hb v (by simp)) (ho v (by simp)) w (ha w (by simp)) _ _ hh
       obtain ⟨k3, k4⟩ := ihb a (by simpa using hl) (fun z hz => ha z (by simp [hz])) (fun z hz => hb z (by simp [hz])) (fun z hz => ho z (by simp [hz])) k2
       exact ⟨by rw [k1, k3], k4⟩
    obtain ⟨k1, k2⟩ := key kids ky hl ht.2 hu.2 hk.2 h.2
    exact ⟨⟨h.1, k1⟩, k2⟩
theorem leaf_parse {m : Nat} (t : Tm m) (ht : Wl t) {r r' : List Nd} {N : Int} (h : code t ++ r = varNd N :: r') : code t = [varNd N] ∧ r = r' := by
 cases m with
 | zero => exact Empty.elim t
 | succ m =>
  obtain ⟨y, ky⟩ := t
  rw [code_succ] at h ⊢
  simp only [List.cons_append, List.cons.injEq] at h
  have hy0 : y.len = 0 := congrArg (fun z : Nd => z.2.2.2) h.1
  obtain rfl := kids_nil ht hy0
  exact ⟨by rw [h.1]; rfl, by simpa using h.2⟩
theorem nd_parts {x y : TV} (h : x.nd = y.nd) : x.k = y.k ∧ x.N = y.N ∧ x.s.toList = y.s.toList ∧ x.len = y.len := by
 simpa only [TV.nd, Prod.mk.injEq] using h
theorem isB_nd {x y : TV} (h : x.nd = y.nd) (s : List UInt8) (n : Int) : isB x s n = isB y s n := by
 obtain ⟨h1, -, h3, h4⟩ := nd_parts h
 unfold isB
 rw [h1, h3, h4]
theorem junct_nd {x y : TV} (h : x.nd = y.nd) : junct x = junct y := by
 unfold junct
 rw [isB_nd h, isB_nd h, isB_nd h]
theorem headBad_nd {x y : TV} (h : x.nd = y.nd) : headBad x = headBad y := by
 obtain ⟨h1, -, h3, h4⟩ := nd_parts h
 unfold headBad
 rw [h1, h3, h4]
theorem body_parse (f : Int → Int) : ∀ {n : Nat} (u : Tm n) {c : List Nd}, Wl u → okT u = true → bodyC u = some c → ∀ {m : Nat} (t : Tm m), Wl t → ∀ r r' : List Nd, code t ++ r = c.flatMap (subN fun N => [varNd (f N)]) ++ r' → code t = c.flatMap (subN fun N => [varNd (f N)]) ∧ r = r' ∧ bodyC t = some (code t) := by
 intro n
 induction n with
 | zero => intro u; exact Empty.elim u
 | succ n ih =>
  intro u c hu ok hb m t ht r r' h
  cases m with
  | zero => exact Empty.elim t
  | succ m =>
   obtain ⟨x, kids⟩ := u
   obtain ⟨y, ky⟩ := t
   have hk := ok_kids ok
   rw [bodyC_succ] at hb ⊢
   by_cases k1 : x.k = 1
   ·rw [if_pos k1] at hb
    have hx0 : x.len = 0 := by
     rcases wm_cases hk.1 with ⟨_, _, _, _, h⟩ | ⟨h, _⟩ | ⟨h, _⟩
     ·exact h
     ·omega
     ·omega
    obtain rfl := kids_nil hu hx0
    cases hb
    have e : ((4, 0, callL, 1) :: code (n := n + 1) ((x, []) : TV × List (Tm n)) : List Nd).flatMap (subN fun N => [varNd (f N)]) = [(4, 0, callL, 1), varNd (f x.N)] := by
     rw [code_succ, List.flatMap_cons, List.flatMap_nil, List.flatMap_cons, List.flatMap_nil]
     have e1 : subN (fun N => [varNd (f N)]) (4, 0, callL, 1) = [(4, 0, callL, 1)] := if_neg (by decide)
     have e2 : subN (fun N => [varNd (f N)]) x.nd = [varNd (f x.N)] := if_pos k1
     rw [e1, e2]
     rfl
    rw [e] at h ⊢
    rw [code_succ] at h
    simp only [List.cons_append, List.nil_append, List.cons.injEq] at h
    have hy : y.k = 4 ∧ y.N = 0 ∧ y.s.toList = callL ∧ y.len = 1 := by simpa only [TV.nd, Prod.mk.injEq] using h.1
    have hyl : y.len = ky.length := ht.1
    obtain ⟨w, rfl⟩ : ∃ w, ky = [w] := List.length_eq_one_iff.1 (by omega)
    have h2 := h.2
    simp only [List.flatMap_cons, List.flatMap_nil, List.append_nil] at h2
    have hwk : ∀ z ∈ [w], Wl z := ht.2
    obtain ⟨b1, b2⟩ := leaf_parse w (hwk w (by simp)) h2
    have hc : code (n := m + 1) ((y, [w]) : TV × List (Tm m)) = [(4, 0, callL, 1), varNd (f x.N)] := by
     rw [code_succ, h.1]
     simp only [List.flatMap_cons, List.flatMap_nil, List.append_nil]
     rw [b1]
    refine ⟨hc, b2, ?_⟩
    rw [if_neg (by omega), if_neg (by omega), if_neg]
    intro hj
    have := junct_len hj
    omega
   ·rw [if_neg k1] at hb
    by_cases k2 : x.k = 2
    ·rw [if_pos k2] at hb; cases hb
    ·rw [if_neg k2] at hb
     cases hj : junct x with
     | false =>
      rw [hj, if_neg (by simp)] at hb
      cases hb
      obtain ⟨a1, a2⟩ := ren_parse f _ hu ok _ ht r r' h
      refine ⟨a1, a2, ?_⟩
      rw [code_succ, code_succ, List.flatMap_cons, ren_one f _ (nd_one k1)] at a1
      simp only [List.cons_append, List.nil_append, List.cons.injEq] at a1
      have hn := nd_parts a1.1
      rw [if_neg (by rw [hn.1]; exact k1), if_neg (by rw [hn.1]; exact k2), if_neg]
      rw [junct_nd a1.1, hj]
      simp
     | true =>
      rw [hj, if_pos rfl] at hb
      have hl := junct_len hj
      have hl2 : x.len = kids.length := hu.1
      obtain ⟨u, v, rfl⟩ : ∃ u v, kids = [u, v] := by
       match kids, (show kids.length = 2 by omega) with
       | [u, v], _ => exact ⟨u, v, rfl⟩
      have hwk : ∀ z ∈ [u, v], Wl z := hu.2
      simp only [List.map_cons, List.map_nil] at hb
      cases hcu : bodyC u with
      | none => rw [hcu] at hb; cases hb
      | some cu =>
       cases hcv : bodyC v with
       | none => rw [hcu, hcv] at hb; cases hb
       | some cv =>
        rw [hcu, hcv] at hb
        cases (show some _ = some c from hb)
        have e1 : subN (fun N => [varNd (f N)]) (4, 0, x.s.toList, 2) = [(4, 0, x.s.toList, 2)] := if_neg (by simp)
        rw [List.flatMap_cons, e1, List.flatMap_append] at h ⊢
        rw [code_succ] at h
        simp only [List.cons_append, List.nil_append, List.cons.injEq, List.append_assoc] at h
        have hy : y.k = 4 ∧ y.N = 0 ∧ y.s.toList = x.s.toList ∧ y.len = 2 := by simpa only [TV.nd, Prod.mk.injEq] using h.1
        have hyl : y.len = ky.length := ht.1
        obtain ⟨u', v', rfl⟩ : ∃ u' v', ky = [u', v'] := by
         match ky, (show ky.length = 2 by omega) with
         | [u', v'], _ => exact ⟨u', v', rfl⟩
        have hwk' : ∀ z ∈ [u', v'], Wl z := ht.2
        have h2 := h.2
        simp only [List.flatMap_cons, List.flatMap_nil, List.append_nil, List.append_assoc] at h2
        obtain ⟨a1, a2, a3⟩ := ih u (hwk u (by simp)) (hk.2 u (by simp)) hcu u' (hwk' u' (by simp)) _ _ h2
        obtain ⟨b1, b2, b3⟩ := ih v (hwk v (by simp)) (hk.2 v (by simp)) hcv v' (hwk' v' (by simp)) _ _ a2
        have hc : code (n := m + 1) ((y, [u', v']) : TV × List (Tm m)) = (4, 0, x.s.toList, 2) :: (code u' ++ code v') := by
         rw [code_succ, h.1]
         simp
        have hjy : junct y = true := by
         rw [← hj]
         have hx4 : x.k = 4 ∧ x.N = 0 := by
          rcases wm_cases hk.1 with ⟨h, _⟩ | ⟨_, h⟩ | ⟨h, h', _⟩
          ·omega
          ·omega
          ·exact ⟨h, h'⟩
         refine junct_nd ?_
         rw [h.1]
         simp [TV.nd, hx4.1, hx4.2, hl]
        refine ⟨by rw [hc, a1, b1]; rfl, b2, ?_⟩
        rw [if_neg (by omega), if_neg (by omega), if_pos hjy, hc]
        simp only [List.map_cons, List.map_nil]
        rw [a3, b3, hy.2.2.1]
        rfl
theorem true_parse {m : Nat} (t : Tm m) (ht : Wl t) (r r' : List Nd) (h : code t ++ r = atomC trueL ++ r') : code t = atomC trueL ∧ r = r' ∧ bodyC t = some (code t) := by
 cases m with
 | zero => exact Empty.elim t
 | succ m =>
  obtain ⟨y, ky⟩ := t
  rw [code_succ] at h
  simp only [atomC, List.cons_append, List.nil_append, List.cons.injEq] at h
  have hy : y.k = 3 ∧ y.N = 0 ∧ y.s.toList = trueL ∧ y.len = 0 := by simpa only [TV.nd, Prod.mk.injEq] using h.1
  obtain rfl := kids_nil ht hy.2.2.2
  refine ⟨by rw [code_succ, h.1]; rfl, by simpa using h.2, ?_⟩
  rw [bodyC_succ, if_neg (by omega), if_neg (by omega), if_neg]
  intro hj
  have := junct_len hj
  omega
theorem clVars_eq (h b : List Nd) : clVars h b = stepsN stpN [] (h ++ b) := (stepsN_append stpN [] h b).symm
theorem clRen_len (h b : List Nd) : ∀ c : List Nd, (clRen h b c).length = c.length
 | [] => rfl
 | x :: c => by
  have e : clRen h b (x :: c) = subN (renN 0 (clVars h b)) x ++ clRen h b c := List.flatMap_cons ..
  have e2 : (subN (renN 0 (clVars h b)) x).length = 1 := by
   unfold subN
   split
   ·rfl
   ·rfl
  rw [e, List.length_append, e2, clRen_len h b c, List.length_cons]
  omega
theorem clRen_canon (h b : List Nd) : canon 0 (h ++ b) = clRen h b h ++ clRen h b b := by
 unfold canon clRen
 rw [clVars_eq, List.flatMap_append]
theorem clRen_twice (h b : List Nd) : clRen (clRen h b h) (clRen h b b) (clRen h b h) = clRen h b h ∧ clRen (clRen h b h) (clRen h b b) (clRen h b b) = clRen h b b := by
 have e := canon_canon 0 (h ++ b)
 rw [clRen_canon, clRen_canon] at e
 exact List.append_inj e (by rw [clRen_len])
theorem clRen_ok (h b c : List Nd) (hl : h.length + b.length ≤ 1099511627776) (hc : c.all okM = true) : (clRen h b c).all okM = true := by
 rw [List.all_eq_true] at hc ⊢
 intro y hy
 obtain ⟨x, hx, hxy⟩ := List.mem_flatMap.1 hy
 unfold subN at hxy
 split at hxy
 ·have e : y = varNd (0 + ((clVars h b).idxOf x.2.1 : Nat)) := by simpa [renN] using hxy
  have h1 := clVars_len h b
  have h2 := List.idxOf_le_length (a := x.2.1) (l := clVars h b)
  rw [e]
  unfold varNd okM
  simp
  omega
 ·have e : y = x := by simpa using hxy
  rw [e]
  exact hc x hx
theorem ren_root (f : Int → Int) {n : Nat} {u : Tm n} (hk : u.tv.k ≠ 1) : ∃ l, (code u).flatMap (subN fun N => [varNd (f N)]) = u.tv.nd :: l := by
 cases n with
 | zero => exact Empty.elim u
 | succ n =>
  obtain ⟨x, kids⟩ := u
  have hk' : x.k ≠ 1 := hk
  refine ⟨(kids.flatMap code).flatMap (subN fun N => [varNd (f N)]), ?_⟩
  rw [code_succ, List.flatMap_cons, ren_one f _ (nd_one hk')]
  rfl
theorem make_cases {n : Nat} {t : Tm (n + 1)} {h b : List Nd} (hw : Wl t) (hok : okT t = true) (hl : 2 * (code t).length ≤ 4194304) (hm : makeC t = some (h, b)) :
  clRen h b h = h ∧ clRen h b b = b ∧ h.all okM = true ∧ b.all okM = true ∧
  (∀ {m : Nat} (th : Tm m), Wl th → ∀ r r', code th ++ r = h ++ r' → code th = h ∧ r = r' ∧ headBad th.tv = false) ∧
  (∀ {m : Nat} (tb : Tm m), Wl tb → ∀ r r', code tb ++ r = b ++ r' → code tb = b ∧ r = r' ∧ bodyC tb = some (code tb)) := by
 have key : ∀ {k : Nat} (u : Tm k) (c : List Nd), Wl u → okT u = true → (code u).length + c.length ≤ 1099511627776 → c.all okM = true →
   (∀ (f : Int → Int) {m : Nat} (tb : Tm m), Wl tb → ∀ r r', code tb ++ r = c.flatMap (subN fun N => [varNd (f N)]) ++ r' → code tb = c.flatMap (subN fun N => [varNd (f N)]) ∧ r = r' ∧ bodyC tb = some (code tb)) →
   makeJ (headBad u.tv) (code u) (some c) = some (h, b) →
   clRen h b h = h ∧ clRen h b b = b ∧ h.all okM = true ∧ b.all okM = true ∧
   (∀ {m : Nat} (th : Tm m), Wl th → ∀ r r', code th ++ r = h ++ r' → code th = h ∧ r = r' ∧ headBad th.tv = false) ∧
   (∀ {m : Nat} (tb : Tm m), Wl tb → ∀ r r', code tb ++ r = b ++ r' → code tb = b ∧ r = r' ∧ bodyC tb = some (code tb)) := by
  intro k u c hu ou hlc hc hp hj
  cases hbad : headBad u.tv with
  | true => rw [hbad] at hj; cases hj
  | false =>
   rw [hbad] at hj
   have hj' : some (clRen (code u) c (code u), clRen (code u) c c) = some (h, b) := hj
   cases hj'
   have hu' := ou
   rw [okT_m] at hu'
   have hk1 : u.tv.k ≠ 1 := by
    intro e
    simp [headBad, e] at hbad
   refine ⟨(clRen_twice _ _).1, (clRen_twice _ _).2, clRen_ok _ _ _ hlc hu', clRen_ok _ _ _ hlc hc, ?_, ?_⟩
   ·intro m th hth r r' e
    obtain ⟨a1, a2⟩ := ren_parse (fun N => 0 + ((clVars (code u) c).idxOf N : Nat)) u hu ou th hth r r' e
    refine ⟨a1, a2, ?_⟩
    obtain ⟨l, hl⟩ := ren_root (fun N => 0 + ((clVars (code u) c).idxOf N : Nat)) hk1
    rw [hl] at a1
    cases m with
    | zero => exact Empty.elim th
    | succ m =>
     obtain ⟨y, ky⟩ := th
     rw [code_succ] at a1
     rw [← hbad]
     exact headBad_nd (List.cons.inj a1).1
   ·intro m tb htb r r' e
    exact hp (fun N => 0 + ((clVars (code u) c).idxOf N : Nat)) tb htb r r' e
 obtain ⟨x, kids⟩ := t
 unfold makeC at hm
 split at hm
 ·rename_i hi
  split at hm
  ·rename_i u v hkids
   have hkids' : kids = [u, v] := hkids
   subst hkids'
   have hk := ok_kids hok
   have hwk : ∀ z ∈ [u, v], Wl z := hw.2
   cases hcv : bodyC v with
   | none => rw [hcv] at hm; cases hm
   | some c =>
    rw [hcv] at hm
    obtain ⟨c1, c2⟩ := body_fine (hwk v (by simp)) (hk.2 v (by simp)) hcv
    rw [code_succ] at hl
    simp only [List.flatMap_cons, List.flatMap_nil, List.append_nil, List.length_cons, List.length_append] at hl
    exact key u c (hwk u (by simp)) (hk.2 u (by simp)) (by omega) c1 (fun f m tb htb r r' e => body_parse f v (hwk v (by simp)) (hk.2 v (by simp)) hcv tb htb r r' e) hm
  ·cases hm
 ·refine key _ (atomC trueL) hw hok ?_ (by decide +kernel) (fun f m tb htb r r' e => true_parse tb htb r r' e) hm
  simp only [atomC, List.length_cons, List.length_nil]
  omega
theorem colon_res : resB [58, 45] 2 = true := by decide +kernel
theorem head_not {x : TV} (h : headBad x = false) : isB x [58, 45] 2 = false := by
 cases hi : isB x [58, 45] 2 with
 | false => rfl
 | true =>
  simp only [isB, Bool.and_eq_true, decide_eq_true_eq, beq_iff_eq] at hi
  have : headBad x = true := by
   unfold headBad
   rw [hi.2.1, show (x.len : Int) = 2 from hi.2.2, colon_res]
   simp
  rw [this] at h
  cases h
theorem make_back {n : Nat} {t : Tm (n + 1)} {h b : List Nd} (hw : Wl t) (hok : okT t = true) (hl : 2 * (code t).length ≤ 4194304) (hm : makeC t = some (h, b)) {k : Nat} (th tb : Tm (k + 1)) (wh : Wl th) (wb : Wl tb) (eh : code th = h) (eb : code tb = b) :
  okT th = true ∧ okT tb = true ∧ (plainR th tb).1 = 0 ∧ ∀ {m : Nat} (p : Tm (m + 1)), Wl p → code p = (plainR th tb).2 → okT p = true ∧ makeC p = some (h, b) := by
 obtain ⟨r1, r2, o1, o2, p1, p2⟩ := make_cases hw hok hl hm
 have okh : okT th = true := by rw [okT_m, eh]; exact o1
 have okb : okT tb = true := by rw [okT_m, eb]; exact o2
 obtain ⟨-, -, hbad⟩ := p1 th wh [] [] (by rw [eh])
 obtain ⟨-, -, hbody⟩ := p2 tb wb [] [] (by rw [eb])
 refine ⟨okh, okb, ?_⟩
 unfold plainR
 rw [if_pos ⟨okh, okb⟩]
 cases hi : isB tb.tv trueL 0 with
 | true =>
  rw [if_pos rfl]
  have ebt : b = atomC trueL := by
   rw [← eb]
   obtain ⟨y, ky⟩ := tb
   have hi' : isB y trueL 0 = true := hi
   simp only [isB, Bool.and_eq_true, Bool.or_eq_true, decide_eq_true_eq, beq_iff_eq] at hi'
   have hy0 : y.len = 0 := by have := hi'.2.2; omega
   have hky : ky = [] := kids_nil wb hy0
   have hk := (ok_kids okb).1
   rcases wm_cases hk with ⟨h, _⟩ | ⟨h, _⟩ | ⟨_, _, h⟩
   ·omega
   ·rw [hky, code_succ]
    have hy3 : y.k = 3 := by omega
    have hyo : okM y.nd = true := by rw [← ok_m]; exact hk
    have hyN : y.N = 0 := by
     simp only [TV.nd, okM, hy3] at hyo
     simp at hyo
     exact hyo.1.1
    simp [TV.nd, atomC, hy3, hyN, hi'.2.1, hy0]
   ·omega
  have mk : ∀ {m : Nat} (p : Tm (m + 1)), Wl p → code p = h → makeC p = some (h, b) := by
   intro m p hp ep
   obtain ⟨-, -, hb'⟩ := p1 p hp [] [] (by rw [ep])
   unfold makeC
   rw [if_neg (by rw [head_not hb']; simp), hb', ep, ← ebt]
   show some (clRen h b h, clRen h b b) = _
   rw [r1, r2]
  have hlift : makeC th.lift = some (h, b) := by
   unfold makeC
   rw [lift_tv, if_neg (by rw [head_not hbad]; simp), hbad, lift_code, eh, ← ebt]
   show some (clRen h b h, clRen h b b) = _
   rw [r1, r2]
  have hE : plainE (makeC th.lift) (code th) (code tb) = 0 := by
   rw [hlift, eh, eb]
   exact if_pos ⟨rfl, rfl⟩
  rw [if_pos hE]
  refine ⟨rfl, fun {m} p hp ep => ⟨?_, mk p hp (ep.trans eh)⟩⟩
  rw [okT_m, ep, eh]
  exact o1
 | false =>
  rw [if_neg (by simp)]
  have hE : plainE (makeJ (headBad th.tv) (code th) (bodyC tb)) (code th) (code tb) = 0 := by
   rw [hbad, hbody, eh, eb]
   show (if clRen h b h = h ∧ clRen h b b = b then (0 : Int) else 7) = 0
   exact if_pos ⟨r1, r2⟩
  rw [if_pos hE]
  refine ⟨rfl, fun {m} p hp ep => ?_⟩
  have ep' : code p = (4, 0, [58, 45], 2) :: (h ++ b) := by rw [ep, eh, eb]
  refine ⟨?_, ?_⟩
  ·rw [okT_m, ep']
   simp only [List.all_cons, List.all_append, o1, o2, Bool.and_true]
   decide +kernel
  ·obtain ⟨y, ky⟩ := p
   rw [code_succ] at ep'
   obtain ⟨e1, e2⟩ := List.cons.inj ep'
   have hy : y.k = 4 ∧ y.N = 0 ∧ y.s.toList = [58, 45] ∧ y.len = 2 := by simpa only [TV.nd, Prod.mk.injEq] using e1
   have hyl : y.len = ky.length := hp.1
   obtain ⟨u, v, rfl⟩ : ∃ u v, ky = [u, v] := by
    match ky, (show ky.length = 2 by omega) with
    | [u, v], _ => exact ⟨u, v, rfl⟩
   have hwk : ∀ z ∈ [u, v], Wl z := hp.2
   simp only [List.flatMap_cons, List.flatMap_nil, List.append_nil] at e2
   obtain ⟨a1, a2, a3⟩ := p1 u (hwk u (by simp)) _ _ e2
   obtain ⟨b1, b2, b3⟩ := p2 v (hwk v (by simp)) [] [] (by rw [a2])
   have hi2 : isB y [58, 45] 2 = true := by simp [isB, hy.1, hy.2.2.1, hy.2.2.2]
   refine Eq.trans (if_pos hi2) ?_
   show makeJ (headBad u.tv) (code u) (bodyC v) = _
   rw [a3, b3, a1, b1]
   show some (clRen h b h, clRen h b b) = _
   rw [r1, r2]
end Go.Proofs.YtlbobmebbllifaaGreat
