import Derived.Test.YtcdgmjpgmiehcaaBaM
import Derived.Test.YtcdgmjpgmiehcaaOpGs
/- Bodies and clauses of a renamed term: mathematics. -/
namespace Go.Proofs.Ytcdgmjpgmiehcaa
open Go.RowKit Go.Shelf

/-- Parts renamed. -/
def renC (f : Int → Int) (c : List Nd) : List Nd := c.flatMap (subN fun N => [varNd (f N)])
theorem renC_cons (f : Int → Int) (x : Nd) (c : List Nd) (h : x.1 ≠ 1) : renC f (x :: c) = x :: renC f c := by
  unfold renC
  rw [List.flatMap_cons, ren_one f x h]
  rfl
theorem renC_append (f : Int → Int) (c d : List Nd) : renC f (c ++ d) = renC f c ++ renC f d := List.flatMap_append
/-- Two terms' parts, renamed, in a row: each by itself. -/
theorem ren_two (f : Int → Int) {n m : Nat} {u v : Tm n} {u' v' : Tm m} (hu : Wl u) (oku : okT u = true) (hu' : Wl u') (h : code u' ++ code v' = renC f (code u ++ code v)) : code u' = renC f (code u) ∧ code v' = renC f (code v) := by
  rw [renC_append] at h
  obtain ⟨a1, a2⟩ := ren_parse f u hu oku u' hu' _ _ h
  exact ⟨a1, a2⟩
theorem var_kids {n : Nat} {x : TV} {kids : List (Tm n)} (hw : Wl (n := n + 1) ((x, kids) : TV × List (Tm n))) (ok : okT (n := n + 1) ((x, kids) : TV × List (Tm n)) = true) (k1 : x.k = 1) : kids = [] := by
  have hk := ok_kids ok
  refine kids_nil hw ?_
  rcases wm_cases hk.1 with ⟨_, _, _, _, h⟩ | ⟨h, _⟩ | ⟨h, _⟩
  · exact h
  · omega
  · omega
theorem two_kids {n : Nat} {x : TV} {kids : List (Tm n)} (hw : Wl (n := n + 1) ((x, kids) : TV × List (Tm n))) (hl : x.len = 2) : ∃ u v, kids = [u, v] := by
  have hl2 : x.len = kids.length := hw.1
  match kids, (show kids.length = 2 by omega) with
  | [u, v], _ => exact ⟨u, v, rfl⟩
/-- The body of a renamed term is the renamed body. -/
theorem body_ren (f : Int → Int) : ∀ {n : Nat} (u : Tm n), Wl u → okT u = true → ∀ {m : Nat} (t : Tm m), Wl t → code t = renC f (code u) → bodyC t = (bodyC u).map (renC f) := by
  intro n
  induction n with
  | zero => intro u; exact Empty.elim u
  | succ n ih =>
    intro u hu ok m t ht h
    cases m with
    | zero => exact Empty.elim t
    | succ m =>
      obtain ⟨x, kids⟩ := u
      obtain ⟨y, ky⟩ := t
      have hk := ok_kids ok
      rw [bodyC_succ, bodyC_succ]
      by_cases k1 : x.k = 1
      · obtain rfl := var_kids hu ok k1
        have e2 : subN (fun N => [varNd (f N)]) x.nd = [varNd (f x.N)] := if_pos k1
        have e : renC f (code (n := n + 1) ((x, []) : TV × List (Tm n))) = [varNd (f x.N)] := by
          unfold renC
          rw [code_succ, List.flatMap_nil, List.flatMap_cons, List.flatMap_nil, e2]
          rfl
        have h2 := h
        rw [e, code_succ] at h2
        simp only [List.cons.injEq] at h2
        have hy1 : y.k = 1 := congrArg (fun z : Nd => z.1) h2.1
        rw [if_pos k1, if_pos hy1, h]
        simp only [Option.map_some]
        rw [renC_cons f _ _ (by decide)]
      · have hr := h
        rw [code_succ, code_succ, renC_cons f _ _ (nd_one k1)] at hr
        simp only [List.cons.injEq] at hr
        have hn := nd_parts hr.1
        rw [if_neg k1, if_neg (by rw [hn.1]; exact k1)]
        by_cases k2 : x.k = 2
        · rw [if_pos k2, if_pos (by rw [hn.1]; exact k2)]
          rfl
        · rw [if_neg k2, if_neg (by rw [hn.1]; exact k2)]
          rw [junct_nd hr.1]
          cases hj : junct x with
          | false =>
            rw [if_neg (by simp), if_neg (by simp), h]
            rfl
          | true =>
            rw [if_pos rfl, if_pos rfl]
            have hl := junct_len hj
            obtain ⟨u, v, rfl⟩ := two_kids hu hl
            obtain ⟨u', v', rfl⟩ := two_kids ht (by rw [hn.2.2.2]; exact hl)
            have hwk : ∀ z ∈ [u, v], Wl z := hu.2
            have hwk' : ∀ z ∈ [u', v'], Wl z := ht.2
            have h2 := hr.2
            simp only [List.flatMap_cons, List.flatMap_nil, List.append_nil] at h2
            obtain ⟨b1, b2⟩ := ren_two f (hwk u (by simp)) (hk.2 u (by simp)) (hwk' u' (by simp)) h2
            have i1 := ih u (hwk u (by simp)) (hk.2 u (by simp)) u' (hwk' u' (by simp)) b1
            have i2 := ih v (hwk v (by simp)) (hk.2 v (by simp)) v' (hwk' v' (by simp)) b2
            simp only [List.map_cons, List.map_nil]
            rw [i1, i2, hn.2.2.1]
            cases bodyC u with
            | none => rfl
            | some cu =>
              cases bodyC v with
              | none => rfl
              | some cv =>
                show some _ = some _
                rw [renC_cons f _ _ (by simp), renC_append]
theorem renC_id {c : List Nd} (h : c.all okM = true) : renC (fun N => N) c = c := by
  unfold renC
  induction c with
  | nil => rfl
  | cons x c ih =>
    rw [List.all_cons, Bool.and_eq_true] at h
    rw [List.flatMap_cons, ih h.2]
    have : subN (fun N => [varNd N]) x = [x] := by
      unfold subN
      split
      · rename_i hk
        obtain ⟨k, N, s, len⟩ := x
        simp only at hk
        subst hk
        have h1 := h.1
        simp [okM] at h1
        simp [varNd, h1.1.2, h1.2]
      · rfl
    rw [this]
    rfl
/-- A copy has the body that the term has. -/
theorem body_copy {n m : Nat} {u : Tm n} {t : Tm m} (hu : Wl u) (ok : okT u = true) (ht : Wl t) (h : code t = code u) : bodyC t = bodyC u := by
  rw [body_ren (fun N => N) u hu ok t ht (by rw [h]; exact (renC_id (by rw [← okT_m]; exact ok)).symm)]
  cases hb : bodyC u with
  | none => rfl
  | some c =>
    show some _ = some _
    rw [renC_id (body_fine hu ok hb).1]
/-- A body has the variables that the term has, in their order. -/
theorem body_vars : ∀ {n : Nat} (u : Tm n) {c : List Nd}, Wl u → bodyC u = some c → ∀ s : List Int, stepsN stpN s c = stepsN stpN s (code u) := by
  intro n
  induction n with
  | zero => intro u; exact Empty.elim u
  | succ n ih =>
    intro u c hu hb s
    obtain ⟨x, kids⟩ := u
    rw [bodyC_succ] at hb
    by_cases k1 : x.k = 1
    · rw [if_pos k1] at hb
      cases hb
      rfl
    · rw [if_neg k1] at hb
      by_cases k2 : x.k = 2
      · rw [if_pos k2] at hb; cases hb
      · rw [if_neg k2] at hb
        cases hj : junct x with
        | false =>
          rw [hj, if_neg (by simp)] at hb
          cases hb
          rfl
        | true =>
          rw [hj, if_pos rfl] at hb
          obtain ⟨u, v, rfl⟩ := two_kids hu (junct_len hj)
          have hwk : ∀ z ∈ [u, v], Wl z := hu.2
          simp only [List.map_cons, List.map_nil] at hb
          cases hcu : bodyC u with
          | none => rw [hcu] at hb; cases hb
          | some cu =>
            cases hcv : bodyC v with
            | none => rw [hcu, hcv] at hb; cases hb
            | some cv =>
              rw [hcu, hcv] at hb
              cases (show some _ = some c from hb)
              rw [code_succ]
              have e1 : ∀ (y : Nd) (l : List Nd), y.1 ≠ 1 → stepsN stpN s (y :: l) = stepsN stpN s l := fun y l hy => by
                show stepsN stpN (if y.1 = 1 then _ else s) l = _
                rw [if_neg hy]
              rw [e1 _ _ (by simp), e1 _ _ (nd_one k1)]
              simp only [List.flatMap_cons, List.flatMap_nil, List.append_nil]
              rw [stepsN_append, stepsN_append, ih u (hwk u (by simp)) hcu, ih v (hwk v (by simp)) hcv]
def numF (c : List Nd) (N : Int) : Int := 0 + ((stepsN stpN [] c).idxOf N : Nat)
theorem canon_renC (c : List Nd) : canon 0 c = renC (numF c) c := rfl
theorem clRen_renC (h b c : List Nd) : clRen h b c = c.flatMap (subN (renN 0 (stepsN stpN [] (h ++ b)))) := by rw [← clVars_eq]; rfl
theorem steps_root (x : Nd) (c : List Nd) (h : x.1 ≠ 1) (s : List Int) : stepsN stpN s (x :: c) = stepsN stpN s c := by
  show stepsN stpN (if x.1 = 1 then _ else s) c = _
  rw [if_neg h]
/-- The kind of a term is that of its renamed one. -/
theorem root_ren (f : Int → Int) {n m : Nat} {t : Tm (n + 1)} {o : Tm (m + 1)} (hw : Wl t) (ok : okT t = true) (h : code o = renC f (code t)) : (t.tv.k = 1 ∧ o.tv.k = 1) ∨ (t.tv.k ≠ 1 ∧ o.tv.nd = t.tv.nd) := by
  obtain ⟨x, kids⟩ := t
  obtain ⟨y, ky⟩ := o
  by_cases k1 : x.k = 1
  · obtain rfl := var_kids hw ok k1
    have e2 : subN (fun N => [varNd (f N)]) x.nd = [varNd (f x.N)] := if_pos k1
    unfold renC at h
    rw [code_succ, code_succ, List.flatMap_nil, List.flatMap_cons, List.flatMap_nil, e2] at h
    simp only [List.append_nil, List.cons.injEq] at h
    exact .inl ⟨k1, congrArg (fun z : Nd => z.1) h.1⟩
  · rw [code_succ, code_succ, renC_cons f _ _ (nd_one k1)] at h
    simp only [List.cons.injEq] at h
    exact .inr ⟨k1, h.1⟩
theorem isB_one {x : TV} (h : x.k = 1) (s : List UInt8) (n : Int) : isB x s n = false := by simp [isB, h]
theorem isB_ren (f : Int → Int) {n m : Nat} {t : Tm (n + 1)} {o : Tm (m + 1)} (hw : Wl t) (ok : okT t = true) (h : code o = renC f (code t)) (s : List UInt8) (i : Int) : isB o.tv s i = isB t.tv s i := by
  rcases root_ren f hw ok h with ⟨h1, h2⟩ | ⟨_, h2⟩
  · rw [isB_one h1, isB_one h2]
  · exact isB_nd h2 s i
theorem headBad_one {x : TV} (h : x.k = 1) : headBad x = true := by simp [headBad, h]
theorem headBad_ren (f : Int → Int) {n m : Nat} {t : Tm (n + 1)} {o : Tm (m + 1)} (hw : Wl t) (ok : okT t = true) (h : code o = renC f (code t)) : headBad o.tv = headBad t.tv := by
  rcases root_ren f hw ok h with ⟨h1, h2⟩ | ⟨_, h2⟩
  · rw [headBad_one h1, headBad_one h2]
  · exact headBad_nd h2
/-- A clause of a head alone, by the renamed term. -/
theorem make_head {n m : Nat} {t : Tm (n + 1)} {o : Tm (m + 1)} (hw : Wl t) (ok : okT t = true) (h : code o = canon 0 (code t)) (hi : isB t.tv [58, 45] 2 = false) : makeC t = if headBad o.tv = true then none else some (code o, atomC trueL) := by
  have hb := headBad_ren _ hw ok (by rw [h, canon_renC])
  unfold makeC
  rw [hi, if_neg (by simp), hb]
  show (if headBad t.tv = true then none else some (clRen (code t) (atomC trueL) (code t), clRen (code t) (atomC trueL) (atomC trueL))) = _
  have e1 : clRen (code t) (atomC trueL) (code t) = code o := by
    rw [clRen_renC, stepsN_append]
    have : stepsN stpN (stepsN stpN [] (code t)) (atomC trueL) = stepsN stpN [] (code t) := steps_root _ [] (by decide) _
    rw [this, h]
    rfl
  have e2 : clRen (code t) (atomC trueL) (atomC trueL) = atomC trueL := rfl
  rw [e1, e2]
/-- A clause with a body, by the renamed term. -/
theorem make_rule {n m : Nat} {t : Tm (n + 1)} {o : Tm (m + 1)} (hw : Wl t) (ok : okT t = true) (hwo : Wl o) (h : code o = canon 0 (code t)) (hi : isB t.tv [58, 45] 2 = true) :
    ∃ u' v', o.kids = [u', v'] ∧ makeC t = if headBad u'.tv = true then none else (bodyC v').map fun b => (code u', b) := by
  have hi' := isB_ren _ hw ok (by rw [h, canon_renC]) [58, 45] 2
  rw [hi] at hi'
  have hl : t.tv.len = 2 := by
    simp only [isB, Bool.and_eq_true, beq_iff_eq] at hi
    have := hi.2.2; omega
  have hlo : o.tv.len = 2 := by
    simp only [isB, Bool.and_eq_true, beq_iff_eq] at hi'
    have := hi'.2.2; omega
  have k1 : t.tv.k ≠ 1 := by
    intro hk
    rw [isB_one hk] at hi
    cases hi
  obtain ⟨x, kids⟩ := t
  obtain ⟨y, ky⟩ := o
  obtain ⟨u, v, rfl⟩ := two_kids hw hl
  obtain ⟨u', v', rfl⟩ := two_kids hwo hlo
  have hk := ok_kids ok
  have hwk : ∀ z ∈ [u, v], Wl z := hw.2
  have hwk' : ∀ z ∈ [u', v'], Wl z := hwo.2
  have oku := hk.2 u (by simp)
  have okv := hk.2 v (by simp)
  refine ⟨u', v', rfl, ?_⟩
  have hcx : code (n := n + 1) ((x, [u, v]) : TV × List (Tm n)) = x.nd :: (code u ++ code v) := by
    rw [code_succ]
    simp
  have hr := h
  rw [canon_renC] at hr
  rw [hcx] at hr
  generalize hf : numF (x.nd :: (code u ++ code v)) = f at hr
  rw [code_succ, renC_cons f _ _ (nd_one (x := x) k1)] at hr
  simp only [List.flatMap_cons, List.flatMap_nil, List.append_nil, List.cons.injEq] at hr
  obtain ⟨b1, b2⟩ := ren_two f (hwk u (by simp)) oku (hwk' u' (by simp)) hr.2
  have hfm : ∀ bv, bodyC v = some bv → renN 0 (stepsN stpN [] (code u ++ bv)) = fun N => [varNd (f N)] := fun bv hbv => by
    rw [stepsN_append, body_vars v (hwk v (by simp)) hbv, ← stepsN_append, ← hf]
    funext N
    show _ = [varNd (0 + ((stepsN stpN [] (x.nd :: (code u ++ code v))).idxOf N : Nat))]
    rw [steps_root _ _ (nd_one (x := x) k1)]
    rfl
  have hbv := body_ren f v (hwk v (by simp)) okv v' (hwk' v' (by simp)) b2
  unfold makeC
  rw [if_pos hi]
  show makeJ (headBad u.tv) (code u) (bodyC v) = _
  cases n with
  | zero => exact Empty.elim u
  | succ n =>
    cases m with
    | zero => exact Empty.elim u'
    | succ m =>
      rw [headBad_ren f (hwk u (by simp)) oku b1, hbv]
      cases hc : bodyC v with
      | none =>
        show none = _
        split <;> rfl
      | some bv =>
        show (if headBad u.tv = true then none else some (clRen (code u) bv (code u), clRen (code u) bv bv)) = _
        split
        · rfl
        · show _ = some (code u', renC f bv)
          rw [clRen_renC, clRen_renC, hfm bv hc, b1]
          rfl
end Go.Proofs.Ytcdgmjpgmiehcaa

/- Bodies of grammars between two terms, by codes: mathematics. -/
namespace Go.Proofs.Ytcdgmjpgmiehcaa
open Go.RowKit Go.Shelf

/-- Which line of the document's table a body is of. -/
def formB (x : TV) : Int :=
  if x.k = 2 then 0 else if x.k = 1 then 1 else if (isB x [44] 2 || isB x [45, 62] 2) = true then 2 else if isB x [59] 2 = true then 3
  else if isB x [92, 43] 1 = true then 4 else if (isB x [91, 93] 0 || isB x [46] 2) = true then 5 else if (isB x [123, 125] 0 || isB x [123, 125] 1) = true then 6
  else if isB x [33] 0 = true then 7 else if (decide (x.s.toList = callL) && decide (0 < x.len)) = true then 8 else 9
/-- The error of what is to have two Args more. -/
def extE (x : TV) : Int := if resB x.s.toList (x.len + 2) = true then 7 else if 50 < x.len + 2 then 9 else 0
def listT : {n : Nat} → Tm n → Bool
  | 0, t => Empty.elim t
  | _ + 1, t => if isB t.tv [46] 2 = true then (match t.kids with | [_, v] => listT v | _ => false) else isB t.tv [91, 93] 0
/-- A list's code with something else at its end. -/
def endC : {n : Nat} → Tm n → List Nd → List Nd
  | 0, t, _ => Empty.elim t
  | _ + 1, t, r => if isB t.tv [46] 2 = true then (match t.kids with | [u, v] => t.tv.nd :: (code u ++ endC v r) | _ => []) else r
/-- The error of a body that has no bodies in it. -/
def partE {n : Nat} (t : Tm (n + 1)) : Int :=
  if formB t.tv = 0 then 14 else if formB t.tv = 5 then (if listT t = true then 0 else 14) else if formB t.tv = 6 then (if t.kids.all (fun u => (bodyC u).isSome) = true then 0 else 14)
  else if formB t.tv = 8 then (if 8 < t.tv.len + 2 then 9 else 0) else if formB t.tv = 9 then extE t.tv else 0
def firstE : List Int → Int
  | [] => 0
  | e :: l => if e = 0 then firstE l else e
/-- The first error of a body. -/
def berr : {n : Nat} → Tm n → Int
  | 0, t => Empty.elim t
  | _ + 1, t => if formB t.tv = 2 ∨ formB t.tv = 3 ∨ formB t.tv = 4 then firstE (t.kids.map berr) else partE t
/-- How many new variables its goal has. -/
def cntT : {n : Nat} → Tm n → Nat
  | 0, t => Empty.elim t
  | _ + 1, t => if formB t.tv = 2 ∨ formB t.tv = 4 then 1 + (t.kids.map cntT).sum else if formB t.tv = 3 then (t.kids.map cntT).sum else 0
def eqC (s r : List Nd) : List Nd := (4, 0, [61], 2) :: (s ++ r)
/-- The goal of goals in curly brackets. -/
def curlC {n : Nat} : List (Tm n) → List Nd → List Nd → List Nd
  | u :: _, s, r => (4, 0, [44], 2) :: ((bodyC u).getD [] ++ eqC s r)
  | [], s, r => eqC s r
/-- The goal of a body between two terms; new variables have the numbers from f on. -/
def btwC : {n : Nat} → Tm n → List Nd → List Nd → Int → List Nd
  | 0, t, _, _, _ => Empty.elim t
  | _ + 1, t, s, r, f =>
    if formB t.tv = 1 then (4, 0, callL, 3) :: (varNd t.tv.N :: (s ++ r))
    else if formB t.tv = 2 then (match t.kids with | [a, b] => (4, 0, t.tv.s.toList, 2) :: (btwC a s [varNd f] (f + 1) ++ btwC b [varNd f] r (f + 1 + cntT a)) | _ => [])
    else if formB t.tv = 3 then (match t.kids with | [a, b] => (4, 0, t.tv.s.toList, 2) :: (btwC a s r f ++ btwC b s r (f + cntT a)) | _ => [])
    else if formB t.tv = 4 then (match t.kids with | [a] => (4, 0, [44], 2) :: ((4, 0, t.tv.s.toList, 1) :: (btwC a s [varNd f] (f + 1) ++ eqC s r)) | _ => [])
    else if formB t.tv = 5 then (4, 0, [61], 2) :: (s ++ endC t r)
    else if formB t.tv = 6 then curlC t.kids s r
    else if formB t.tv = 7 then (4, 0, [44], 2) :: ((3, 0, [33], 0) :: eqC s r)
    else (4, 0, t.tv.s.toList, t.tv.len + 2) :: (t.kids.flatMap code ++ (s ++ r))

theorem form_nd {x y : TV} (h : x.nd = y.nd) : formB x = formB y := by
  have hp := nd_parts h
  unfold formB
  rw [isB_nd h, isB_nd h, isB_nd h, isB_nd h, isB_nd h, isB_nd h, isB_nd h, isB_nd h, isB_nd h, hp.1, hp.2.2.1, hp.2.2.2]
theorem form_one {x : TV} : formB x = 1 ↔ x.k = 1 := by
  unfold formB
  by_cases h2 : x.k = 2
  · rw [if_pos h2]; omega
  · rw [if_neg h2]
    by_cases h1 : x.k = 1
    · rw [if_pos h1]; omega
    · rw [if_neg h1]
      refine ⟨fun h => ?_, fun h => absurd h h1⟩
      repeat' split at h
      all_goals omega
theorem isB_len {x : TV} {s : List UInt8} {n : Int} (h : isB x s n = true) : (x.len : Int) = n := by
  unfold isB at h
  simp only [Bool.and_eq_true, beq_iff_eq] at h
  exact h.2.2
theorem isB_name {x : TV} {s : List UInt8} {n : Int} (h : isB x s n = true) : x.s.toList = s := by
  unfold isB at h
  simp only [Bool.and_eq_true, decide_eq_true_eq] at h
  exact h.2.1
theorem form_two {x : TV} (h : formB x = 2) : x.len = 2 := by
  unfold formB at h
  repeat' split at h
  all_goals first
    | omega
    | (rename_i hb; simp only [Bool.or_eq_true] at hb; rcases hb with hb | hb <;> (have := isB_len hb; omega))
    | skip
theorem form_three {x : TV} (h : formB x = 3) : x.len = 2 := by
  unfold formB at h
  repeat' split at h
  all_goals first
    | omega
    | (rename_i hb; have := isB_len hb; omega)
    | skip
theorem form_four {x : TV} (h : formB x = 4) : x.len = 1 := by
  unfold formB at h
  repeat' split at h
  all_goals first
    | omega
    | (rename_i hb; have := isB_len hb; omega)
    | skip
theorem one_kid {n : Nat} {x : TV} {kids : List (Tm n)} (hw : Wl (n := n + 1) ((x, kids) : TV × List (Tm n))) (hl : x.len = 1) : ∃ u, kids = [u] := by
  have hl2 : x.len = kids.length := hw.1
  match kids, (show kids.length = 1 by omega) with
  | [u], _ => exact ⟨u, rfl⟩
theorem renV_one (f : Int → Int) (x : Nd) (h : x.1 = 1) : renC f [x] = [varNd (f x.2.1)] := by
  unfold renC
  rw [List.flatMap_cons, List.flatMap_nil, List.append_nil]
  exact if_pos h
theorem ren_var (f : Int → Int) (N : Int) : renC f [varNd N] = [varNd (f N)] := renV_one f _ rfl
theorem ren_eq (f : Int → Int) (s r : List Nd) : renC f (eqC s r) = eqC (renC f s) (renC f r) := by
  unfold eqC
  rw [renC_cons f _ _ (by simp), renC_append]

/-- Roots and Args of a term that is another one renamed. -/
theorem renV_root (f : Int → Int) {n m : Nat} {x y : TV} {kids : List (Tm n)} {ky : List (Tm m)} (k1 : x.k ≠ 1) (h : code (n := m + 1) ((y, ky) : TV × List (Tm m)) = renC f (code (n := n + 1) ((x, kids) : TV × List (Tm n)))) :
    y.nd = x.nd ∧ ky.flatMap code = renC f (kids.flatMap code) := by
  rw [code_succ, code_succ, renC_cons f _ _ (nd_one k1)] at h
  simp only [List.cons.injEq] at h
  exact h
theorem ren_kids2 (f : Int → Int) {n m : Nat} {x y : TV} {u v : Tm n} {u' v' : Tm m} (hu : Wl (n := n + 1) ((x, [u, v]) : TV × List (Tm n))) (ok : okT (n := n + 1) ((x, [u, v]) : TV × List (Tm n)) = true)
    (ht : Wl (n := m + 1) ((y, [u', v']) : TV × List (Tm m))) (h : [u', v'].flatMap code = renC f ([u, v].flatMap code)) : code u' = renC f (code u) ∧ code v' = renC f (code v) := by
  have hk := ok_kids ok
  have hwk : ∀ z ∈ [u, v], Wl z := hu.2
  have hwk' : ∀ z ∈ [u', v'], Wl z := ht.2
  simp only [List.flatMap_cons, List.flatMap_nil, List.append_nil] at h
  exact ren_two f (hwk u (by simp)) (hk.2 u (by simp)) (hwk' u' (by simp)) h
theorem ren_kids1 (f : Int → Int) {n m : Nat} {u : Tm n} {u' : Tm m} (h : [u'].flatMap code = renC f ([u].flatMap code)) : code u' = renC f (code u) := by
  simpa only [List.flatMap_cons, List.flatMap_nil, List.append_nil] using h
theorem listT_succ {n : Nat} (x : TV) (kids : List (Tm n)) : listT (n := n + 1) ((x, kids) : TV × List (Tm n)) = if isB x [46] 2 = true then (match kids with | [_, v] => listT v | _ => false) else isB x [91, 93] 0 := rfl
theorem endC_succ {n : Nat} (x : TV) (kids : List (Tm n)) (r : List Nd) : endC (n := n + 1) ((x, kids) : TV × List (Tm n)) r = if isB x [46] 2 = true then (match kids with | [u, v] => x.nd :: (code u ++ endC v r) | _ => []) else r := rfl
theorem isB_kind {x : TV} {s : List UInt8} {n : Int} (h : isB x s n = true) : x.k ≠ 1 := by
  intro h1
  rw [isB_one h1] at h
  cases h
theorem list_ren (f : Int → Int) : ∀ {n : Nat} (u : Tm n), Wl u → okT u = true → ∀ {m : Nat} (t : Tm m), Wl t → code t = renC f (code u) → listT t = listT u ∧ ∀ r, endC t (renC f r) = renC f (endC u r) := by
  intro n
  induction n with
  | zero => intro u; exact Empty.elim u
  | succ n ih =>
    intro u hu ok m t ht h
    cases m with
    | zero => exact Empty.elim t
    | succ m =>
      have hb := fun s i => isB_ren f hu ok h s i
      obtain ⟨x, kids⟩ := u
      obtain ⟨y, ky⟩ := t
      have hb' : ∀ s i, isB y s i = isB x s i := hb
      rw [listT_succ, listT_succ, hb', hb']
      cases hx : isB x [46] 2 with
      | false =>
        refine ⟨by simp, fun r => ?_⟩
        rw [endC_succ, endC_succ, hb', hx]
        simp
      | true =>
        have k1 := isB_kind hx
        obtain ⟨e1, e2⟩ := renV_root f k1 h
        have hl : x.len = 2 := by have := isB_len hx; omega
        obtain ⟨a, b, rfl⟩ := two_kids hu hl
        obtain ⟨a', b', rfl⟩ := two_kids ht (by rw [(nd_parts e1).2.2.2]; exact hl)
        obtain ⟨c1, c2⟩ := ren_kids2 f hu ok ht e2
        have hwk : ∀ z ∈ [a, b], Wl z := hu.2
        have hwk' : ∀ z ∈ [a', b'], Wl z := ht.2
        obtain ⟨i1, i2⟩ := ih b (hwk b (by simp)) ((ok_kids ok).2 b (by simp)) b' (hwk' b' (by simp)) c2
        refine ⟨by simpa using i1, fun r => ?_⟩
        rw [endC_succ, endC_succ, hb', hx]
        simp only [if_true]
        rw [renC_cons f _ _ (nd_one k1), renC_append, i2, c1, e1]

theorem partE_succ {n : Nat} (x : TV) (kids : List (Tm n)) : partE (n := n) ((x, kids) : TV × List (Tm n)) =
    if formB x = 0 then 14 else if formB x = 5 then (if listT (n := n + 1) ((x, kids) : TV × List (Tm n)) = true then 0 else 14) else if formB x = 6 then (if kids.all (fun u => (bodyC u).isSome) = true then 0 else 14)
    else if formB x = 8 then (if 8 < x.len + 2 then 9 else 0) else if formB x = 9 then extE x else 0 := rfl
theorem berr_succ {n : Nat} (x : TV) (kids : List (Tm n)) : berr (n := n + 1) ((x, kids) : TV × List (Tm n)) = if formB x = 2 ∨ formB x = 3 ∨ formB x = 4 then firstE (kids.map berr) else partE (n := n) ((x, kids) : TV × List (Tm n)) := rfl
theorem cntT_succ {n : Nat} (x : TV) (kids : List (Tm n)) : cntT (n := n + 1) ((x, kids) : TV × List (Tm n)) = if formB x = 2 ∨ formB x = 4 then 1 + (kids.map cntT).sum else if formB x = 3 then (kids.map cntT).sum else 0 := rfl
theorem btwC_succ {n : Nat} (x : TV) (kids : List (Tm n)) (s r : List Nd) (f : Int) : btwC (n := n + 1) ((x, kids) : TV × List (Tm n)) s r f =
    if formB x = 1 then (4, 0, callL, 3) :: (varNd x.N :: (s ++ r))
    else if formB x = 2 then (match kids with | [a, b] => (4, 0, x.s.toList, 2) :: (btwC a s [varNd f] (f + 1) ++ btwC b [varNd f] r (f + 1 + cntT a)) | _ => [])
    else if formB x = 3 then (match kids with | [a, b] => (4, 0, x.s.toList, 2) :: (btwC a s r f ++ btwC b s r (f + cntT a)) | _ => [])
    else if formB x = 4 then (match kids with | [a] => (4, 0, [44], 2) :: ((4, 0, x.s.toList, 1) :: (btwC a s [varNd f] (f + 1) ++ eqC s r)) | _ => [])
    else if formB x = 5 then (4, 0, [61], 2) :: (s ++ endC (n := n + 1) ((x, kids) : TV × List (Tm n)) r)
    else if formB x = 6 then curlC kids s r
    else if formB x = 7 then (4, 0, [44], 2) :: ((3, 0, [33], 0) :: eqC s r)
    else (4, 0, x.s.toList, x.len + 2) :: (kids.flatMap code ++ (s ++ r)) := rfl
theorem ext_nd {x y : TV} (h : x.nd = y.nd) : extE x = extE y := by
  have hp := nd_parts h
  unfold extE
  rw [hp.2.2.1, hp.2.2.2]

/-- What is renamed has the goal that is renamed, and the same errors and as many new variables. -/
theorem btw_ren (σ : Int → Int) : ∀ {n : Nat} (u : Tm n), Wl u → okT u = true → ∀ {m : Nat} (t : Tm m), Wl t → code t = renC σ (code u) →
    cntT t = cntT u ∧ berr t = berr u ∧ ∀ (s r : List Nd) (f f' : Int), (∀ i : Nat, i < cntT u → σ (f + i) = f' + i) → btwC t (renC σ s) (renC σ r) f' = renC σ (btwC u s r f) := by
  intro n
  induction n with
  | zero => intro u; exact Empty.elim u
  | succ n ih =>
    intro u hu ok m t ht h
    cases m with
    | zero => exact Empty.elim t
    | succ m =>
      have hlr := list_ren σ u hu ok t ht h
      obtain ⟨x, kids⟩ := u
      obtain ⟨y, ky⟩ := t
      have hk := ok_kids ok
      by_cases k1 : x.k = 1
      · obtain rfl := var_kids hu ok k1
        have f1 : formB x = 1 := form_one.2 k1
        have e : renC σ (code (n := n + 1) ((x, []) : TV × List (Tm n))) = [varNd (σ x.N)] := by
          rw [code_succ, List.flatMap_nil]; exact renV_one σ _ k1
        rw [e, code_succ] at h
        simp only [List.cons.injEq] at h
        have hy1 : y.k = 1 := congrArg (fun z : Nd => z.1) h.1
        have hyN : y.N = σ x.N := congrArg (fun z : Nd => z.2.1) h.1
        have g1 : formB y = 1 := form_one.2 hy1
        refine ⟨?_, ?_, fun s r f f' hσ => ?_⟩
        · rw [cntT_succ, cntT_succ, f1, g1]; simp
        · rw [berr_succ, berr_succ, f1, g1]
          rw [partE_succ, partE_succ, f1, g1]; simp
        · rw [btwC_succ, btwC_succ, if_pos f1, if_pos g1, renC_cons σ _ _ (by simp)]
          show _ = (4, 0, callL, 3) :: renC σ ([varNd x.N] ++ (s ++ r))
          rw [renC_append, renC_append, ren_var, hyN]
          rfl
      · obtain ⟨e1, e2⟩ := renV_root σ k1 h
        have hf : formB y = formB x := form_nd e1
        have hp := nd_parts e1
        have n1 : formB x ≠ 1 := fun h => k1 (form_one.1 h)
        have hne : ((4, 0, x.s.toList, 2) : Nd).1 ≠ 1 := by simp
        by_cases f2 : formB x = 2
        · obtain ⟨a, b, rfl⟩ := two_kids hu (form_two f2)
          obtain ⟨a', b', rfl⟩ := two_kids ht (by rw [hp.2.2.2]; exact form_two f2)
          obtain ⟨c1, c2⟩ := ren_kids2 σ hu ok ht e2
          have hwk : ∀ z ∈ [a, b], Wl z := hu.2
          have hwk' : ∀ z ∈ [a', b'], Wl z := ht.2
          obtain ⟨p1, q1, r1⟩ := ih a (hwk a (by simp)) (hk.2 a (by simp)) a' (hwk' a' (by simp)) c1
          obtain ⟨p2, q2, r2⟩ := ih b (hwk b (by simp)) (hk.2 b (by simp)) b' (hwk' b' (by simp)) c2
          have hc : cntT (n := n + 1) ((x, [a, b]) : TV × List (Tm n)) = 1 + (cntT a + cntT b) := by
            rw [cntT_succ, if_pos (.inl f2)]; simp
          refine ⟨?_, ?_, fun s r f f' hσ => ?_⟩
          · rw [hc, cntT_succ, hf, if_pos (.inl f2)]; simp [p1, p2]
          · rw [berr_succ, berr_succ, hf, if_pos (.inl f2), if_pos (.inl f2)]; simp [q1, q2]
          · rw [hc] at hσ
            have h0 : σ f = f' := by simpa using hσ 0 (by omega)
            rw [btwC_succ, btwC_succ, hf, if_neg n1, if_neg n1, if_pos f2, if_pos f2, hp.2.2.1]
            show _ = renC σ ((4, 0, x.s.toList, 2) :: (btwC a s [varNd f] (f + 1) ++ btwC b [varNd f] r (f + 1 + cntT a)))
            rw [renC_cons σ _ _ hne, renC_append, ← r1 s [varNd f] (f + 1) (f' + 1) (fun i hi => by have := hσ (i + 1) (by omega); rw [show f + 1 + (i : Int) = f + ((i + 1 : Nat) : Int) by omega, this]; omega),
              ← r2 [varNd f] r (f + 1 + cntT a) (f' + 1 + cntT a) (fun i hi => by have := hσ (i + 1 + cntT a) (by omega); rw [show f + 1 + (cntT a : Int) + (i : Int) = f + ((i + 1 + cntT a : Nat) : Int) by omega, this]; omega), ren_var, h0, ← p1]
        · by_cases f3 : formB x = 3
          · obtain ⟨a, b, rfl⟩ := two_kids hu (form_three f3)
            obtain ⟨a', b', rfl⟩ := two_kids ht (by rw [hp.2.2.2]; exact form_three f3)
            obtain ⟨c1, c2⟩ := ren_kids2 σ hu ok ht e2
            have hwk : ∀ z ∈ [a, b], Wl z := hu.2
            have hwk' : ∀ z ∈ [a', b'], Wl z := ht.2
            obtain ⟨p1, q1, r1⟩ := ih a (hwk a (by simp)) (hk.2 a (by simp)) a' (hwk' a' (by simp)) c1
            obtain ⟨p2, q2, r2⟩ := ih b (hwk b (by simp)) (hk.2 b (by simp)) b' (hwk' b' (by simp)) c2
            have hc : cntT (n := n + 1) ((x, [a, b]) : TV × List (Tm n)) = cntT a + cntT b := by
              rw [cntT_succ, if_neg (by omega), if_pos f3]; simp
            refine ⟨?_, ?_, fun s r f f' hσ => ?_⟩
            · rw [hc, cntT_succ, hf, if_neg (by omega), if_pos f3]; simp [p1, p2]
            · rw [berr_succ, berr_succ, hf, if_pos (.inr (.inl f3)), if_pos (.inr (.inl f3))]; simp [q1, q2]
            · rw [hc] at hσ
              rw [btwC_succ, btwC_succ, hf, if_neg n1, if_neg n1, if_neg f2, if_neg f2, if_pos f3, if_pos f3, hp.2.2.1]
              show _ = renC σ ((4, 0, x.s.toList, 2) :: (btwC a s r f ++ btwC b s r (f + cntT a)))
              rw [renC_cons σ _ _ hne, renC_append, ← r1 s r f f' (fun i hi => hσ i (by omega)),
                ← r2 s r (f + cntT a) (f' + cntT a) (fun i hi => by have := hσ (cntT a + i) (by omega); rw [show f + (cntT a : Int) + (i : Int) = f + ((cntT a + i : Nat) : Int) by omega, this]; omega), ← p1]
          · by_cases f4 : formB x = 4
            · obtain ⟨a, rfl⟩ := one_kid hu (form_four f4)
              obtain ⟨a', rfl⟩ := one_kid ht (by rw [hp.2.2.2]; exact form_four f4)
              have c1 := ren_kids1 σ e2
              have hwk : ∀ z ∈ [a], Wl z := hu.2
              have hwk' : ∀ z ∈ [a'], Wl z := ht.2
              obtain ⟨p1, q1, r1⟩ := ih a (hwk a (by simp)) (hk.2 a (by simp)) a' (hwk' a' (by simp)) c1
              have hc : cntT (n := n + 1) ((x, [a]) : TV × List (Tm n)) = 1 + cntT a := by
                rw [cntT_succ, if_pos (.inr f4)]; simp
              refine ⟨?_, ?_, fun s r f f' hσ => ?_⟩
              · rw [hc, cntT_succ, hf, if_pos (.inr f4)]; simp [p1]
              · rw [berr_succ, berr_succ, hf, if_pos (.inr (.inr f4)), if_pos (.inr (.inr f4))]; simp [q1]
              · rw [hc] at hσ
                have h0 : σ f = f' := by simpa using hσ 0 (by omega)
                rw [btwC_succ, btwC_succ, hf, if_neg n1, if_neg n1, if_neg f2, if_neg f2, if_neg f3, if_neg f3, if_pos f4, if_pos f4, hp.2.2.1]
                show _ = renC σ ((4, 0, [44], 2) :: ((4, 0, x.s.toList, 1) :: (btwC a s [varNd f] (f + 1) ++ eqC s r)))
                rw [renC_cons σ _ _ (by simp), renC_cons σ _ _ (by simp), renC_append, ren_eq, ← r1 s [varNd f] (f + 1) (f' + 1) (fun i hi => by have := hσ (i + 1) (by omega); rw [show f + 1 + (i : Int) = f + ((i + 1 : Nat) : Int) by omega, this]; omega), ren_var, h0]
            · have hb0 : ¬ (formB x = 2 ∨ formB x = 3 ∨ formB x = 4) := by omega
              have hbod : formB x = 6 → (ky.all (fun u => (bodyC u).isSome) = kids.all (fun u => (bodyC u).isSome)) ∧ ∀ s r : List Nd, curlC ky (renC σ s) (renC σ r) = renC σ (curlC kids s r) := by
                intro f6
                have hl : x.len = 0 ∨ x.len = 1 := by
                  unfold formB at f6
                  repeat' split at f6
                  all_goals first
                    | omega
                    | (rename_i hb; simp only [Bool.or_eq_true] at hb; rcases hb with hb | hb <;> (have := isB_len hb; omega))
                    | skip
                rcases hl with hl | hl
                · obtain rfl := kids_nil hu hl
                  obtain rfl := kids_nil ht (by rw [hp.2.2.2]; exact hl)
                  exact ⟨rfl, fun s r => (ren_eq σ s r).symm⟩
                · obtain ⟨a, rfl⟩ := one_kid hu hl
                  obtain ⟨a', rfl⟩ := one_kid ht (by rw [hp.2.2.2]; exact hl)
                  have c1 := ren_kids1 σ e2
                  have hwk : ∀ z ∈ [a], Wl z := hu.2
                  have hwk' : ∀ z ∈ [a'], Wl z := ht.2
                  have hbr := body_ren σ a (hwk a (by simp)) (hk.2 a (by simp)) a' (hwk' a' (by simp)) c1
                  refine ⟨by simp [hbr], fun s r => ?_⟩
                  show (4, 0, [44], 2) :: ((bodyC a').getD [] ++ eqC (renC σ s) (renC σ r)) = renC σ ((4, 0, [44], 2) :: ((bodyC a).getD [] ++ eqC s r))
                  rw [renC_cons σ _ _ (by simp), renC_append, ren_eq, hbr]
                  cases bodyC a <;> rfl
              refine ⟨?_, ?_, fun s r f f' hσ => ?_⟩
              · rw [cntT_succ, cntT_succ, hf, if_neg (by omega), if_neg (by omega), if_neg (by omega), if_neg (by omega)]
              · rw [berr_succ, berr_succ, hf, if_neg hb0, if_neg hb0]
                rw [partE_succ, partE_succ, hf, hlr.1, ext_nd e1, hp.2.2.2]
                by_cases f6 : formB x = 6
                · rw [(hbod f6).1]
                · rw [if_neg f6, if_neg f6]
              · rw [btwC_succ, btwC_succ, hf, if_neg n1, if_neg n1, if_neg f2, if_neg f2, if_neg f3, if_neg f3, if_neg f4, if_neg f4]
                by_cases f5 : formB x = 5
                · rw [if_pos f5, if_pos f5, renC_cons σ _ _ (by simp), renC_append, hlr.2]
                · rw [if_neg f5, if_neg f5]
                  by_cases f6 : formB x = 6
                  · rw [if_pos f6, if_pos f6]; exact (hbod f6).2 s r
                  · rw [if_neg f6, if_neg f6]
                    by_cases f7 : formB x = 7
                    · rw [if_pos f7, if_pos f7, renC_cons σ _ _ (by simp), renC_cons σ _ _ (by simp), ren_eq]
                    · rw [if_neg f7, if_neg f7, renC_cons σ _ _ (by simp), renC_append, renC_append, e2, hp.2.2.1, hp.2.2.2]
end Go.Proofs.Ytcdgmjpgmiehcaa

