import Derived.Test.YtlbobmebbllifaaGreatBaM
import Derived.Test.YtlbobmebbllifaaGreatBbRs
/- Bodies and clauses of a renamed term: mathematics. -/
namespace Go.Proofs.YtlbobmebbllifaaGreat
open Go.RowKit Go.Shelf
def renC (f : Int → Int) (c : List Nd) : List Nd := c.flatMap (subN fun N => [varNd (f N)])
theorem renC_cons (f : Int → Int) (x : Nd) (c : List Nd) (h : x.1 ≠ 1) : renC f (x :: c) = x :: renC f c := by
 unfold renC
 rw [List.flatMap_cons, ren_one f x h]
 rfl
theorem renC_append (f : Int → Int) (c d : List Nd) : renC f (c ++ d) = renC f c ++ renC f d := List.flatMap_append
theorem ren_two (f : Int → Int) {n m : Nat} {u v : Tm n} {u' v' : Tm m} (hu : Wl u) (oku : okT u = true) (hu' : Wl u') (h : code u' ++ code v' = renC f (code u ++ code v)) : code u' = renC f (code u) ∧ code v' = renC f (code v) := by
 rw [renC_append] at h
 obtain ⟨a1, a2⟩ := ren_parse f u hu oku u' hu' _ _ h
 exact ⟨a1, a2⟩
theorem var_kids {n : Nat} {x : TV} {kids : List (Tm n)} (hw : Wl (n := n + 1) ((x, kids) : TV × List (Tm n))) (ok : okT (n := n + 1) ((x, kids) : TV × List (Tm n)) = true) (k1 : x.k = 1) : kids = [] := by
 have hk := ok_kids ok
 refine kids_nil hw ?_
 rcases wm_cases hk.1 with ⟨_, _, _, _, h⟩ | ⟨h, _⟩ | ⟨h, _⟩
 ·exact h
 ·omega
 ·omega
theorem two_kids {n : Nat} {x : TV} {kids : List (Tm n)} (hw : Wl (n := n + 1) ((x, kids) : TV × List (Tm n))) (hl : x.len = 2) : ∃ u v, kids = [u, v] := by
 have hl2 : x.len = kids.length := hw.1
 match kids, (show kids.length = 2 by omega) with
 | [u, v], _ => exact ⟨u, v, rfl⟩
theorem body_ren (f : Int → Int) : ∀ {n : Nat} (u : Tm n), Wl u → okT u = true → ∀ {m : Nat} (t : Tm m), Wl t → code t = renC f (code u) → bodyC t = (bodyC u).map (renC f) := by
 intro n
 induction n with
 | zero => intro u; exact Empty.elim u
 | succ n ih =>
  intro u hu ok m t ht h
  cases m with
  | zero => exact Empty.elim t
  | succ m =>
   obtain ⟨x, kids⟩ := u
   obtain ⟨y, ky⟩ := t
   have hk := ok_kids ok
   rw [bodyC_succ, bodyC_succ]
   by_cases k1 : x.k = 1
   ·obtain rfl := var_kids hu ok k1
    have e2 : subN (fun N => [varNd (f N)]) x.nd = [varNd (f x.N)] := if_pos k1
    have e : renC f (code (n := n + 1) ((x, []) : TV × List (Tm n))) = [varNd (f x.N)] := by
     unfold renC
     rw [code_succ, List.flatMap_nil, List.flatMap_cons, List.flatMap_nil, e2]
     rfl
    have h2 := h
    rw [e, code_succ] at h2
    simp only [List.cons.injEq] at h2
    have hy1 : y.k = 1 := congrArg (fun z : Nd => z.1) h2.1
    rw [if_pos k1, if_pos hy1, h]
    simp only [Option.map_some]
    rw [renC_cons f _ _ (by decide)]
   ·have hr := h
    rw [code_succ, code_succ, renC_cons f _ _ (nd_one k1)] at hr
    simp only [List.cons.injEq] at hr
    have hn := nd_parts hr.1
    rw [if_neg k1, if_neg (by rw [hn.1]; exact k1)]
    by_cases k2 : x.k = 2
    ·rw [if_pos k2, if_pos (by rw [hn.1]; exact k2)]
     rfl
    ·rw [if_neg k2, if_neg (by rw [hn.1]; exact k2)]
     rw [junct_nd hr.1]
     cases hj : junct x with
     | false =>
      rw [if_neg (by simp), if_neg (by simp), h]
      rfl
     | true =>
      rw [if_pos rfl, if_pos rfl]
      have hl := junct_len hj
      obtain ⟨u, v, rfl⟩ := two_kids hu hl
      obtain ⟨u', v', rfl⟩ := two_kids ht (by rw [hn.2.2.2]; exact hl)
      have hwk : ∀ z ∈ [u, v], Wl z := hu.2
      have hwk' : ∀ z ∈ [u', v'], Wl z := ht.2
      have h2 := hr.2
      simp only [List.flatMap_cons, List.flatMap_nil, List.append_nil] at h2
      obtain ⟨b1, b2⟩ := ren_two f (hwk u (by simp)) (hk.2 u (by simp)) (hwk' u' (by simp)) h2
      have i1 := ih u (hwk u (by simp)) (hk.2 u (by simp)) u' (hwk' u' (by simp)) b1
      have i2 := ih v (hwk v (by simp)) (hk.2 v (by simp)) v' (hwk' v' (by simp)) b2
      simp only [List.map_cons, List.map_nil]
      rw [i1, i2, hn.2.2.1]
      cases bodyC u with
      | none => rfl
      | some cu =>
       cases bodyC v with
       | none => rfl
       | some cv =>
        show some _ = some _
        rw [renC_cons f _ _ (by simp), renC_append]
theorem renC_id {c : List Nd} (h : c.all okM = true) : renC (fun N => N) c = c := by
 unfold renC
 induction c with
 | nil => rfl
 | cons x c ih =>
  rw [List.all_cons, Bool.and_eq_true] at h
  rw [List.flatMap_cons, ih h.2]
  have : subN (fun N => [varNd N]) x = [x] := by
   unfold subN
   split
   ·rename_i hk
    obtain ⟨k, N, s, len⟩ := x
    simp only at hk
    subst hk
    have h1 := h.1
    simp [okM] at h1
    simp [varNd, h1.1.2, h1.2]
   ·rfl
  rw [this]
  rfl
theorem body_copy {n m : Nat} {u : Tm n} {t : Tm m} (hu : Wl u) (ok : okT u = true) (ht : Wl t) (h : code t = code u) : bodyC t = bodyC u := by
 rw [body_ren (fun N => N) u hu ok t ht (by rw [h]; exact (renC_id (by rw [← okT_m]; exact ok)).symm)]
 cases hb : bodyC u with
 | none => rfl
 | some c =>
  show some _ = some _
  rw [renC_id (body_fine hu ok hb).1]
theorem body_vars : ∀ {n : Nat} (u : Tm n) {c : List Nd}, Wl u → bodyC u = some c → ∀ s : List Int, stepsN stpN s c = stepsN stpN s (code u) := by
 intro n
 induction n with
 | zero => intro u; exact Empty.elim u
 | succ n ih =>
  intro u c hu hb s
  obtain ⟨x, kids⟩ := u
  rw [bodyC_succ] at hb
  by_cases k1 : x.k = 1
  ·rw [if_pos k1] at hb
   cases hb
   rfl
  ·rw [if_neg k1] at hb
   by_cases k2 : x.k = 2
   ·rw [if_pos k2] at hb; cases hb
   ·rw [if_neg k2] at hb
    cases hj : junct x with
    | false =>
     rw [hj, if_neg (by simp)] at hb
     cases hb
     rfl
    | true =>
     rw [hj, if_pos rfl] at hb
     obtain ⟨u, v, rfl⟩ := two_kids hu (junct_len hj)
     have hwk : ∀ z ∈ [u, v], Wl z := hu.2
     simp only [List.map_cons, List.map_nil] at hb
     cases hcu : bodyC u with
     | none => rw [hcu] at hb; cases hb
     | some cu =>
      cases hcv : bodyC v with
      | none => rw [hcu, hcv] at hb; cases hb
      | some cv =>
       rw [hcu, hcv] at hb
       cases (show some _ = some c from hb)
       rw [code_succ]
       have e1 : ∀ (y : Nd) (l : List Nd), y.1 ≠ 1 → stepsN stpN s (y :: l) = stepsN stpN s l := fun y l hy => by
        show stepsN stpN (if y.1 = 1 then _ else s) l = _
        rw [if_neg hy]
       rw [e1 _ _ (by simp), e1 _ _ (nd_one k1)]
       simp only [List.flatMap_cons, List.flatMap_nil, List.append_nil]
       rw [stepsN_append, stepsN_append, ih u (hwk u (by simp)) hcu, ih v (hwk v (by simp)) hcv]
def numF (c : List Nd) (N : Int) : Int := 0 + ((stepsN stpN [] c).idxOf N : Nat)
theorem canon_renC (c : List Nd) : canon 0 c = renC (numF c) c := rfl
theorem clRen_renC (h b c : List Nd) : clRen h b c = c.flatMap (subN (renN 0 (stepsN stpN [] (h ++ b)))) := by rw [← clVars_eq]; rfl
theorem steps_root (x : Nd) (c : List Nd) (h : x.1 ≠ 1) (s : List Int) : stepsN stpN s (x :: c) = stepsN stpN s c := by
 show stepsN stpN (if x.1 = 1 then _ else s) c = _
 rw [if_neg h]
theorem root_ren (f : Int → Int) {n m : Nat} {t : Tm (n + 1)} {o : Tm (m + 1)} (hw : Wl t) (ok : okT t = true) (h : code o = renC f (code t)) : (t.tv.k = 1 ∧ o.tv.k = 1) ∨ (t.tv.k ≠ 1 ∧ o.tv.nd = t.tv.nd) := by
 obtain ⟨x, kids⟩ := t
 obtain ⟨y, ky⟩ := o
 by_cases k1 : x.k = 1
 ·obtain rfl := var_kids hw ok k1
  have e2 : subN (fun N => [varNd (f N)]) x.nd = [varNd (f x.N)] := if_pos k1
  unfold renC at h
  rw [code_succ, code_succ, List.flatMap_nil, List.flatMap_cons, List.flatMap_nil, e2] at h
  simp only [List.append_nil, List.cons.injEq] at h
  exact .inl ⟨k1, congrArg (fun z : Nd => z.1) h.1⟩
 ·rw [code_succ, code_succ, renC_cons f _ _ (nd_one k1)] at h
  simp only [List.cons.injEq] at h
  exact .inr ⟨k1, h.1⟩
theorem isB_one {x : TV} (h : x.k = 1) (s : List UInt8) (n : Int) : isB x s n = false := by simp [isB, h]
theorem isB_ren (f : Int → Int) {n m : Nat} {t : Tm (n + 1)} {o : Tm (m + 1)} (hw : Wl t) (ok : okT t = true) (h : code o = renC f (code t)) (s : List UInt8) (i : Int) : isB o.tv s i = isB t.tv s i := by
 rcases root_ren f hw ok h with ⟨h1, h2⟩ | ⟨_, h2⟩
 ·rw [isB_one h1, isB_one h2]
 ·exact isB_nd h2 s i
theorem headBad_one {x : TV} (h : x.k = 1) : headBad x = true := by simp [headBad, h]
theorem headBad_ren (f : Int → Int) {n m : Nat} {t : Tm (n + 1)} {o : Tm (m + 1)} (hw : Wl t) (ok : okT t = true) (h : code o = renC f (code t)) : headBad o.tv = headBad t.tv := by
 rcases root_ren f hw ok h with ⟨h1, h2⟩ | ⟨_, h2⟩
 ·rw [headBad_one h1, headBad_one h2]
 ·exact headBad_nd h2
theorem make_head {n m : Nat} {t : Tm (n + 1)} {o : Tm (m + 1)} (hw : Wl t) (ok : okT t = true) (h : code o = canon 0 (code t)) (hi : isB t.tv [58, 45] 2 = false) : makeC t = if headBad o.tv = true then none else some (code o, atomC trueL) := by
 have hb := headBad_ren _ hw ok (by rw [h, canon_renC])
 unfold makeC
 rw [hi, if_neg (by simp), hb]
 show (if headBad t.tv = true then none else some (clRen (code t) (atomC trueL) (code t), clRen (code t) (atomC trueL) (atomC trueL))) = _
 have e1 : clRen (code t) (atomC trueL) (code t) = code o := by
  rw [clRen_renC, stepsN_append]
  have : stepsN stpN (stepsN stpN [] (code t)) (atomC trueL) = stepsN stpN [] (code t) := steps_root _ [] (by decide) _
  rw [this, h]
  rfl
 have e2 : clRen (code t) (atomC trueL) (atomC trueL) = atomC trueL := rfl
 rw [e1, e2]
theorem make_rule {n m : Nat} {t : Tm (n + 1)} {o : Tm (m + 1)} (hw : Wl t) (ok : okT t = true) (hwo : Wl o) (h : code o = canon 0 (code t)) (hi : isB t.tv [58, 45] 2 = true) :
  ∃ u' v', o.kids = [u', v'] ∧ makeC t = if headBad u'.tv = true then none else (bodyC v').map fun b => (code u', b) := by
 have hi' := isB_ren _ hw ok (by rw [h, canon_renC]) [58, 45] 2
 rw [hi] at hi'
 have hl : t.tv.len = 2 := by
  simp only [isB, Bool.and_eq_true, beq_iff_eq] at hi
  have := hi.2.2; omega
 have hlo : o.tv.len = 2 := by
  simp only [isB, Bool.and_eq_true, beq_iff_eq] at hi'
  have := hi'.2.2; omega
 have k1 : t.tv.k ≠ 1 := by
  intro hk
  rw [isB_one hk] at hi
  cases hi
 obtain ⟨x, kids⟩ := t
 obtain ⟨y, ky⟩ := o
 obtain ⟨u, v, rfl⟩ := two_kids hw hl
 obtain ⟨u', v', rfl⟩ := two_kids hwo hlo
 have hk := ok_kids ok
 have hwk : ∀ z ∈ [u, v], Wl z := hw.2
 have hwk' : ∀ z ∈ [u', v'], Wl z := hwo.2
 have oku := hk.2 u (by simp)
 have okv := hk.2 v (by simp)
 refine ⟨u', v', rfl, ?_⟩
 have hcx : code (n := n + 1) ((x, [u, v]) : TV × List (Tm n)) = x.nd :: (code u ++ code v) := by
  rw [code_succ]
  simp
 have hr := h
 rw [canon_renC] at hr
 rw [hcx] at hr
 generalize hf : numF (x.nd :: (code u ++ code v)) = f at hr
 rw [code_succ, renC_cons f _ _ (nd_one (x := x) k1)] at hr
 simp only [List.flatMap_cons, List.flatMap_nil, List.append_nil, List.cons.injEq] at hr
 obtain ⟨b1, b2⟩ := ren_two f (hwk u (by simp)) oku (hwk' u' (by simp)) hr.2
 have hfm : ∀ bv, bodyC v = some bv → renN 0 (stepsN stpN [] (code u ++ bv)) = fun N => [varNd (f N)] := fun bv hbv => by
  rw [stepsN_append, body_vars v (hwk v (by simp)) hbv, ← stepsN_append, ← hf]
  funext N
  show _ = [varNd (0 + ((stepsN stpN [] (x.nd :: (code u ++ code v))).idxOf N : Nat))]
  rw [steps_root _ _ (nd_one (x := x) k1)]
  rfl
 have hbv := body_ren f v (hwk v (by simp)) okv v' (hwk' v' (by simp)) b2
 unfold makeC
 rw [if_pos hi]
 show makeJ (headBad u.tv) (code u) (bodyC v) = _
 cases n with
 | zero => exact Empty.elim u
 | succ n =>
  cases m with
  | zero => exact Empty.elim u'
  | succ m =>
   rw [headBad_ren f (hwk u (by simp)) oku b1, hbv]
   cases hc : bodyC v with
   | none =>
    show none = _
    split <;> rfl
   | some bv =>
    show (if headBad u.tv = true then none else some (clRen (code u) bv (code u), clRen (code u) bv bv)) = _
    split
    ·rfl
    ·show _ = some (code u', renC f bv)
     rw [clRen_renC, clRen_renC, hfm bv hc, b1]
     rfl
/- base.isOfTwo, isCallable, isReserved. -/
set_option maxHeartbeats 1000000
def isC (x : TV) (s : List UInt8) : Bool := decide (x.k = 4) && (decide (x.s.toList = s) && ((x.len : Int) == 2))
theorem isC_isB {x : TV} (h : wmB x.k x.N x.s x.len = true) (s : List UInt8) : isC x s = isB x s 2 := by
 unfold isC isB
 by_cases k4 : x.k = 4
 ·simp [k4]
 ·have : (x.len : Int) == 2 → x.k ≠ 3 := fun hl hk => by
   rcases wm_cases h with ⟨h1, _⟩ | ⟨_, h1⟩ | ⟨h1, _⟩
   ·omega
   ·rw [h1] at hl; simp at hl
   ·exact k4 h1
  by_cases k3 : x.k = 3
  ·have hl : ((x.len : Int) == 2) = false := by
    cases he : ((x.len : Int) == 2) with
    | false => rfl
    | true => exact (this he k3).elim
   simp [hl, k4]
  ·simp [k3, k4]
theorem isOfTwo_any (x : TV) (s : ByteArray) (w : World) : Calls Tryz.prog 25 #[x.val, .string s] w fun e W' => e = .returned (.bool (isC x s.toList)) ∧ Below w.heap.size w W' := by
 obtain ⟨k, N, xs, a, len, cap⟩ := x
 simp only [TV.val]
 by_cases h4 : k = 4
 ·subst h4
  go_enter Tryz.func25, Tryz.ntmps25
  go_wp2
  all_goals go_ret
  all_goals refine ⟨?_, (Below.refl _ w).alloc (Nat.le_refl _) _⟩
  all_goals simp_all [isC]
 ·have h4' : (k == 4) = false := by simp [h4]
  have HV : Hid (isC ⟨k, N, xs, a, len, cap⟩ s.toList = false) := by show isC _ _ = _; simp [isC, h4]
  clear h4
  go_enter Tryz.func25, Tryz.ntmps25
  go_wp2
  all_goals go_ret
  all_goals exact ⟨by rw [HV.out]; rfl, (Below.refl _ w).alloc (Nat.le_refl _) _⟩
theorem isCallable_any (x : TV) (w : World) : Calls Tryz.prog 26 #[x.val] w fun e W' => e = .returned (.bool (decide (x.k = 3) || decide (x.k = 4))) ∧ Below w.heap.size w W' := by
 obtain ⟨k, N, xs, a, len, cap⟩ := x
 simp only [TV.val]
 by_cases h3 : k = 3
 ·subst h3
  go_enter Tryz.func26, Tryz.ntmps26
  go_wp2
  all_goals go_ret
  all_goals exact ⟨rfl, (Below.refl _ w).alloc (Nat.le_refl _) _⟩
 ·have h3' : (k == 3) = false := by simp [h3]
  have HV : Hid ((decide (k = 3) || decide (k = 4)) = (k == 4)) := by show (_ : Bool) = _; simp [h3]; rfl
  clear h3
  go_enter Tryz.func26, Tryz.ntmps26
  go_wp2
  all_goals go_ret
  all_goals exact ⟨by rw [HV.out]; rfl, (Below.refl _ w).alloc (Nat.le_refl _) _⟩
set_option maxRecDepth 100000 in
theorem isReserved_any (x : TV) (w : World) : Calls Tryz.prog 27 #[x.val] w fun e W' => e = .returned (.bool (resB x.s.toList x.len)) ∧ Below w.heap.size w W' := by
 obtain ⟨k, N, xs, a, len, cap⟩ := x
 simp only [TV.val]
 have hr := bres_any xs (len : Int) (w.alloc (.cells #[.int .i64 k, .int .i64 N, .string xs, .slice a len cap] 24))
 generalize resB xs.toList (len : Int) = r at hr ⊢
 go_enter Tryz.func27, Tryz.ntmps27
 go_wp2_with fail
 refine hr.mono ?_
 rintro e W' ⟨rfl, hb⟩
 clear hr
 go_wp2_with fail
 all_goals go_ret
 all_goals exact ⟨rfl, ((Below.refl _ w).alloc (Nat.le_refl _) _).trans (hb.mono (by simp))⟩
end Go.Proofs.YtlbobmebbllifaaGreat
