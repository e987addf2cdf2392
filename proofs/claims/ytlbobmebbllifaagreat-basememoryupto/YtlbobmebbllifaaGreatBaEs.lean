import Derived.Test.YtlbobmebbllifaaGreatTs
import Derived.Test.YtlbobmebbllifaaGreatQs
/- hornref.Make. -/
namespace Go.Proofs.YtlbobmebbllifaaGreat
open Go.RowKit Go.Shelf
def clV (x y : TV) : Value := .agg #[.int .i64 x.k, .int .i64 x.N, .string x.s, .slice x.a x.len x.cap, .int .i64 y.k, .int .i64 y.N, .string y.s, .slice y.a y.len y.cap]
def BoxC (W : World) (B : Nat) (x y : TV) : Prop := W.heap[B]? = some (.cells #[.int .i64 x.k, .int .i64 x.N, .string x.s, .slice x.a x.len x.cap, .int .i64 y.k, .int .i64 y.N, .string y.s, .slice y.a y.len y.cap] 30 (0, 0))
theorem BoxC.lt {W : World} {B : Nat} {x y : TV} (h : BoxC W B x y) : B < W.heap.size := (Array.getElem?_eq_some_iff.1 h).1
theorem BoxC.new (W : World) (x y : TV) : BoxC (W.alloc (.cells #[.int .i64 x.k, .int .i64 x.N, .string x.s, .slice x.a x.len x.cap, .int .i64 y.k, .int .i64 y.N, .string y.s, .slice y.a y.len y.cap] 30)) W.heap.size x y := World.alloc_heap_new W _
theorem BoxC.below {A B : World} {n k : Nat} {x y : TV} (h : BoxC A k x y) (hb : Below n A B) (hk : k < n) : BoxC B k x y := (hb.block k hk).trans h
theorem BoxC.cs {W : World} {B : Nat} {x y : TV} (h : BoxC W B x y) : (W.cell? ⟨B, 0, none⟩ = some (.int .i64 x.k) ∧ W.cell? ⟨B, 1, none⟩ = some (.int .i64 x.N) ∧ W.cell? ⟨B, 2, none⟩ = some (.string x.s) ∧ W.cell? ⟨B, 3, none⟩ = some (.slice x.a x.len x.cap)) ∧ (W.cell? ⟨B, 4, none⟩ = some (.int .i64 y.k) ∧ W.cell? ⟨B, 5, none⟩ = some (.int .i64 y.N) ∧ W.cell? ⟨B, 6, none⟩ = some (.string y.s) ∧ W.cell? ⟨B, 7, none⟩ = some (.slice y.a y.len y.cap)) := by
 have h' : W.heap[B]? = _ := h
 refine ⟨⟨?_, ?_, ?_, ?_⟩, ?_, ?_, ?_, ?_⟩ <;> simp [World.cell?, h']
theorem BoxC.fs {W : World} {B : Nat} {x y : TV} (h : BoxC W B x y) : W.frozen? ⟨B, 0, none⟩ = false ∧ W.frozen? ⟨B, 1, none⟩ = false ∧ W.frozen? ⟨B, 2, none⟩ = false ∧ W.frozen? ⟨B, 3, none⟩ = false ∧ W.frozen? ⟨B, 4, none⟩ = false ∧ W.frozen? ⟨B, 5, none⟩ = false ∧ W.frozen? ⟨B, 6, none⟩ = false ∧ W.frozen? ⟨B, 7, none⟩ = false := by
 have h' : W.heap[B]? = _ := h
 refine ⟨?_, ?_, ?_, ?_, ?_, ?_, ?_, ?_⟩ <;> simp [World.frozen?, h']
def set8 (W : World) (b : Nat) (x y : TV) : World := set4 (set4 W b 0 x) b 4 y
theorem set8_below {n : Nat} {A W : World} (h : Below n A W) {b : Nat} (hb : n ≤ b) (x y : TV) : Below n A (set8 W b x y) := set4_below (set4_below h hb 0 x) hb 4 y
def trueL : List UInt8 := [116, 114, 117, 101]
def clVars (h b : List Nd) : List Int := varsC (varsC [] h) b
def clRen (h b c : List Nd) : List Nd := c.flatMap (subN (renN 0 (clVars h b)))
def headBad (x : TV) : Bool := decide (x.k = 1) || (decide (x.k = 2) || resB x.s.toList x.len)
def makeJ (bad : Bool) (h : List Nd) : Option (List Nd) → Option (List Nd × List Nd)
 | none => none
 | some b => if bad = true then none else some (clRen h b h, clRen h b b)
theorem clVars_len (h b : List Nd) : (clVars h b).length ≤ h.length + b.length := by
 have h1 := varsC_len [] h
 have h2 := varsC_len (varsC [] h) b
 simp only [List.length_nil, Nat.zero_add] at h1
 unfold clVars
 omega
/- hornref.Make of a rule; whole. -/
theorem body_fine : ∀ {n : Nat} {t : Tm n} {c : List Nd}, Wl t → okT t = true → bodyC t = some c → c.all okM = true ∧ c.length ≤ 2 * (code t).length := by
 intro n
 induction n with
 | zero => intro t; exact Empty.elim t
 | succ n ih =>
  intro t c hw hok hb
  have hok0 := hok
  rw [okT_m] at hok
  obtain ⟨x, kids⟩ := t
  rw [bodyC_succ] at hb
  by_cases k1 : x.k = 1
  ·rw [if_pos k1] at hb
   cases hb
   refine ⟨?_, ?_⟩
   ·simp only [List.all_cons, hok, Bool.and_true]
    decide +kernel
   ·have : 1 ≤ (code (n := n + 1) ((x, kids) : TV × List (Tm n))).length := by rw [code_succ]; simp
    simp only [List.length_cons]
    omega
  ·rw [if_neg k1] at hb
   by_cases k2 : x.k = 2
   ·rw [if_pos k2] at hb; cases hb
   ·rw [if_neg k2] at hb
    cases hj : junct x with
    | false =>
     rw [hj, if_neg (by simp)] at hb
     cases hb
     exact ⟨hok, by omega⟩
    | true =>
     rw [hj, if_pos rfl] at hb
     have hl := junct_len hj
     have hl2 : x.len = kids.length := hw.1
     obtain ⟨u, v, rfl⟩ : ∃ u v, kids = [u, v] := by
      match kids, (show kids.length = 2 by omega) with
      | [u, v], _ => exact ⟨u, v, rfl⟩
     have hk := (ok_kids hok0).2
     have hwk : ∀ y ∈ [u, v], Wl y := hw.2
     have hwm := (ok_kids hok0).1
     simp only [List.map_cons, List.map_nil] at hb
     cases hu : bodyC u with
     | none => rw [hu] at hb; cases hb
     | some cu =>
      cases hv : bodyC v with
      | none => rw [hu, hv] at hb; cases hb
      | some cv =>
       rw [hu, hv] at hb
       cases (show some _ = some c from hb)
       obtain ⟨a1, a2⟩ := ih (hwk u (by simp)) (hk u (by simp)) hu
       obtain ⟨b1, b2⟩ := ih (hwk v (by simp)) (hk v (by simp)) hv
       have hx : okM x.nd = true := by rw [← ok_m]; exact hwm
       have hx4 : x.k = 4 ∧ x.N = 0 := by
        rcases wm_cases hwm with ⟨h, _⟩ | ⟨_, h⟩ | ⟨h, h', _⟩
        ·omega
        ·omega
        ·exact ⟨h, h'⟩
       have hx' : okM (4, 0, x.s.toList, 2) = true := by
        have e : x.nd = (4, 0, x.s.toList, 2) := by simp [TV.nd, hx4.1, hx4.2, hl]
        rw [← e]; exact hx
       refine ⟨by simp [hx', a1, b1], ?_⟩
       rw [code_succ]
       simp only [List.length_cons, List.length_append, List.flatMap_cons, List.flatMap_nil, List.append_nil]
       omega
def makeC {n : Nat} (t : Tm (n + 1)) : Option (List Nd × List Nd) :=
 if isB t.tv [58, 45] 2 = true then (match t.kids with | [u, v] => makeJ (headBad u.tv) (code u) (bodyC v) | _ => none) else makeJ (headBad t.tv) (code t) (some (atomC trueL))
/- hornref.Plain. -/
/-- A number of storeys, no greater than k. -/
abbrev Upto (k : Nat) : Type := { D : Nat // D ≤ k }
theorem same_shared {D D' : Nat} {S S' : Nat → Prop} {W : World} {v v' : Value} {c c' : List Nd} (h : HoldsS D S W v c) (h' : HoldsS D' S' W v' c') (hD : D + D' ≤ 2199023255552 := by first | omega | exact upto_two _ _ (by omega) | exact upto_left _ (by omega) | exact upto_right _ (by omega)) :
  Calls Tryz.prog 12 #[v, v'] W fun e W' => e = .returned (.bool (decide (c = c'))) ∧ Below W.heap.size W W' := by
 obtain ⟨t, rfl, hT, -, hc⟩ := h (D + D') (by omega) hD
 obtain ⟨t', rfl, hT', -, hc'⟩ := h' (D + D') (by omega) hD
 have hs := same_any _ t t' W hT hT'
 rw [sameT_code hT.wl hT'.wl, hc, hc'] at hs
 exact hs
def plainE (r : Option (List Nd × List Nd)) (h b : List Nd) : Int :=
 match r with
 | some (h', b') => if h' = h ∧ b' = b then 0 else 7
 | none => 7
theorem colonL : (⟨#[58, 45]⟩ : ByteArray).toList = [58, 45] := by decide +kernel
def ruleT {n : Nat} (blk : Nat) (th tb : Tm n) : Tm (n + 1) := ((compV ⟨#[58, 45]⟩ (some ⟨blk, 0, none⟩) 2 2, [th, tb]) : TV × List (Tm n))
theorem rule_code {n : Nat} (blk : Nat) (th tb : Tm n) : code (ruleT blk th tb) = (4, 0, [58, 45], 2) :: (code th ++ code tb) := by
 unfold ruleT
 rw [code_succ]
 simp [TV.nd, compV]
theorem rule_make {n : Nat} (blk : Nat) (th tb : Tm n) : makeC (ruleT blk th tb) = makeJ (headBad th.tv) (code th) (bodyC tb) := by
 have h : isB (compV ⟨#[58, 45]⟩ (some ⟨blk, 0, none⟩) 2 2) [58, 45] 2 = true := by simp [isB, compV]
 exact if_pos h
/- The contracts of hornref.Binds, hornlaw.none and hornref.SameBinds. -/
/- What BaseMakes' two sides answer. -/
def TAns (k ns lo : Nat) (err : Int) (c : List Nd) (e : Ending) (W' : World) : Prop := ∃ (D : Upto k) (x : TV), e = .returned (.tuple #[x.val, .int .i64 err]) ∧ HoldsS D.1 (Mix ns lo) W' x.val c
def CAns (k ns lo : Nat) (err : Int) (h b : List Nd) (e : Ending) (W' : World) : Prop := ∃ (D : Upto k) (x y : TV), e = .returned (.tuple #[clV x y, .int .i64 err]) ∧ HoldsS D.1 (Mix ns lo) W' x.val h ∧ HoldsS D.1 (Mix ns lo) W' y.val b
theorem no_shared (D ns lo : Nat) (hD : 1 ≤ D) (W : World) : HoldsS D (Mix ns lo) W noTerm.val noC := (no_holds D lo hD W).shared fun _ h => .inr h
def orNo : Option (List Nd) → List Nd
 | some c => c
 | none => noC
def orNo2 : Option (List Nd × List Nd) → List Nd × List Nd
 | some c => c
 | none => (noC, noC)
def makeR {n : Nat} (t : Tm (n + 1)) : Int × List Nd × List Nd := if okT t = true then (if (makeC t).isSome = true then 0 else 7, orNo2 (makeC t)) else (2, noC, noC)
def plainR {n : Nat} (th tb : Tm (n + 1)) : Int × List Nd :=
 if okT th = true ∧ okT tb = true then
  (if isB tb.tv trueL 0 = true then (if plainE (makeC th.lift) (code th) (code tb) = 0 then (0, code th) else (7, noC))
   else (if plainE (makeJ (headBad th.tv) (code th) (bodyC tb)) (code th) (code tb) = 0 then (0, (4, 0, [58, 45], 2) :: (code th ++ code tb)) else (7, noC)))
 else (2, noC)
theorem plainE_two (r : Option (List Nd × List Nd)) (h b : List Nd) : plainE r h b = 0 ∨ plainE r h b = 7 := by
 unfold plainE
 split
 ·split
  ·exact .inl rfl
  ·exact .inr rfl
 ·exact .inr rfl
/- Substituting twice. -/
theorem sub_varNd (σ : Int → List Nd) (N : Int) : [varNd N].flatMap (subN σ) = σ N := by simp [subN, varNd]
theorem sub_sub (σ τ : Int → List Nd) (c : List Nd) : (c.flatMap (subN σ)).flatMap (subN τ) = c.flatMap (subN fun N => (σ N).flatMap (subN τ)) := by
 rw [List.flatMap_assoc]
 refine flatMap_same c fun x _ => ?_
 unfold subN
 by_cases h : x.1 = 1
 ·rw [if_pos h, if_pos h]
 ·rw [if_neg h, if_neg h]
  simp [h]
/- What is renamed is numbered as what was not: mathematics. -/
def InjOn (ρ : Int → Int) (P : Int → Prop) : Prop := ∀ M N, P M → P N → ρ M = ρ N → M = N
theorem idxOf_map {ρ : Int → Int} : ∀ (l : List Int) (N : Int), (∀ M ∈ l, ρ M = ρ N → M = N) → (l.map ρ).idxOf (ρ N) = l.idxOf N
 | [], N, _ => rfl
 | M :: l, N, h => by
  rw [List.map_cons, List.idxOf_cons, List.idxOf_cons]
  by_cases e : M = N
  ·subst e; simp
  ·have e' : ¬ ρ M = ρ N := fun h' => e (h M (by simp) h')
   simp only [beq_eq_false_iff_ne.2 e, beq_eq_false_iff_ne.2 e']
   rw [idxOf_map l N fun M hM => h M (by simp [hM])]
theorem steps_ren {ρ : Int → Int} {P : Int → Prop} (hρ : InjOn ρ P) : ∀ (c : List Nd) (acc : List Int), (∀ N ∈ acc, P N) → (∀ N, IsVarOf c N → P N) → stepsN stpN (acc.map ρ) (c.flatMap (subN fun N => [varNd (ρ N)])) = (stepsN stpN acc c).map ρ
 | [], acc, _, _ => rfl
 | x :: c, acc, ha, hc => by
  have hc' : ∀ N, IsVarOf c N → P N := fun N ⟨y, hy, h⟩ => hc N ⟨y, by simp [hy], h⟩
  rw [List.flatMap_cons, stepsN_append]
  have e : stepsN stpN acc (x :: c) = stepsN stpN (if x.1 = 1 then stpN acc x.2.1 else acc) c := rfl
  rw [e]
  by_cases hk : x.1 = 1
  ·have hP : P x.2.1 := hc _ ⟨x, by simp, hk, rfl⟩
   rw [if_pos hk]
   have e1 : stepsN stpN (acc.map ρ) (subN (fun N => [varNd (ρ N)]) x) = (stpN acc x.2.1).map ρ := by
    unfold subN
    rw [if_pos hk]
    show stpN (acc.map ρ) (ρ x.2.1) = _
    unfold stpN
    by_cases hm : x.2.1 ∈ acc
    ·rw [if_pos hm, if_pos (List.mem_map.2 ⟨_, hm, rfl⟩)]
    ·rw [if_neg hm, if_neg]
     ·simp
     ·intro h
      obtain ⟨M, hM, e⟩ := List.mem_map.1 h
      exact hm (hρ M _ (ha M hM) hP e ▸ hM)
   rw [e1]
   refine steps_ren hρ c _ (fun N hN => ?_) hc'
   unfold stpN at hN
   split at hN
   ·exact ha N hN
   ·rcases List.mem_append.1 hN with hN | hN
    ·exact ha N hN
    ·simp at hN; subst hN; exact hP
  ·rw [if_neg hk]
   have e1 : stepsN stpN (acc.map ρ) (subN (fun N => [varNd (ρ N)]) x) = acc.map ρ := by
    unfold subN
    rw [if_neg hk]
    show (if x.1 = 1 then _ else _) = _
    rw [if_neg hk]
   rw [e1]
   exact steps_ren hρ c acc ha hc'
theorem canon_ren {ρ : Int → Int} {c : List Nd} (hρ : InjOn ρ (IsVarOf c)) (f : Int) : canon f (c.flatMap (subN fun N => [varNd (ρ N)])) = canon f c := by
 have h1 := steps_ren hρ c [] (fun N h => by cases h) (fun N h => h)
 rw [List.map_nil] at h1
 unfold canon
 rw [h1, sub_sub]
 refine sub_congr_on fun N hN => ?_
 rw [sub_varNd]
 unfold renN
 rw [idxOf_map]
 intro M hM e
 rcases (steps_mem c [] M).1 hM with h | h
 ·cases h
 ·exact hρ M N h hN e
theorem canon_canon (f : Int) (c : List Nd) : canon 0 (canon f c) = canon 0 c := by
 have : canon f c = c.flatMap (subN fun N => [varNd (f + ((stepsN stpN [] c).idxOf N : Nat))]) := rfl
 rw [this]
 refine canon_ren (ρ := fun N => f + ((stepsN stpN [] c).idxOf N : Nat)) (fun M N hM hN e => ?_) 0
 have hM' := (steps_mem c [] M).2 (.inr hM)
 have hN' := (steps_mem c [] N).2 (.inr hN)
 have e' : (stepsN stpN [] c).idxOf M = (stepsN stpN [] c).idxOf N := by simp only at e; omega
 have h1 := List.getElem_idxOf (List.idxOf_lt_length_of_mem hM')
 have h2 := List.getElem_idxOf (List.idxOf_lt_length_of_mem hN')
 rw [← h1, ← h2]
 simp only [e']
end Go.Proofs.YtlbobmebbllifaaGreat
