import Derived.Test.YtcdgmjpgmiehcaaGmE
import Derived.Test.YtcdgmjpgmiehcaaHcs
import Derived.Test.YtcdgmjpgmiehcaaOpGs
/- grammar.variable, atom, noWords, compound; points and the writer; written. -/
namespace Go.Proofs.Ytcdgmjpgmiehcaa
open Go.RowKit Go.Shelf

theorem gvar_any (N : Int) (w : World) : Calls Try.prog 23 #[.int .i64 N] w fun e W' => e = .returned (varV N).val ∧ Below w.heap.size w W' := by
  go_enter Try.func23, Try.ntmps23
  go_wp2
  exact bodyPost_ret (v := (varV N).val) (by simp [results, Try.results23, go_sem, varV, TV.val]) rfl ⟨rfl, (Below.refl _ _).alloc (Nat.le_refl _) _⟩
/-- An atom's cells. -/
def atomT (s : ByteArray) : TV := ⟨3, 0, s, none, 0, 0⟩
theorem gatom_any (s : ByteArray) (w : World) : Calls Try.prog 52 #[.string s] w fun e W' => e = .returned (atomT s).val ∧ Below w.heap.size w W' := by
  go_enter Try.func52, Try.ntmps52
  go_wp2
  exact bodyPost_ret (v := (atomT s).val) (by simp [results, Try.results52, go_sem, atomT, TV.val]) rfl ⟨rfl, (Below.refl _ _).alloc (Nat.le_refl _) _⟩
theorem gcomp_any (s : ByteArray) (a : Option Addr) (len cap : Nat) (w : World) : Calls Try.prog 24 #[.string s, .slice a len cap] w fun e W' => e = .returned (compV s a len cap).val ∧ Below w.heap.size w W' := by
  go_enter Try.func24, Try.ntmps24
  go_wp2
  exact bodyPost_ret (v := (compV s a len cap).val) (by simp [results, Try.results24, go_sem, compV, TV.val]) rfl ⟨rfl, (Below.refl _ _).alloc (Nat.le_refl _) _⟩
def nilT : TV := atomT ⟨#[91, 93]⟩
theorem gno_any (w : World) : Calls Try.prog 53 #[] w fun e W' => e = .returned nilT.val ∧ Below w.heap.size w W' := by
  obtain ⟨W1, hW1⟩ : ∃ W1, w.alloc (.cells #[.int .i64 0, .int .i64 0, .string ⟨#[]⟩, .slice none 0 0] 24) = W1 := ⟨_, rfl⟩
  have b1 : BoxT W1 w.heap.size noTerm := by rw [← hW1]; exact BoxT.new w noTerm
  have g1 : Below w.heap.size w W1 := by rw [← hW1]; exact (Below.refl _ w).alloc (Nat.le_refl _) _
  have HA := hide (gatom_any ⟨#[91, 93]⟩ W1)
  have HB := hide (And.intro b1 g1)
  clear b1 g1
  go_enter Try.func53, Try.ntmps53
  go_wp2_with fail
  try rw [hW1]
  refine (unhide HA).mono ?_
  rintro e V1 ⟨rfl, h1⟩
  have b2 := (unhide HB).1.below h1 (unhide HB).1.lt
  have g2 := (unhide HB).2.trans (h1.mono (unhide HB).2.size)
  have c0 := b2.c0
  have c1 := b2.c1
  have c2 := b2.c2
  have c3 := b2.c3
  obtain ⟨f0, f1, f2, f3⟩ := b2.frz
  have b3 := set4_box b2 nilT
  have g3 := set4_below g2 (Nat.le_refl _) 0 nilT
  have z0 := b3.c0
  have z1 := b3.c1
  have z2 := b3.c2
  have z3 := b3.c3
  have HF := hide g3
  clear HA HB b2 g2 h1 b3 g3 hW1
  simp only [TV.val, atomT]
  go_wp2_with fail
  exact bodyPost_ret (v := nilT.val) (by
    have e : (((V1.setCell ⟨w.heap.size, 0, none⟩ (.int .i64 3)).setCell ⟨w.heap.size, 1, none⟩ (.int .i64 0)).setCell ⟨w.heap.size, 2, none⟩ (.string ⟨#[91, 93]⟩)).setCell ⟨w.heap.size, 3, none⟩ (.slice none 0 0) = set4 V1 w.heap.size 0 nilT := rfl
    rw [e]
    simp [results, Try.results53, go_sem, TV.val, z0, z1, z2, z3]) rfl ⟨rfl, unhide HF⟩

/-- A point's cells: a term, and whether it is known. -/
def PtB (W : World) (q : Nat) (x : TV) (b : Bool) : Prop := W.heap[q]? = some (.cells #[.int .i64 x.k, .int .i64 x.N, .string x.s, .slice x.a x.len x.cap, .bool b] 61 (0, 0))
/-- The writer's cells: the next new variable, and what is left. -/
def WrB (W : World) (wb : Nat) (nx : Int) (lf : Value) : Prop := W.heap[wb]? = some (.cells #[.int .i64 nx, lf] 48 (0, 0))
theorem PtB.lt {W : World} {q : Nat} {x : TV} {b : Bool} (h : PtB W q x b) : q < W.heap.size := (Array.getElem?_eq_some_iff.1 h).1
theorem WrB.lt {W : World} {q : Nat} {n : Int} {l : Value} (h : WrB W q n l) : q < W.heap.size := (Array.getElem?_eq_some_iff.1 h).1
theorem PtB.kept {W W' : World} {q : Nat} {x : TV} {b : Bool} (h : PtB W q x b) (hk : W'.heap[q]? = W.heap[q]?) : PtB W' q x b := hk.trans h
theorem WrB.kept {W W' : World} {q : Nat} {n : Int} {l : Value} (h : WrB W q n l) (hk : W'.heap[q]? = W.heap[q]?) : WrB W' q n l := hk.trans h
theorem PtB.cells {W : World} {q : Nat} {x : TV} {b : Bool} (h : PtB W q x b) : W.cell? ⟨q, 0, none⟩ = some (.int .i64 x.k) ∧ W.cell? ⟨q, 1, none⟩ = some (.int .i64 x.N) ∧ W.cell? ⟨q, 2, none⟩ = some (.string x.s) ∧ W.cell? ⟨q, 3, none⟩ = some (.slice x.a x.len x.cap) ∧ W.cell? ⟨q, 4, none⟩ = some (.bool b) := by
  refine ⟨?_, ?_, ?_, ?_, ?_⟩ <;> simp [World.cell?, show W.heap[q]? = _ from h]
theorem WrB.cells {W : World} {q : Nat} {n : Int} {l : Value} (h : WrB W q n l) : W.cell? ⟨q, 0, none⟩ = some (.int .i64 n) ∧ W.cell? ⟨q, 1, none⟩ = some l := by
  refine ⟨?_, ?_⟩ <;> simp [World.cell?, show W.heap[q]? = _ from h]
theorem PtB.frz {W : World} {q : Nat} {x : TV} {b : Bool} (h : PtB W q x b) (j : Nat) : W.frozen? ⟨q, j, none⟩ = false := by simp [World.frozen?, show W.heap[q]? = _ from h]
theorem WrB.frz {W : World} {q : Nat} {n : Int} {l : Value} (h : WrB W q n l) (j : Nat) : W.frozen? ⟨q, j, none⟩ = false := by simp [World.frozen?, show W.heap[q]? = _ from h]
/-- A point is written. -/
def setP (W : World) (q : Nat) (x : TV) (b : Bool) : World := ((((W.setCell ⟨q, 0, none⟩ (.int .i64 x.k)).setCell ⟨q, 1, none⟩ (.int .i64 x.N)).setCell ⟨q, 2, none⟩ (.string x.s)).setCell ⟨q, 3, none⟩ (.slice x.a x.len x.cap)).setCell ⟨q, 4, none⟩ (.bool b)
theorem set_cell5 {W : World} {B : Nat} {c0 c1 c2 c3 c4 : Value} {t : TypeId} (h : W.heap[B]? = some (.cells #[c0, c1, c2, c3, c4] t (0, 0))) (v : Value) :
    (W.setCell ⟨B, 0, none⟩ v).heap[B]? = some (.cells #[v, c1, c2, c3, c4] t (0, 0)) ∧ (W.setCell ⟨B, 1, none⟩ v).heap[B]? = some (.cells #[c0, v, c2, c3, c4] t (0, 0)) ∧
    (W.setCell ⟨B, 2, none⟩ v).heap[B]? = some (.cells #[c0, c1, v, c3, c4] t (0, 0)) ∧ (W.setCell ⟨B, 3, none⟩ v).heap[B]? = some (.cells #[c0, c1, c2, v, c4] t (0, 0)) ∧ (W.setCell ⟨B, 4, none⟩ v).heap[B]? = some (.cells #[c0, c1, c2, c3, v] t (0, 0)) := by
  obtain ⟨hlt, hk⟩ := Array.getElem?_eq_some_iff.1 h
  refine ⟨?_, ?_, ?_, ?_, ?_⟩
  all_goals
    show (W.heap.modify B _)[B]? = _
    rw [Array.getElem?_eq_getElem (by rw [Array.size_modify]; exact hlt), Array.getElem_modify_self, hk]
    rfl
theorem setP_box {W : World} {q : Nat} {x0 : TV} {b0 : Bool} (h : PtB W q x0 b0) (x : TV) (b : Bool) : PtB (setP W q x b) q x b := by
  have h1 := (set_cell5 h (.int .i64 x.k)).1
  have h2 := (set_cell5 h1 (.int .i64 x.N)).2.1
  have h3 := (set_cell5 h2 (.string x.s)).2.2.1
  have h4 := (set_cell5 h3 (.slice x.a x.len x.cap)).2.2.2.1
  exact (set_cell5 h4 (.bool b)).2.2.2.2
theorem setP_other (W : World) (q : Nat) (x : TV) (b : Bool) {k : Nat} (h : k ≠ q) : (setP W q x b).heap[k]? = W.heap[k]? := by
  unfold setP
  rw [Below.heap_setCell _ _ _ _ h, Below.heap_setCell _ _ _ _ h, Below.heap_setCell _ _ _ _ h, Below.heap_setCell _ _ _ _ h, Below.heap_setCell _ _ _ _ h]
theorem setP_size (W : World) (q : Nat) (x : TV) (b : Bool) : (setP W q x b).heap.size = W.heap.size := by simp [setP]
theorem setW_box {W : World} {q : Nat} {n : Int} {l : Value} (h : WrB W q n l) (m : Int) : WrB (W.setCell ⟨q, 0, none⟩ (.int .i64 m)) q m l := by
  obtain ⟨hlt, hk⟩ := Array.getElem?_eq_some_iff.1 h
  show (W.heap.modify q _)[q]? = _
  rw [Array.getElem?_eq_getElem (by rw [Array.size_modify]; exact hlt), Array.getElem_modify_self, hk]
  rfl
theorem setL_box {W : World} {q : Nat} {n : Int} {l : Value} (h : WrB W q n l) (m : Value) : WrB (W.setCell ⟨q, 1, none⟩ m) q n m := by
  obtain ⟨hlt, hk⟩ := Array.getElem?_eq_some_iff.1 h
  show (W.heap.modify q _)[q]? = _
  rw [Array.getElem?_eq_getElem (by rw [Array.size_modify]; exact hlt), Array.getElem_modify_self, hk]
  rfl
end Go.Proofs.Ytcdgmjpgmiehcaa

/- New variables, numbered in the order of their coming; what a point is; grammar's written. -/
namespace Go.Proofs.Ytcdgmjpgmiehcaa
open Go.RowKit Go.Shelf

/-- A new variable's number is f0 and how many came ahead of it. -/
def newR (f0 : Int) (vs : List Int) (N : Int) : Int := if f0 ≤ N then f0 + (vs.idxOf N : Nat) else N
def stpG (f0 : Int) (vs : List Int) (N : Int) : List Int := if f0 ≤ N then stpN vs N else vs
/-- The new variables, when a row of parts was written behind others. -/
def extV (f0 : Int) (vs : List Int) (c : List Nd) : List Int := stepsN (stpG f0) vs c
theorem extV_append (f0 : Int) (vs : List Int) (c d : List Nd) : extV f0 vs (c ++ d) = extV f0 (extV f0 vs c) d := by
  unfold extV stepsN
  rw [List.foldl_append]
theorem extV_cons (f0 : Int) (vs : List Int) (x : Nd) (c : List Nd) : extV f0 vs (x :: c) = extV f0 (if x.1 = 1 then stpG f0 vs x.2.1 else vs) c := rfl
theorem extV_pre (f0 : Int) : ∀ (c : List Nd) (vs : List Int), ∃ ws, extV f0 vs c = vs ++ ws
  | [], vs => ⟨[], by simp [extV, stepsN]⟩
  | x :: c, vs => by
    rw [extV_cons]
    obtain ⟨ws, h⟩ := extV_pre f0 c (if x.1 = 1 then stpG f0 vs x.2.1 else vs)
    rw [h]
    by_cases h1 : x.1 = 1
    · rw [if_pos h1]
      unfold stpG
      by_cases h2 : f0 ≤ x.2.1
      · rw [if_pos h2]
        unfold stpN
        by_cases h3 : x.2.1 ∈ vs
        · rw [if_pos h3]; exact ⟨ws, rfl⟩
        · rw [if_neg h3]; exact ⟨[x.2.1] ++ ws, by simp⟩
      · rw [if_neg h2]; exact ⟨ws, rfl⟩
    · rw [if_neg h1]; exact ⟨ws, rfl⟩
theorem stpG_mem (f0 : Int) (vs : List Int) (M N : Int) : N ∈ stpG f0 vs M ↔ N ∈ vs ∨ (M = N ∧ f0 ≤ N) := by
  unfold stpG stpN
  by_cases h2 : f0 ≤ M
  · rw [if_pos h2]
    by_cases h3 : M ∈ vs
    · rw [if_pos h3]
      refine ⟨.inl, ?_⟩
      rintro (h | ⟨rfl, _⟩)
      · exact h
      · exact h3
    · rw [if_neg h3, List.mem_append]
      refine ⟨?_, ?_⟩
      · rintro (h | h)
        · exact .inl h
        · have : N = M := by simpa using h
          subst this
          exact .inr ⟨rfl, h2⟩
      · rintro (h | ⟨rfl, _⟩)
        · exact .inl h
        · exact .inr (by simp)
  · rw [if_neg h2]
    refine ⟨.inl, ?_⟩
    rintro (h | ⟨rfl, h⟩)
    · exact h
    · exact absurd h h2
theorem isVar_cons (x : Nd) (c : List Nd) (N : Int) : IsVarOf (x :: c) N ↔ (x.1 = 1 ∧ x.2.1 = N) ∨ IsVarOf c N := by
  unfold IsVarOf
  constructor
  · rintro ⟨y, hy, h⟩
    rcases List.mem_cons.1 hy with rfl | hy
    · exact .inl h
    · exact .inr ⟨y, hy, h⟩
  · rintro (h | ⟨y, hy, h⟩)
    · exact ⟨x, by simp, h⟩
    · exact ⟨y, by simp [hy], h⟩
theorem isVar_append (c d : List Nd) (N : Int) : IsVarOf (c ++ d) N ↔ IsVarOf c N ∨ IsVarOf d N := by
  unfold IsVarOf
  constructor
  · rintro ⟨y, hy, h⟩
    rcases List.mem_append.1 hy with hy | hy
    · exact .inl ⟨y, hy, h⟩
    · exact .inr ⟨y, hy, h⟩
  · rintro (⟨y, hy, h⟩ | ⟨y, hy, h⟩)
    · exact ⟨y, List.mem_append_left _ hy, h⟩
    · exact ⟨y, List.mem_append_right _ hy, h⟩
theorem extV_mem (f0 : Int) : ∀ (c : List Nd) (vs : List Int) (N : Int), N ∈ extV f0 vs c ↔ N ∈ vs ∨ (IsVarOf c N ∧ f0 ≤ N)
  | [], vs, N => by simp [extV, stepsN, IsVarOf]
  | x :: c, vs, N => by
    rw [extV_cons, extV_mem f0 c, isVar_cons]
    by_cases h1 : x.1 = 1
    · rw [if_pos h1, stpG_mem]
      constructor
      · rintro ((h | ⟨h, h'⟩) | ⟨h, h'⟩)
        · exact .inl h
        · exact .inr ⟨.inl ⟨h1, h⟩, h'⟩
        · exact .inr ⟨.inr h, h'⟩
      · rintro (h | ⟨⟨_, h⟩ | h, h'⟩)
        · exact .inl (.inl h)
        · exact .inl (.inr ⟨h, h'⟩)
        · exact .inr ⟨h, h'⟩
    · rw [if_neg h1]
      constructor
      · rintro (h | ⟨h, h'⟩)
        · exact .inl h
        · exact .inr ⟨.inr h, h'⟩
      · rintro (h | ⟨⟨h, _⟩ | h, h'⟩)
        · exact .inl h
        · exact absurd h h1
        · exact .inr ⟨h, h'⟩
/-- All new variables of a row have come. -/
def Come (f0 : Int) (vs : List Int) (c : List Nd) : Prop := ∀ N, IsVarOf c N → f0 ≤ N → N ∈ vs
theorem come_ext (f0 : Int) (vs : List Int) (c : List Nd) : Come f0 (extV f0 vs c) c := fun N h h' => (extV_mem f0 c vs N).2 (.inr ⟨h, h'⟩)
theorem Come.more {f0 : Int} {vs ws : List Int} {c : List Nd} (h : Come f0 vs c) : Come f0 (vs ++ ws) c := fun N h1 h2 => List.mem_append_left _ (h N h1 h2)
theorem Come.ext {f0 : Int} {vs : List Int} {c : List Nd} (h : Come f0 vs c) (d : List Nd) : Come f0 (extV f0 vs d) c := by
  obtain ⟨ws, e⟩ := extV_pre f0 d vs
  rw [e]; exact h.more
theorem Come.stay {f0 : Int} : ∀ {c : List Nd} {vs : List Int}, Come f0 vs c → extV f0 vs c = vs
  | [], vs, _ => rfl
  | x :: c, vs, h => by
    have e : (if x.1 = 1 then stpG f0 vs x.2.1 else vs) = vs := by
      by_cases h1 : x.1 = 1
      · rw [if_pos h1]
        unfold stpG
        by_cases h2 : f0 ≤ x.2.1
        · rw [if_pos h2]
          unfold stpN
          rw [if_pos (h x.2.1 ((isVar_cons x c _).2 (.inl ⟨h1, rfl⟩)) h2)]
        · rw [if_neg h2]
      · rw [if_neg h1]
    rw [extV_cons, e]
    exact Come.stay fun N h1 h2 => h N ((isVar_cons x c N).2 (.inr h1)) h2
theorem Come.ren {f0 : Int} {vs : List Int} {c : List Nd} (h : Come f0 vs c) (ws : List Int) : renC (newR f0 (vs ++ ws)) c = renC (newR f0 vs) c := by
  unfold renC
  refine sub_congr_on fun N hN => ?_
  unfold newR
  by_cases h2 : f0 ≤ N
  · rw [if_pos h2, if_pos h2, List.idxOf_append, if_pos (h N hN h2)]
  · rw [if_neg h2, if_neg h2]
theorem Come.renE {f0 : Int} {vs : List Int} {c : List Nd} (h : Come f0 vs c) (d : List Nd) : renC (newR f0 (extV f0 vs d)) c = renC (newR f0 vs) c := by
  obtain ⟨ws, e⟩ := extV_pre f0 d vs
  rw [e]; exact h.ren ws
theorem ext_new {f0 v : Int} {vs : List Int} (h : f0 ≤ v) (hv : v ∉ vs) : extV f0 vs [varNd v] = vs ++ [v] := by
  show stpG f0 vs v = _
  unfold stpG stpN
  rw [if_pos h, if_neg hv]
theorem new_last {f0 v : Int} {vs : List Int} (h : f0 ≤ v) (hv : v ∉ vs) : renC (newR f0 (vs ++ [v])) [varNd v] = [varNd (f0 + (vs.length : Int))] := by
  rw [ren_var]
  unfold newR
  rw [if_pos h, List.idxOf_append, if_neg hv, List.idxOf_cons_self, Nat.zero_add]

/-- A point that is known: its term is what is meant, in memory below w0. -/
def PtK (D w0 : Nat) (f0 : Int) (vs : List Int) (W : World) (q : Nat) (s : List Nd) : Prop := ∃ x : TV, PtB W q x true ∧ HoldsS D (· < w0) W x.val (renC (newR f0 vs) s) ∧ (renC (newR f0 vs) s).all okM = true ∧ Come f0 vs s
/-- A point: known, or a new variable that has not come. -/
def PtIs (D w0 : Nat) (f0 : Int) (vs : List Int) (W : World) (q : Nat) (s : List Nd) : Prop := PtK D w0 f0 vs W q s ∨ ∃ v, s = [varNd v] ∧ f0 ≤ v ∧ v ∉ vs ∧ PtB W q noTerm false
theorem PtK.kept {D w0 : Nat} {f0 : Int} {vs : List Int} {W W' : World} {q : Nat} {s : List Nd} (h : PtK D w0 f0 vs W q s) (hk : W'.heap[q]? = W.heap[q]?) (hs : ∀ b, b < w0 → W'.heap[b]? = W.heap[b]?) (hz : W.heap.size ≤ W'.heap.size) (d : List Nd) : PtK D w0 f0 (extV f0 vs d) W' q s := by
  obtain ⟨x, h1, h2, h3, h4⟩ := h
  exact ⟨x, h1.kept hk, by rw [h4.renE]; exact h2.fromS (fun b hb _ => hs b hb) hz, by rw [h4.renE]; exact h3, h4.ext d⟩
theorem below_alloc_zero (V : World) : Below V.heap.size V (V.alloc (.cells #[.int .i64 0, .int .i64 0, .string ⟨#[]⟩, .slice none 0 0] 24)) := (Below.refl _ V).alloc (Nat.le_refl _) _
/-- What is held is copied. -/
theorem copy_held {D : Nat} {S : Nat → Prop} {W : World} {x : TV} {c : List Nd} (h : HoldsS D S W x.val c) (hok : c.all okM = true) (hD : D ≤ 2199023255552) :
    ∀ V, Below W.heap.size W V → Calls Try.prog 35 #[x.val] V fun e V' => ∃ y : TV, e = .returned y.val ∧ Below V.heap.size V V' ∧ HoldsT (D + 1) V.heap.size V' y.val c := fun V hV => by
  obtain ⟨t, h1, h2, _, h4⟩ := h D (Nat.le_refl _) hD
  obtain rfl := tv_inj h1
  have := copy_any t V ((h2.below hV).mono hV.size) (by rw [okT_m, h4]; exact hok)
  rw [h4] at this
  exact this
set_option maxRecDepth 100000 in
set_option maxHeartbeats 4000000 in
theorem written_known {D w0 wb q : Nat} {f0 : Int} {vs : List Int} {V : World} {s : List Nd} {lf : Value} (hD : D ≤ 2199023255552) (hp : PtK D w0 f0 vs V q s) (hw : WrB V wb (f0 + vs.length) lf) (hq0 : w0 ≤ q) :
    Calls Try.prog 47 #[.pointer (some ⟨wb, 0, none⟩), .pointer (some ⟨q, 0, none⟩)] V fun e V' => ∃ y : TV, e = .returned y.val ∧ HoldsT (D + 1) V.heap.size V' y.val (renC (newR f0 vs) s) ∧ PtK D w0 f0 vs V' q s ∧ WrB V' wb (f0 + vs.length) lf ∧ Below V.heap.size V V' := by
  have hp0 := hp
  obtain ⟨x, h1, h2, h3, h4⟩ := hp
  have HC := hide (copy_held h2 h3 hD)
  obtain ⟨W1, hW1⟩ : ∃ W1, V.alloc (.cells #[.int .i64 0, .int .i64 0, .string ⟨#[]⟩, .slice none 0 0] 24) = W1 := ⟨_, rfl⟩
  have b1 : BoxT W1 V.heap.size noTerm := by rw [← hW1]; exact BoxT.new V noTerm
  have g1 : Below V.heap.size V W1 := by rw [← hW1]; exact below_alloc_zero V
  have p1 := h1.kept (g1.block q h1.lt)
  obtain ⟨e0, e1, e2, e3, e4⟩ := p1.cells
  have hE : Hid (∀ V', Below V.heap.size V V' → PtK D w0 f0 vs V' q s ∧ WrB V' wb (f0 + vs.length) lf) := hide fun V' hV' => by
    refine ⟨?_, hw.kept (hV'.block wb hw.lt)⟩
    have := hp0.kept (hV'.block q h1.lt) (fun b hb => hV'.block b (by have := h1.lt; omega)) hV'.size []
    exact this
  have HB := hide (And.intro b1 g1)
  clear b1 g1 p1 h1 h2 h3 h4 hp0 hw
  simp only [TV.val] at HC
  go_enter Try.func47, Try.ntmps47
  go_wp2_with fail
  try rw [hW1]
  go_wp2_with fail
  refine ((unhide HC) W1 (unhide HB).2).mono ?_
  rintro e V4 ⟨y, rfl, hb, hH⟩
  have b4 := (unhide HB).1.below hb (unhide HB).1.lt
  have g4 := (unhide HB).2.trans (hb.mono (unhide HB).2.size)
  obtain ⟨k0, k1, k2, k3⟩ := b4.frz
  have c0 := b4.c0
  have c1 := b4.c1
  have c2 := b4.c2
  have c3 := b4.c3
  have b5 := set4_box b4 y
  have g5 := set4_below g4 (Nat.le_refl _) 0 y
  have hs1 : W1.heap.size = V.heap.size + 1 := by rw [← hW1]; simp
  have h5 := (holds_set4 hH (b := V.heap.size) (by omega) 0 y).mono (Nat.le_refl _) (show V.heap.size ≤ W1.heap.size by omega)
  have HF := hide (And.intro h5 (And.intro ((unhide hE) _ g5) g5))
  have z0 := b5.c0
  have z1 := b5.c1
  have z2 := b5.c2
  have z3 := b5.c3
  clear HB HC hE b4 g4 b5 g5 h5 hb hH e0 e1 e2 e3 e4 hW1
  go_wp2_with fail
  exact bodyPost_ret (v := y.val) (by
    have e : (((V4.setCell ⟨V.heap.size, 0, none⟩ (.int .i64 y.k)).setCell ⟨V.heap.size, 1, none⟩ (.int .i64 y.N)).setCell ⟨V.heap.size, 2, none⟩ (.string y.s)).setCell ⟨V.heap.size, 3, none⟩ (.slice y.a y.len y.cap) = set4 V4 V.heap.size 0 y := rfl
    rw [e]
    simp [results, Try.results47, go_sem, TV.val, z0, z1, z2, z3]) rfl ⟨y, rfl, (unhide HF).1, (unhide HF).2.1.1, (unhide HF).2.1.2, (unhide HF).2.2⟩
theorem GrB.cellIn {X : Nat → Prop} {B : Nat} {A W : World} (h : GrB X B A W) {b : Nat} (hb : X b) (o : Nat) (v : Value) : GrB X B A (W.setCell ⟨b, o, none⟩ v) :=
  ⟨h.os, h.tape, h.output, by simp; exact h.size, fun k hk hx => (Below.heap_setCell W ⟨b, o, none⟩ v k (fun e => hx (by rw [e]; exact hb))).trans (h.block k hk hx)⟩
theorem GrB.setP {X : Nat → Prop} {B : Nat} {A W : World} (h : GrB X B A W) {q : Nat} (hq : X q) (x : TV) (b : Bool) : GrB X B A (setP W q x b) := ((((h.cellIn hq _ _).cellIn hq _ _).cellIn hq _ _).cellIn hq _ _).cellIn hq _ _
theorem varS (N : Int) (S : Nat → Prop) (W : World) : HoldsS 1 S W (varV N).val [varNd N] := by
  have hT : IsT (n := 1) W.heap.size W ((varV N, []) : TV × List (Tm 0)) := ⟨rfl, ⟨by simp [Tm.tv, varV], by simp [Tm.tv, varV], by simp⟩, by simp [Tm.tv, varV, ByteArray.size], .inl rfl⟩
  have h := holdsS_of (S := S) hT ⟨.inl rfl, fun u hu => by cases hu⟩
  rw [code_succ] at h
  have e : (varV N).nd = varNd N := by unfold TV.nd varV varNd; simp [ByteArray.toList_eq]
  rw [e] at h
  exact h
theorem varOk {N : Int} (h0 : 0 ≤ N) (h1 : N ≤ 1099511627776) : [varNd N].all okM = true := by
  simp [varNd, okM, h0, h1]
set_option maxRecDepth 100000 in
set_option maxHeartbeats 4000000 in
theorem written_new {D w0 wb q : Nat} {f0 v : Int} {vs : List Int} {V : World} {lf : Value} (hD1 : 1 ≤ D) (hD : D ≤ 2199023255552) (hv : f0 ≤ v) (hvs : v ∉ vs) (hp : PtB V q noTerm false) (hw : WrB V wb (f0 + vs.length) lf) (hne : wb ≠ q) (h0 : 0 ≤ f0) (h40 : f0 + vs.length ≤ 1099511627776) :
    Calls Try.prog 47 #[.pointer (some ⟨wb, 0, none⟩), .pointer (some ⟨q, 0, none⟩)] V fun e V' => ∃ y : TV, e = .returned y.val ∧ HoldsT (D + 1) V.heap.size V' y.val (renC (newR f0 (vs ++ [v])) [varNd v]) ∧ PtK D w0 f0 (vs ++ [v]) V' q [varNd v] ∧ WrB V' wb (f0 + (vs ++ [v]).length) lf ∧ GrB (fun k => k = wb ∨ k = q) V.heap.size V V' := by
  obtain ⟨nx, hnx⟩ : ∃ nx : Int, f0 + vs.length = nx := ⟨_, rfl⟩
  have en : renC (newR f0 (vs ++ [v])) [varNd v] = [varNd nx] := by rw [new_last hv hvs, hnx]
  have el : f0 + ((vs ++ [v]).length : Int) = nx + 1 := by rw [← hnx, List.length_append]; simp; omega
  rw [hnx] at hw h40
  rw [en, el]
  have hK : Hid (∀ V', PtB V' q (varV nx) true → PtK D w0 f0 (vs ++ [v]) V' q [varNd v]) := hide fun V' h => ⟨varV nx, h, by rw [en]; exact (varS nx _ V').mono hD1 (fun _ h => h), by rw [en]; exact varOk (by omega) h40, fun N hN _ => by
    obtain ⟨y, hy, _, rfl⟩ := hN
    simp at hy
    subst hy
    simp [varNd]⟩
  have HV : Hid (∀ U, Calls Try.prog 23 #[.int .i64 nx] U fun e W' => e = .returned (.agg #[.int .i64 1, .int .i64 nx, .string ⟨#[]⟩, .slice none 0 0]) ∧ Below U.heap.size U W') := hide fun U => gvar_any nx U
  have HC : Hid (∀ U, Calls Try.prog 35 #[.agg #[.int .i64 1, .int .i64 nx, .string ⟨#[]⟩, .slice none 0 0]] U fun e V' => ∃ y : TV, e = .returned y.val ∧ Below U.heap.size U V' ∧ HoldsT (D + 1) U.heap.size V' y.val [varNd nx]) := hide fun U =>
    copy_held ((varS nx (fun _ => True) U).mono hD1 (fun _ h => h)) (varOk (by omega) h40) hD U (Below.refl _ _)
  have hnx0 : 0 ≤ nx := by omega
  clear en el hnx hv hvs h0
  obtain ⟨W1, hW1⟩ : ∃ W1, V.alloc (.cells #[.int .i64 0, .int .i64 0, .string ⟨#[]⟩, .slice none 0 0] 24) = W1 := ⟨_, rfl⟩
  have b1 : BoxT W1 V.heap.size noTerm := by rw [← hW1]; exact BoxT.new V noTerm
  have g1 : Below V.heap.size V W1 := by rw [← hW1]; exact below_alloc_zero V
  have hs1 : W1.heap.size = V.heap.size + 1 := by rw [← hW1]; simp
  have hql := hp.lt
  have hwl := hw.lt
  have p1 := hp.kept (g1.block q hql)
  have w1 := hw.kept (g1.block wb hwl)
  have HB := hide (And.intro b1 (And.intro g1 (And.intro p1 w1)))
  obtain ⟨e0, e1, e2, e3, e4⟩ := p1.cells
  obtain ⟨n0, n1⟩ := w1.cells
  clear b1 g1 p1 w1 hp hw
  go_enter Try.func47, Try.ntmps47
  go_wp2_with fail
  try rw [hW1]
  go_wp2_with fail
  refine ((unhide HV) W1).mono ?_
  rintro e V2 ⟨rfl, h2⟩
  obtain ⟨b1, g1, p1, w1⟩ := unhide HB
  have hs2 := h2.size
  have b2 := b1.below h2 b1.lt
  have g2 := g1.trans (h2.mono g1.size)
  have p2 := p1.kept (h2.block q p1.lt)
  have w2 := w1.kept (h2.block wb w1.lt)
  obtain ⟨m0, m1, m2, m3, m4⟩ := p2.cells
  have r0 := p2.frz 0
  have r1 := p2.frz 1
  have r2 := p2.frz 2
  have r3 := p2.frz 3
  have r4 := p2.frz 4
  clear HB HV b1 g1 p1 w1 e0 e1 e2 e3 e4 n0 n1 h2 hW1
  obtain ⟨V3, hV3⟩ : ∃ V3, setP V2 q (varV nx) true = V3 := ⟨_, rfl⟩
  have p3 : PtB V3 q (varV nx) true := by rw [← hV3]; exact setP_box p2 _ _
  have o3 : ∀ k, k ≠ q → V3.heap[k]? = V2.heap[k]? := fun k hk => by rw [← hV3]; exact setP_other V2 q _ _ hk
  have hs3 : V3.heap.size = V2.heap.size := by rw [← hV3]; exact setP_size ..
  have w3 := w2.kept (o3 wb hne)
  have b3 : BoxT V3 V.heap.size noTerm := (o3 _ (by omega)).trans b2
  obtain ⟨V4, hV4⟩ : ∃ V4, V3.setCell ⟨wb, 0, none⟩ (.int .i64 (nx + 1)) = V4 := ⟨_, rfl⟩
  have w4 : WrB V4 wb (nx + 1) lf := by rw [← hV4]; exact setW_box w3 _
  have o4 : ∀ k, k ≠ wb → V4.heap[k]? = V3.heap[k]? := fun k hk => by rw [← hV4]; exact Below.heap_setCell _ _ _ _ hk
  have hs4 : V4.heap.size = V3.heap.size := by rw [← hV4]; simp
  have p4 := p3.kept (o4 q (fun h => hne h.symm))
  have b4 : BoxT V4 V.heap.size noTerm := (o4 _ (by omega)).trans b3
  have gG : GrB (fun k => k = wb ∨ k = q) V.heap.size V V4 := by
    rw [← hV4, ← hV3]
    exact ((GrB.of_below g2).setP (.inr rfl) _ _).cellIn (.inl rfl) _ _
  obtain ⟨n0, n1⟩ := w3.cells
  have n2 := w3.frz 0
  obtain ⟨e0, e1, e2, e3, e4⟩ := p4.cells
  have HB := hide (And.intro b4 (And.intro gG (And.intro p4 w4)))
  have hs : V.heap.size < V4.heap.size := by omega
  clear b2 g2 p2 w2 p3 o3 w3 b3 w4 o4 p4 b4 gG hs1 hs2 hs3 hs4
  unfold setP at hV3
  simp only [varV] at hV3 e0 e1 e2 e3 e4
  go_wp2_with fail
  try rw [hV3]
  go_wp2_with fail
  try rw [hV4]
  go_wp2_with fail
  refine ((unhide HC) V4).mono ?_
  rintro e V5 ⟨y, rfl, hb, hH⟩
  obtain ⟨b4, gG, p4, w4⟩ := unhide HB
  have b5 := b4.below hb b4.lt
  obtain ⟨k0, k1, k2, k3⟩ := b5.frz
  have c0 := b5.c0
  have c1 := b5.c1
  have c2 := b5.c2
  have c3 := b5.c3
  have b6 := set4_box b5 y
  have z0 := b6.c0
  have z1 := b6.c1
  have z2 := b6.c2
  have z3 := b6.c3
  have g5 : GrB (fun k => k = wb ∨ k = q) V.heap.size V V5 := gG.trans (GrB.of_below (hb.mono gG.size))
  have g6 := g5.set4 (b := V.heap.size) (Nat.le_refl _) 0 y
  have p6 : PtB (set4 V5 V.heap.size 0 y) q (varV nx) true := (p4.kept (hb.block q p4.lt)).kept (set4_other V5 _ 0 y (by omega))
  have w6 : WrB (set4 V5 V.heap.size 0 y) wb (nx + 1) lf := (w4.kept (hb.block wb w4.lt)).kept (set4_other V5 _ 0 y (by omega))
  have h6 := (holds_set4 hH (b := V.heap.size) hs 0 y).mono (Nat.le_refl _) (show V.heap.size ≤ V4.heap.size by omega)
  have HF := hide (And.intro h6 (And.intro ((unhide hK) _ p6) (And.intro w6 g6)))
  clear HB HC hK b4 gG p4 w4 b5 b6 g5 g6 p6 w6 h6 hb hH e0 e1 e2 e3 e4 n0 n1 n2 m0 m1 m2 m3 m4 r0 r1 r2 r3 r4 hV3 hV4
  simp only [TV.val]
  go_wp2_with fail
  exact bodyPost_ret (v := y.val) (by
    have e : (((V5.setCell ⟨V.heap.size, 0, none⟩ (.int .i64 y.k)).setCell ⟨V.heap.size, 1, none⟩ (.int .i64 y.N)).setCell ⟨V.heap.size, 2, none⟩ (.string y.s)).setCell ⟨V.heap.size, 3, none⟩ (.slice y.a y.len y.cap) = set4 V5 V.heap.size 0 y := rfl
    rw [e]
    simp [results, Try.results47, go_sem, TV.val, z0, z1, z2, z3]) rfl ⟨y, rfl, (unhide HF).1, (unhide HF).2.1, (unhide HF).2.2.1, (unhide HF).2.2.2⟩
/-- A point is written: its term, in new memory; it is known then. -/
theorem written_any {D w0 wb q : Nat} {f0 : Int} {vs : List Int} {V : World} {s : List Nd} {lf : Value} (hD1 : 1 ≤ D) (hD : D ≤ 2199023255552) (hp : PtIs D w0 f0 vs V q s) (hw : WrB V wb (f0 + vs.length) lf) (hne : wb ≠ q) (hq0 : w0 ≤ q) (h0 : 0 ≤ f0) (h40 : f0 + vs.length ≤ 1099511627776) :
    Calls Try.prog 47 #[.pointer (some ⟨wb, 0, none⟩), .pointer (some ⟨q, 0, none⟩)] V fun e V' => ∃ y : TV, e = .returned y.val ∧ HoldsT (D + 1) V.heap.size V' y.val (renC (newR f0 (extV f0 vs s)) s) ∧ PtK D w0 f0 (extV f0 vs s) V' q s ∧ WrB V' wb (f0 + (extV f0 vs s).length) lf ∧ GrB (fun k => k = wb ∨ k = q) V.heap.size V V' := by
  rcases hp with hp | ⟨v, rfl, hv, hvs, hp⟩
  · have e : extV f0 vs s = vs := by
      obtain ⟨x, _, _, _, h4⟩ := hp
      exact h4.stay
    rw [e]
    exact (written_known hD hp hw hq0).mono fun e V' h => by
      obtain ⟨y, h1, h2, h3, h4, h5⟩ := h
      exact ⟨y, h1, h2, h3, h4, GrB.of_below h5⟩
  · rw [ext_new hv hvs]
    exact written_new hD1 hD hv hvs hp hw hne h0 h40
end Go.Proofs.Ytcdgmjpgmiehcaa

