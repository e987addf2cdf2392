import Derived.Test.YtlbobmebbllifaaGreatRfs
import Derived.Laws.MakeOwn
import Derived.Outline
import Derived.Sort.CutIn
import Derived.Deep.RegionHeld3
/- The contract of term.walk: it yields every part of a term, in its order, or stops where a round says so. -/
namespace Go.Proofs.YtlbobmebbllifaaGreat
open Go.RowKit Go.Shelf
attribute [local go_sem] Oper.semAt_some
theorem Tryz.infoL : (Tryz.prog.info? 22).map (fun i => (i.zero, i.size, i.bytes)) = some (some (.slice none 0 0), 1, 24) := by kernel_rfl
theorem infoL_parts : ∃ i, Tryz.prog.info? 22 = some i ∧ i.zero = some (.slice none 0 0) ∧ i.size = 1 ∧ i.bytes = 24 := by
 have h := Tryz.infoL
 cases hi : Tryz.prog.info? 22 with
 | none => rw [hi] at h; cases h
 | some i =>
  rw [hi] at h
  simp at h
  exact ⟨i, rfl, h.1, h.2.1, h.2.2⟩
theorem wp_append_row {P : Program} {w w' : World} {o : Oper} {a : Act} {K : Act → World → Prop} {Q : Exit → Act → World → Prop} (s x : Operand) (t : TypeId) {v u v' : Value}
  (ho : o.op = .call { callee := .builtin .append, args := #[s, x], argTypes := #[t, t] }) (hs : a.eval s = v) (hx : a.eval x = u) (hr : (Builtin.append_ #[t, t] o.type #[v, u]).run P w = .ok v' w') (h : K (a.put o.dst v') w') : Oper.wp P o a w K Q := by
 unfold Oper.wp execOp
 simp only [ho, resolve, invoke, builtin, Sem.run_bind, Sem.run_pure, Result.andThen_ok, List.map_toArray, List.map_cons, List.map_nil, hs, hx, hr]
 exact h
theorem left_make (w : World) : (Instr.makeSlice 165 (.int .i64 0) (.int .i64 8)).run Tryz.prog w = .ok (.slice (some ⟨w.heap.size, 0, none⟩) 0 8) (w.alloc (.cells (madeCells #[.slice none 0 0] 8) 22)) := by
 obtain ⟨i0, hi, hz0, hz1, hz2⟩ := infoL_parts
 have hr := run_make (P := Tryz.prog) w 165 22 i0 _ Tryz.underlying165 hi hz0 .i64 .i64 0 8 (by omega) (by omega) (by rw [hz2]; omega) (by omega)
 rw [hz1] at hr
 simpa [Value.cells] using hr
theorem left_fits {n₁ : Nat} {w W : World} {e : Lf} {g h c : Nat} (hn : n₁ ≤ w.heap.size) (hb : Below w.heap.size w W) (hg : w.heap.size ≤ g) (hG : W.heap[g]? = some (.cells (madeCells #[.slice none 0 0] 8) 22 (0, 0))) (hH : W.cell? ⟨h, 0, none⟩ = some e.val) :
  ∃ X, (Builtin.append_ #[165, 165] 165 #[.slice (some ⟨g, 0, none⟩) 0 8, .slice (some ⟨h, 0, none⟩) 1 c]).run Tryz.prog W = .ok (.slice (some ⟨g, 0, none⟩) 1 8) X ∧ Stk n₁ g 8 X [e] ∧ Below w.heap.size w X := by
 obtain ⟨i0, hi, hz0, hz1, hz2⟩ := infoL_parts
 have hs : (madeCells #[Value.slice none 0 0] 8).size = 8 := size_madeCells _ _
 obtain ⟨X, h1, h2, h3⟩ := run_append_fits (P := Tryz.prog) W n₁ 165 165 22 i0 1 Tryz.underlying165 hi hz1 g 0 8 [] ⟨by simp, .inr ⟨g, 8, _, rfl, by omega, hG, by omega, by unfold maxLen; omega, by omega, by simp⟩⟩ ⟨h, 0, none⟩ 1 c [e.val] (by simp) (fun j u hu => by
  cases j with
  | zero => simp at hu; subst hu; simpa [Addr.add] using hH
  | succ j => simp at hu) (fun u hu => by simp at hu; subst hu; rfl) (by omega)
 exact ⟨X, by simpa using h1, by unfold Stk; simpa using h2, hb.grown h3 hb.size (fun k e => by cases e; exact hg)⟩
theorem left_a {n₁ : Nat} (w : World) (e : Lf) (v : Value) (hv : e.val = v) (hn : n₁ ≤ w.heap.size) :
  ∃ X, (Builtin.append_ #[165, 165] 165 #[.slice (some ⟨w.heap.size, 0, none⟩) 0 8, .slice (some ⟨w.heap.size + 1, 0, none⟩) 1 1]).run Tryz.prog ((w.alloc (.cells (madeCells #[.slice none 0 0] 8) 22)).alloc (.cells #[v] 22)) = .ok (.slice (some ⟨w.heap.size, 0, none⟩) 1 8) X ∧ Stk n₁ w.heap.size 8 X [e] ∧ Below w.heap.size w X := by
 obtain ⟨A, hA⟩ : ∃ A, w.alloc (.cells (madeCells #[.slice none 0 0] 8) 22) = A := ⟨_, rfl⟩
 have hs : A.heap.size = w.heap.size + 1 := by rw [← hA]; simp
 have hAg : A.heap[w.heap.size]? = some (.cells (madeCells #[.slice none 0 0] 8) 22 (0, 0)) := by rw [← hA]; exact World.alloc_heap_new w _
 have hAb : Below w.heap.size w A := by rw [← hA]; exact (Below.refl _ w).alloc (Nat.le_refl _) _
 rw [hA]
 clear hA
 refine left_fits hn (hAb.alloc hAb.size _) (Nat.le_refl _) ((Below.heap_alloc _ _ _ (by omega)).trans hAg) ?_
 have := World.alloc_heap_new A (.cells #[v] 22)
 rw [hs] at this
 simp [World.cell?, this, hv]
theorem left_b {n₁ : Nat} (w : World) (e : Lf) (v : Value) (hv : e.val = v) (hn : n₁ ≤ w.heap.size) :
  ∃ X, (Builtin.append_ #[165, 165] 165 #[.slice (some ⟨w.heap.size + 1, 0, none⟩) 0 8, .slice (some ⟨w.heap.size, 0, none⟩) 1 1]).run Tryz.prog ((w.alloc (.cells #[v] 22)).alloc (.cells (madeCells #[.slice none 0 0] 8) 22)) = .ok (.slice (some ⟨w.heap.size + 1, 0, none⟩) 1 8) X ∧ Stk n₁ (w.heap.size + 1) 8 X [e] ∧ Below w.heap.size w X := by
 obtain ⟨A, hA⟩ : ∃ A, w.alloc (.cells #[v] 22) = A := ⟨_, rfl⟩
 have hs : A.heap.size = w.heap.size + 1 := by rw [← hA]; simp
 have hAg : A.heap[w.heap.size]? = some (.cells #[v] 22 (0, 0)) := by rw [← hA]; exact World.alloc_heap_new w _
 have hAb : Below w.heap.size w A := by rw [← hA]; exact (Below.refl _ w).alloc (Nat.le_refl _) _
 rw [hA]
 clear hA
 have h1 := World.alloc_heap_new A (.cells (madeCells #[.slice none 0 0] 8) 22)
 rw [hs] at h1
 refine left_fits hn (hAb.alloc hAb.size _) (Nat.le_succ _) h1 ?_
 have := (Below.heap_alloc A (.cells (madeCells #[.slice none 0 0] 8) 22) w.heap.size (by omega)).trans hAg
 simp [World.cell?, this, hv]
theorem wpListIn_append_run {F : Fence} {n : Nat} {P : Program} (w : World) {ops : Array Oper} {rest : List Oper} {o : Oper} {a : Act} {Q : Exit → Act → World → Prop} (hgd : o.guard = none) (s x : Operand) (t u : TypeId)
  (ho : o.op = .call { callee := .builtin .append, args := #[s, x], argTypes := #[t, u] }) {v' : Value} {w' : World} (hr : (Builtin.append_ #[t, u] o.type #[a.eval s, a.eval x]).run P w = .ok v' w') (h : wpListIn F n P ops Q rest (a.put o.dst v') w') :
  wpListIn F n P ops Q (o :: rest) a w := by
 refine wpListIn_plain hgd fun K hK => ?_
 unfold Oper.wpIn
 refine ⟨?_, ?_⟩
 ·simp [Oper.about, ho, resolve, Target.leads, Sem.run_pure]
 ·rw [Oper.semAt_plain F _ _ (by rw [ho]; intro c hc'; cases hc')]
  simp [execOp, ho, resolve, invoke, builtin, hr, Result.andThen]
  exact hK _ _ h
theorem Stk.push {n₁ g cap h : Nat} {W : World} {S : List Lf} (hs : Stk n₁ g cap W S) (e : Lf) (v : Value) (hv : e.val = v) (hh : W.heap.size = h) (hS : (S.length + 1) * 24 ≤ 140737488355328) (hn : n₁ ≤ W.heap.size) (ty : TypeId) :
  ∃ g' cap' X, (Builtin.append_ #[165, 165] ty #[.slice (some ⟨g, 0, none⟩) S.length cap, .slice (some ⟨h, 0, none⟩) 1 1]).run Tryz.prog (W.alloc (.cells #[v] 22)) = .ok (.slice (some ⟨g', 0, none⟩) (S.length + 1) cap') X ∧ Stk n₁ g' cap' X (S ++ [e]) ∧ (W.alloc (.cells #[v] 22)).grownBy X (some g) := by
 obtain ⟨i0, hi, hz0, hz1, hz2⟩ := infoL_parts
 have h1 := World.alloc_heap_new W (.cells #[v] 22)
 rw [hh] at h1
 have hs' : Stk n₁ g cap (W.alloc (.cells #[v] 22)) S := by
  obtain ⟨b1, b2, cur, b3, _⟩ := hs.blk
  exact hs.kept (Below.heap_alloc W _ g (Array.getElem?_eq_some_iff.1 b3).1)
 have hl : S.length + 1 ≤ maxLen := by unfold maxLen; omega
 obtain ⟨v', X, r1, r2, r3, r4⟩ := run_append_own (P := Tryz.prog) (W.alloc (.cells #[v] 22)) n₁ 165 ty 22 i0 (.slice none 0 0) 1 24 Tryz.underlying165 hi hz0 hz1 hz2 rfl (by omega) (.slice (some ⟨g, 0, none⟩) S.length cap) S.length (S.map Lf.val) hs' ⟨h, 0, none⟩ 1 1 [v] (by simp) (fun j u hu => by
  cases j with
  | zero => simp at hu; subst hu; simp [World.cell?, Addr.add, h1]
  | succ j => simp at hu) (fun u hu => by simp at hu; subst hu; rw [← hv]; rfl) hl hS (by simp; omega)
 rcases r2.2 with ⟨hnil, h0⟩ | ⟨g', cap', cur, rfl, q1, q2, q3, q4, q5, q6⟩
 ·omega
 ·refine ⟨g', cap', X, r1, ?_, r3⟩
  unfold Stk
  rw [List.length_append, List.length_cons, List.length_nil, List.map_append, List.map_cons, List.map_nil, hv]
  exact r2
theorem leastK_lt {p q : Nat → Prop} {k : Nat} (h : p k) (hk : k < leastK q) : (∃ k, p k) ∧ leastK p < leastK q := ⟨⟨k, h⟩, Nat.lt_of_le_of_lt (leastK_le h) hk⟩
theorem Kp.grown {n₀ n₁ : Nat} {A B C : World} {row : Option Nat} (h : Kp n₀ n₁ A B) (hg : B.grownBy C row) (hr : ∀ r, row = some r → A.heap.size ≤ r) : Kp n₀ n₁ A C :=
 ⟨Nat.le_trans h.size hg.size, fun i o hi ha hc => by
  have hb := h.same i o hi ha hc
  refine (hg.block i (Array.getElem?_eq_some_iff.1 hb).1 (fun e => ?_)).trans hb
  have := hr i e.symm
  have := (Array.getElem?_eq_some_iff.1 ha).1
  omega⟩
theorem Stk.kp' {n₀ n₁ B g cap : Nat} {W W' : World} {S : List Lf} (h : Stk B g cap W S) (hk : Kp n₀ n₁ W W') (hB : n₁ ≤ B) : Stk B g cap W' S := by
 obtain ⟨h1, h2, cur, h3, h4, h5, h6⟩ := h.blk
 exact h.kept ((hk.ownR (by omega) h3).trans h3.symm)
theorem Lf.Is.below {n₀ : Nat} {A B : World} (h : Below n₀ A B) {e : Lf} (he : e.Is n₀ A) : e.Is n₀ B := by
 obtain ⟨h1, h2⟩ := he
 refine ⟨h1, ?_⟩
 rcases h2 with h2 | ⟨b, off, ha, hb, hk⟩
 ·exact .inl h2
 ·refine .inr ⟨b, off, ha, hb, fun j u hu => ⟨?_, (hk j u hu).2.below h⟩⟩
  obtain ⟨c0, c1, c2, c3⟩ := (hk j u hu).1
  exact ⟨(h.cell (p := ⟨b, off + j * 4, none⟩) hb).trans c0, (h.cell (p := ⟨b, off + j * 4 + 1, none⟩) hb).trans c1, (h.cell (p := ⟨b, off + j * 4 + 2, none⟩) hb).trans c2, (h.cell (p := ⟨b, off + j * 4 + 3, none⟩) hb).trans c3⟩
theorem depth_set {n : Nat} {S : List Lf} {e e' : Lf} (h : ∀ i z, (S ++ [e])[i]? = some z → z.n + i ≤ n) (he : e'.n ≤ e.n) : ∀ i z, (S ++ [e'])[i]? = some z → z.n + i ≤ n := fun i z hz => by
 by_cases hi : i < S.length
 ·exact h i z (by rw [List.getElem?_append_left hi] at hz ⊢; exact hz)
 ·rw [List.getElem?_append_right (by omega)] at hz
  have h0 : i - S.length = 0 := by
   by_cases h1 : i - S.length = 0
   ·exact h1
   ·rw [List.getElem?_eq_none (by simp; omega)] at hz; cases hz
  rw [h0] at hz
  simp at hz
  subst hz
  have := h i e (by rw [List.getElem?_append_right (by omega), h0]; rfl)
  omega
theorem depth_push {n : Nat} {S : List Lf} {e : Lf} (h : ∀ i z, S[i]? = some z → z.n + i ≤ n) (he : e.n + S.length ≤ n) : ∀ i z, (S ++ [e])[i]? = some z → z.n + i ≤ n := fun i z hz => by
 by_cases hi : i < S.length
 ·exact h i z (by rw [List.getElem?_append_left hi] at hz; exact hz)
 ·rw [List.getElem?_append_right (by omega)] at hz
  have h0 : i - S.length = 0 := by
   by_cases h1 : i - S.length = 0
   ·exact h1
   ·rw [List.getElem?_eq_none (by simp; omega)] at hz; cases hz
  rw [h0] at hz
  simp at hz
  subst hz
  omega
def WalkR (B n₀ n₁ n : Nat) (J : List TV → World → Prop) (ps : List TV) (W : World) (k : Nat) (v : Value) (wr : World) : Prop :=
 ∃ (g cap : Nat) (S : List Lf) (pre : List TV), v = .slice (some ⟨g, 0, none⟩) S.length cap ∧ Stk B g cap wr S ∧ (∀ e ∈ S, e.Is n₀ wr) ∧ (∀ i e, S[i]? = some e → e.n + i ≤ n) ∧ J pre wr ∧ pre ++ restL S = ps ∧ Kp n₀ n₁ W wr ∧ k = 2 * (restL S).length + S.length
def tailA (a : Option Addr) (cap : Nat) : Option Addr := if cap = 1 then a else a.map (fun p => p.add 4)
def Lf.tail (n cap : Nat) (a : Option Addr) (r : List (Tm n)) : Lf := ⟨n, tailA a cap, cap - 1, r⟩
theorem tail_is {n₀ n cap : Nat} {W : World} {a : Option Addr} {u : Tm n} {r : List (Tm n)} (h : Lf.Is n₀ W ⟨n, a, cap, u :: r⟩) : (Lf.tail n cap a r).Is n₀ W := by
 obtain ⟨h1, h2⟩ := h
 simp only [List.length_cons] at h1
 refine ⟨by show r.length ≤ cap - 1; omega, ?_⟩
 cases r with
 | nil => exact .inl rfl
 | cons z r =>
  rcases h2 with h2 | ⟨b, off, ha, hb, hk⟩
  ·cases h2
  ·simp only at ha
   subst ha
   simp only [List.length_cons] at h1
   refine .inr ⟨b, off + 4, ?_, hb, fun j x hx => ?_⟩
   ·show tailA _ cap = _
    unfold tailA
    rw [if_neg (by omega)]
    rfl
   ·have := hk (j + 1) x hx
    rw [show off + 4 + j * 4 = off + (j + 1) * 4 by omega]
    exact this
set_option maxRecDepth 100000 in
set_option maxHeartbeats 1000000 in
theorem walk_in (l n₀ n₁ N Ba : Nat) (J Jx : List TV → World → Prop) (hJ : AbC 22 Ba J) {n : Nat} (t : Tm (n + 1))
  (hY : ∀ m pre x W, x ∈ parts t → J pre W → pre.length < N → YieldAt Fence.wide m Tryz.prog l #[TV.val x] W fun e W' =>
   (e = .returned (.bool true) ∧ J (pre ++ [x]) W' ∧ Kp n₀ n₁ W W') ∨ (e = .returned (.bool false) ∧ Jx (pre ++ [x]) W'))
  (m : Nat) (W : World) (ht : IsT n₀ W t) (hn0 : n₀ ≤ W.heap.size) (hn : n₁ ≤ W.heap.size) (hBa : Ba ≤ W.heap.size) (hj0 : J [] W) (hN : (parts t).length ≤ N) :
  CallsIn Fence.wide m Tryz.prog 68 #[t.tv.val, .func (.yield l) #[] #[]] W fun e W' =>
   (∃ v, e = .returned v) ∧ (J (parts t) W' ∨ ∃ q, q <+: parts t ∧ Jx q W') := by
 have hallo : ∀ pre W o, J pre W → J pre (W.alloc o) := fun pre W o h => hJ pre W _ none h (World.grownBy_alloc W o none) (fun r e => by cases e)
 have hy1 := hY (m - 1) [] t.tv (W.alloc (.cells #[.int .i64 t.tv.k, .int .i64 t.tv.N, .string t.tv.s, .slice t.tv.a t.tv.len t.tv.cap] 24)) (by rw [kidsL_all]; simp) (hallo _ _ _ hj0) (by rw [kidsL_all] at hN; simp at hN ⊢; omega)
 have HL := hide hallo
 have HT := hide ht
 have HY := hide hY
 clear hallo ht hY
 simp only [TV.val] at hy1 ⊢
 obtain ⟨fn, tmps, assign, body, hy, hR⟩ := hy1
 refine callsIn_of_wp Tryz.func68 rfl trivial ?_ rfl
 simp only [Tryz.ntmps68, List.size_toArray, List.length_cons, List.length_nil, Nat.reduceAdd, Nat.reduceSub, Array.replicate_succ, Array.replicate_zero, List.push_toArray, List.append_toArray, List.nil_append, List.cons_append]
 gi_wp2
 refine ⟨(fun h => by cases h), ?_⟩
 refine hR.mono ?_
 clear hR hy
 rintro e W1 (⟨rfl, hJ1, hk1⟩ | ⟨rfl, hx1⟩)
 ·have hz : W.heap.size < W1.heap.size := by have := hk1.size; simp at this; omega
  have hc : W1.cell? ⟨W.heap.size, 3, none⟩ = some (.slice t.tv.a t.tv.len t.tv.cap) := by
   have hown := hk1.own hn (World.alloc_heap_new W (.cells #[.int .i64 t.tv.k, .int .i64 t.tv.N, .string t.tv.s, .slice t.tv.a t.tv.len t.tv.cap] 24))
   simp [World.cell?, hown]
  have hkW : Kp n₀ n₁ W W1 := ((Kp.refl _ _ W).alloc _).trans hk1
  clear hk1
  gi_upto_region 2 with fail
  gi_cut [4] from 11 (fun s wc => ∃ g, s = .slice (some ⟨g, 0, none⟩) 1 8 ∧ Stk W.heap.size g 8 wc [kidsL t] ∧ Below W1.heap.size W1 wc)
  case first =>
   have hmk := left_make
   obtain ⟨D0, hD0⟩ : ∃ D0, W1.drew = D0 := ⟨_, rfl⟩
   have hDb : Below W1.heap.size W1 D0 := by rw [← hD0]; exact (Below.refl _ W1).drew
   have hDs : D0.heap.size = W1.heap.size := by rw [← hD0]; rfl
   have hDc : D0.cell? ⟨W.heap.size, 3, none⟩ = some (.slice t.tv.a t.tv.len t.tv.cap) := by rw [← hD0]; exact hc
   obtain ⟨Xa, ea, sa, ba⟩ := left_a (n₁ := W.heap.size) D0 (kidsL t) _ (kidsL_val (unhide HT)) (by omega)
   obtain ⟨Xb, eb, sb, bb⟩ := left_b (n₁ := W.heap.size) D0 (kidsL t) _ (kidsL_val (unhide HT)) (by omega)
   rw [hDs] at ea eb sa sb
   have bc1a : (D0.alloc (.cells (madeCells #[.slice none 0 0] 8) 22)).cell? ⟨W.heap.size, 3, none⟩ = some (.slice t.tv.a t.tv.len t.tv.cap) := (Below.cell ((Below.refl _ D0).alloc (Nat.le_refl _) _) (p := ⟨W.heap.size, 3, none⟩) (by simp; omega)).trans hDc
   have bc1b : (D0.alloc (.cells #[.slice t.tv.a t.tv.len t.tv.cap] 22)).cell? ⟨W.heap.size, 3, none⟩ = some (.slice t.tv.a t.tv.len t.tv.cap) := (Below.cell ((Below.refl _ D0).alloc (Nat.le_refl _) _) (p := ⟨W.heap.size, 3, none⟩) (by simp; omega)).trans hDc
   have bc2a : ((D0.alloc (.cells (madeCells #[.slice none 0 0] 8) 22)).alloc (.cells #[.slice t.tv.a t.tv.len t.tv.cap] 22)).cell? ⟨W.heap.size, 3, none⟩ = some (.slice t.tv.a t.tv.len t.tv.cap) := (Below.cell (((Below.refl _ D0).alloc (Nat.le_refl _) _).alloc (by simp) _) (p := ⟨W.heap.size, 3, none⟩) (by simp; omega)).trans hDc
   have bc2b : ((D0.alloc (.cells #[.slice t.tv.a t.tv.len t.tv.cap] 22)).alloc (.cells (madeCells #[.slice none 0 0] 8) 22)).cell? ⟨W.heap.size, 3, none⟩ = some (.slice t.tv.a t.tv.len t.tv.cap) := (Below.cell (((Below.refl _ D0).alloc (Nat.le_refl _) _).alloc (by simp) _) (p := ⟨W.heap.size, 3, none⟩) (by simp; omega)).trans hDc
   have bc3a : Xa.cell? ⟨W.heap.size, 3, none⟩ = some (.slice t.tv.a t.tv.len t.tv.cap) := (Below.cell ba (p := ⟨W.heap.size, 3, none⟩) (by simp; omega)).trans hDc
   have bc3b : Xb.cell? ⟨W.heap.size, 3, none⟩ = some (.slice t.tv.a t.tv.len t.tv.cap) := (Below.cell bb (p := ⟨W.heap.size, 3, none⟩) (by simp; omega)).trans hDc
   have HA := hide (And.intro sa (hDb.trans (ba.mono (by omega))))
   have HB := hide (And.intro sb (hDb.trans (bb.mono (by omega))))
   clear sa ba sb bb
   refine wpIn_wide.2 ?_
   refine wp_region_noPanic ?_
   refine wp_region_held_drew (S := fun w' => w'.cell? ⟨W.heap.size, 3, none⟩ = some (.slice t.tv.a t.tv.len t.tv.cap)) (by kernel_rfl) ?_ (fun hHeld => ?_)
   ·exact hc
   rw [hD0] at hHeld ⊢
   clear hD0
   refine wpAnyH_take (i := 1) (oi := { dst := some 12, op := Op.fieldAddr 24 (Operand.tmp 2) 3, type := 0, pos := "parts.go:25", after := #[], guard := none }) (v := ?_) rfl (by kernel_rfl) (by kernel_rfl) (by kernel_rfl) (fun _ _ _ h => h) (Or.inl ⟨by rfl, ?_⟩) hHeld ?_
   rotate_left
   ·(intro w' hSw; (try dsimp only at hSw); go_simp; try with_reducible rfl)
   try simp only [Act.put, List.setIfInBounds_toArray, List.set_cons_zero, List.set_cons_succ]
   refine wpAnyH_take (i := 2) (oi := { dst := some 13, op := Op.load 22 (Operand.tmp 12), type := 22, pos := "parts.go:25", after := #[{ on := 1, ground := Ground.data }], guard := none }) (v := ?_) rfl (by kernel_rfl) (by kernel_rfl) (by kernel_rfl) (fun _ _ _ h => h) (Or.inl ⟨by rfl, ?_⟩) hHeld ?_
   rotate_left
   ·(intro w' hSw; (try dsimp only at hSw); go_simp; try with_reducible rfl)
   try simp only [Act.put, List.setIfInBounds_toArray, List.set_cons_zero, List.set_cons_succ]
   refine wpAnyH_ready (rs := [0, 3]) (by kernel_rfl) (by simp) ?_
   refine AllReadyH.cons (o := { dst := some 11, op := Op.makeSlice 165 (Operand.const (Value.int IntKind.i64 0)) (Operand.const (Value.int IntKind.i64 8)), type := 165, pos := "parts.go:25", after := #[], guard := none }) rfl (fun K hK => ?_) (AllReadyH.cons (o := { dst := some 14, op := Op.buildSlice 165 1 #[(0, Operand.tmp 13)], type := 165, pos := "parts.go:25", after := #[{ on := 2, ground := Ground.data }], guard := none }) rfl (fun K hK => ?_) AllReadyH.nil)
   ·have hHold := hHeld
    clear hHeld
    go_simp
    refine hK.out _ _ ?_ (fun hHeld => ?_)
    ·((try dsimp only); exact bc1a)
    clear hK K hHold
    try simp only [Act.put, List.setIfInBounds_toArray, List.set_cons_zero, List.set_cons_succ]
    refine wpAnyH_ready (rs := [3]) (by kernel_rfl) (by simp) ?_
    refine AllReadyH.cons (o := { dst := some 14, op := Op.buildSlice 165 1 #[(0, Operand.tmp 13)], type := 165, pos := "parts.go:25", after := #[{ on := 2, ground := Ground.data }], guard := none }) rfl (fun K hK => ?_) AllReadyH.nil
    have hHold := hHeld
    clear hHeld
    go_simp
    refine hK.out _ _ ?_ (fun hHeld => ?_)
    ·((try dsimp only); exact bc2a)
    clear hK K hHold
    try simp only [Act.put, List.setIfInBounds_toArray, List.set_cons_zero, List.set_cons_succ]
    refine wpAnyH_ready (rs := [4]) (by kernel_rfl) (by simp) ?_
    refine AllReadyH.cons (o := { dst := some 15, op := Op.call { callee := Callee.builtin Builtin.append, args := #[Operand.tmp 11, Operand.tmp 14], argTypes := #[165, 165] }, type := 165, pos := "parts.go:25", after := #[{ on := 0, ground := Ground.data }, { on := 3, ground := Ground.data }], guard := none }) rfl (fun K hK => ?_) AllReadyH.nil
    have hHold := hHeld
    clear hHeld
    rw [if_pos (by rfl)]
    refine wp_append_row _ _ _ rfl rfl rfl ea ?_
    refine hK.out _ _ ?_ (fun hHeld => ?_)
    ·((try dsimp only); exact bc3a)
    clear hK K hHold
    try simp only [Act.put, List.setIfInBounds_toArray, List.set_cons_zero, List.set_cons_succ]
    refine wpAnyH_take (i := 5) (oi := { dst := some 4, op := Op.assign (Operand.tmp 15), type := 165, pos := "parts.go:25", after := #[{ on := 4, ground := Ground.data }, { on := 4, ground := Ground.chain }, { on := 0, ground := Ground.phase }, { on := 1, ground := Ground.phase }, { on := 2, ground := Ground.phase }, { on := 3, ground := Ground.phase }, { on := 4, ground := Ground.phase }], guard := none }) (v := ?_) rfl (by kernel_rfl) (by kernel_rfl) (by kernel_rfl) (fun _ _ _ h => h) (Or.inl ⟨by rfl, ?_⟩) hHeld ?_
    rotate_left
    ·(intro w' hSw; (try dsimp only at hSw); go_simp; try with_reducible rfl)
    try simp only [Act.put, List.setIfInBounds_toArray, List.set_cons_zero, List.set_cons_succ]
    refine wpAnyH_done (by kernel_rfl) ?_ _
    refine NoPanic.normal ?_
    clear hHeld
    go_wp2_with fail
    gi_meet
    exact ⟨_, rfl, HA.out⟩
   ·have hHold := hHeld
    clear hHeld
    go_simp
    refine hK.out _ _ ?_ (fun hHeld => ?_)
    ·((try dsimp only); exact bc1b)
    clear hK K hHold
    try simp only [Act.put, List.setIfInBounds_toArray, List.set_cons_zero, List.set_cons_succ]
    refine wpAnyH_ready (rs := [0]) (by kernel_rfl) (by simp) ?_
    refine AllReadyH.cons (o := { dst := some 11, op := Op.makeSlice 165 (Operand.const (Value.int IntKind.i64 0)) (Operand.const (Value.int IntKind.i64 8)), type := 165, pos := "parts.go:25", after := #[], guard := none }) rfl (fun K hK => ?_) AllReadyH.nil
    have hHold := hHeld
    clear hHeld
    go_simp
    refine hK.out _ _ ?_ (fun hHeld => ?_)
    ·((try dsimp only); exact bc2b)
    clear hK K hHold
    try simp only [Act.put, List.setIfInBounds_toArray, List.set_cons_zero, List.set_cons_succ]
    refine wpAnyH_ready (rs := [4]) (by kernel_rfl) (by simp) ?_
    refine AllReadyH.cons (o := { dst := some 15, op := Op.call { callee := Callee.builtin Builtin.append, args := #[Operand.tmp 11, Operand.tmp 14], argTypes := #[165, 165] }, type := 165, pos := "parts.go:25", after := #[{ on := 0, ground := Ground.data }, { on := 3, ground := Ground.data }], guard := none }) rfl (fun K hK => ?_) AllReadyH.nil
    have hHold := hHeld
    clear hHeld
    rw [if_pos (by rfl)]
    refine wp_append_row _ _ _ rfl rfl rfl eb ?_
    refine hK.out _ _ ?_ (fun hHeld => ?_)
    ·((try dsimp only); exact bc3b)
    clear hK K hHold
    try simp only [Act.put, List.setIfInBounds_toArray, List.set_cons_zero, List.set_cons_succ]
    refine wpAnyH_take (i := 5) (oi := { dst := some 4, op := Op.assign (Operand.tmp 15), type := 165, pos := "parts.go:25", after := #[{ on := 4, ground := Ground.data }, { on := 4, ground := Ground.chain }, { on := 0, ground := Ground.phase }, { on := 1, ground := Ground.phase }, { on := 2, ground := Ground.phase }, { on := 3, ground := Ground.phase }, { on := 4, ground := Ground.phase }], guard := none }) (v := ?_) rfl (by kernel_rfl) (by kernel_rfl) (by kernel_rfl) (fun _ _ _ h => h) (Or.inl ⟨by rfl, ?_⟩) hHeld ?_
    rotate_left
    ·(intro w' hSw; (try dsimp only at hSw); go_simp; try with_reducible rfl)
    try simp only [Act.put, List.setIfInBounds_toArray, List.set_cons_zero, List.set_cons_succ]
    refine wpAnyH_done (by kernel_rfl) ?_ _
    refine NoPanic.normal ?_
    clear hHeld
    go_wp2_with fail
    gi_meet
    exact ⟨_, rfl, HB.out⟩
  case rest =>
  obtain ⟨g, rfl, hS, hb⟩ := hcut
  have hJc : J [t.tv] wc := hJ _ W1 wc none (by simpa using hJ1) ⟨hb.os, hb.tape, hb.output, hb.size, fun i hi _ => hb.block i hi⟩ (fun r e => by cases e)
  have hkc : Kp n₀ n₁ W wc := hkW.trans (Kp.of_below hb)
  have h0 : WalkR W.heap.size n₀ n₁ n J (parts t) W (2 * (restL [kidsL t]).length + 1) (.slice (some ⟨g, 0, none⟩) 1 8) wc := ⟨g, 8, [kidsL t], [t.tv], rfl, hS, fun e he => by simp at he; subst he; exact (kidsL_is (unhide HT)).kp hkc, fun i e he => by
   cases i with
   | zero => simp at he; subst he; exact Nat.le_refl _
   | succ i => simp at he, hJc, by rw [kidsL_all]; simp [restL], hkc, rfl⟩
  have H0 := hide h0
  have hlim : n + 1 ≤ 2199023255552 := (unhide HT).2.1.2.2
  clear h0 hS hb hJc hkc hJ1 hz hc hkW HT
  gi_wp2
  gi_loopw [4] (fun v wr => ∃ k, WalkR W.heap.size n₀ n₁ n J (parts t) W k v wr) (fun v wr => leastK (fun k => WalkR W.heap.size n₀ n₁ n J (parts t) W k v wr))
  case atStart => exact ⟨_, unhide H0⟩
  case round =>
   clear H0
   obtain ⟨g, cap, S, pre, rfl, hS, hE, hD, hJp, hpre, hK, hk⟩ := leastK_spec hrel
   have HM := hide hk
   have HPRE := hide hpre
   have HE := hide hE
   have HD := hide hD
   have HJP := hide hJp
   have HKK := hide hK
   clear hk hpre hE hD hJp hK hrel
   rcases List.eq_nil_or_concat S with rfl | ⟨S, e, rfl⟩
   ·gi_wp2
    go_end0
    have h1 := unhide HPRE
    rw [restL_nil, List.append_nil] at h1
    exact ⟨⟨_, rfl⟩, .inl (h1 ▸ unhide HJP)⟩
   ·simp only [List.concat_eq_append] at hS HM HPRE HE HD ⊢
    obtain ⟨ct, cf⟩ := hS.top
    have hq := (unhide HD) S.length e (by simp)
    have hlen : (S ++ [e]).length = S.length + 1 := by simp
    have hcap : S.length + 1 ≤ cap := by have := hS.blk.2.1; omega
    have hcap' : cap ≤ 9223372036854775807 := by obtain ⟨_, _, cur, _, h, _⟩ := hS.blk; unfold maxLen at h; omega
    have HS := hide hS
    clear hS
    rw [hlen] at HM ⊢
    clear hlen
    have HQ := hide hq
    have hq2 : S.length ≤ 2199023255552 := by omega
    clear hq
    obtain ⟨n', a, cap', ts⟩ := e
    cases ts with
    | nil =>
     simp only [Lf.val, List.length_nil] at ct
     gi_wp2
     refine leastK_lt (k := 2 * (restL S).length + S.length) ⟨g, cap, S, pre, rfl, (unhide HS).pop, fun z hz => (unhide HE) z (by simp [hz]), fun i z hz => (unhide HD) i z (by rw [List.getElem?_append_left (List.getElem?_eq_some_iff.1 hz).1]; exact hz), unhide HJP, ?_, unhide HKK, rfl⟩ ?_
     ·have h := unhide HPRE
      rw [restL_snoc] at h
      exact h
     ·have h := unhide HM
      rw [restL_snoc] at h
      rw [h]
      simp only [Lf.all, List.flatMap_nil, List.nil_append]
      omega
    | cons u r =>
     cases n' with
     | zero => exact Empty.elim u
     | succ n' =>
     obtain ⟨i1, i2⟩ := (unhide HE) ⟨n' + 1, a, cap', u :: r⟩ (by simp)
     have htl := tail_is (⟨i1, i2⟩ : Lf.Is n₀ wr ⟨n' + 1, a, cap', u :: r⟩)
     rcases i2 with i2 | ⟨b, off, ha, hb, hk⟩
     ·cases i2
     simp only at ha
     subst ha
     obtain ⟨⟨c0, c1, c2, c3⟩, hT⟩ := hk 0 u rfl
     rw [Nat.zero_mul, Nat.add_zero] at c0 c1 c2 c3
     simp only [List.length_cons] at i1
     obtain ⟨A, hA⟩ : ∃ A, (if cap' = 1 then some (⟨b, off, none⟩ : Addr) else some ⟨b, off + 4, none⟩) = A := ⟨_, rfl⟩
     have htl' : Lf.Is n₀ wr ⟨n' + 1, A, cap' - 1, r⟩ := by
      have e : tailA (some ⟨b, off, none⟩) cap' = A := by rw [← hA]; rfl
      rw [← e]
      exact htl
     clear htl hk
     have hgb : g < wr.heap.size := by obtain ⟨_, _, cur, h, _⟩ := (unhide HS).blk; exact (Array.getElem?_eq_some_iff.1 h).1
     have hg0 : W.heap.size ≤ g := (unhide HS).blk.1
     obtain ⟨V, hV⟩ : ∃ V, (wr.alloc (.cells #[.int .i64 u.tv.k, .int .i64 u.tv.N, .string u.tv.s, .slice u.tv.a u.tv.len u.tv.cap] 24)).setCell ⟨g, S.length, none⟩ (.slice A r.length (cap' - 1)) = V := ⟨_, rfl⟩
     have hgne : g ≠ wr.heap.size := by omega
     simp only [Lf.val, List.length_cons] at ct
     have ct1 : (wr.alloc (.cells #[.int .i64 u.tv.k, .int .i64 u.tv.N, .string u.tv.s, .slice u.tv.a u.tv.len u.tv.cap] 24)).cell? ⟨g, S.length, none⟩ = some (.slice (some ⟨b, off, none⟩) (r.length + 1) cap') := (Below.cell ((Below.refl _ wr).alloc (Nat.le_refl _) _) (p := ⟨g, S.length, none⟩) hgb).trans ct
     have cf1 : (wr.alloc (.cells #[.int .i64 u.tv.k, .int .i64 u.tv.N, .string u.tv.s, .slice u.tv.a u.tv.len u.tv.cap] 24)).frozen? ⟨g, S.length, none⟩ = false := (World.frozen?_of_block (a := ⟨g, S.length, none⟩) (Below.heap_alloc wr _ g hgb)).trans cf
     have hSw : Stk W.heap.size g cap (wr.alloc (.cells #[.int .i64 u.tv.k, .int .i64 u.tv.N, .string u.tv.s, .slice u.tv.a u.tv.len u.tv.cap] 24)) (S ++ [⟨n' + 1, some ⟨b, off, none⟩, cap', u :: r⟩]) := (unhide HS).kept (Below.heap_alloc wr _ g hgb)
     have hst := World.ownsRow.stored hSw S.length (.slice A r.length (cap' - 1))
     have hSV : Stk W.heap.size g cap V (S ++ [⟨n' + 1, A, cap' - 1, r⟩]) := by rw [← hV]; exact hSw.set ⟨n' + 1, A, cap' - 1, r⟩
     have hgr : (wr.alloc (.cells #[.int .i64 u.tv.k, .int .i64 u.tv.N, .string u.tv.s, .slice u.tv.a u.tv.len u.tv.cap] 24)).grownBy V (some g) := by rw [← hV]; exact hst.2
     have hga : wr.grownBy (wr.alloc (.cells #[.int .i64 u.tv.k, .int .i64 u.tv.N, .string u.tv.s, .slice u.tv.a u.tv.len u.tv.cap] 24)) none := World.grownBy_alloc wr _ none
     obtain ⟨_, _, cur, hob, _⟩ := hSw.blk
     have hJV : J pre V := hJ pre _ V (some g) (hJ pre wr _ none (unhide HJP) hga (fun r e => by cases e)) hgr (fun r e => by cases e; exact ⟨by omega, _, hob, .inr (by simp [ofK])⟩)
     have hKV : Kp n₀ n₁ W V := ((unhide HKK).grown hga (fun r e => by cases e)).grown hgr (fun r e => by cases e; exact hg0)
     have hBV : Below n₀ wr V := ((Below.refl n₀ wr).grown hga (by have := (unhide HKK).size; omega) (fun r e => by cases e)).grown hgr (by have := (unhide HKK).size; simp; omega) (fun r e => by cases e; omega)
     have hbox : V.heap[wr.heap.size]? = some (.cells #[.int .i64 u.tv.k, .int .i64 u.tv.N, .string u.tv.s, .slice u.tv.a u.tv.len u.tv.cap] 24 (0, 0)) := (hgr.block wr.heap.size (by simp) (fun e => hgne (by cases e; rfl))).trans (World.alloc_heap_new wr _)
     have hpl : pre.length < N := by
      have h := congrArg List.length (unhide HPRE)
      rw [restL_snoc] at h
      simp only [Lf.all, List.flatMap_cons, List.length_append] at h
      have h1 : 1 ≤ (parts u).length := by rw [kidsL_all]; simp
      omega
     have hmem : u.tv ∈ parts t := by
      rw [← unhide HPRE, restL_snoc]
      refine List.mem_append_right _ (List.mem_append_left _ ?_)
      simp only [Lf.all, List.flatMap_cons]
      exact List.mem_append_left _ (by rw [kidsL_all]; simp)
     obtain ⟨fn2, tmps2, assign2, body2, hy, hR⟩ := (unhide HY) (m - 1) pre u.tv V hmem hJV hpl
     have d0 : V.cell? ⟨wr.heap.size, 0, none⟩ = some (.int .i64 u.tv.k) := by simp [World.cell?, hbox]
     have d1 : V.cell? ⟨wr.heap.size, 1, none⟩ = some (.int .i64 u.tv.N) := by simp [World.cell?, hbox]
     have d2 : V.cell? ⟨wr.heap.size, 2, none⟩ = some (.string u.tv.s) := by simp [World.cell?, hbox]
     have d3 : V.cell? ⟨wr.heap.size, 3, none⟩ = some (.slice u.tv.a u.tv.len u.tv.cap) := by simp [World.cell?, hbox]
     have HTU := hide hT
     have HTL := hide htl'
     have HV := hide (And.intro hSV (And.intro hKV (And.intro hBV hbox)))
     clear hT htl' hSw hst hSV hgr hga hob hJV hKV hBV hbox hpl HS HJP
     simp only [TV.val] at hy
     gi_wp2
     refine ⟨(fun h => by cases h), ?_⟩
     refine hR.mono ?_
     clear hR hy d0 d1 d2 d3 c0 c1 c2 c3 ct cf ct1 cf1 hV hA
     rintro e V2 (⟨rfl, hJ2, hk2⟩ | ⟨rfl, hx2⟩)
     ·obtain ⟨hSV, hKV, hBV, hbox⟩ := unhide HV
      have hS2 := hSV.kp' hk2 hn
      have hK2 : Kp n₀ n₁ W V2 := hKV.trans hk2
      have hbx2 := hk2.own (b := wr.heap.size) (by have := (unhide HKK).size; omega) hbox
      have hTU : IsT n₀ V2 u := ((unhide HTU).below hBV).kp hk2
      have hTL : Lf.Is n₀ V2 ⟨n' + 1, A, cap' - 1, r⟩ := ((unhide HTL).below hBV).kp hk2
      have hEs : ∀ z ∈ S, z.Is n₀ V2 := fun z hz => (((unhide HE) z (by simp [hz])).below hBV).kp hk2
      have hsz2 : wr.heap.size < V2.heap.size := (Array.getElem?_eq_some_iff.1 hbx2).1
      have d3 : V2.cell? ⟨wr.heap.size, 3, none⟩ = some (.slice u.tv.a u.tv.len u.tv.cap) := by simp [World.cell?, hbx2]
      obtain ⟨ct, cf⟩ := hS2.top
      simp only [Lf.val] at ct
      have hpre2 : pre ++ (u.tv :: ((kidsL u).all ++ (r.flatMap parts ++ restL S))) = parts t := by
       have h := unhide HPRE
       rw [restL_snoc] at h
       simpa [Lf.all, kidsL_all] using h
      have hM2 : leastK (fun k => WalkR W.heap.size n₀ n₁ n J (parts t) W k (.slice (some ⟨g, 0, none⟩) (S.length + 1) cap) wr) = 2 * (1 + (kidsL u).all.length + (r.flatMap parts).length + (restL S).length) + (S.length + 1) := by
       have h := unhide HM
       rw [restL_snoc] at h
       rw [h]
       simp only [Lf.all, List.flatMap_cons, List.length_append, kidsL_all, List.length_cons]
       omega
      have H2 := hide (And.intro hS2 (And.intro hK2 (And.intro hTU (And.intro hTL (And.intro hEs (And.intro hpre2 (And.intro hM2 hJ2)))))))
      have hgb2 : g < V2.heap.size := by omega
      clear hSV hKV hBV hbox hS2 hK2 hbx2 hTU hTL hEs hpre2 hM2 hJ2 HTU HTL HV HKK HE HPRE HM hk2
      cases r with
      | nil =>
       simp only [List.length_nil] at ct
       gi_wp2
       obtain ⟨hS2, hK2, hTU, hTL, hEs, hpre2, hM2, hJ2⟩ := unhide H2
       have hst := World.ownsRow.stored hS2 S.length (.slice u.tv.a u.tv.len u.tv.cap)
       have hS3 := hS2.set (kidsL u)
       rw [kidsL_val hTU] at hS3
       obtain ⟨_, _, cur, hob, _⟩ := hS2.blk
       have hJ3 := hJ _ V2 _ (some g) hJ2 hst.2 (fun r e => by cases e; exact ⟨by omega, _, hob, .inr (by simp [ofK])⟩)
       have hB3 : Below n₀ V2 (V2.setCell ⟨g, S.length, none⟩ (.slice u.tv.a u.tv.len u.tv.cap)) := (Below.refl n₀ V2).grown hst.2 (by omega) (fun r e => by cases e; omega)
       refine leastK_lt (k := 2 * (restL (S ++ [kidsL u])).length + (S ++ [kidsL u]).length) ⟨g, cap, S ++ [kidsL u], pre ++ [u.tv], by simp, hS3, fun z hz => ?_, depth_set (unhide HD) (Nat.le_succ _), hJ3, ?_, hK2.grown hst.2 (fun r e => by cases e; exact hg0), rfl⟩ ?_
       ·rcases List.mem_append.1 hz with hz | hz
        ·exact (hEs z hz).below hB3
        ·simp at hz; subst hz; exact (kidsL_is hTU).below hB3
       ·rw [← hpre2, restL_snoc]; simp
       ·rw [hM2, restL_snoc]; simp only [List.length_append, List.length_cons, List.length_nil, List.flatMap_nil]; omega
      | cons z r =>
       simp only [List.length_cons] at ct
       by_cases hul : u.tv.len = 0
       ·gi_wp2
        obtain ⟨hS2, hK2, hTU, hTL, hEs, hpre2, hM2, hJ2⟩ := unhide H2
        have hku : (kidsL u).all = [] := by
         have h : u.kids = [] := List.length_eq_zero_iff.1 (by rw [← hTU.1]; exact hul)
         show u.kids.flatMap parts = []
         rw [h]; rfl
        refine leastK_lt (k := 2 * (restL (S ++ [⟨n' + 1, A, cap' - 1, z :: r⟩])).length + (S ++ [(⟨n' + 1, A, cap' - 1, z :: r⟩ : Lf)]).length) ⟨g, cap, S ++ [⟨n' + 1, A, cap' - 1, z :: r⟩], pre ++ [u.tv], by simp, hS2, fun y hy => ?_, depth_set (unhide HD) (Nat.le_refl _), hJ2, ?_, hK2, rfl⟩ ?_
        ·rcases List.mem_append.1 hy with hy | hy
         ·exact hEs y hy
         ·simp at hy; subst hy; exact hTL
        ·rw [← hpre2, restL_snoc, hku]; simp [Lf.all]
        ·rw [hM2, restL_snoc, hku]; simp only [Lf.all, List.length_append, List.length_cons, List.length_nil]; omega
       ·have hul' : 0 < u.tv.len := by omega
        obtain ⟨g', cap2, X, hr, hS3, hgr3⟩ := (unhide H2).1.push (kidsL u) _ (kidsL_val (unhide H2).2.2.1) rfl (by simp only [List.length_append, List.length_cons, List.length_nil]; omega) (by omega) 165
        simp only [List.length_append, List.length_cons, List.length_nil, Nat.zero_add] at hr
        have HR := hide (And.intro hS3 hgr3)
        clear hS3 hgr3
        gi_wp2_with (gi_at_builtin; refine wpListIn_append_run _ rfl _ _ _ _ rfl hr ?_)
        obtain ⟨hS3, hgr3⟩ := unhide HR
        obtain ⟨hS2, hK2, hTU, hTL, hEs, hpre2, hM2, hJ2⟩ := unhide H2
        obtain ⟨_, _, cur, hob, _⟩ := hS2.blk
        have hga3 : V2.grownBy (V2.alloc (.cells #[.slice u.tv.a u.tv.len u.tv.cap] 22)) none := World.grownBy_alloc V2 _ none
        have hob3 : (V2.alloc (.cells #[.slice u.tv.a u.tv.len u.tv.cap] 22)).heap[g]? = some (.cells cur 22 (0, 0)) := (Below.heap_alloc V2 _ g hgb2).trans hob
        have hJ3 := hJ _ _ X (some g) (hJ _ V2 _ none hJ2 hga3 (fun r e => by cases e)) hgr3 (fun r e => by cases e; exact ⟨by omega, _, hob3, .inr (by simp [ofK])⟩)
        have hB3 : Below n₀ V2 X := ((Below.refl n₀ V2).grown hga3 (by omega) (fun r e => by cases e)).grown hgr3 (by simp; omega) (fun r e => by cases e; omega)
        have hqd : n' + 1 + S.length ≤ n := unhide HQ
        refine leastK_lt (k := 2 * (restL (S ++ [⟨n' + 1, A, cap' - 1, z :: r⟩] ++ [kidsL u])).length + (S ++ [(⟨n' + 1, A, cap' - 1, z :: r⟩ : Lf)] ++ [kidsL u]).length) ⟨g', cap2, S ++ [⟨n' + 1, A, cap' - 1, z :: r⟩] ++ [kidsL u], pre ++ [u.tv], by simp, hS3, fun y hy => ?_, depth_push (depth_set (unhide HD) (Nat.le_refl _)) (by simp only [List.length_append, List.length_cons, List.length_nil]; show n' + _ ≤ n; omega), hJ3, ?_, (hK2.grown hga3 (fun r e => by cases e)).grown hgr3 (fun r e => by cases e; exact hg0), rfl⟩ ?_
        ·rcases List.mem_append.1 hy with hy | hy
         ·rcases List.mem_append.1 hy with hy | hy
          ·exact (hEs y hy).below hB3
          ·simp at hy; subst hy; exact hTL.below hB3
         ·simp at hy; subst hy; exact (kidsL_is hTU).below hB3
        ·rw [← hpre2, restL_snoc, restL_snoc]; simp [Lf.all]
        ·rw [hM2, restL_snoc, restL_snoc]; simp only [Lf.all, List.length_append, List.length_cons, List.length_nil]; omega
     ·have hpx : pre ++ [u.tv] <+: parts t := by
       have h := unhide HPRE
       rw [restL_snoc] at h
       refine ⟨(kidsL u).all ++ (r.flatMap parts ++ restL S), ?_⟩
       simpa [Lf.all, kidsL_all] using h
      have HX := hide (And.intro hpx hx2)
      clear hpx hx2 HV
      gi_wp2
      (try simp only [Exit.inBlock, Exit.then]); refine bodyPost_ret (results_none rfl _ _ _) rfl ?_
      exact ⟨⟨_, rfl⟩, .inr ⟨_, (unhide HX).1, (unhide HX).2⟩⟩
 ·have HX := hide hx1
  clear hx1
  gi_wp2
  (try simp only [Exit.inBlock, Exit.then]); refine bodyPost_ret (results_none rfl _ _ _) rfl ?_
  exact ⟨⟨_, rfl⟩, .inr ⟨[t.tv], by rw [kidsL_all]; exact ⟨_, rfl⟩, by simpa using unhide HX⟩⟩
end Go.Proofs.YtlbobmebbllifaaGreat
