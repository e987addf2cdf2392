import Derived.Test.YtlbobmebbllifaaGreatWk
/- Rows of pairs of lists that a call keeps: two cells each. -/
namespace Go.Proofs.YtlbobmebbllifaaGreat
open Go.RowKit Go.Shelf
def Two (k : TypeId) : Prop := ∃ i, Tryz.prog.info? k = some i ∧ i.zero = some (.agg #[.slice none 0 0, .slice none 0 0]) ∧ i.size = 2 ∧ i.bytes = 48
def cells2 (S : List (Value × Value)) : List Value := S.flatMap fun p => [p.1, p.2]
theorem cells2_len (S : List (Value × Value)) : (cells2 S).length = S.length * 2 := by
 induction S with
 | nil => rfl
 | cons a S ih =>
  have : cells2 (a :: S) = a.1 :: a.2 :: cells2 S := rfl
  rw [this]
  simp only [List.length_cons, ih]
  omega
theorem cells2_snoc (S : List (Value × Value)) (p : Value × Value) : cells2 (S ++ [p]) = cells2 S ++ [p.1, p.2] := by simp [cells2]
def Stk2 (k B g cap : Nat) (W : World) (S : List (Value × Value)) : Prop := W.ownsRow B k 2 (.slice (some ⟨g, 0, none⟩) S.length cap) S.length (cells2 S)
theorem Stk2.blk {k B g cap : Nat} {W : World} {S : List (Value × Value)} (h : Stk2 k B g cap W S) : B ≤ g ∧ S.length ≤ cap ∧ ∃ cur, W.heap[g]? = some (.cells cur k (0, 0)) ∧ cap ≤ maxLen ∧ cur.size = cap * 2 ∧ cur.toList.take (S.length * 2) = cells2 S := by
 obtain ⟨h1, h2⟩ := h
 rcases h2 with ⟨h2, _⟩ | ⟨g', cap', cur, h2, h3, h4, h5, h6, h7, h8⟩
 · cases h2
 · simp only [Value.slice.injEq, Option.some.injEq, Addr.mk.injEq, and_true, true_and] at h2
  obtain ⟨rfl, rfl⟩ := h2
  exact ⟨h3, h5, cur, h4, h6, h7, h8⟩
theorem stk2_mk {k B g cap : Nat} {W : World} {S : List (Value × Value)} {cur : Array Value} (h3 : B ≤ g) (h5 : S.length ≤ cap) (h4 : W.heap[g]? = some (.cells cur k (0, 0))) (h6 : cap ≤ maxLen) (h7 : cur.size = cap * 2) (h8 : cur.toList.take (S.length * 2) = cells2 S) : Stk2 k B g cap W S :=
 ⟨cells2_len S, .inr ⟨g, cap, cur, rfl, h3, h4, h5, h6, h7, h8⟩⟩
theorem Stk2.lt {k B g cap : Nat} {W : World} {S : List (Value × Value)} (h : Stk2 k B g cap W S) : g < W.heap.size := by
 obtain ⟨_, _, cur, h3, _⟩ := h.blk
 exact (Array.getElem?_eq_some_iff.1 h3).1
theorem Stk2.kept {k B g cap : Nat} {W W' : World} {S : List (Value × Value)} (h : Stk2 k B g cap W S) (hk : W'.heap[g]? = W.heap[g]?) : Stk2 k B g cap W' S := by
 obtain ⟨h1, h2, cur, h3, h4, h5, h6⟩ := h.blk
 exact stk2_mk h1 h2 (hk.trans h3) h4 h5 h6
theorem Stk2.below {k B g cap : Nat} {W W' : World} {S : List (Value × Value)} (h : Stk2 k B g cap W S) (hk : Below W.heap.size W W') : Stk2 k B g cap W' S := h.kept (hk.block g h.lt)
theorem Stk2.pop {k B g cap : Nat} {W : World} {S : List (Value × Value)} {p : Value × Value} (h : Stk2 k B g cap W (S ++ [p])) : Stk2 k B g cap W S := by
 obtain ⟨h1, h2, cur, h3, h4, h5, h6⟩ := h.blk
 simp only [List.length_append, List.length_cons, List.length_nil] at h2 h6
 refine stk2_mk h1 (by omega) h3 h4 h5 ?_
 have := congrArg (List.take (S.length * 2)) h6
 rw [List.take_take, Nat.min_eq_left (by omega), cells2_snoc, List.take_left' (cells2_len S)] at this
 exact this
theorem Stk2.top {k B g cap : Nat} {W : World} {S : List (Value × Value)} {p : Value × Value} (h : Stk2 k B g cap W (S ++ [p])) : W.cell? ⟨g, S.length * 2, none⟩ = some p.1 ∧ W.cell? ⟨g, S.length * 2 + 1, none⟩ = some p.2 ∧ W.frozen? ⟨g, S.length * 2, none⟩ = false ∧ W.frozen? ⟨g, S.length * 2 + 1, none⟩ = false := by
 have h1 := World.ownsRow.cellAt h (S.length * 2) (by simp only [List.length_append, List.length_cons, List.length_nil]; omega)
 have h2 := World.ownsRow.cellAt h (S.length * 2 + 1) (by simp only [List.length_append, List.length_cons, List.length_nil]; omega)
 have hl := cells2_len S
 rw [cells2_snoc] at h1 h2
 refine ⟨h1.trans ?_, h2.trans ?_, World.ownsRow.frozenAt h _, World.ownsRow.frozenAt h _⟩
 · rw [List.getElem?_append_right (by omega), hl, Nat.sub_self]; rfl
 · rw [List.getElem?_append_right (by omega), hl, Nat.add_sub_cancel_left]; rfl
theorem Stk2.set0 {k B g cap : Nat} {W : World} {S : List (Value × Value)} {p : Value × Value} (h : Stk2 k B g cap W (S ++ [p])) (v : Value) : Stk2 k B g cap (W.setCell ⟨g, S.length * 2, none⟩ v) (S ++ [(v, p.2)]) ∧ W.grownBy (W.setCell ⟨g, S.length * 2, none⟩ v) (some g) := by
 have h1 := World.ownsRow.stored h (S.length * 2) v
 refine ⟨?_, h1.2⟩
 have hl := cells2_len S
 have e : (cells2 (S ++ [p])).set (S.length * 2) v = cells2 (S ++ [(v, p.2)]) := by
  rw [cells2_snoc, cells2_snoc, List.set_append_right _ _ (by omega), hl]
  simp
 unfold Stk2
 rw [← e]
 simpa using h1.1
theorem Stk2.set1 {k B g cap : Nat} {W : World} {S : List (Value × Value)} {p : Value × Value} (h : Stk2 k B g cap W (S ++ [p])) (v : Value) : Stk2 k B g cap (W.setCell ⟨g, S.length * 2 + 1, none⟩ v) (S ++ [(p.1, v)]) ∧ W.grownBy (W.setCell ⟨g, S.length * 2 + 1, none⟩ v) (some g) := by
 have h1 := World.ownsRow.stored h (S.length * 2 + 1) v
 refine ⟨?_, h1.2⟩
 have hl := cells2_len S
 have e : (cells2 (S ++ [p])).set (S.length * 2 + 1) v = cells2 (S ++ [(p.1, v)]) := by
  rw [cells2_snoc, cells2_snoc, List.set_append_right _ _ (by omega), hl, Nat.add_sub_cancel_left]
  rfl
 unfold Stk2
 rw [← e]
 simpa using h1.1
theorem two_make {k T : TypeId} (hk : Two k) (hu : Tryz.prog.underlying T = some (.slice k)) (w : World) : (Instr.makeSlice T (.int .i64 0) (.int .i64 8)).run Tryz.prog w = .ok (.slice (some ⟨w.heap.size, 0, none⟩) 0 8) (w.alloc (.cells (madeCells #[.slice none 0 0, .slice none 0 0] 16) k)) := by
 obtain ⟨i0, hi, hz0, hz1, hz2⟩ := hk
 have hr := run_make (P := Tryz.prog) w T k i0 _ hu hi hz0 .i64 .i64 0 8 (by omega) (by omega) (by rw [hz2]; omega) (by omega)
 rw [hz1] at hr
 simpa [Value.cells] using hr
theorem two_fits {k T : TypeId} (hk : Two k) (hu : Tryz.prog.underlying T = some (.slice k)) {B : Nat} {w W : World} {p : Value × Value} {g h c : Nat} (hn : B ≤ w.heap.size) (hb : Below w.heap.size w W) (hg : w.heap.size ≤ g) (hG : W.heap[g]? = some (.cells (madeCells #[.slice none 0 0, .slice none 0 0] 16) k (0, 0))) (hH : W.cell? ⟨h, 0, none⟩ = some p.1) (hH1 : W.cell? ⟨h, 1, none⟩ = some p.2) (o1 : p.1.oneCell' = true) (o2 : p.2.oneCell' = true) :
  ∃ X, (Builtin.append_ #[T, T] T #[.slice (some ⟨g, 0, none⟩) 0 8, .slice (some ⟨h, 0, none⟩) 1 c]).run Tryz.prog W = .ok (.slice (some ⟨g, 0, none⟩) 1 8) X ∧ Stk2 k B g 8 X [p] ∧ Below w.heap.size w X := by
 obtain ⟨i0, hi, hz0, hz1, hz2⟩ := hk
 have hs : (madeCells #[Value.slice none 0 0, .slice none 0 0] 16).size = 16 := size_madeCells _ _
 obtain ⟨X, h1, h2, h3⟩ := run_append_fits (P := Tryz.prog) W B T T k i0 2 hu hi hz1 g 0 8 [] ⟨by simp, .inr ⟨g, 8, _, rfl, by omega, hG, by omega, by unfold maxLen; omega, by omega, by simp⟩⟩ ⟨h, 0, none⟩ 1 c [p.1, p.2] (by simp) (fun j u hu => by
  match j with
  | 0 => simp at hu; subst hu; simpa [Addr.add] using hH
  | 1 => simp at hu; subst hu; simpa [Addr.add] using hH1
  | j + 2 => simp at hu) (fun u hu => by simp at hu; rcases hu with rfl | rfl; exact o1; exact o2) (by omega)
 exact ⟨X, by simpa using h1, by unfold Stk2; simpa [cells2] using h2, hb.grown h3 hb.size (fun k e => by cases e; exact hg)⟩
theorem two_a {k T : TypeId} (hk : Two k) (hu : Tryz.prog.underlying T = some (.slice k)) {B : Nat} (w : World) (p : Value × Value) (o1 : p.1.oneCell' = true) (o2 : p.2.oneCell' = true) (hn : B ≤ w.heap.size) :
  ∃ X, (Builtin.append_ #[T, T] T #[.slice (some ⟨w.heap.size, 0, none⟩) 0 8, .slice (some ⟨w.heap.size + 1, 0, none⟩) 1 1]).run Tryz.prog ((w.alloc (.cells (madeCells #[.slice none 0 0, .slice none 0 0] 16) k)).alloc (.cells #[p.1, p.2] k)) = .ok (.slice (some ⟨w.heap.size, 0, none⟩) 1 8) X ∧ Stk2 k B w.heap.size 8 X [p] ∧ Below w.heap.size w X := by
 obtain ⟨A, hA⟩ : ∃ A, w.alloc (.cells (madeCells #[.slice none 0 0, .slice none 0 0] 16) k) = A := ⟨_, rfl⟩
 have hs : A.heap.size = w.heap.size + 1 := by rw [← hA]; simp
 have hAg : A.heap[w.heap.size]? = some (.cells (madeCells #[.slice none 0 0, .slice none 0 0] 16) k (0, 0)) := by rw [← hA]; exact World.alloc_heap_new w _
 have hAb : Below w.heap.size w A := by rw [← hA]; exact (Below.refl _ w).alloc (Nat.le_refl _) _
 rw [hA]
 clear hA
 have := World.alloc_heap_new A (.cells #[p.1, p.2] k)
 rw [hs] at this
 exact two_fits hk hu hn (hAb.alloc hAb.size _) (Nat.le_refl _) ((Below.heap_alloc _ _ _ (by omega)).trans hAg) (by simp [World.cell?, this]) (by simp [World.cell?, this]) o1 o2
theorem two_b {k T : TypeId} (hk : Two k) (hu : Tryz.prog.underlying T = some (.slice k)) {B : Nat} (w : World) (p : Value × Value) (o1 : p.1.oneCell' = true) (o2 : p.2.oneCell' = true) (hn : B ≤ w.heap.size) :
  ∃ X, (Builtin.append_ #[T, T] T #[.slice (some ⟨w.heap.size + 1, 0, none⟩) 0 8, .slice (some ⟨w.heap.size, 0, none⟩) 1 1]).run Tryz.prog ((w.alloc (.cells #[p.1, p.2] k)).alloc (.cells (madeCells #[.slice none 0 0, .slice none 0 0] 16) k)) = .ok (.slice (some ⟨w.heap.size + 1, 0, none⟩) 1 8) X ∧ Stk2 k B (w.heap.size + 1) 8 X [p] ∧ Below w.heap.size w X := by
 obtain ⟨A, hA⟩ : ∃ A, w.alloc (.cells #[p.1, p.2] k) = A := ⟨_, rfl⟩
 have hs : A.heap.size = w.heap.size + 1 := by rw [← hA]; simp
 have hAg : A.heap[w.heap.size]? = some (.cells #[p.1, p.2] k (0, 0)) := by rw [← hA]; exact World.alloc_heap_new w _
 have hAb : Below w.heap.size w A := by rw [← hA]; exact (Below.refl _ w).alloc (Nat.le_refl _) _
 rw [hA]
 clear hA
 have h1 := World.alloc_heap_new A (.cells (madeCells #[.slice none 0 0, .slice none 0 0] 16) k)
 rw [hs] at h1
 have := (Below.heap_alloc A (.cells (madeCells #[.slice none 0 0, .slice none 0 0] 16) k) w.heap.size (by omega)).trans hAg
 exact two_fits hk hu hn (hAb.alloc hAb.size _) (Nat.le_succ _) h1 (by simp [World.cell?, this]) (by simp [World.cell?, this]) o1 o2
theorem Stk2.push {k T : TypeId} (hk : Two k) (hu : Tryz.prog.underlying T = some (.slice k)) {B g cap h : Nat} {W : World} {S : List (Value × Value)} (hs : Stk2 k B g cap W S) (p : Value × Value) (o1 : p.1.oneCell' = true) (o2 : p.2.oneCell' = true) (hh : W.heap.size = h) (hS : (S.length + 1) * 48 ≤ 140737488355328) (hn : B ≤ W.heap.size) :
  ∃ g' cap' X, (Builtin.append_ #[T, T] T #[.slice (some ⟨g, 0, none⟩) S.length cap, .slice (some ⟨h, 0, none⟩) 1 1]).run Tryz.prog (W.alloc (.cells #[p.1, p.2] k)) = .ok (.slice (some ⟨g', 0, none⟩) (S.length + 1) cap') X ∧ Stk2 k B g' cap' X (S ++ [p]) ∧ (W.alloc (.cells #[p.1, p.2] k)).grownBy X (some g) := by
 obtain ⟨i0, hi, hz0, hz1, hz2⟩ := hk
 have h1 := World.alloc_heap_new W (.cells #[p.1, p.2] k)
 rw [hh] at h1
 have hs' : Stk2 k B g cap (W.alloc (.cells #[p.1, p.2] k)) S := hs.kept (Below.heap_alloc W _ g hs.lt)
 have hl : S.length + 1 ≤ maxLen := by unfold maxLen; omega
 obtain ⟨v', X, r1, r2, r3, r4⟩ := run_append_own (P := Tryz.prog) (W.alloc (.cells #[p.1, p.2] k)) B T T k i0 (.agg #[.slice none 0 0, .slice none 0 0]) 2 48 hu hi hz0 hz1 hz2 rfl (by omega) (.slice (some ⟨g, 0, none⟩) S.length cap) S.length (cells2 S) hs' ⟨h, 0, none⟩ 1 1 [p.1, p.2] (by simp) (fun j u hu => by
  match j with
  | 0 => simp at hu; subst hu; simp [World.cell?, Addr.add, h1]
  | 1 => simp at hu; subst hu; simp [World.cell?, Addr.add, h1]
  | j + 2 => simp at hu) (fun u hu => by simp at hu; rcases hu with rfl | rfl; exact o1; exact o2) hl hS (by simp; omega)
 rcases r2.2 with ⟨hnil, h0⟩ | ⟨g', cap', cur, rfl, q1, q2, q3, q4, q5, q6⟩
 · omega
 · refine ⟨g', cap', X, r1, ?_, r3⟩
  unfold Stk2
  rw [List.length_append, List.length_cons, List.length_nil, cells2_snoc]
  exact r2
end Go.Proofs.YtlbobmebbllifaaGreat
