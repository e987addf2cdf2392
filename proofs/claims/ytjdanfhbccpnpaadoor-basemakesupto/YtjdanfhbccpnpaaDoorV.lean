import Derived.Test.YtjdanfhbccpnpaaDoorU
/- The contract of hornref.Apply. -/
namespace Go.Proofs.YtjdanfhbccpnpaaDoor
open Go.RowKit Go.Shelf

def TV.row (x : TV) : List Value := [.int .i64 x.k, .int .i64 x.N, .string x.s, .slice x.a x.len x.cap]
theorem row_at : ∀ (l : List TV) (j : Nat) (x : TV), l[j]? = some x → (l.flatMap TV.row)[j * 4]? = some (.int .i64 x.k) ∧ (l.flatMap TV.row)[j * 4 + 1]? = some (.int .i64 x.N) ∧ (l.flatMap TV.row)[j * 4 + 2]? = some (.string x.s) ∧ (l.flatMap TV.row)[j * 4 + 3]? = some (.slice x.a x.len x.cap)
  | [], j, x, h => by simp at h
  | y :: l, 0, x, h => by simp at h; subst h; simp [TV.row]
  | y :: l, j + 1, x, h => by
    have ih := row_at l j x (by simpa using h)
    have hs : ∀ q, ((y :: l).flatMap TV.row)[q + 4]? = (l.flatMap TV.row)[q]? := fun q => by
      rw [List.flatMap_cons, List.getElem?_append_right (by simp [TV.row])]
      simp [TV.row]
    refine ⟨?_, ?_, ?_, ?_⟩
    · rw [show (j + 1) * 4 = j * 4 + 4 by omega, hs]; exact ih.1
    · rw [show (j + 1) * 4 + 1 = j * 4 + 1 + 4 by omega, hs]; exact ih.2.1
    · rw [show (j + 1) * 4 + 2 = j * 4 + 2 + 4 by omega, hs]; exact ih.2.2.1
    · rw [show (j + 1) * 4 + 3 = j * 4 + 3 + 4 by omega, hs]; exact ih.2.2.2
theorem row_len (l : List TV) : (l.flatMap TV.row).length = l.length * 4 := by
  induction l with
  | nil => rfl
  | cons x l ih => rw [List.flatMap_cons, List.length_append, ih]; simp [TV.row]; omega

/-- A row of terms that a call owns: the value, and each term's cells. -/
theorem owns_cells {W : World} {base : Nat} {v : Value} {l : List TV} (h : W.ownsRow base 24 4 v l.length (l.flatMap TV.row)) :
    (v = .slice none 0 0 ∧ l = []) ∨ ∃ g cap, v = .slice (some ⟨g, 0, none⟩) l.length cap ∧ base ≤ g ∧ g < W.heap.size ∧ ∀ j x, l[j]? = some x → cellsAt W g (j * 4) x := by
  obtain ⟨_, h2⟩ := h
  rcases h2 with ⟨hv, hn⟩ | ⟨g, cap, cur, hv, hg, hb, hnc, _, hcs, htk⟩
  · exact .inl ⟨hv, List.length_eq_zero_iff.1 hn⟩
  · refine .inr ⟨g, cap, hv, hg, (Array.getElem?_eq_some_iff.1 hb).1, fun j x hx => ?_⟩
    have hj := (List.getElem?_eq_some_iff.1 hx).1
    have hc : ∀ q u, (l.flatMap TV.row)[q]? = some u → W.cell? ⟨g, q, none⟩ = some u := fun q u hq => by
      rw [← htk, List.getElem?_take] at hq
      split at hq
      · simp [World.cell?, hb]
        simpa using hq
      · cases hq
    obtain ⟨r0, r1, r2, r3⟩ := row_at l j x hx
    exact ⟨hc _ _ r0, hc _ _ r1, hc _ _ r2, hc _ _ r3⟩
theorem owns_below {W W' : World} {base : Nat} {e : TypeId} {sz : Nat} {v : Value} {n : Nat} {xs : List Value} (h : W.ownsRow base e sz v n xs) (hb : ∀ g, v.ownBlock = some g → W'.heap[g]? = W.heap[g]?) : W'.ownsRow base e sz v n xs := by
  obtain ⟨h1, h2⟩ := h
  refine ⟨h1, ?_⟩
  rcases h2 with h2 | ⟨g, cap, cur, hv, hg, hbk, r⟩
  · exact .inl h2
  · subst hv
    exact .inr ⟨g, cap, cur, rfl, hg, (hb g rfl).trans hbk, r⟩
theorem owns_lt {W : World} {base : Nat} {e : TypeId} {sz : Nat} {v : Value} {n : Nat} {xs : List Value} (h : W.ownsRow base e sz v n xs) {g : Nat} (hg : v.ownBlock = some g) : base ≤ g ∧ g < W.heap.size := by
  obtain ⟨h1, h2⟩ := h
  rcases h2 with ⟨hv, _⟩ | ⟨g', cap, cur, hv, hg', hbk, r⟩
  · subst hv; simp [Value.ownBlock] at hg
  · subst hv
    simp [Value.ownBlock] at hg
    subst hg
    exact ⟨hg', (Array.getElem?_eq_some_iff.1 hbk).1⟩

/-- Terms that were made one by one, and whose cells a call keeps in a row of its own: 'v' the row, 'c' their codes. -/
structure Made (D : Nat) (S : Nat → Prop) (base : Nat) (W : World) (v : Value) (l : List TV) (c : List Nd) : Prop where
  owns : W.ownsRow base 24 4 v l.length (l.flatMap TV.row)
  kids : ∀ M, D ≤ M → M ≤ 2199023255552 → ∃ ks : List (Tm M), ks.map Tm.tv = l ∧ (∀ u ∈ ks, IsT W.heap.size W u ∧ BlkT (fun b => v.ownBlock ≠ some b ∧ S b) u) ∧ ks.flatMap code = c
theorem Made.zero (D : Nat) (S : Nat → Prop) (base : Nat) (W : World) : Made D S base W (.slice none 0 0) [] [] :=
  ⟨⟨rfl, .inl ⟨rfl, rfl⟩⟩, fun _ _ _ => ⟨[], rfl, (fun u hu => by cases hu), rfl⟩⟩
/-- One more, behind an append. -/
theorem Made.next {D base : Nat} {S : Nat → Prop} {W W5 w' : World} {v v' : Value} {l : List TV} {c c' : List Nd} {x : TV} (h : Made D S base W v l c) (hb : Below W.heap.size W W5) (hx : HoldsS D (fun b => S b ∧ v.ownBlock ≠ some b) W5 x.val c')
    (hown : w'.ownsRow base 24 4 v' (l.length + 1) (l.flatMap TV.row ++ x.row)) (hg : (W5.alloc (.cells #[.int .i64 x.k, .int .i64 x.N, .string x.s, .slice x.a x.len x.cap] 24)).grownBy w' v.ownBlock)
    (hbk : v'.ownBlock = v.ownBlock ∨ v'.ownBlock = some (W5.heap.size + 1)) : Made D S base w' v' (l ++ [x]) (c ++ c') := by
  refine ⟨by simpa [List.flatMap_append] using hown, fun M hM hlim => ?_⟩
  obtain ⟨ks, k1, k2, k3⟩ := h.kids M hM hlim
  obtain ⟨u, hu, hT, hS, hc⟩ := hx M hM hlim
  have hux : u.tv = x := by
    simp only [TV.val, Value.agg.injEq] at hu
    simp at hu
    obtain ⟨e1, e2, e3, e4, e5, e6⟩ := hu
    cases hy : u.tv; cases x; simp_all
  have hsz : W5.heap.size + 1 ≤ w'.heap.size := by have := hg.size; simpa using this
  have hsame : ∀ b, b < W5.heap.size → v.ownBlock ≠ some b → w'.heap[b]? = W5.heap[b]? := fun b hb1 hne =>
    (hg.block b (by simp; omega) (fun e => hne e.symm)).trans (Below.heap_alloc _ _ _ hb1)
  have key : ∀ z : Tm M, IsT W5.heap.size W5 z → BlkT (fun b => v.ownBlock ≠ some b ∧ S b) z → IsT w'.heap.size w' z ∧ BlkT (fun b => v'.ownBlock ≠ some b ∧ S b) z := fun z hz hzS => by
    have hz2 := hzS.and hz.blk
    refine ⟨(hz.fromS (fun b hb' => hsame b hb'.2 hb'.1.1) hz2).mono (by omega), hz2.mono fun b hb' => ⟨?_, hb'.1.2⟩⟩
    rcases hbk with e | e
    · rw [e]; exact hb'.1.1
    · rw [e]; intro e'; simp at e'; have := hb'.2; omega
  refine ⟨ks ++ [u], by simp [k1, hux], fun z hz => ?_, by simp [k3, hc]⟩
  rcases List.mem_append.1 hz with hz | hz
  · obtain ⟨z1, z2⟩ := k2 z hz
    exact key z ((z1.below hb).mono hb.size) z2
  · simp at hz
    subst hz
    exact key z hT (hS.mono fun b h => ⟨h.2, h.1⟩)
end Go.Proofs.YtjdanfhbccpnpaaDoor

