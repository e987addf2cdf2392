import Derived.Test.YtcjeeagnfmipgaaDoorZ
/- Binds that were made one by one, in a row that a call owns (MadeB). -/
namespace Go.Proofs.YtcjeeagnfmipgaaDoor
open Go.RowKit Go.Shelf

/-- A bind's five cells. -/
def bRow (p : Int × TV) : List Value := .int .i64 p.1 :: p.2.row
theorem bRow_at : ∀ (l : List (Int × TV)) (j : Nat) (p : Int × TV), l[j]? = some p → ∀ q u, (bRow p)[q]? = some u → (l.flatMap bRow)[j * 5 + q]? = some u
  | [], j, p, h => by simp at h
  | y :: l, 0, p, h => by
    intro q u hu
    simp at h; subst h
    rw [List.flatMap_cons, List.getElem?_append_left (by have := (List.getElem?_eq_some_iff.1 hu).1; simpa [bRow, TV.row] using this)]
    simpa using hu
  | y :: l, j + 1, p, h => by
    intro q u hu
    have ih := bRow_at l j p (by simpa using h) q u hu
    rw [List.flatMap_cons, List.getElem?_append_right (by simp [bRow, TV.row]; omega)]
    rw [show (j + 1) * 5 + q - (bRow y).length = j * 5 + q by simp [bRow, TV.row]; omega]
    exact ih
theorem bRow_one : ∀ (l : List (Int × TV)), ∀ u ∈ l.flatMap bRow, u.oneCell' = true := by
  intro l u hu
  obtain ⟨p, _, hp⟩ := List.mem_flatMap.1 hu
  simp [bRow, TV.row] at hp
  rcases hp with rfl | rfl | rfl | rfl | rfl <;> rfl
theorem bRow_len (l : List (Int × TV)) : (l.flatMap bRow).length = l.length * 5 := by
  induction l with
  | nil => rfl
  | cons x l ih => rw [List.flatMap_cons, List.length_append, ih]; simp [bRow, TV.row]; omega

structure MadeB (D : Nat) (S : Nat → Prop) (base : Nat) (W : World) (v : Value) (l : List (Int × TV)) (c : List (Int × List Nd)) : Prop where
  owns : W.ownsRow base 47 5 v l.length (l.flatMap bRow)
  kids : ∀ M, D ≤ M → M ≤ 2199023255552 → ∃ ks : List (Int × Tm M), ks.map (fun p => (p.1, p.2.tv)) = l ∧ (∀ p ∈ ks, IsT W.heap.size W p.2 ∧ BlkT (fun b => v.ownBlock ≠ some b ∧ S b) p.2) ∧ cb ks = c
theorem MadeB.zero (D : Nat) (S : Nat → Prop) (base : Nat) (W : World) : MadeB D S base W (.slice none 0 0) [] [] :=
  ⟨⟨rfl, .inl ⟨rfl, rfl⟩⟩, fun _ _ _ => ⟨[], rfl, (fun u hu => by cases hu), rfl⟩⟩

/-- It is a list of binds in memory. -/
theorem MadeB.isL {D : Nat} {S : Nat → Prop} {base : Nat} {W : World} {v : Value} {l : List (Int × TV)} {c : List (Int × List Nd)} (h : MadeB D S base W v l c) (hl : l.length ≤ 1152921504606846976) :
    ∃ a cap, v = .slice a l.length cap ∧ ∀ M, D ≤ M → M ≤ 2199023255552 → ∃ ks : List (Int × Tm M), IsL W.heap.size W a l.length ks ∧ cb ks = c ∧ ks.map (fun p => (p.1, p.2.tv)) = l ∧ ∀ p ∈ ks, BlkT (fun b => v.ownBlock ≠ some b ∧ S b) p.2 := by
  obtain ⟨_, h2⟩ := h.owns
  rcases h2 with ⟨hv, hn⟩ | ⟨g, cap, cur, hv, hg, hb, hnc, _, hcs, htk⟩
  · have hnil : l = [] := List.length_eq_zero_iff.1 hn
    subst hnil
    refine ⟨none, 0, hv, fun M hM hlm => ?_⟩
    obtain ⟨ks, k1, k2, k3⟩ := h.kids M hM hlm
    have hk : ks = [] := by simpa using k1
    exact ⟨ks, ⟨by simp [hk], by simp, .inl hk⟩, k3, k1, fun p hp => (k2 p hp).2⟩
  · refine ⟨some ⟨g, 0, none⟩, cap, hv, fun M hM hlm => ?_⟩
    obtain ⟨ks, k1, k2, k3⟩ := h.kids M hM hlm
    have hkl : l.length = ks.length := by rw [← k1]; simp
    have hc : ∀ q u, (l.flatMap bRow)[q]? = some u → W.cell? ⟨g, q, none⟩ = some u := fun q u hq => by
      rw [← htk, List.getElem?_take] at hq
      split at hq
      · simp [World.cell?, hb]
        simpa using hq
      · cases hq
    refine ⟨ks, ⟨hkl, by omega, .inr ⟨g, 0, rfl, (Array.getElem?_eq_some_iff.1 hb).1, fun j p hp => ?_⟩⟩, k3, k1, fun p hp => (k2 p hp).2⟩
    have hlj : l[j]? = some (p.1, p.2.tv) := by rw [← k1, List.getElem?_map, hp]; rfl
    have hr := bRow_at l j _ hlj
    rw [Nat.zero_add]
    refine ⟨hc _ _ (by simpa using hr 0 _ rfl), ⟨hc _ _ (hr 1 _ rfl), hc _ _ (hr 2 _ rfl), hc _ _ (hr 3 _ rfl), hc _ _ (hr 4 _ rfl)⟩, (k2 p (List.mem_of_getElem? hp)).1⟩

/-- More of them, behind an append. -/
theorem MadeB.next {D base : Nat} {S : Nat → Prop} {W W6 w' : World} {v v' : Value} {l l' : List (Int × TV)} {c c' : List (Int × List Nd)} (h : MadeB D S base W v l c) (hb : Below W.heap.size W W6)
    (hx : ∀ M, D ≤ M → M ≤ 2199023255552 → ∃ ks : List (Int × Tm M), ks.map (fun p => (p.1, p.2.tv)) = l' ∧ (∀ p ∈ ks, IsT W6.heap.size W6 p.2 ∧ BlkT (fun b => v.ownBlock ≠ some b ∧ S b) p.2) ∧ cb ks = c')
    (hown : w'.ownsRow base 47 5 v' (l.length + l'.length) (l.flatMap bRow ++ l'.flatMap bRow)) (hg : W6.grownBy w' v.ownBlock)
    (hbk : v'.ownBlock = v.ownBlock ∨ v'.ownBlock = some W6.heap.size) : MadeB D S base w' v' (l ++ l') (c ++ c') := by
  refine ⟨by simpa [List.flatMap_append] using hown, fun M hM hlm => ?_⟩
  obtain ⟨ks, k1, k2, k3⟩ := h.kids M hM hlm
  obtain ⟨ks', j1, j2, j3⟩ := hx M hM hlm
  have key : ∀ z : Tm M, IsT W6.heap.size W6 z → BlkT (fun b => v.ownBlock ≠ some b ∧ S b) z → IsT w'.heap.size w' z ∧ BlkT (fun b => v'.ownBlock ≠ some b ∧ S b) z := fun z hz hzS => by
    have hz2 := hzS.and hz.blk
    refine ⟨(hz.fromS (fun b hb' => hg.block b hb'.2 (fun e => hb'.1.1 e.symm)) hz2).mono hg.size, hz2.mono fun b hb' => ⟨?_, hb'.1.2⟩⟩
    rcases hbk with e | e
    · rw [e]; exact hb'.1.1
    · rw [e]; intro e'; simp at e'; have := hb'.2; omega
  refine ⟨ks ++ ks', by simp [k1, j1], fun p hp => ?_, by unfold cb at *; simp [k3, j3]⟩
  rcases List.mem_append.1 hp with hp | hp
  · obtain ⟨z1, z2⟩ := k2 p hp
    exact key p.2 ((z1.below hb).mono hb.size) z2
  · obtain ⟨z1, z2⟩ := j2 p hp
    exact key p.2 z1 z2
theorem MadeB.below {D base : Nat} {S : Nat → Prop} {W W' : World} {v : Value} {l : List (Int × TV)} {c : List (Int × List Nd)} (h : MadeB D S base W v l c) (hb : Below W.heap.size W W') : MadeB D S base W' v l c :=
  ⟨owns_below h.owns (fun g hg => hb.block g (owns_lt h.owns hg).2), fun M hM hlm => by
    obtain ⟨ks, k1, k2, k3⟩ := h.kids M hM hlm
    exact ⟨ks, k1, fun p hp => ⟨((k2 p hp).1.below hb).mono hb.size, (k2 p hp).2⟩, k3⟩⟩
theorem MadeB.mono {D D' base : Nat} {S S' : Nat → Prop} {W : World} {v : Value} {l : List (Int × TV)} {c : List (Int × List Nd)} (h : MadeB D S base W v l c) (hD : D ≤ D') (hS : ∀ b, S b → S' b) : MadeB D' S' base W v l c :=
  ⟨h.owns, fun M hM hlm => by
    obtain ⟨ks, k1, k2, k3⟩ := h.kids M (by omega) hlm
    exact ⟨ks, k1, fun p hp => ⟨(k2 p hp).1, (k2 p hp).2.mono fun b hb => ⟨hb.1, hS b hb.2⟩⟩, k3⟩⟩

theorem Tryd.info_bind : (Tryd.prog.info? 47).map (fun i => (i.zero, i.size, i.bytes)) = some (some (.agg #[.int .i64 0, .int .i64 0, .int .i64 0, .string ⟨#[]⟩, .slice none 0 0]), 5, 64) := by kernel_rfl
/-- The cells of one new bind, laid in a block of its own. -/
theorem new_bind {W5 : World} {V : Int} {x : TV} : ∀ j u, ([(V, x)].flatMap bRow)[j]? = some u → (W5.alloc (.cells #[.int .i64 V, .int .i64 x.k, .int .i64 x.N, .string x.s, .slice x.a x.len x.cap] 47)).cell? ((⟨W5.heap.size, 0, none⟩ : Addr).add j) = some u := by
  intro j u hj
  rw [addr_add, Nat.zero_add]
  match j, hj with
  | 0, hj => simp [bRow, TV.row] at hj; subst hj; simp
  | 1, hj => simp [bRow, TV.row] at hj; subst hj; simp
  | 2, hj => simp [bRow, TV.row] at hj; subst hj; simp
  | 3, hj => simp [bRow, TV.row] at hj; subst hj; simp
  | 4, hj => simp [bRow, TV.row] at hj; subst hj; simp
  | j + 5, hj => simp [bRow, TV.row] at hj
end Go.Proofs.YtcjeeagnfmipgaaDoor

