import Derived.Test.YtcjeeagnfmipgaaDoorMt
/- Plain mathematics of matT, sorted rows by their members, and what a list of binds keeps while a map is ranged over. -/
namespace Go.Proofs.YtcjeeagnfmipgaaDoor
open Go.RowKit Go.Shelf Go.Maps

/-- Two sorted rows with the same members, no key twice, are one. -/
theorem up_ext {β : Type} : ∀ {a b : List (Int × β)}, Up a → Once a → Up b → Once b → (∀ q, q ∈ a ↔ q ∈ b) → a = b
  | [], [], _, _, _, _, _ => rfl
  | [], y :: b, _, _, _, _, h => by have := (h y).2 (by simp); cases this
  | x :: a, [], _, _, _, _, h => by have := (h x).1 (by simp); cases this
  | x :: a, y :: b, ua, oa, ub, ob, h => by
    have hxy : x = y := by
      rcases List.mem_cons.1 ((h x).1 (by simp)) with e | e
      · exact e
      · rcases List.mem_cons.1 ((h y).2 (by simp)) with e' | e'
        · exact e'.symm
        · have h1 := (List.pairwise_cons.1 ub).1 x e
          have h2 := (List.pairwise_cons.1 ua).1 y e'
          have h3 := (List.pairwise_cons.1 oa).1 y e'
          omega
    subst hxy
    congr 1
    refine up_ext (List.pairwise_cons.1 ua).2 (List.pairwise_cons.1 oa).2 (List.pairwise_cons.1 ub).2 (List.pairwise_cons.1 ob).2 fun q => ?_
    constructor
    · intro hq
      rcases List.mem_cons.1 ((h q).1 (by simp [hq])) with e | e
      · subst e; exact ((List.pairwise_cons.1 oa).1 q hq rfl).elim
      · exact e
    · intro hq
      rcases List.mem_cons.1 ((h q).2 (by simp [hq])) with e | e
      · subst e; exact ((List.pairwise_cons.1 ob).1 q hq rfl).elim
      · exact e
theorem insF_mem {β : Type} {l : List (Int × β)} {q : Int × β} : q ∈ insF l ↔ q ∈ l := (insF_perm l).mem_iff
theorem insF_once {β : Type} {l : List (Int × β)} (h : Once l) : Once (insF l) := ((insF_perm l).pairwise_iff (fun {_ _} hne => Ne.symm hne)).2 h
theorem insF_same {β : Type} {a b : List (Int × β)} (ha : Once a) (hb : Once b) (h : ∀ q, q ∈ a ↔ q ∈ b) : insF a = insF b :=
  up_ext (insF_up a) (insF_once ha) (insF_up b) (insF_once hb) (fun q => by rw [insF_mem, insF_mem, h q])

/-- Whether a part is well made, by its node. -/
def okNd : Nd → Bool
  | (k, N, s, len) =>
    if k = 1 then decide (0 ≤ N) && decide (N ≤ 1099511627776) && decide (s = []) && ((len : Int) == 0)
    else if k = 2 then decide (s = []) && ((len : Int) == 0)
    else if k = 3 then decide (N = 0) && decide ((s.length : Int) ≤ 100) && ((len : Int) == 0)
    else if k = 4 then decide (N = 0) && decide ((s.length : Int) ≤ 100) && decide (1 ≤ (len : Int)) && decide ((len : Int) ≤ 50)
    else false
theorem bytes_len (s : ByteArray) : s.toList.length = s.size := by rw [ByteArray.toList_eq]; simp
theorem ok_nd (x : TV) : x.ok = okNd x.nd := by
  show wmB x.k x.N x.s x.len = okNd (x.k, x.N, x.s.toList, x.len)
  unfold wmB okNd
  rw [← bytes_len]
theorem matT_var {n : Nat} {p t : Tm (n + 1)} {c : List (Int × List Nd)} (h : p.tv.k = 1) : matT p t c = matV p.tv.N (code t) c := by
  obtain ⟨x, kids⟩ := p
  simp only [matT]; rw [if_pos h]
theorem matT_same {n : Nat} {p t : Tm (n + 1)} {c : List (Int × List Nd)} (h : ¬ p.tv.k = 1) (hs : stop p.tv t.tv = true) : matT p t c = matL matT p.kids t.kids c := by
  obtain ⟨x, kids⟩ := p
  simp only [matT]; rw [if_neg h, if_pos hs]
theorem matT_else {n : Nat} {p t : Tm (n + 1)} {c : List (Int × List Nd)} (h : ¬ p.tv.k = 1) (hs : ¬ stop p.tv t.tv = true) : matT p t c = (false, c) := by
  obtain ⟨x, kids⟩ := p
  simp only [matT]; rw [if_neg h, if_neg hs]
theorem code_kids {n : Nat} (p : Tm (n + 1)) : code p = p.tv.nd :: p.kids.flatMap code := by
  obtain ⟨x, kids⟩ := p
  exact code_succ x kids
theorem ok_kids' {n : Nat} {p : Tm (n + 1)} (h : okT p = true) : ∀ u ∈ p.kids, okT u = true := by
  obtain ⟨x, kids⟩ := p
  exact (ok_kids h).2
theorem okT_code {n : Nat} (t : Tm n) : okT t = (code t).all okNd := by
  unfold okT code
  rw [List.all_map]
  congr 1
  funext x
  exact ok_nd x

theorem matV_len (N : Int) (ct : List Nd) (c : List (Int × List Nd)) : (matV N ct c).2.length ≤ c.length + 1 := by
  unfold matV
  split <;> simp
theorem matL_len {n : Nat} {f : Tm n → Tm n → List (Int × List Nd) → Bool × List (Int × List Nd)} (hf : ∀ p t c, (f p t c).2.length ≤ c.length + (code p).length) : ∀ (ps ts : List (Tm n)) (c : List (Int × List Nd)), (matL f ps ts c).2.length ≤ c.length + (ps.flatMap code).length
  | [], _, c => by simp [matL]
  | p :: ps, [], c => by simp [matL]
  | p :: ps, t :: ts, c => by
    have h1 := hf p t c
    have h2 := matL_len hf ps ts (f p t c).2
    simp only [matL, List.flatMap_cons, List.length_append]
    split
    · omega
    · simp only; omega
theorem matT_len : ∀ {n : Nat} (p t : Tm n) (c : List (Int × List Nd)), (matT p t c).2.length ≤ c.length + (code p).length
  | 0, p, _, _ => Empty.elim p
  | n + 1, p, t, c => by
    have h1 := matV_len p.tv.N (code t) c
    have h2 := matL_len (fun p t c => matT_len (n := n) p t c) p.kids t.kids c
    rw [code_kids, List.length_cons]
    by_cases hk : p.tv.k = 1
    · rw [matT_var hk]; omega
    · by_cases hs : stop p.tv t.tv = true
      · rw [matT_same hk hs]; omega
      · rw [matT_else hk hs]; simp only; omega
/-- What the map gets are parts of t. -/
theorem matL_ok {n : Nat} {f : Tm n → Tm n → List (Int × List Nd) → Bool × List (Int × List Nd)} (hf : ∀ p t c, okT t = true → (∀ q ∈ c, q.2.all okNd = true) → ∀ q ∈ (f p t c).2, q.2.all okNd = true) : ∀ (ps ts : List (Tm n)) (c : List (Int × List Nd)), (∀ t ∈ ts, okT t = true) → (∀ q ∈ c, q.2.all okNd = true) → ∀ q ∈ (matL f ps ts c).2, q.2.all okNd = true
  | [], _, c, _, h => by simpa [matL] using h
  | p :: ps, [], c, _, h => by simpa [matL] using h
  | p :: ps, t :: ts, c, ht, h => by
    have h1 := hf p t c (ht t (by simp)) h
    simp only [matL]
    split
    · exact matL_ok hf ps ts _ (fun u hu => ht u (by simp [hu])) h1
    · exact h1
theorem matT_ok : ∀ {n : Nat} (p t : Tm n) (c : List (Int × List Nd)), okT t = true → (∀ q ∈ c, q.2.all okNd = true) → ∀ q ∈ (matT p t c).2, q.2.all okNd = true
  | 0, p, _, _, _, _ => Empty.elim p
  | n + 1, p, t, c, ht, h => by
    have hk := ok_kids' ht
    have h2 := matL_ok (fun p t c => matT_ok (n := n) p t c) p.kids t.kids c hk h
    by_cases hk : p.tv.k = 1
    · rw [matT_var hk]
      unfold matV
      split
      · exact h
      · intro q hq
        rcases List.mem_append.1 hq with hq | hq
        · exact h q hq
        · simp at hq; subst hq; rw [← okT_code]; exact ht
    · by_cases hs : stop p.tv t.tv = true
      · rw [matT_same hk hs]; exact h2
      · rw [matT_else hk hs]; exact h

/-- A list of binds in memory of its own, while another block is changed. -/
theorem MadeB.grown {D base : Nat} {W W' : World} {v : Value} {l : List (Int × TV)} {c : List (Int × List Nd)} {r : Nat} (h : MadeB D (base ≤ ·) base W v l c) (hg : W.grownBy W' (some r)) (hr : r < base) : MadeB D (base ≤ ·) base W' v l c :=
  ⟨owns_below h.owns (fun g hg' => hg.block g (owns_lt h.owns hg').2 (by have := (owns_lt h.owns hg').1; simp; omega)), fun M hM hlm => by
    obtain ⟨ks, k1, k2, k3⟩ := h.kids M hM hlm
    refine ⟨ks, k1, fun p hp => ?_, k3⟩
    obtain ⟨z1, z2⟩ := k2 p hp
    have z3 := z2.and z1.blk
    exact ⟨(z1.fromS (fun b hb => hg.block b hb.2 (by have := hb.1.2; simp; omega)) z3).mono hg.size, z2⟩⟩
end Go.Proofs.YtcjeeagnfmipgaaDoor

