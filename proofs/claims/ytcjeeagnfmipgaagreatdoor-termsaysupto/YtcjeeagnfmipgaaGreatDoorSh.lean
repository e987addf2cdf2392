import Derived.Test.YtcjeeagnfmipgaaGreatDoorWos
import Derived.Test.YtcjeeagnfmipgaaGreatDoorMbs
/- What hornref.shapes answers (shT), and that with it the document's match is ours. -/
namespace Go.Proofs.YtcjeeagnfmipgaaGreatDoor
open Go.RowKit Go.Shelf Go.Maps

def shV (N : Int) (ct : List Nd) (c : List (Int × List Nd)) : List (Int × List Nd) := if c.any (fun q => decide (q.1 = N)) then c else insK c N ct
def shTop (x y : TV) : Bool := decide (x.k = y.k) && (decide (x.s.toList = y.s.toList) && decide (x.len = y.len))
def shT : {n : Nat} → Tm n → Tm n → List (Int × List Nd) → Bool × List (Int × List Nd)
  | 0, _, _, c => (true, c)
  | _ + 1, p, t, c => if p.tv.k = 1 then (true, shV p.tv.N (code t) c) else if shTop p.tv t.tv then matL shT p.kids t.kids c else (false, c)
theorem shT_var {n : Nat} {p t : Tm (n + 1)} {c : List (Int × List Nd)} (h : p.tv.k = 1) : shT p t c = (true, shV p.tv.N (code t) c) := by
  obtain ⟨x, kids⟩ := p
  simp only [shT]; rw [if_pos h]
theorem shT_same {n : Nat} {p t : Tm (n + 1)} {c : List (Int × List Nd)} (h : ¬ p.tv.k = 1) (hs : shTop p.tv t.tv = true) : shT p t c = matL shT p.kids t.kids c := by
  obtain ⟨x, kids⟩ := p
  simp only [shT]; rw [if_neg h, if_pos hs]
theorem shT_else {n : Nat} {p t : Tm (n + 1)} {c : List (Int × List Nd)} (h : ¬ p.tv.k = 1) (hs : ¬ shTop p.tv t.tv = true) : shT p t c = (false, c) := by
  obtain ⟨x, kids⟩ := p
  simp only [shT]; rw [if_neg h, if_neg hs]
theorem shTop_of {x y : TV} (h : stop x y = true) : shTop x y = true := by
  simp [stop, shTop] at h ⊢
  exact ⟨h.1, h.2.2.1, h.2.2.2⟩
theorem matL_shL {n : Nat} (hf : ∀ (p t : Tm n) (c : List (Int × List Nd)), (matT p t c).1 = true → shT p t (insF c) = (true, insF (matT p t c).2)) : ∀ (ps ts : List (Tm n)) (c : List (Int × List Nd)), (matL matT ps ts c).1 = true → matL shT ps ts (insF c) = (true, insF (matL matT ps ts c).2)
  | [], _, c, _ => by simp [matL]
  | _ :: _, [], c, _ => by simp [matL]
  | p :: ps, t :: ts, c, h => by
    simp only [matL] at h ⊢
    by_cases h1 : (matT p t c).1 = true
    · rw [if_pos h1] at h ⊢
      rw [hf p t c h1]
      simp only [if_true]
      exact matL_shL hf ps ts _ h
    · rw [if_neg h1] at h
      cases h
/-- Where ours matches the document's does, and has the same, in rising order. -/
theorem mat_sh : ∀ {n : Nat} (p t : Tm n) (c : List (Int × List Nd)), (matT p t c).1 = true → shT p t (insF c) = (true, insF (matT p t c).2) := by
  intro n
  induction n with
  | zero => intro p; exact Empty.elim p
  | succ n ih =>
    intro p t c h
    by_cases hk : p.tv.k = 1
    · rw [matT_var hk] at h ⊢
      rw [shT_var hk]
      unfold matV at h ⊢
      unfold shV
      cases hf : c.find? (fun q => decide (q.1 = p.tv.N)) with
      | some q =>
        obtain ⟨h1, h2⟩ := List.find?_eq_some_iff_append.1 hf
        have hany : (insF c).any (fun q => decide (q.1 = p.tv.N)) = true := List.any_eq_true.2 ⟨q, insF_mem.2 (List.mem_of_find?_eq_some hf), h1⟩
        rw [if_pos hany]
      | none =>
        have hno := List.find?_eq_none.1 hf
        have hany : ¬ (insF c).any (fun q => decide (q.1 = p.tv.N)) = true := fun e => by
          obtain ⟨q, hq, hq2⟩ := List.any_eq_true.1 e
          exact hno q (insF_mem.1 hq) hq2
        rw [if_neg hany]
        simp only
        rw [insF_snoc]
    · by_cases hs : stop p.tv t.tv = true
      · rw [matT_same hk hs] at h ⊢
        rw [shT_same hk (shTop_of hs)]
        exact matL_shL ih _ _ _ h
      · rw [matT_else hk hs] at h
        cases h
theorem shL_word {n : Nat} (hf : ∀ (p t : Tm n) (c : List (Int × List Nd)), Wl t → (∀ q ∈ c, Word q.2) → ∀ q ∈ (shT p t c).2, Word q.2) : ∀ (ps ts : List (Tm n)) (c : List (Int × List Nd)), (∀ u ∈ ts, Wl u) → (∀ q ∈ c, Word q.2) → ∀ q ∈ (matL shT ps ts c).2, Word q.2
  | [], _, c, _, h => by simpa [matL] using h
  | _ :: _, [], c, _, h => by simpa [matL] using h
  | p :: ps, t :: ts, c, hw, h => by
    simp only [matL]
    split
    · exact shL_word hf ps ts _ (fun u hu => hw u (by simp [hu])) (hf p t c (hw t (by simp)) h)
    · exact hf p t c (hw t (by simp)) h
theorem shV_mem {N : Int} {ct : List Nd} {c : List (Int × List Nd)} {q : Int × List Nd} (h : q ∈ shV N ct c) : q ∈ c ∨ q = (N, ct) := by
  unfold shV at h
  split at h
  · exact .inl h
  · rcases List.mem_cons.1 ((insK_perm c N ct).mem_iff.1 h) with h | h
    · exact .inr h
    · exact .inl h
theorem sh_word : ∀ {n : Nat} (p t : Tm n) (c : List (Int × List Nd)), Wl t → (∀ q ∈ c, Word q.2) → ∀ q ∈ (shT p t c).2, Word q.2 := by
  intro n
  induction n with
  | zero => intro p; exact Empty.elim p
  | succ n ih =>
    intro p t c hw h
    by_cases hk : p.tv.k = 1
    · rw [shT_var hk]
      intro q hq
      rcases shV_mem hq with hq | hq
      · exact h q hq
      · rw [hq]; exact word_code t hw
    · by_cases hs : shTop p.tv t.tv = true
      · rw [shT_same hk hs]
        exact shL_word ih _ _ _ hw.2 h
      · rw [shT_else hk hs]; exact h
/-- The document's match is ours. -/
theorem sh_mat {n : Nat} {p t : Tm n} (hp : Wl p) (op : okT p = true) (ht : Wl t) (ot : okT t = true) : (matT p t []).1 = true ↔ (shT p t []).1 = true ∧ (code p).flatMap (subN (lookC (shT p t []).2)) = code t := by
  constructor
  · intro h
    have h1 : shT p t [] = (true, insF (matT p t []).2) := mat_sh p t [] h
    have hm := mapC_mat op ht ot
    have hfit : Fits (lookC (matT p t []).2) (matT p t []).2 := fun q hq => look_mem hm.once hq
    rw [h1]
    refine ⟨rfl, ?_⟩
    rw [sub_congr (look_insF hm.once)]
    exact matT_sound p t [] _ hp op h hfit ht
  · rintro ⟨_, h2⟩
    exact (matT_full (word_look (sh_word p t [] ht (fun q hq => by cases hq))) p t [] hp op ht (fun q hq => by cases hq) h2).1
theorem shL_len {n : Nat} (hf : ∀ (p t : Tm n) (c : List (Int × List Nd)), (shT p t c).2.length ≤ c.length + (code p).length) : ∀ (ps ts : List (Tm n)) (c : List (Int × List Nd)), (matL shT ps ts c).2.length ≤ c.length + (ps.flatMap code).length := matL_len hf
theorem sh_len : ∀ {n : Nat} (p t : Tm n) (c : List (Int × List Nd)), (shT p t c).2.length ≤ c.length + (code p).length := by
  intro n
  induction n with
  | zero => intro p; exact Empty.elim p
  | succ n ih =>
    intro p t c
    have hcp := code_kids p
    by_cases hk : p.tv.k = 1
    · rw [shT_var hk, hcp]
      unfold shV
      simp only [List.length_cons]
      split
      · omega
      · rw [insK_len]; omega
    · by_cases hs : shTop p.tv t.tv = true
      · rw [shT_same hk hs, hcp]
        have := shL_len ih p.kids t.kids c
        simp only [List.length_cons]
        omega
      · rw [shT_else hk hs]; simp

/-! ### a box of a slice is no part of a term -/
theorem box_no {W : World} {sb : Nat} {T : TypeId} {a : Option Addr} {l cp : Nat} (h : Boxed W sb T (.slice a l cp)) {b o : Nat} {i : Int} (hc : W.cell? ⟨b, o, none⟩ = some (.int .i64 i)) : b ≠ sb := by
  rintro rfl
  unfold World.cell? at hc
  rw [show W.heap[b]? = _ from h] at hc
  simp only at hc
  cases o with
  | zero => simp at hc
  | succ o => simp at hc
theorem IsT.notBox {W : World} {sb : Nat} {T : TypeId} {a : Option Addr} {l cp : Nat} (h : Boxed W sb T (.slice a l cp)) {n₀ : Nat} : ∀ {n : Nat} {t : Tm n}, IsT n₀ W t → BlkT (fun b => b ≠ sb) t := by
  intro n
  induction n with
  | zero => intro t; exact Empty.elim t
  | succ n ih =>
    intro t ht
    obtain ⟨_, _, _, h4⟩ := ht
    rcases h4 with h4 | ⟨b, off, ha, hb, hk⟩
    · exact ⟨.inl h4, fun u hu => by rw [h4] at hu; cases hu⟩
    · by_cases hn : t.kids = []
      · exact ⟨.inl hn, fun u hu => by rw [hn] at hu; cases hu⟩
      · obtain ⟨u, hu⟩ := List.exists_mem_of_ne_nil _ hn
        obtain ⟨j, hj⟩ := List.mem_iff_getElem?.1 hu
        exact ⟨.inr ⟨b, off, ha, box_no h (hk j u hj).1.1⟩, fun v hv => by
          obtain ⟨i, hi⟩ := List.mem_iff_getElem?.1 hv
          exact ih (hk i v hi).2⟩
theorem isL_set {W : World} {sb : Nat} {T : TypeId} {a0 : Option Addr} {l0 cp0 : Nat} (h : Boxed W sb T (.slice a0 l0 cp0)) (u : Value) {n : Nat} {a : Option Addr} {len : Nat} {bs : List (Int × Tm n)} (hl : IsL W.heap.size W a len bs) : IsL (W.setCell ⟨sb, 0, none⟩ u).heap.size (W.setCell ⟨sb, 0, none⟩ u) a len bs := by
  obtain ⟨h1, h2, h3⟩ := hl
  refine ⟨h1, h2, ?_⟩
  rcases h3 with h3 | ⟨b, off, ha, hb, hk⟩
  · exact .inl h3
  · refine .inr ⟨b, off, ha, by simpa using hb, fun j p hp => ?_⟩
    obtain ⟨k1, k2, k3⟩ := hk j p hp
    have hne := box_no h k1
    have hbk : (W.setCell ⟨sb, 0, none⟩ u).heap[b]? = W.heap[b]? := Below.heap_setCell _ _ _ _ (by simpa using hne)
    refine ⟨(World.cell?_of_block (w := W) (a := ⟨b, off + j * 5, none⟩) hbk).trans k1, k2.kept hbk, ?_⟩
    have := k3.fromS (B := W.setCell ⟨sb, 0, none⟩ u) (fun b' hb' => Below.heap_setCell _ _ _ _ (by simpa using hb')) (k3.notBox h)
    simpa using this
theorem out_set {D : Nat} {W : World} {sb : Nat} {T : TypeId} {a0 : Option Addr} {l0 cp0 : Nat} (h : Boxed W sb T (.slice a0 l0 cp0)) (u : Value) {v : Value} {k : Nat} {c : List (Int × List Nd)} (ho : OutB D W v k c) : OutB D (W.setCell ⟨sb, 0, none⟩ u) v k c := by
  obtain ⟨a, len, cap, l, h1, h2, h3⟩ := ho
  refine ⟨a, len, cap, l, h1, ⟨h2.1, fun M hM hlm => ?_⟩, h3⟩
  obtain ⟨ks, k1, k2, k3⟩ := h2.2 M hM hlm
  exact ⟨ks, isL_set h u k1, k2, k3⟩
/-- The list under way: the box that holds it, and itself. -/
def ShI (D sb : Nat) (c : List (Int × List Nd)) (W : World) : Prop := ∃ a l cp, Boxed W sb 32 (.slice a l cp) ∧ OutB D W (.slice a l cp) c.length c
theorem ShI.below {D sb : Nat} {c : List (Int × List Nd)} {W W' : World} (h : ShI D sb c W) (hb : Below W.heap.size W W') : ShI D sb c W' := by
  obtain ⟨a, l, cp, h1, h2⟩ := h
  exact ⟨a, l, cp, (hb.block sb h1.lt).trans h1, h2.below hb⟩
theorem ShI.lt {D sb : Nat} {c : List (Int × List Nd)} {W : World} (h : ShI D sb c W) : sb < W.heap.size := by
  obtain ⟨a, l, cp, h1, h2⟩ := h
  exact h1.lt
end Go.Proofs.YtcjeeagnfmipgaaGreatDoor

