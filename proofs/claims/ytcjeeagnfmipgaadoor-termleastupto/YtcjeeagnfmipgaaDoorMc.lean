import Derived.Test.YtcjeeagnfmipgaaDoorSus
/- The contract of term.Match by codes. -/
namespace Go.Proofs.YtcjeeagnfmipgaaDoor
open Go.RowKit Go.Shelf Go.Maps

/-- What holds of the map from the beginning, and goes on when a variable of p that is new gets a part of t. -/
theorem matL_inv {n : Nat} {P : List (Int × List Nd) → Prop} (hf : ∀ (p t : Tm n) (c : List (Int × List Nd)), okT p = true → Wl t → okT t = true → P c → P (matT p t c).2) : ∀ (ps ts : List (Tm n)) (c : List (Int × List Nd)), (∀ u ∈ ps, okT u = true) → (∀ u ∈ ts, Wl u) → (∀ u ∈ ts, okT u = true) → P c → P (matL matT ps ts c).2
  | [], _, c, _, _, _, h => by simpa [matL] using h
  | p :: ps, [], c, _, _, _, h => by simpa [matL] using h
  | p :: ps, t :: ts, c, hp, hw, ht, h => by
    have h1 := hf p t c (hp p (by simp)) (hw t (by simp)) (ht t (by simp)) h
    simp only [matL]
    split
    · exact matL_inv hf ps ts _ (fun u hu => hp u (by simp [hu])) (fun u hu => hw u (by simp [hu])) (fun u hu => ht u (by simp [hu])) h1
    · exact h1
theorem matT_inv {P : List (Int × List Nd) → Prop} (hV : ∀ (N : Int) (ct : List Nd) (c : List (Int × List Nd)), P c → (0 ≤ N ∧ N ≤ 1099511627776) → okC ct → Word ct → (¬ ∃ q ∈ c, q.1 = N) → P (c ++ [(N, ct)])) : ∀ {n : Nat} (p t : Tm n) (c : List (Int × List Nd)), okT p = true → Wl t → okT t = true → P c → P (matT p t c).2
  | 0, p, _, _, _, _, _, _ => Empty.elim p
  | n + 1, p, t, c, ho, hw, ht, h => by
    by_cases hk : p.tv.k = 1
    · rw [matT_var hk]
      unfold matV
      by_cases hq : ∃ q ∈ c, q.1 = p.tv.N
      · obtain ⟨q, hf, _⟩ := find_key hq
        rw [hf]; exact h
      · rw [find_no hq]
        have h2 : okNd p.tv.nd = true := by
          rw [okT_code, code_kids] at ho
          simp only [List.all_cons, Bool.and_eq_true] at ho
          exact ho.1
        exact hV _ _ _ h (okNd_var h2 hk).1 (by unfold okC; rw [← okT_code]; exact ht) (word_code t hw) hq
    · by_cases hs : stop p.tv t.tv = true
      · rw [matT_same hk hs]
        exact matL_inv (fun p t c h1 h2 h3 h4 => matT_inv hV (n := n) p t c h1 h2 h3 h4) p.kids t.kids c (ok_kids' ho) hw.2 (ok_kids' ht) h
      · rw [matT_else hk hs]; exact h
/-- The map of a match: a substitution. -/
structure MapC (c : List (Int × List Nd)) : Prop where
  once : Once c
  key : ∀ q ∈ c, 0 ≤ q.1 ∧ q.1 ≤ 1099511627776
  ok : ∀ q ∈ c, okC q.2
  word : ∀ q ∈ c, Word q.2
theorem mapC_mat {n : Nat} {p t : Tm n} (ho : okT p = true) (hw : Wl t) (ht : okT t = true) : MapC (matT p t []).2 := by
  refine matT_inv (P := MapC) (fun N ct c h hN hok hwd hno => ?_) p t [] ho hw ht ⟨List.Pairwise.nil, (fun q hq => by cases hq), (fun q hq => by cases hq), (fun q hq => by cases hq)⟩
  refine ⟨?_, fun q hq => ?_, fun q hq => ?_, fun q hq => ?_⟩
  · unfold Once
    rw [List.pairwise_append]
    refine ⟨h.once, by simp, fun a ha b hb => ?_⟩
    simp at hb; subst hb
    exact fun e => hno ⟨a, ha, e⟩
  · rcases List.mem_append.1 hq with hq | hq
    · exact h.key q hq
    · simp at hq; subst hq; exact hN
  · rcases List.mem_append.1 hq with hq | hq
    · exact h.ok q hq
    · simp at hq; subst hq; exact hok
  · rcases List.mem_append.1 hq with hq | hq
    · exact h.word q hq
    · simp at hq; subst hq; exact hwd
theorem look_insF {c : List (Int × List Nd)} (h : Once c) (N : Int) : lookC (insF c) N = lookC c N := by
  rcases look_or c N with ⟨q, hq, rfl⟩ | hno
  · rw [look_mem h hq, look_mem (insF_once h) (insF_mem.2 hq)]
  · rw [look_no hno, look_no fun q hq => hno q (insF_mem.1 hq)]
theorem MapC.sub {c : List (Int × List Nd)} (h : MapC c) : SubC (insF c) :=
  ⟨fun q hq => h.ok q (insF_mem.1 hq), fun q hq => h.key q (insF_mem.1 hq), once_rise (insF_once h.once) (insF_up _)⟩

/-- There is a substitution that makes the one the other. -/
def Matches (c c' : List Nd) : Prop := ∃ σ : Int → List Nd, (∀ N, Word (σ N)) ∧ c.flatMap (subN σ) = c'
theorem match_c {D : Nat} {W : World} {v v' : Value} {c c' : List Nd} (h : TC D W v c) (h' : TC D W v' c') (ho : okC c) (ho' : okC c') (hbig : c.length ≤ 4194304) (hD39 : D ≤ 549755813888 := by omega) :
    Calls Tryd.prog 6 #[v, v'] W fun e W' => ∃ (la : Option Addr) (ll lc : Nat) (f : Bool), e = .returned (.tuple #[.slice la ll lc, .bool f, .int .i64 0]) ∧ Below W.heap.size W W' ∧ (f = true ↔ Matches c c') ∧ (f = true → ∃ cm, LV (D + 1) W' (.slice la ll lc) c.length cm ∧ SubC cm ∧ c.flatMap (subN (lookC cm)) = c') := by
  obtain ⟨p, rfl, hp, _, rfl⟩ := h.2 D (Nat.le_refl _) h.1
  obtain ⟨t, rfl, ht, _, rfl⟩ := h'.2 D (Nat.le_refl _) h'.1
  have op : okT p = true := by rw [okT_code]; exact ho
  have ot : okT t = true := by rw [okT_code]; exact ho'
  have hm := mapC_mat op ht.wl ot
  have hfit : Fits (lookC (matT p t []).2) (matT p t []).2 := fun q hq => look_mem hm.once hq
  refine (match_any p t W hp ht op ot hbig hD39).mono fun e W' hh => ?_
  obtain ⟨la, ll, lc, e1, e2, e3⟩ := hh
  refine ⟨la, ll, lc, _, e1, e2, ⟨fun h => ⟨_, word_look hm.word, matT_sound p t [] _ hp.wl op h hfit ht.wl⟩, fun ⟨σ, h1, h2⟩ => (matT_full h1 p t [] hp.wl op ht.wl (fun q hq => by cases hq) h2).1⟩, fun h => ⟨_, (e3 h).lv, hm.sub, ?_⟩⟩
  rw [sub_congr (look_insF hm.once)]
  exact matT_sound p t [] _ hp.wl op h hfit ht.wl
end Go.Proofs.YtcjeeagnfmipgaaDoor

