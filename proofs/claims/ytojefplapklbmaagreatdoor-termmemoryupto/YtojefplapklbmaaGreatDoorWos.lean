import Derived.Test.YtojefplapklbmaaGreatDoorMes
import Derived.Test.YtojefplapklbmaaGreatDoorNms
import Derived.Test.YtojefplapklbmaaGreatDoorNss
/- Codes of terms as words that can be read one after another; what matT says: just if there is a substitution. -/
namespace Go.Proofs.YtojefplapklbmaaGreatDoor
open Go.RowKit Go.Shelf Go.Maps

/-- k terms are read off a row of parts: what is left. -/
def runW : Nat → List Nd → Option (List Nd)
  | 0, l => some l
  | _ + 1, [] => none
  | k + 1, x :: l => runW (k + x.2.2.2) l
def Word (l : List Nd) : Prop := runW 1 l = some []
theorem runW_append : ∀ (A : List Nd) (k : Nat) (B R : List Nd), runW k A = some B → runW k (A ++ R) = some (B ++ R)
  | A, 0, B, R, h => by simp [runW] at h ⊢; rw [h]
  | [], k + 1, B, R, h => by simp [runW] at h
  | x :: A, k + 1, B, R, h => by
    simp only [runW, List.cons_append] at h ⊢
    exact runW_append A _ B R h
theorem runW_add : ∀ (A : List Nd) (j k : Nat) (R : List Nd), runW j A = some [] → runW (k + j) (A ++ R) = runW k R
  | A, 0, k, R, h => by
    simp [runW] at h
    subst h
    rfl
  | [], j + 1, k, R, h => by simp [runW] at h
  | x :: A, j + 1, k, R, h => by
    simp only [runW] at h
    show runW (k + j + x.2.2.2) (A ++ R) = runW k R
    rw [Nat.add_assoc]
    exact runW_add A _ k R h
/-- Two words ahead of something: the same words. -/
theorem word_same {A B R R' : List Nd} (hA : Word A) (hB : Word B) (h : A ++ R = B ++ R') : A = B ∧ R = R' := by
  have h1 := runW_append A 1 [] R hA
  have h2 := runW_append B 1 [] R' hB
  rw [h] at h1
  rw [h1] at h2
  simp only [List.nil_append, Option.some.injEq] at h2
  subst h2
  exact ⟨List.append_cancel_right h, rfl⟩
theorem word_kids {n : Nat} (hk : ∀ u : Tm n, Wl u → Word (code u)) : ∀ (kids : List (Tm n)), (∀ u ∈ kids, Wl u) → runW kids.length (kids.flatMap code) = some []
  | [], _ => rfl
  | u :: kids, h => by
    rw [List.flatMap_cons, List.length_cons, runW_add _ 1 _ _ (hk u (h u (by simp)))]
    exact word_kids hk kids fun v hv => h v (by simp [hv])
theorem word_code : ∀ {n : Nat} (t : Tm n), Wl t → Word (code t)
  | 0, t, _ => Empty.elim t
  | n + 1, t, h => by
    obtain ⟨h1, h2⟩ := h
    unfold Word
    rw [code_kids]
    simp only [runW]
    have : (0 + t.tv.nd.2.2.2) = t.kids.length := by simp [TV.nd, h1]
    rw [this]
    exact word_kids (fun u hu => word_code u hu) t.kids h2
/-- Words in the place of variables: a word. -/
theorem runW_sub {σ : Int → List Nd} (hσ : ∀ N, Word (σ N)) : ∀ (A : List Nd) (k : Nat), (∀ x ∈ A, vOk x) → runW k A = some [] → runW k (A.flatMap (subN σ)) = some []
  | A, 0, _, h => by simp only [runW, Option.some.injEq] at h; subst h; rfl
  | [], k + 1, _, h => by simp [runW] at h
  | x :: A, k + 1, hv, h => by
    simp only [runW] at h
    rw [List.flatMap_cons]
    unfold subN
    by_cases hx : x.1 = 1
    · rw [if_pos hx]
      have h0 : x.2.2.2 = 0 := by have := hv x (by simp) hx; rw [this]
      rw [h0] at h
      rw [runW_add _ 1 k _ (hσ _)]
      exact runW_sub hσ A k (fun y hy => hv y (by simp [hy])) h
    · rw [if_neg hx]
      simp only [List.cons_append, List.nil_append, runW]
      exact runW_sub hσ A _ (fun y hy => hv y (by simp [hy])) h
theorem word_sub {σ : Int → List Nd} (hσ : ∀ N, Word (σ N)) {A : List Nd} (hv : ∀ x ∈ A, vOk x) (h : Word A) : Word (A.flatMap (subN σ)) := runW_sub hσ A 1 hv h
theorem word_var (N : Int) : Word [varNd N] := rfl
theorem word_look {c : List (Int × List Nd)} (h : ∀ q ∈ c, Word q.2) (N : Int) : Word (lookC c N) := by
  unfold lookC
  split
  · rename_i p hp; exact h p (List.mem_of_find?_eq_some hp)
  · exact word_var N

theorem matV_mono (N : Int) (ct : List Nd) (c : List (Int × List Nd)) : ∀ q ∈ c, q ∈ (matV N ct c).2 := by
  unfold matV
  split
  · exact fun q h => h
  · exact fun q h => List.mem_append_left _ h
theorem matL_mono {n : Nat} {f : Tm n → Tm n → List (Int × List Nd) → Bool × List (Int × List Nd)} (hf : ∀ p t c, ∀ q ∈ c, q ∈ (f p t c).2) : ∀ (ps ts : List (Tm n)) (c : List (Int × List Nd)), ∀ q ∈ c, q ∈ (matL f ps ts c).2
  | [], _, c => by simp [matL]
  | p :: ps, [], c => by simp [matL]
  | p :: ps, t :: ts, c => fun q hq => by
    simp only [matL]
    split
    · exact matL_mono hf ps ts _ q (hf p t c q hq)
    · exact hf p t c q hq
theorem matT_mono : ∀ {n : Nat} (p t : Tm n) (c : List (Int × List Nd)), ∀ q ∈ c, q ∈ (matT p t c).2
  | 0, p, _, _ => Empty.elim p
  | n + 1, p, t, c => by
    by_cases hk : p.tv.k = 1
    · rw [matT_var hk]; exact matV_mono _ _ _
    · by_cases hs : stop p.tv t.tv = true
      · rw [matT_same hk hs]; exact matL_mono (fun p t c => matT_mono (n := n) p t c) _ _ _
      · rw [matT_else hk hs]; exact fun q h => h

/-- A substitution that says what c says. -/
def Fits (σ : Int → List Nd) (c : List (Int × List Nd)) : Prop := ∀ q ∈ c, σ q.1 = q.2
theorem var_code {n : Nat} {p : Tm (n + 1)} (hw : Wl p) (ho : okT p = true) (hk : p.tv.k = 1) : code p = [varNd p.tv.N] := by
  have h1 := code_kids p
  have h2 : okNd p.tv.nd = true := by
    rw [okT_code, h1] at ho
    simp only [List.all_cons, Bool.and_eq_true] at ho
    exact ho.1
  have h3 := (okNd_var h2 hk).2
  have h4 : p.kids = [] := by
    have h5 := congrArg (fun x : Nd => x.2.2.2) h3
    simp [TV.nd, varNd] at h5
    have h6 := hw.1
    exact List.length_eq_zero_iff.1 (by omega)
  rw [h1, h3, h4]
  rfl
theorem nd_novar {n : Nat} {p : Tm (n + 1)} (σ : Int → List Nd) (hk : ¬ p.tv.k = 1) : (code p).flatMap (subN σ) = p.tv.nd :: (p.kids.flatMap code).flatMap (subN σ) := by
  rw [code_kids, List.flatMap_cons]
  have : subN σ p.tv.nd = [p.tv.nd] := by unfold subN; rw [if_neg (by simpa [TV.nd] using hk)]
  rw [this]
  rfl

/-- What is answered true: the substitution that the map says makes p t. -/
theorem matL_sound {n : Nat} (hf : ∀ (p t : Tm n) (c : List (Int × List Nd)) (σ : Int → List Nd), Wl p → okT p = true → (matT p t c).1 = true → Fits σ (matT p t c).2 → Wl t → (code p).flatMap (subN σ) = code t) : ∀ (ps ts : List (Tm n)) (c : List (Int × List Nd)) (σ : Int → List Nd), ps.length = ts.length → (∀ u ∈ ps, Wl u) → (∀ u ∈ ts, Wl u) → (∀ u ∈ ps, okT u = true) → (matL matT ps ts c).1 = true → Fits σ (matL matT ps ts c).2 → (ps.flatMap code).flatMap (subN σ) = ts.flatMap code
  | [], [], _, _, _, _, _, _, _, _ => rfl
  | [], t :: ts, _, _, h, _, _, _, _, _ => by simp at h
  | p :: ps, [], _, _, h, _, _, _, _, _ => by simp at h
  | p :: ps, t :: ts, c, σ, hl, hp, ht, ho, hm, hfit => by
    simp only [matL] at hm hfit
    by_cases h1 : (matT p t c).1 = true
    · rw [if_pos h1] at hm hfit
      rw [List.flatMap_cons, List.flatMap_append, List.flatMap_cons]
      have hfit1 : Fits σ (matT p t c).2 := fun q hq => hfit q (matL_mono (fun p t c => matT_mono p t c) ps ts _ q hq)
      rw [hf p t c σ (hp p (by simp)) (ho p (by simp)) h1 hfit1 (ht t (by simp)), matL_sound hf ps ts _ σ (by simpa using hl) (fun u hu => hp u (by simp [hu])) (fun u hu => ht u (by simp [hu])) (fun u hu => ho u (by simp [hu])) hm hfit]
    · rw [if_neg h1] at hm
      simp at hm
theorem matT_sound : ∀ {n : Nat} (p t : Tm n) (c : List (Int × List Nd)) (σ : Int → List Nd), Wl p → okT p = true → (matT p t c).1 = true → Fits σ (matT p t c).2 → Wl t → (code p).flatMap (subN σ) = code t
  | 0, p, _, _, _, _, _, _, _, _ => Empty.elim p
  | n + 1, p, t, c, σ, hw, ho, hm, hfit, hwt => by
    by_cases hk : p.tv.k = 1
    · rw [matT_var hk] at hm hfit
      rw [var_code hw ho hk, sub_varNd]
      unfold matV at hm hfit
      by_cases hq : ∃ q ∈ c, q.1 = p.tv.N
      · obtain ⟨q, hf, k1, k2⟩ := find_key hq
        rw [hf] at hm hfit
        have h1 := hfit q k1
        rw [k2] at h1
        rw [h1]
        simpa using hm
      · rw [find_no hq] at hfit
        exact hfit (p.tv.N, code t) (by simp)
    · by_cases hs : stop p.tv t.tv = true
      · rw [matT_same hk hs] at hm hfit
        rw [nd_novar σ hk, code_kids t, nd_stop.2 hs]
        have hl : p.kids.length = t.kids.length := by
          have h1 := hw.1
          have h2 := hwt.1
          simp [stop] at hs
          omega
        rw [matL_sound (fun p t c σ h1 h2 h3 h4 h5 => matT_sound (n := n) p t c σ h1 h2 h3 h4 h5) p.kids t.kids c σ hl hw.2 hwt.2 (ok_kids' ho) hm hfit]
      · rw [matT_else hk hs] at hm
        simp at hm

/-- If a substitution makes p t, it is answered true. -/
theorem matL_full {n : Nat} {σ : Int → List Nd} (hσ : ∀ N, Word (σ N)) (hf : ∀ (p t : Tm n) (c : List (Int × List Nd)), Wl p → okT p = true → Wl t → Fits σ c → (code p).flatMap (subN σ) = code t → (matT p t c).1 = true ∧ Fits σ (matT p t c).2) : ∀ (ps ts : List (Tm n)) (c : List (Int × List Nd)), ps.length = ts.length → (∀ u ∈ ps, Wl u) → (∀ u ∈ ts, Wl u) → (∀ u ∈ ps, okT u = true) → Fits σ c → (ps.flatMap code).flatMap (subN σ) = ts.flatMap code → (matL matT ps ts c).1 = true ∧ Fits σ (matL matT ps ts c).2
  | [], [], c, _, _, _, _, hfit, _ => ⟨by simp [matL], by simpa [matL] using hfit⟩
  | [], t :: ts, _, h, _, _, _, _, _ => by simp at h
  | p :: ps, [], _, h, _, _, _, _, _ => by simp at h
  | p :: ps, t :: ts, c, hl, hp, ht, ho, hfit, he => by
    rw [List.flatMap_cons, List.flatMap_append, List.flatMap_cons] at he
    obtain ⟨h1, h2⟩ := word_same (word_sub hσ (okT_vok (ho p (by simp))) (word_code p (hp p (by simp)))) (word_code t (ht t (by simp))) he
    obtain ⟨k1, k2⟩ := hf p t c (hp p (by simp)) (ho p (by simp)) (ht t (by simp)) hfit h1
    simp only [matL]
    rw [if_pos k1]
    exact matL_full hσ hf ps ts _ (by simpa using hl) (fun u hu => hp u (by simp [hu])) (fun u hu => ht u (by simp [hu])) (fun u hu => ho u (by simp [hu])) k2 h2
theorem matT_full {σ : Int → List Nd} (hσ : ∀ N, Word (σ N)) : ∀ {n : Nat} (p t : Tm n) (c : List (Int × List Nd)), Wl p → okT p = true → Wl t → Fits σ c → (code p).flatMap (subN σ) = code t → (matT p t c).1 = true ∧ Fits σ (matT p t c).2
  | 0, p, _, _, _, _, _, _, _ => Empty.elim p
  | n + 1, p, t, c, hw, ho, hwt, hfit, he => by
    by_cases hk : p.tv.k = 1
    · rw [var_code hw ho hk, sub_varNd] at he
      rw [matT_var hk]
      unfold matV
      by_cases hq : ∃ q ∈ c, q.1 = p.tv.N
      · obtain ⟨q, hf, k1, k2⟩ := find_key hq
        rw [hf]
        refine ⟨?_, hfit⟩
        have h1 := hfit q k1
        rw [k2, he] at h1
        simp [h1]
      · rw [find_no hq]
        refine ⟨rfl, fun q hq' => ?_⟩
        rcases List.mem_append.1 hq' with h | h
        · exact hfit q h
        · simp at h; subst h; exact he
    · rw [nd_novar σ hk, code_kids t] at he
      simp only [List.cons.injEq] at he
      have hs := nd_stop.1 he.1
      rw [matT_same hk hs]
      have hl : p.kids.length = t.kids.length := by
        have h1 := hw.1
        have h2 := hwt.1
        simp [stop] at hs
        omega
      exact matL_full hσ (fun p t c h1 h2 h3 h4 h5 => matT_full hσ (n := n) p t c h1 h2 h3 h4 h5) p.kids t.kids c hl hw.2 hwt.2 (ok_kids' ho) hfit he.2
end Go.Proofs.YtojefplapklbmaaGreatDoor

/- The contract of term.Match by codes. -/
namespace Go.Proofs.YtojefplapklbmaaGreatDoor
open Go.RowKit Go.Shelf Go.Maps

/-- What holds of the map from the beginning, and goes on when a variable of p that is new gets a part of t. -/
theorem matL_inv {n : Nat} {P : List (Int × List Nd) → Prop} (hf : ∀ (p t : Tm n) (c : List (Int × List Nd)), okT p = true → Wl t → okT t = true → P c → P (matT p t c).2) : ∀ (ps ts : List (Tm n)) (c : List (Int × List Nd)), (∀ u ∈ ps, okT u = true) → (∀ u ∈ ts, Wl u) → (∀ u ∈ ts, okT u = true) → P c → P (matL matT ps ts c).2
  | [], _, c, _, _, _, h => by simpa [matL] using h
  | p :: ps, [], c, _, _, _, h => by simpa [matL] using h
  | p :: ps, t :: ts, c, hp, hw, ht, h => by
    have h1 := hf p t c (hp p (by simp)) (hw t (by simp)) (ht t (by simp)) h
    simp only [matL]
    split
    · exact matL_inv hf ps ts _ (fun u hu => hp u (by simp [hu])) (fun u hu => hw u (by simp [hu])) (fun u hu => ht u (by simp [hu])) h1
    · exact h1
theorem matT_inv {P : List (Int × List Nd) → Prop} (hV : ∀ (N : Int) (ct : List Nd) (c : List (Int × List Nd)), P c → (0 ≤ N ∧ N ≤ 1099511627776) → okC ct → Word ct → (¬ ∃ q ∈ c, q.1 = N) → P (c ++ [(N, ct)])) : ∀ {n : Nat} (p t : Tm n) (c : List (Int × List Nd)), okT p = true → Wl t → okT t = true → P c → P (matT p t c).2
  | 0, p, _, _, _, _, _, _ => Empty.elim p
  | n + 1, p, t, c, ho, hw, ht, h => by
    by_cases hk : p.tv.k = 1
    · rw [matT_var hk]
      unfold matV
      by_cases hq : ∃ q ∈ c, q.1 = p.tv.N
      · obtain ⟨q, hf, _⟩ := find_key hq
        rw [hf]; exact h
      · rw [find_no hq]
        have h2 : okNd p.tv.nd = true := by
          rw [okT_code, code_kids] at ho
          simp only [List.all_cons, Bool.and_eq_true] at ho
          exact ho.1
        exact hV _ _ _ h (okNd_var h2 hk).1 (by unfold okC; rw [← okT_code]; exact ht) (word_code t hw) hq
    · by_cases hs : stop p.tv t.tv = true
      · rw [matT_same hk hs]
        exact matL_inv (fun p t c h1 h2 h3 h4 => matT_inv hV (n := n) p t c h1 h2 h3 h4) p.kids t.kids c (ok_kids' ho) hw.2 (ok_kids' ht) h
      · rw [matT_else hk hs]; exact h
/-- The map of a match: a substitution. -/
structure MapC (c : List (Int × List Nd)) : Prop where
  once : Once c
  key : ∀ q ∈ c, 0 ≤ q.1 ∧ q.1 ≤ 1099511627776
  ok : ∀ q ∈ c, okC q.2
  word : ∀ q ∈ c, Word q.2
theorem mapC_mat {n : Nat} {p t : Tm n} (ho : okT p = true) (hw : Wl t) (ht : okT t = true) : MapC (matT p t []).2 := by
  refine matT_inv (P := MapC) (fun N ct c h hN hok hwd hno => ?_) p t [] ho hw ht ⟨List.Pairwise.nil, (fun q hq => by cases hq), (fun q hq => by cases hq), (fun q hq => by cases hq)⟩
  refine ⟨?_, fun q hq => ?_, fun q hq => ?_, fun q hq => ?_⟩
  · unfold Once
    rw [List.pairwise_append]
    refine ⟨h.once, by simp, fun a ha b hb => ?_⟩
    simp at hb; subst hb
    exact fun e => hno ⟨a, ha, e⟩
  · rcases List.mem_append.1 hq with hq | hq
    · exact h.key q hq
    · simp at hq; subst hq; exact hN
  · rcases List.mem_append.1 hq with hq | hq
    · exact h.ok q hq
    · simp at hq; subst hq; exact hok
  · rcases List.mem_append.1 hq with hq | hq
    · exact h.word q hq
    · simp at hq; subst hq; exact hwd
theorem look_insF {c : List (Int × List Nd)} (h : Once c) (N : Int) : lookC (insF c) N = lookC c N := by
  rcases look_or c N with ⟨q, hq, rfl⟩ | hno
  · rw [look_mem h hq, look_mem (insF_once h) (insF_mem.2 hq)]
  · rw [look_no hno, look_no fun q hq => hno q (insF_mem.1 hq)]
theorem MapC.sub {c : List (Int × List Nd)} (h : MapC c) : SubC (insF c) :=
  ⟨fun q hq => h.ok q (insF_mem.1 hq), fun q hq => h.key q (insF_mem.1 hq), once_rise (insF_once h.once) (insF_up _)⟩

/-- There is a substitution that makes the one the other. -/
def Matches (c c' : List Nd) : Prop := ∃ σ : Int → List Nd, (∀ N, Word (σ N)) ∧ c.flatMap (subN σ) = c'
theorem match_c {D : Nat} {W : World} {v v' : Value} {c c' : List Nd} (h : TC D W v c) (h' : TC D W v' c') (ho : okC c) (ho' : okC c') (hbig : c.length ≤ 4194304) (hD39 : D ≤ 549755813888 := by omega) :
    Calls Tryz.prog 28 #[v, v'] W fun e W' => ∃ (la : Option Addr) (ll lc : Nat) (f : Bool), e = .returned (.tuple #[.slice la ll lc, .bool f, .int .i64 0]) ∧ Below W.heap.size W W' ∧ (f = true ↔ Matches c c') ∧ (f = true → ∃ cm, LV (D + 1) W' (.slice la ll lc) c.length cm ∧ SubC cm ∧ c.flatMap (subN (lookC cm)) = c') := by
  obtain ⟨p, rfl, hp, _, rfl⟩ := h.2 D (Nat.le_refl _) h.1
  obtain ⟨t, rfl, ht, _, rfl⟩ := h'.2 D (Nat.le_refl _) h'.1
  have op : okT p = true := by rw [okT_code]; exact ho
  have ot : okT t = true := by rw [okT_code]; exact ho'
  have hm := mapC_mat op ht.wl ot
  have hfit : Fits (lookC (matT p t []).2) (matT p t []).2 := fun q hq => look_mem hm.once hq
  refine (match_any p t W hp ht op ot hbig hD39).mono fun e W' hh => ?_
  obtain ⟨la, ll, lc, e1, e2, e3⟩ := hh
  refine ⟨la, ll, lc, _, e1, e2, ⟨fun h => ⟨_, word_look hm.word, matT_sound p t [] _ hp.wl op h hfit ht.wl⟩, fun ⟨σ, h1, h2⟩ => (matT_full h1 p t [] hp.wl op ht.wl (fun q hq => by cases hq) h2).1⟩, fun h => ⟨_, (e3 h).lv, hm.sub, ?_⟩⟩
  rw [sub_congr (look_insF hm.once)]
  exact matT_sound p t [] _ hp.wl op h hfit ht.wl
end Go.Proofs.YtojefplapklbmaaGreatDoor

/- The law hornkeep.TermActs: it answers true, whatever the term and the three lists (within bounds of their lengths). -/
namespace Go.Proofs.YtojefplapklbmaaGreatDoor
open Go.RowKit Go.Shelf Go.Maps

theorem apply_new {D : Nat} {W : World} {v lv : Value} {c : List Nd} {k : Nat} {cl : List (Int × List Nd)} (hv : TC D W v c) (hl : LV D W lv k cl) (hok : okC c) (hs : SubC cl) :
    Calls Tryz.prog 17 #[v, lv] W fun e W' => ∃ x : TV, e = .returned (.tuple #[x.val, .int .i64 0]) ∧ Below W.heap.size W W' ∧ HoldsT (D + (D + 1)) W.heap.size W' x.val (c.flatMap (subN (lookC cl))) := by
  obtain ⟨t, rfl, hT, _, rfl⟩ := hv.2 D (Nat.le_refl _) hv.1
  obtain ⟨a, len, cap, l, rfl, hsrc, _⟩ := hl
  obtain ⟨bs, hL, rfl, _⟩ := hsrc.2 D (Nat.le_refl _) hsrc.1
  obtain ⟨h1, h2⟩ := subC_iff.1 hs
  exact apply_ok t bs a len cap W hT hL (by rw [okT_code]; exact hok) h1 h2
theorem lv_word {D : Nat} {W : World} {v : Value} {k : Nat} {c : List (Int × List Nd)} (h : LV D W v k c) : ∀ q ∈ c, Word q.2 := by
  obtain ⟨a, len, cap, l, rfl, hsrc, _⟩ := h
  obtain ⟨bs, hL, rfl, _⟩ := hsrc.2 D (Nat.le_refl _) hsrc.1
  intro q hq
  obtain ⟨p, hp, rfl⟩ := List.mem_map.1 hq
  exact word_code p.2 (isL_mem hL p hp).wl
theorem okC_vok {c : List Nd} (h : okC c) : ∀ x ∈ c, vOk x := fun x hx hk => by
  have h1 := (okNd_var (List.all_eq_true.1 h x hx) hk).2
  rw [h1]; rfl
theorem vok_look {c : List (Int × List Nd)} (h : ∀ q ∈ c, okC q.2) (N : Int) : ∀ x ∈ lookC c N, vOk x := by
  unfold lookC
  split
  · rename_i p hp; exact okC_vok (h p (List.mem_of_find?_eq_some hp))
  · intro x hx; simp at hx; subst hx; exact fun _ => rfl
theorem set4_box {W : World} {b : Nat} {x y : TV} (h : BoxT W b y) : cellsAt (set4 W b 0 x) b 0 x := set4_cells W b 0 x (by rw [h.c0]; rfl) (by rw [show 0 + 1 = 1 from rfl, h.c1]; rfl) (by rw [show 0 + 2 = 2 from rfl, h.c2]; rfl) (by rw [show 0 + 3 = 3 from rfl, h.c3]; rfl)
theorem BoxT.kept {W W' : World} {b : Nat} {x : TV} (h : BoxT W b x) (hb : Below W.heap.size W W') : BoxT W' b x := (hb.block _ h.lt).trans h

end Go.Proofs.YtojefplapklbmaaGreatDoor

/- Plain mathematics of variants: numbered from the same number on they are one; just if each matches the other. -/
namespace Go.Proofs.YtojefplapklbmaaGreatDoor
open Go.RowKit Go.Shelf Go.Maps

theorem sub_id {c : List Nd} (h : okC c) : c.flatMap (subN fun N => [varNd N]) = c := by
  have h1 : ∀ x ∈ c, subN (fun N => [varNd N]) x = [x] := fun x hx => by
    unfold subN
    by_cases hk : x.1 = 1
    · rw [if_pos hk]
      show [varNd x.2.1] = [x]
      rw [← (okNd_var (List.all_eq_true.1 h x hx) hk).2]
    · rw [if_neg hk]
  rw [flatMap_same c h1]
  simp

/-- What is numbered can be given its own variables back. -/
theorem canon_back {c : List Nd} (h : okC c) : ∃ τ : Int → Int, (canon 0 c).flatMap (subN fun N => [varNd (τ N)]) = c := by
  refine ⟨fun M => (stepsN stpN [] c)[M.toNat]?.getD 0, ?_⟩
  unfold canon
  rw [sub_sub]
  refine Eq.trans (sub_congr_on fun N hN => ?_) (sub_id h)
  have hN' := (steps_mem c [] N).2 (.inr hN)
  unfold renN
  rw [sub_varNd]
  have hlt := List.idxOf_lt_length_of_mem hN'
  have e : ((0 : Int) + ((stepsN stpN [] c).idxOf N : Nat)).toNat = (stepsN stpN [] c).idxOf N := by omega
  simp only [e]
  rw [List.getElem?_eq_getElem hlt, List.getElem_idxOf hlt]
  rfl
theorem word_len {l : List Nd} (h : Word l) : 1 ≤ l.length := by
  cases l with
  | nil => simp [Word, runW] at h
  | cons x l => simp
theorem sub_len {σ : Int → List Nd} (hσ : ∀ N, Word (σ N)) : ∀ (c : List Nd), c.length ≤ (c.flatMap (subN σ)).length
  | [] => by simp
  | x :: c => by
    have h1 := sub_len hσ c
    have h2 : 1 ≤ (subN σ x).length := by
      unfold subN
      split
      · exact word_len (hσ _)
      · simp
    rw [List.flatMap_cons, List.length_append, List.length_cons]
    omega

/-- Variants, just if each matches the other. -/
theorem variants_iff {ca cb : List Nd} (ha : okC ca) (hb : okC cb) : canon 0 ca = canon 0 cb ↔ Matches ca cb ∧ Matches cb ca := by
  constructor
  · intro h
    have key : ∀ {x y : List Nd}, okC y → canon 0 x = canon 0 y → Matches x y := fun {x y} hy e => by
      obtain ⟨τ, hτ⟩ := canon_back hy
      rw [← e] at hτ
      unfold canon at hτ
      rw [sub_sub] at hτ
      exact ⟨_, fun N => by unfold renN; rw [sub_varNd]; exact word_var _, hτ⟩
    exact ⟨key hb h, key ha h.symm⟩
  · rintro ⟨⟨σ, hσ, h1⟩, ⟨τ, hτ, h2⟩⟩
    have hfix : ca.flatMap (subN fun N => (σ N).flatMap (subN τ)) = ca := by rw [← sub_sub, h1, h2]
    have hone : ∀ N, IsVarOf ca N → ∃ M, σ N = [varNd M] ∧ τ M = [varNd N] := by
      intro N hN
      have hlen : ∀ N', 1 ≤ ((σ N').flatMap (subN τ)).length := fun N' => Nat.le_trans (word_len (hσ N')) (sub_len hτ _)
      have hfx : (σ N).flatMap (subN τ) = [varNd N] := by
        have gen : ∀ {θ : Int → List Nd} (_ : ∀ N, 1 ≤ (θ N).length) {c : List Nd}, okC c → c.flatMap (subN θ) = c → ∀ N, IsVarOf c N → θ N = [varNd N] := by
          intro θ hθ c
          induction c with
          | nil => intro _ _ N ⟨x, hx, _⟩; cases hx
          | cons x c ih =>
            intro hok h N hN
            have hokx : okNd x = true ∧ okC c := by
              unfold okC at hok ⊢
              simpa using hok
            have hl0 : ∀ (c : List Nd), c.length ≤ (c.flatMap (subN θ)).length := by
              intro c
              induction c with
              | nil => simp
              | cons x c ih =>
                have h2 : 1 ≤ (subN θ x).length := by
                  unfold subN
                  split
                  · exact hθ _
                  · simp
                rw [List.flatMap_cons, List.length_append, List.length_cons]
                omega
            rw [List.flatMap_cons] at h
            have h1 := hl0 c
            have hl := congrArg List.length h
            rw [List.length_append, List.length_cons] at hl
            obtain ⟨y, hy⟩ : ∃ y, subN θ x = [y] := by
              have h2 : 1 ≤ (subN θ x).length := by
                unfold subN
                split
                · exact hθ _
                · simp
              exact List.length_eq_one_iff.1 (by omega)
            rw [hy, List.singleton_append, List.cons.injEq] at h
            obtain ⟨rfl, h⟩ := h
            obtain ⟨z, hz, hz1, rfl⟩ := hN
            rcases List.mem_cons.1 hz with rfl | hz
            · unfold subN at hy
              rw [if_pos hz1] at hy
              rw [hy, ← (okNd_var hokx.1 hz1).2]
            · exact ih hokx.2 h _ ⟨z, hz, hz1, rfl⟩
        exact gen hlen ha hfix N hN
      have h3 := sub_len hτ (σ N)
      have h4 := word_len (hσ N)
      rw [hfx, List.length_singleton] at h3
      obtain ⟨y, hy⟩ : ∃ y, σ N = [y] := List.length_eq_one_iff.1 (by omega)
      rw [hy] at hfx
      simp only [List.flatMap_cons, List.flatMap_nil, List.append_nil] at hfx
      have hk : y.1 = 1 := by
        by_cases hk : y.1 = 1
        · exact hk
        · unfold subN at hfx
          rw [if_neg hk] at hfx
          have : y = varNd N := by simpa using hfx
          rw [this] at hk
          exact (hk rfl).elim
      have hmem : y ∈ cb := by
        rw [← h1]
        obtain ⟨x, hx, hx1, rfl⟩ := hN
        refine List.mem_flatMap.2 ⟨x, hx, ?_⟩
        unfold subN
        rw [if_pos hx1, hy]
        simp
      have hyv := (okNd_var (List.all_eq_true.1 hb y hmem) hk).2
      refine ⟨y.2.1, by rw [hy, ← hyv], ?_⟩
      unfold subN at hfx
      rw [if_pos hk] at hfx
      exact hfx
    have hcb : cb = ca.flatMap (subN fun N => [varNd ((σ N).head?.getD (varNd 0)).2.1]) := by
      rw [← h1]
      refine sub_congr_on fun N hN => ?_
      obtain ⟨M, hM, _⟩ := hone N hN
      rw [hM]; rfl
    rw [hcb]
    refine (canon_ren (ρ := fun N => ((σ N).head?.getD (varNd 0)).2.1) (fun M N hM hN e => ?_) 0).symm
    obtain ⟨M1, k1, k2⟩ := hone M hM
    obtain ⟨N1, k3, k4⟩ := hone N hN
    simp only [k1, k3, List.head?_cons, Option.getD_some] at e
    have e' : M1 = N1 := e
    rw [e', k4] at k2
    have := (List.cons.inj k2).1
    simp [varNd] at this
    exact this.symm
end Go.Proofs.YtojefplapklbmaaGreatDoor

