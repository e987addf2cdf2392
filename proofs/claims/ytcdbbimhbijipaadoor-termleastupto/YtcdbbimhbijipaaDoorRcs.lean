import Derived.Test.YtcdbbimhbijipaaDoorPl
/- The contract of hornref.Compose. -/
namespace Go.Proofs.YtcdbbimhbijipaaDoor
open Go.RowKit Go.Shelf

theorem insK_len {β : Type} (l : List (Int × β)) (n : Int) (y : β) : (insK l n y).length = l.length + 1 := by
  unfold insK
  have := congrArg List.length (List.takeWhile_append_dropWhile (p := fun p : Int × β => decide (p.1 < n)) (l := l))
  simp only [List.length_append, List.length_cons] at *
  omega
/-- A list of binds that is being made: at most k of them. -/
def OutB (D : Nat) (W : World) (v : Value) (k : Nat) (c : List (Int × List Nd)) : Prop :=
  ∃ a len cap l, v = .slice a len cap ∧ SrcB D W a len l c ∧ len ≤ k ∧ len ≤ cap ∧ (a = none → cap = 0)
theorem OutB.zero (D : Nat) (W : World) : OutB D W (.slice none 0 0) 0 [] :=
  ⟨none, 0, 0, [], rfl, fun M _ => ⟨[], ⟨rfl, by omega, .inl rfl⟩, rfl, rfl⟩, Nat.le_refl _, Nat.le_refl _, fun _ => rfl⟩
theorem OutB.below {D : Nat} {W W' : World} {v : Value} {k : Nat} {c : List (Int × List Nd)} (h : OutB D W v k c) (hb : Below W.heap.size W W') : OutB D W' v k c := by
  obtain ⟨a, len, cap, l, h1, h2, h3⟩ := h
  exact ⟨a, len, cap, l, h1, h2.below hb, h3⟩
theorem OutB.more {D : Nat} {W : World} {v : Value} {k k' : Nat} {c : List (Int × List Nd)} (h : OutB D W v k c) (hk : k ≤ k') : OutB D W v k' c := by
  obtain ⟨a, len, cap, l, h1, h2, h3, h4⟩ := h
  exact ⟨a, len, cap, l, h1, h2, by omega, h4⟩
theorem MadeB.out {D : Nat} {S : Nat → Prop} {base : Nat} {W : World} {v : Value} {l : List (Int × TV)} {c : List (Int × List Nd)} (h : MadeB D S base W v l c) {k : Nat} (hk : l.length ≤ k) (hl : k ≤ 1152921504606846976) : OutB D W v k c := by
  obtain ⟨a, cap, hv, hks⟩ := h.isL (by omega)
  obtain ⟨_, h2⟩ := h.owns
  refine ⟨a, l.length, cap, l, hv, fun M hM => ?_, hk, ?_⟩
  · obtain ⟨ks, k1, k2, k3, _⟩ := hks M hM
    exact ⟨ks, k1, k2, k3⟩
  · rcases h2 with ⟨hv', hn⟩ | ⟨g, cap', cur, hv', hg, hb, hnc, _⟩
    · rw [hv'] at hv; simp at hv; obtain ⟨rfl, _, rfl⟩ := hv; exact ⟨by omega, fun _ => rfl⟩
    · rw [hv'] at hv; simp at hv; obtain ⟨rfl, rfl⟩ := hv; exact ⟨hnc, fun h => by cases h⟩
def stepS (cu : List (Int × List Nd)) (c : List (Int × List Nd)) (p : Int × List Nd) : List (Int × List Nd) := if p.2.flatMap (subN (lookC cu)) = [varNd p.1] then c else insK c p.1 (p.2.flatMap (subN (lookC cu)))
def stepU (cs : List (Int × List Nd)) (c : List (Int × List Nd)) (p : Int × List Nd) : List (Int × List Nd) := if (∃ q ∈ cs, q.1 = p.1) ∨ p.2 = [varNd p.1] then c else insK c p.1 p.2
theorem cb_has {n : Nat} {ss : List (Int × Tm n)} {V : Int} : (∃ q ∈ cb ss, q.1 = V) ↔ ∃ p ∈ ss, p.1 = V := by
  constructor
  · rintro ⟨q, hq, h⟩
    obtain ⟨p, hp, rfl⟩ := List.mem_map.1 hq
    exact ⟨p, hp, h⟩
  · rintro ⟨p, hp, h⟩
    exact ⟨_, List.mem_map.2 ⟨p, hp, rfl⟩, h⟩
theorem foldl_take {α β : Type} (f : β → α → β) (b : β) (l : List α) (j : Nat) (x : α) (h : l[j]? = some x) : (l.take (j + 1)).foldl f b = f ((l.take j).foldl f b) x := by
  obtain ⟨hj, rfl⟩ := List.getElem?_eq_some_iff.1 h
  rw [List.take_succ_eq_append_getElem hj, List.foldl_append]; rfl

end Go.Proofs.YtcdbbimhbijipaaDoor

/- The contract of term.appendBind. -/
namespace Go.Proofs.YtcdbbimhbijipaaDoor
open Go.RowKit Go.Shelf

/-- A part that is a variable has no Name and no Args. -/
def vOk (x : Nd) : Prop := x.1 = 1 → x.2.2 = ([], 0)
theorem okT_vok {n : Nat} {t : Tm n} (h : okT t = true) : ∀ x ∈ code t, vOk x := by
  intro x hx hk
  obtain ⟨y, hy, rfl⟩ := List.mem_map.1 hx
  have hw : y.ok = true := List.all_eq_true.1 h y hy
  unfold TV.ok at hw
  rcases wm_cases hw with ⟨h1, _, _, h4, h5⟩ | ⟨h1, _⟩ | ⟨h1, _⟩
  · simp [TV.nd, h4, h5]
  · simp only [TV.nd] at hk; omega
  · simp only [TV.nd] at hk; omega
theorem sub_vok {c : List Nd} {cu : List (Int × List Nd)} (h : ∀ x ∈ c, vOk x) (hu : ∀ p ∈ cu, ∀ x ∈ p.2, vOk x) : ∀ x ∈ c.flatMap (subN (lookC cu)), vOk x := by
  intro x hx
  obtain ⟨y, hy, hxy⟩ := List.mem_flatMap.1 hx
  unfold subN at hxy
  split at hxy
  · unfold lookC at hxy
    split at hxy
    · rename_i p hp
      exact hu p (List.mem_of_find?_eq_some hp) x hxy
    · simp at hxy; subst hxy; intro _; rfl
  · simp at hxy; subst hxy; exact h _ hy
theorem holds_var {D : Nat} {S : Nat → Prop} {W : World} {x : TV} {ct : List Nd} (h : HoldsS D S W x.val ct) (hv : ∀ y ∈ ct, vOk y) (N : Int) : (x.k = 1 ∧ x.N = N) ↔ ct = [varNd N] := by
  obtain ⟨t, h1, h2, _, h4⟩ := h (D + 1) (by omega)
  obtain ⟨tv, kids⟩ := t
  have hx : x = tv := TV.val_inj h1
  subst hx
  have hc : x.nd :: kids.flatMap code = ct := by rw [← h4]; exact (code_succ x kids).symm
  have hwl : x.len = kids.length := h2.wl.1
  subst hc
  constructor
  · rintro ⟨hk, hN⟩
    have := hv x.nd (by simp) hk
    simp [TV.nd] at this
    have hk0 : kids = [] := List.length_eq_zero_iff.1 (by omega)
    subst hk0
    simp [TV.nd, varNd, hk, hN, this]
  · intro h
    simp [TV.nd, varNd] at h
    exact ⟨h.1.1, h.1.2.1⟩

/-- What appendBind makes of a list of codes. -/
def addC (c : List (Int × List Nd)) (N : Int) (ct : List Nd) : List (Int × List Nd) := if ct = [varNd N] then c else c ++ [(N, ct)]

end Go.Proofs.YtcdbbimhbijipaaDoor

/- Plain mathematics: binds put in one by one (insF) are the sorted row of them. -/
namespace Go.Proofs.YtcdbbimhbijipaaDoor

/-- Rising by Var, not strictly. -/
def Up {β : Type} (l : List (Int × β)) : Prop := l.Pairwise (fun p q => p.1 ≤ q.1)
def insF {β : Type} (l : List (Int × β)) : List (Int × β) := l.foldl (fun acc p => insK acc p.1 p.2) []
theorem insK_perm {β : Type} (l : List (Int × β)) (n : Int) (y : β) : (insK l n y).Perm ((n, y) :: l) := by
  unfold insK
  refine List.perm_middle.trans ?_
  rw [List.takeWhile_append_dropWhile]
theorem insK_up {β : Type} : ∀ (l : List (Int × β)) (n : Int) (y : β), Up l → Up (insK l n y)
  | [], n, y, _ => by simp [insK, Up]
  | p :: l, n, y, h => by
    obtain ⟨h1, h2⟩ := List.pairwise_cons.1 h
    by_cases hp : p.1 < n
    · have ih := insK_up l n y h2
      have e : insK (p :: l) n y = p :: insK l n y := by simp [insK, hp]
      rw [e]
      refine List.pairwise_cons.2 ⟨fun q hq => ?_, ih⟩
      rcases List.mem_cons.1 ((insK_perm l n y).mem_iff.1 hq) with rfl | hq
      · exact Int.le_of_lt hp
      · exact h1 q hq
    · have e : insK (p :: l) n y = (n, y) :: p :: l := by simp [insK, hp]
      rw [e]
      refine List.pairwise_cons.2 ⟨fun q hq => ?_, h⟩
      rcases List.mem_cons.1 hq with rfl | hq
      · simp only; omega
      · have := h1 q hq; simp only; omega
theorem insF_go {β : Type} : ∀ (l acc : List (Int × β)), Up acc → Up (l.foldl (fun acc p => insK acc p.1 p.2) acc) ∧ (l.foldl (fun acc p => insK acc p.1 p.2) acc).Perm (acc ++ l)
  | [], acc, h => ⟨h, by simp⟩
  | p :: l, acc, h => by
    obtain ⟨h1, h2⟩ := insF_go l (insK acc p.1 p.2) (insK_up _ _ _ h)
    refine ⟨h1, h2.trans ?_⟩
    refine ((insK_perm acc p.1 p.2).append_right l).trans ?_
    exact List.perm_middle.symm
theorem insF_up {β : Type} (l : List (Int × β)) : Up (insF l) := (insF_go l [] List.Pairwise.nil).1
theorem insF_perm {β : Type} (l : List (Int × β)) : (insF l).Perm l := by simpa [insF] using (insF_go l [] List.Pairwise.nil).2
/-- No Var twice. -/
def Once {β : Type} (l : List (Int × β)) : Prop := l.Pairwise (fun p q => p.1 ≠ q.1)
theorem Once.eq {β : Type} {l : List (Int × β)} (h : Once l) {p q : Int × β} (hp : p ∈ l) (hq : q ∈ l) (e : p.1 = q.1) : p = q := by
  induction l with
  | nil => cases hp
  | cons x l ih =>
    obtain ⟨h1, h2⟩ := List.pairwise_cons.1 h
    rcases List.mem_cons.1 hp with m1 | m1 <;> rcases List.mem_cons.1 hq with m2 | m2
    · rw [m1, m2]
    · subst m1; exact (h1 q m2 e).elim
    · subst m2; exact (h1 p m1 e.symm).elim
    · exact ih h2 m1 m2
theorem up_unique {β : Type} : ∀ {a b c : List (Int × β)}, Once c → a.Perm c → b.Perm c → Up a → Up b → a = b
  | [], b, c, _, ha, hb, _, _ => by
    have : c = [] := by simpa using ha.symm
    subst this
    exact (by simpa using hb : b = []).symm
  | x :: a, [], c, _, ha, hb, _, _ => by
    have : c = [] := by simpa using hb.symm
    subst this
    simp at ha
  | x :: a, y :: b, c, hc, ha, hb, ua, ub => by
    obtain ⟨u1, u2⟩ := List.pairwise_cons.1 ua
    obtain ⟨w1, w2⟩ := List.pairwise_cons.1 ub
    have hxc : x ∈ c := ha.mem_iff.1 (by simp)
    have hyc : y ∈ c := hb.mem_iff.1 (by simp)
    have hxy : x.1 ≤ y.1 := by
      rcases List.mem_cons.1 (ha.mem_iff.2 hyc) with e | h
      · rw [e]; exact Int.le_refl _
      · exact u1 y h
    have hyx : y.1 ≤ x.1 := by
      rcases List.mem_cons.1 (hb.mem_iff.2 hxc) with e | h
      · rw [e]; exact Int.le_refl _
      · exact w1 x h
    have e : x = y := hc.eq hxc hyc (by omega)
    subst e
    have hab : a.Perm b := (List.perm_cons x).1 (ha.trans hb.symm)
    have hca : Once (x :: a) := ha.symm.pairwise hc (fun h => Ne.symm h)
    have hoa : Once a := (List.pairwise_cons.1 hca).2
    rw [up_unique hoa (List.Perm.refl a) hab.symm u2 w2]
/-- A permuted row of images is the row of images of a permuted row. -/
theorem perm_lift {α β : Type} (f : α → β) : ∀ {l' l : List β} (_ : l'.Perm l) (ks : List α), ks.map f = l → ∃ ks' : List α, ks'.Perm ks ∧ ks'.map f = l' := by
  intro l' l h
  induction h with
  | nil => intro ks hk; exact ⟨ks, .refl _, hk⟩
  | cons x _ ih =>
    intro ks hk
    cases ks with
    | nil => simp at hk
    | cons k ks =>
      simp at hk
      obtain ⟨ks', h1, h2⟩ := ih ks hk.2
      exact ⟨k :: ks', h1.cons k, by simp [hk.1, h2]⟩
  | swap x y l =>
    intro ks hk
    match ks, hk with
    | [], hk => simp at hk
    | [k], hk => simp at hk
    | k :: k' :: ks, hk =>
      simp at hk
      exact ⟨k' :: k :: ks, .swap k k' ks, by simp [hk]⟩
  | trans _ _ ih1 ih2 =>
    intro ks hk
    obtain ⟨ks1, h1, h2⟩ := ih2 ks hk
    obtain ⟨ks2, h3, h4⟩ := ih1 ks1 h2
    exact ⟨ks2, h3.trans h1, h4⟩
end Go.Proofs.YtcdbbimhbijipaaDoor

