import Derived.Test.YtffbhinpmlcopaaAb
/- Plain mathematics: binds put in one by one (insF) are the sorted row of them. -/
namespace Go.Proofs.Ytffbhinpmlcopaa

/-- Rising by Var, not strictly. -/
def Up {β : Type} (l : List (Int × β)) : Prop := l.Pairwise (fun p q => p.1 ≤ q.1)
def insF {β : Type} (l : List (Int × β)) : List (Int × β) := l.foldl (fun acc p => insK acc p.1 p.2) []
theorem insK_perm {β : Type} (l : List (Int × β)) (n : Int) (y : β) : (insK l n y).Perm ((n, y) :: l) := by
  unfold insK
  refine List.perm_middle.trans ?_
  rw [List.takeWhile_append_dropWhile]
theorem insK_up {β : Type} : ∀ (l : List (Int × β)) (n : Int) (y : β), Up l → Up (insK l n y)
  | [], n, y, _ => by simp [insK, Up]
  | p :: l, n, y, h => by
    obtain ⟨h1, h2⟩ := List.pairwise_cons.1 h
    by_cases hp : p.1 < n
    · have ih := insK_up l n y h2
      have e : insK (p :: l) n y = p :: insK l n y := by simp [insK, hp]
      rw [e]
      refine List.pairwise_cons.2 ⟨fun q hq => ?_, ih⟩
      rcases List.mem_cons.1 ((insK_perm l n y).mem_iff.1 hq) with rfl | hq
      · exact Int.le_of_lt hp
      · exact h1 q hq
    · have e : insK (p :: l) n y = (n, y) :: p :: l := by simp [insK, hp]
      rw [e]
      refine List.pairwise_cons.2 ⟨fun q hq => ?_, h⟩
      rcases List.mem_cons.1 hq with rfl | hq
      · simp only; omega
      · have := h1 q hq; simp only; omega
theorem insF_go {β : Type} : ∀ (l acc : List (Int × β)), Up acc → Up (l.foldl (fun acc p => insK acc p.1 p.2) acc) ∧ (l.foldl (fun acc p => insK acc p.1 p.2) acc).Perm (acc ++ l)
  | [], acc, h => ⟨h, by simp⟩
  | p :: l, acc, h => by
    obtain ⟨h1, h2⟩ := insF_go l (insK acc p.1 p.2) (insK_up _ _ _ h)
    refine ⟨h1, h2.trans ?_⟩
    refine ((insK_perm acc p.1 p.2).append_right l).trans ?_
    exact List.perm_middle.symm
theorem insF_up {β : Type} (l : List (Int × β)) : Up (insF l) := (insF_go l [] List.Pairwise.nil).1
theorem insF_perm {β : Type} (l : List (Int × β)) : (insF l).Perm l := by simpa [insF] using (insF_go l [] List.Pairwise.nil).2
/-- No Var twice. -/
def Once {β : Type} (l : List (Int × β)) : Prop := l.Pairwise (fun p q => p.1 ≠ q.1)
theorem Once.eq {β : Type} {l : List (Int × β)} (h : Once l) {p q : Int × β} (hp : p ∈ l) (hq : q ∈ l) (e : p.1 = q.1) : p = q := by
  induction l with
  | nil => cases hp
  | cons x l ih =>
    obtain ⟨h1, h2⟩ := List.pairwise_cons.1 h
    rcases List.mem_cons.1 hp with m1 | m1 <;> rcases List.mem_cons.1 hq with m2 | m2
    · rw [m1, m2]
    · subst m1; exact (h1 q m2 e).elim
    · subst m2; exact (h1 p m1 e.symm).elim
    · exact ih h2 m1 m2
theorem up_unique {β : Type} : ∀ {a b c : List (Int × β)}, Once c → a.Perm c → b.Perm c → Up a → Up b → a = b
  | [], b, c, _, ha, hb, _, _ => by
    have : c = [] := by simpa using ha.symm
    subst this
    exact (by simpa using hb : b = []).symm
  | x :: a, [], c, _, ha, hb, _, _ => by
    have : c = [] := by simpa using hb.symm
    subst this
    simp at ha
  | x :: a, y :: b, c, hc, ha, hb, ua, ub => by
    obtain ⟨u1, u2⟩ := List.pairwise_cons.1 ua
    obtain ⟨w1, w2⟩ := List.pairwise_cons.1 ub
    have hxc : x ∈ c := ha.mem_iff.1 (by simp)
    have hyc : y ∈ c := hb.mem_iff.1 (by simp)
    have hxy : x.1 ≤ y.1 := by
      rcases List.mem_cons.1 (ha.mem_iff.2 hyc) with e | h
      · rw [e]; exact Int.le_refl _
      · exact u1 y h
    have hyx : y.1 ≤ x.1 := by
      rcases List.mem_cons.1 (hb.mem_iff.2 hxc) with e | h
      · rw [e]; exact Int.le_refl _
      · exact w1 x h
    have e : x = y := hc.eq hxc hyc (by omega)
    subst e
    have hab : a.Perm b := (List.perm_cons x).1 (ha.trans hb.symm)
    have hca : Once (x :: a) := ha.symm.pairwise hc (fun h => Ne.symm h)
    have hoa : Once a := (List.pairwise_cons.1 hca).2
    rw [up_unique hoa (List.Perm.refl a) hab.symm u2 w2]
/-- A permuted row of images is the row of images of a permuted row. -/
theorem perm_lift {α β : Type} (f : α → β) : ∀ {l' l : List β} (_ : l'.Perm l) (ks : List α), ks.map f = l → ∃ ks' : List α, ks'.Perm ks ∧ ks'.map f = l' := by
  intro l' l h
  induction h with
  | nil => intro ks hk; exact ⟨ks, .refl _, hk⟩
  | cons x _ ih =>
    intro ks hk
    cases ks with
    | nil => simp at hk
    | cons k ks =>
      simp at hk
      obtain ⟨ks', h1, h2⟩ := ih ks hk.2
      exact ⟨k :: ks', h1.cons k, by simp [hk.1, h2]⟩
  | swap x y l =>
    intro ks hk
    match ks, hk with
    | [], hk => simp at hk
    | [k], hk => simp at hk
    | k :: k' :: ks, hk =>
      simp at hk
      exact ⟨k' :: k :: ks, .swap k k' ks, by simp [hk]⟩
  | trans _ _ ih1 ih2 =>
    intro ks hk
    obtain ⟨ks1, h1, h2⟩ := ih2 ks hk
    obtain ⟨ks2, h3, h4⟩ := ih1 ks1 h2
    exact ⟨ks2, h3.trans h1, h4⟩
end Go.Proofs.Ytffbhinpmlcopaa

