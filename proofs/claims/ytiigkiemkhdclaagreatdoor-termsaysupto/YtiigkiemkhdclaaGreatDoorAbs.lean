import Derived.Test.YtiigkiemkhdclaaGreatDoorMbs
/- The contract of term.appendBind. -/
namespace Go.Proofs.YtiigkiemkhdclaaGreatDoor
open Go.RowKit Go.Shelf

/-- A part that is a variable has no Name and no Args. -/
def vOk (x : Nd) : Prop := x.1 = 1 → x.2.2 = ([], 0)
theorem okT_vok {n : Nat} {t : Tm n} (h : okT t = true) : ∀ x ∈ code t, vOk x := by
  intro x hx hk
  obtain ⟨y, hy, rfl⟩ := List.mem_map.1 hx
  have hw : y.ok = true := List.all_eq_true.1 h y hy
  unfold TV.ok at hw
  rcases wm_cases hw with ⟨h1, _, _, h4, h5⟩ | ⟨h1, _⟩ | ⟨h1, _⟩
  · simp [TV.nd, h4, h5]
  · simp only [TV.nd] at hk; omega
  · simp only [TV.nd] at hk; omega
theorem sub_vok {c : List Nd} {cu : List (Int × List Nd)} (h : ∀ x ∈ c, vOk x) (hu : ∀ p ∈ cu, ∀ x ∈ p.2, vOk x) : ∀ x ∈ c.flatMap (subN (lookC cu)), vOk x := by
  intro x hx
  obtain ⟨y, hy, hxy⟩ := List.mem_flatMap.1 hx
  unfold subN at hxy
  split at hxy
  · unfold lookC at hxy
    split at hxy
    · rename_i p hp
      exact hu p (List.mem_of_find?_eq_some hp) x hxy
    · simp at hxy; subst hxy; intro _; rfl
  · simp at hxy; subst hxy; exact h _ hy
theorem holds_var {D : Nat} {S : Nat → Prop} {W : World} {x : TV} {ct : List Nd} (h : HoldsS D S W x.val ct) (hv : ∀ y ∈ ct, vOk y) (N : Int) : (x.k = 1 ∧ x.N = N) ↔ ct = [varNd N] := by
  obtain ⟨t, h1, h2, _, h4⟩ := h (D + 1) (by omega)
  obtain ⟨tv, kids⟩ := t
  have hx : x = tv := TV.val_inj h1
  subst hx
  have hc : x.nd :: kids.flatMap code = ct := by rw [← h4]; exact (code_succ x kids).symm
  have hwl : x.len = kids.length := h2.wl.1
  subst hc
  constructor
  · rintro ⟨hk, hN⟩
    have := hv x.nd (by simp) hk
    simp [TV.nd] at this
    have hk0 : kids = [] := List.length_eq_zero_iff.1 (by omega)
    subst hk0
    simp [TV.nd, varNd, hk, hN, this]
  · intro h
    simp [TV.nd, varNd] at h
    exact ⟨h.1.1, h.1.2.1⟩

/-- What appendBind makes of a list of codes. -/
def addC (c : List (Int × List Nd)) (N : Int) (ct : List Nd) : List (Int × List Nd) := if ct = [varNd N] then c else c ++ [(N, ct)]

set_option maxRecDepth 100000 in
set_option maxHeartbeats 1000000 in
theorem appendBind_var {D base : Nat} {S : Nat → Prop} (N : Int) (M : Int) (s : ByteArray) (a : Option Addr) (xl xc : Nat) (ct : List Nd) (v : Value) (l : List (Int × TV)) (c : List (Int × List Nd)) (W : World) (hm : MadeB D S base W v l c)
    (hx : HoldsS D (fun b => v.ownBlock ≠ some b ∧ S b) W (⟨1, M, s, a, xl, xc⟩ : TV).val ct) (hlen : l.length ≤ 4194304) (hbase : base ≤ W.heap.size) (hg : (M == N) = false) :
    Calls Tryz.prog 92 #[v, .int .i64 N, .agg #[.int .i64 1, .int .i64 M, .string s, .slice a xl xc]] W fun e W' => ∃ v' l', e = .returned v' ∧ Below base W W' ∧ W.heap.size ≤ W'.heap.size ∧ MadeB D S base W' v' l' (c ++ [(N, ct)]) ∧ l'.length ≤ l.length + 1 ∧ (∀ b, b < W.heap.size → v.ownBlock ≠ some b → W'.heap[b]? = W.heap[b]?) := by
  obtain ⟨i0, hi, hz0, hz1, hz2⟩ := info_parts Tryz.info_bind
  have HSZ := hide (show (W.alloc (.cells #[.int .i64 1, .int .i64 M, .string s, .slice a xl xc] 24)).heap.size = W.heap.size + 1 by simp)
  have hB1 := ((Below.refl _ W).alloc (Nat.le_refl _) (.cells #[.int .i64 1, .int .i64 M, .string s, .slice a xl xc] 24)).alloc (by simp) (.cells #[.int .i64 N, .int .i64 1, .int .i64 M, .string s, .slice a xl xc] 82)
  have hown5 := (hm.below hB1).owns
  have hone : ∀ Mm, D ≤ Mm → ∃ ks : List (Int × Tm Mm), ks.map (fun p => (p.1, p.2.tv)) = [(N, (⟨1, M, s, a, xl, xc⟩ : TV))] ∧ (∀ p ∈ ks, IsT ((W.alloc (.cells #[.int .i64 1, .int .i64 M, .string s, .slice a xl xc] 24)).alloc (.cells #[.int .i64 N, .int .i64 1, .int .i64 M, .string s, .slice a xl xc] 82)).heap.size ((W.alloc (.cells #[.int .i64 1, .int .i64 M, .string s, .slice a xl xc] 24)).alloc (.cells #[.int .i64 N, .int .i64 1, .int .i64 M, .string s, .slice a xl xc] 82)) p.2 ∧ BlkT (fun b => v.ownBlock ≠ some b ∧ S b) p.2) ∧ cb ks = [(N, ct)] := fun Mm hM => by
    obtain ⟨t, h1, h2, h3, h4⟩ := hx Mm hM
    refine ⟨[(N, t)], by simp [← TV.val_inj h1], fun p hp => ?_, by simp [cb, h4]⟩
    simp at hp
    subst hp
    exact ⟨(h2.below hB1).mono hB1.size, h3⟩
  have hgl : ∀ g, v.ownBlock = some g → base ≤ g := fun g hg => (owns_lt hm.owns hg).1
  have HG := hide hgl
  have HM := hide hm
  have HO1 := hide hone
  have HO5 := hide hown5
  clear hgl hm hone hown5 hx
  go_enter Tryz.func92, Tryz.ntmps92
  go_wp2_with (at_builtin; go_must (refine wpList_append_own_at _ rfl _ _ 32 rfl base 82 i0 _ 5 64 Tryz.underlying32 hi hz0 hz1 hz2 rfl (by decide) v l.length (l.flatMap bRow) rfl (unhide HO5) ⟨W.heap.size + 1, 0, none⟩ 1 1 ([(N, (⟨1, M, s, a, xl, xc⟩ : TV))].flatMap bRow) rfl rfl (by have := new_bind (W5 := W.alloc (.cells #[.int .i64 1, .int .i64 M, .string s, .slice a xl xc] 24)) (V := N) (x := (⟨1, M, s, a, xl, xc⟩ : TV)); rw [unhide HSZ] at this; exact this) (bRow_one _) (by unfold maxLen; omega) (by omega) (by simp; omega) ?_; intro v' w1 hown' hgrow hnil' hbk'))
  have hmade := (unhide HM).next hB1 (unhide HO1) hown' hgrow hbk'
  have hbel : Below base W w1 := (hB1.mono hbase).grown hgrow (by simp; omega) (unhide HG)
  exact bodyPost_ret (v := v') (by simp [results, Tryz.results92, go_sem]) rfl ⟨v', _, rfl, hbel, by have := hgrow.size; simp at this; omega, hmade, by simp, fun b hb hne => (hgrow.block b (by simp; omega) (fun e => hne e.symm)).trans (hB1.block b hb)⟩

set_option maxRecDepth 100000 in
set_option maxHeartbeats 1000000 in
theorem appendBind_other {D base : Nat} {S : Nat → Prop} (N : Int) (k : Int) (M : Int) (s : ByteArray) (a : Option Addr) (xl xc : Nat) (ct : List Nd) (v : Value) (l : List (Int × TV)) (c : List (Int × List Nd)) (W : World) (hm : MadeB D S base W v l c)
    (hx : HoldsS D (fun b => v.ownBlock ≠ some b ∧ S b) W (⟨k, M, s, a, xl, xc⟩ : TV).val ct) (hlen : l.length ≤ 4194304) (hbase : base ≤ W.heap.size) (hg : (k == 1) = false) :
    Calls Tryz.prog 92 #[v, .int .i64 N, .agg #[.int .i64 k, .int .i64 M, .string s, .slice a xl xc]] W fun e W' => ∃ v' l', e = .returned v' ∧ Below base W W' ∧ W.heap.size ≤ W'.heap.size ∧ MadeB D S base W' v' l' (c ++ [(N, ct)]) ∧ l'.length ≤ l.length + 1 ∧ (∀ b, b < W.heap.size → v.ownBlock ≠ some b → W'.heap[b]? = W.heap[b]?) := by
  obtain ⟨i0, hi, hz0, hz1, hz2⟩ := info_parts Tryz.info_bind
  have HSZ := hide (show (W.alloc (.cells #[.int .i64 k, .int .i64 M, .string s, .slice a xl xc] 24)).heap.size = W.heap.size + 1 by simp)
  have hB1 := ((Below.refl _ W).alloc (Nat.le_refl _) (.cells #[.int .i64 k, .int .i64 M, .string s, .slice a xl xc] 24)).alloc (by simp) (.cells #[.int .i64 N, .int .i64 k, .int .i64 M, .string s, .slice a xl xc] 82)
  have hown5 := (hm.below hB1).owns
  have hone : ∀ Mm, D ≤ Mm → ∃ ks : List (Int × Tm Mm), ks.map (fun p => (p.1, p.2.tv)) = [(N, (⟨k, M, s, a, xl, xc⟩ : TV))] ∧ (∀ p ∈ ks, IsT ((W.alloc (.cells #[.int .i64 k, .int .i64 M, .string s, .slice a xl xc] 24)).alloc (.cells #[.int .i64 N, .int .i64 k, .int .i64 M, .string s, .slice a xl xc] 82)).heap.size ((W.alloc (.cells #[.int .i64 k, .int .i64 M, .string s, .slice a xl xc] 24)).alloc (.cells #[.int .i64 N, .int .i64 k, .int .i64 M, .string s, .slice a xl xc] 82)) p.2 ∧ BlkT (fun b => v.ownBlock ≠ some b ∧ S b) p.2) ∧ cb ks = [(N, ct)] := fun Mm hM => by
    obtain ⟨t, h1, h2, h3, h4⟩ := hx Mm hM
    refine ⟨[(N, t)], by simp [← TV.val_inj h1], fun p hp => ?_, by simp [cb, h4]⟩
    simp at hp
    subst hp
    exact ⟨(h2.below hB1).mono hB1.size, h3⟩
  have hgl : ∀ g, v.ownBlock = some g → base ≤ g := fun g hg => (owns_lt hm.owns hg).1
  have HG := hide hgl
  have HM := hide hm
  have HO1 := hide hone
  have HO5 := hide hown5
  clear hgl hm hone hown5 hx
  go_enter Tryz.func92, Tryz.ntmps92
  go_wp2_with (at_builtin; go_must (refine wpList_append_own_at _ rfl _ _ 32 rfl base 82 i0 _ 5 64 Tryz.underlying32 hi hz0 hz1 hz2 rfl (by decide) v l.length (l.flatMap bRow) rfl (unhide HO5) ⟨W.heap.size + 1, 0, none⟩ 1 1 ([(N, (⟨k, M, s, a, xl, xc⟩ : TV))].flatMap bRow) rfl rfl (by have := new_bind (W5 := W.alloc (.cells #[.int .i64 k, .int .i64 M, .string s, .slice a xl xc] 24)) (V := N) (x := (⟨k, M, s, a, xl, xc⟩ : TV)); rw [unhide HSZ] at this; exact this) (bRow_one _) (by unfold maxLen; omega) (by omega) (by simp; omega) ?_; intro v' w1 hown' hgrow hnil' hbk'))
  have hmade := (unhide HM).next hB1 (unhide HO1) hown' hgrow hbk'
  have hbel : Below base W w1 := (hB1.mono hbase).grown hgrow (by simp; omega) (unhide HG)
  exact bodyPost_ret (v := v') (by simp [results, Tryz.results92, go_sem]) rfl ⟨v', _, rfl, hbel, by have := hgrow.size; simp at this; omega, hmade, by simp, fun b hb hne => (hgrow.block b (by simp; omega) (fun e => hne e.symm)).trans (hB1.block b hb)⟩

set_option maxRecDepth 100000 in
set_option maxHeartbeats 1000000 in
theorem appendBind_same (N : Int) (s : ByteArray) (a : Option Addr) (xl xc : Nat) (v : Value) (W : World) :
    Calls Tryz.prog 92 #[v, .int .i64 N, .agg #[.int .i64 1, .int .i64 N, .string s, .slice a xl xc]] W fun e W' => e = .returned v ∧ Below W.heap.size W W' := by
  go_enter Tryz.func92, Tryz.ntmps92
  go_wp2_with fail
  exact bodyPost_ret (v := v) (by simp [results, Tryz.results92, go_sem]) rfl ⟨rfl, (Below.refl _ _).alloc (Nat.le_refl _) _⟩

theorem appendBind_any {D base : Nat} {S : Nat → Prop} (N : Int) (x : TV) (ct : List Nd) (v : Value) (l : List (Int × TV)) (c : List (Int × List Nd)) (W : World) (hm : MadeB D S base W v l c)
    (hx : HoldsS D (fun b => v.ownBlock ≠ some b ∧ S b) W x.val ct) (hv : ∀ y ∈ ct, vOk y) (hlen : l.length ≤ 4194304) (hbase : base ≤ W.heap.size) :
    Calls Tryz.prog 92 #[v, .int .i64 N, x.val] W fun e W' => ∃ v' l', e = .returned v' ∧ Below base W W' ∧ W.heap.size ≤ W'.heap.size ∧ MadeB D S base W' v' l' (addC c N ct) ∧ l'.length ≤ l.length + 1 ∧ (∀ b, b < W.heap.size → v.ownBlock ≠ some b → W'.heap[b]? = W.heap[b]?) := by
  have hq := holds_var hx hv N
  obtain ⟨k, M, s, a, xl, xc⟩ := x
  simp only at hq
  unfold addC
  by_cases hk : k = 1
  · subst hk
    by_cases hN : M = N
    · subst hN
      rw [if_pos (hq.1 ⟨rfl, rfl⟩)]
      refine (appendBind_same M s a xl xc v W).mono fun e W' h => ?_
      exact ⟨v, l, h.1, h.2.mono hbase, h.2.size, hm.below h.2, by omega, fun b hb _ => h.2.block b hb⟩
    · rw [if_neg (fun h => hN (hq.2 h).2)]
      exact appendBind_var N M s a xl xc ct v l c W hm hx hlen hbase (by simp [hN])
  · rw [if_neg (fun h => hk (hq.2 h).1)]
    exact appendBind_other N k M s a xl xc ct v l c W hm hx hlen hbase (by simp [hk])
end Go.Proofs.YtiigkiemkhdclaaGreatDoor

/- Plain mathematics: binds put in one by one (insF) are the sorted row of them. -/
namespace Go.Proofs.YtiigkiemkhdclaaGreatDoor

/-- Rising by Var, not strictly. -/
def Up {β : Type} (l : List (Int × β)) : Prop := l.Pairwise (fun p q => p.1 ≤ q.1)
def insF {β : Type} (l : List (Int × β)) : List (Int × β) := l.foldl (fun acc p => insK acc p.1 p.2) []
theorem insK_perm {β : Type} (l : List (Int × β)) (n : Int) (y : β) : (insK l n y).Perm ((n, y) :: l) := by
  unfold insK
  refine List.perm_middle.trans ?_
  rw [List.takeWhile_append_dropWhile]
theorem insK_up {β : Type} : ∀ (l : List (Int × β)) (n : Int) (y : β), Up l → Up (insK l n y)
  | [], n, y, _ => by simp [insK, Up]
  | p :: l, n, y, h => by
    obtain ⟨h1, h2⟩ := List.pairwise_cons.1 h
    by_cases hp : p.1 < n
    · have ih := insK_up l n y h2
      have e : insK (p :: l) n y = p :: insK l n y := by simp [insK, hp]
      rw [e]
      refine List.pairwise_cons.2 ⟨fun q hq => ?_, ih⟩
      rcases List.mem_cons.1 ((insK_perm l n y).mem_iff.1 hq) with rfl | hq
      · exact Int.le_of_lt hp
      · exact h1 q hq
    · have e : insK (p :: l) n y = (n, y) :: p :: l := by simp [insK, hp]
      rw [e]
      refine List.pairwise_cons.2 ⟨fun q hq => ?_, h⟩
      rcases List.mem_cons.1 hq with rfl | hq
      · simp only; omega
      · have := h1 q hq; simp only; omega
theorem insF_go {β : Type} : ∀ (l acc : List (Int × β)), Up acc → Up (l.foldl (fun acc p => insK acc p.1 p.2) acc) ∧ (l.foldl (fun acc p => insK acc p.1 p.2) acc).Perm (acc ++ l)
  | [], acc, h => ⟨h, by simp⟩
  | p :: l, acc, h => by
    obtain ⟨h1, h2⟩ := insF_go l (insK acc p.1 p.2) (insK_up _ _ _ h)
    refine ⟨h1, h2.trans ?_⟩
    refine ((insK_perm acc p.1 p.2).append_right l).trans ?_
    exact List.perm_middle.symm
theorem insF_up {β : Type} (l : List (Int × β)) : Up (insF l) := (insF_go l [] List.Pairwise.nil).1
theorem insF_perm {β : Type} (l : List (Int × β)) : (insF l).Perm l := by simpa [insF] using (insF_go l [] List.Pairwise.nil).2
/-- No Var twice. -/
def Once {β : Type} (l : List (Int × β)) : Prop := l.Pairwise (fun p q => p.1 ≠ q.1)
theorem Once.eq {β : Type} {l : List (Int × β)} (h : Once l) {p q : Int × β} (hp : p ∈ l) (hq : q ∈ l) (e : p.1 = q.1) : p = q := by
  induction l with
  | nil => cases hp
  | cons x l ih =>
    obtain ⟨h1, h2⟩ := List.pairwise_cons.1 h
    rcases List.mem_cons.1 hp with m1 | m1 <;> rcases List.mem_cons.1 hq with m2 | m2
    · rw [m1, m2]
    · subst m1; exact (h1 q m2 e).elim
    · subst m2; exact (h1 p m1 e.symm).elim
    · exact ih h2 m1 m2
theorem up_unique {β : Type} : ∀ {a b c : List (Int × β)}, Once c → a.Perm c → b.Perm c → Up a → Up b → a = b
  | [], b, c, _, ha, hb, _, _ => by
    have : c = [] := by simpa using ha.symm
    subst this
    exact (by simpa using hb : b = []).symm
  | x :: a, [], c, _, ha, hb, _, _ => by
    have : c = [] := by simpa using hb.symm
    subst this
    simp at ha
  | x :: a, y :: b, c, hc, ha, hb, ua, ub => by
    obtain ⟨u1, u2⟩ := List.pairwise_cons.1 ua
    obtain ⟨w1, w2⟩ := List.pairwise_cons.1 ub
    have hxc : x ∈ c := ha.mem_iff.1 (by simp)
    have hyc : y ∈ c := hb.mem_iff.1 (by simp)
    have hxy : x.1 ≤ y.1 := by
      rcases List.mem_cons.1 (ha.mem_iff.2 hyc) with e | h
      · rw [e]; exact Int.le_refl _
      · exact u1 y h
    have hyx : y.1 ≤ x.1 := by
      rcases List.mem_cons.1 (hb.mem_iff.2 hxc) with e | h
      · rw [e]; exact Int.le_refl _
      · exact w1 x h
    have e : x = y := hc.eq hxc hyc (by omega)
    subst e
    have hab : a.Perm b := (List.perm_cons x).1 (ha.trans hb.symm)
    have hca : Once (x :: a) := ha.symm.pairwise hc (fun h => Ne.symm h)
    have hoa : Once a := (List.pairwise_cons.1 hca).2
    rw [up_unique hoa (List.Perm.refl a) hab.symm u2 w2]
/-- A permuted row of images is the row of images of a permuted row. -/
theorem perm_lift {α β : Type} (f : α → β) : ∀ {l' l : List β} (_ : l'.Perm l) (ks : List α), ks.map f = l → ∃ ks' : List α, ks'.Perm ks ∧ ks'.map f = l' := by
  intro l' l h
  induction h with
  | nil => intro ks hk; exact ⟨ks, .refl _, hk⟩
  | cons x _ ih =>
    intro ks hk
    cases ks with
    | nil => simp at hk
    | cons k ks =>
      simp at hk
      obtain ⟨ks', h1, h2⟩ := ih ks hk.2
      exact ⟨k :: ks', h1.cons k, by simp [hk.1, h2]⟩
  | swap x y l =>
    intro ks hk
    match ks, hk with
    | [], hk => simp at hk
    | [k], hk => simp at hk
    | k :: k' :: ks, hk =>
      simp at hk
      exact ⟨k' :: k :: ks, .swap k k' ks, by simp [hk]⟩
  | trans _ _ ih1 ih2 =>
    intro ks hk
    obtain ⟨ks1, h1, h2⟩ := ih2 ks hk
    obtain ⟨ks2, h3, h4⟩ := ih1 ks1 h2
    exact ⟨ks2, h3.trans h1, h4⟩
end Go.Proofs.YtiigkiemkhdclaaGreatDoor

