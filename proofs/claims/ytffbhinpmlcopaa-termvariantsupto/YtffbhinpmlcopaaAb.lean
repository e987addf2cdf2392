import Derived.Test.YtffbhinpmlcopaaRc
/- The contract of term.appendBind. -/
namespace Go.Proofs.Ytffbhinpmlcopaa
open Go.RowKit Go.Shelf

/-- A part that is a variable has no Name and no Args. -/
def vOk (x : Nd) : Prop := x.1 = 1 → x.2.2 = ([], 0)
theorem okT_vok {n : Nat} {t : Tm n} (h : okT t = true) : ∀ x ∈ code t, vOk x := by
  intro x hx hk
  obtain ⟨y, hy, rfl⟩ := List.mem_map.1 hx
  have hw : y.ok = true := List.all_eq_true.1 h y hy
  unfold TV.ok at hw
  rcases wm_cases hw with ⟨h1, _, _, h4, h5⟩ | ⟨h1, _⟩ | ⟨h1, _⟩
  · simp [TV.nd, h4, h5]
  · simp only [TV.nd] at hk; omega
  · simp only [TV.nd] at hk; omega
theorem sub_vok {c : List Nd} {cu : List (Int × List Nd)} (h : ∀ x ∈ c, vOk x) (hu : ∀ p ∈ cu, ∀ x ∈ p.2, vOk x) : ∀ x ∈ c.flatMap (subN (lookC cu)), vOk x := by
  intro x hx
  obtain ⟨y, hy, hxy⟩ := List.mem_flatMap.1 hx
  unfold subN at hxy
  split at hxy
  · unfold lookC at hxy
    split at hxy
    · rename_i p hp
      exact hu p (List.mem_of_find?_eq_some hp) x hxy
    · simp at hxy; subst hxy; intro _; rfl
  · simp at hxy; subst hxy; exact h _ hy
theorem holds_var {D : Nat} {S : Nat → Prop} {W : World} {x : TV} {ct : List Nd} (h : HoldsS D S W x.val ct) (hv : ∀ y ∈ ct, vOk y) (N : Int) (hDl : D + 1 ≤ 2199023255552 := by omega) : (x.k = 1 ∧ x.N = N) ↔ ct = [varNd N] := by
  obtain ⟨t, h1, h2, _, h4⟩ := h (D + 1) (by omega) hDl
  obtain ⟨tv, kids⟩ := t
  have hx : x = tv := TV.val_inj h1
  subst hx
  have hc : x.nd :: kids.flatMap code = ct := by rw [← h4]; exact (code_succ x kids).symm
  have hwl : x.len = kids.length := h2.wl.1
  subst hc
  constructor
  · rintro ⟨hk, hN⟩
    have := hv x.nd (by simp) hk
    simp [TV.nd] at this
    have hk0 : kids = [] := List.length_eq_zero_iff.1 (by omega)
    subst hk0
    simp [TV.nd, varNd, hk, hN, this]
  · intro h
    simp [TV.nd, varNd] at h
    exact ⟨h.1.1, h.1.2.1⟩

/-- What appendBind makes of a list of codes. -/
def addC (c : List (Int × List Nd)) (N : Int) (ct : List Nd) : List (Int × List Nd) := if ct = [varNd N] then c else c ++ [(N, ct)]

set_option maxRecDepth 100000 in
set_option maxHeartbeats 1000000 in
theorem appendBind_var {D base : Nat} {S : Nat → Prop} (N : Int) (M : Int) (s : ByteArray) (a : Option Addr) (xl xc : Nat) (ct : List Nd) (v : Value) (l : List (Int × TV)) (c : List (Int × List Nd)) (W : World) (hm : MadeB D S base W v l c)
    (hx : HoldsS D (fun b => v.ownBlock ≠ some b ∧ S b) W (⟨1, M, s, a, xl, xc⟩ : TV).val ct) (hlen : l.length ≤ 4194304) (hbase : base ≤ W.heap.size) (hg : (M == N) = false) :
    Calls Try.prog 29 #[v, .int .i64 N, .agg #[.int .i64 1, .int .i64 M, .string s, .slice a xl xc]] W fun e W' => ∃ v' l', e = .returned v' ∧ Below base W W' ∧ W.heap.size ≤ W'.heap.size ∧ MadeB D S base W' v' l' (c ++ [(N, ct)]) ∧ l'.length ≤ l.length + 1 ∧ (∀ b, b < W.heap.size → v.ownBlock ≠ some b → W'.heap[b]? = W.heap[b]?) := by
  obtain ⟨i0, hi, hz0, hz1, hz2⟩ := info_parts Try.info_bind
  have HSZ := hide (show (W.alloc (.cells #[.int .i64 1, .int .i64 M, .string s, .slice a xl xc] 24)).heap.size = W.heap.size + 1 by simp)
  have hB1 := ((Below.refl _ W).alloc (Nat.le_refl _) (.cells #[.int .i64 1, .int .i64 M, .string s, .slice a xl xc] 24)).alloc (by simp) (.cells #[.int .i64 N, .int .i64 1, .int .i64 M, .string s, .slice a xl xc] 60)
  have hown5 := (hm.below hB1).owns
  have hone : ∀ Mm, D ≤ Mm → Mm ≤ 2199023255552 → ∃ ks : List (Int × Tm Mm), ks.map (fun p => (p.1, p.2.tv)) = [(N, (⟨1, M, s, a, xl, xc⟩ : TV))] ∧ (∀ p ∈ ks, IsT ((W.alloc (.cells #[.int .i64 1, .int .i64 M, .string s, .slice a xl xc] 24)).alloc (.cells #[.int .i64 N, .int .i64 1, .int .i64 M, .string s, .slice a xl xc] 60)).heap.size ((W.alloc (.cells #[.int .i64 1, .int .i64 M, .string s, .slice a xl xc] 24)).alloc (.cells #[.int .i64 N, .int .i64 1, .int .i64 M, .string s, .slice a xl xc] 60)) p.2 ∧ BlkT (fun b => v.ownBlock ≠ some b ∧ S b) p.2) ∧ cb ks = [(N, ct)] := fun Mm hM hlm => by
    obtain ⟨t, h1, h2, h3, h4⟩ := hx Mm hM hlm
    refine ⟨[(N, t)], by simp [← TV.val_inj h1], fun p hp => ?_, by simp [cb, h4]⟩
    simp at hp
    subst hp
    exact ⟨(h2.below hB1).mono hB1.size, h3⟩
  have hgl : ∀ g, v.ownBlock = some g → base ≤ g := fun g hg => (owns_lt hm.owns hg).1
  have HG := hide hgl
  have HM := hide hm
  have HO1 := hide hone
  have HO5 := hide hown5
  clear hgl hm hone hown5 hx
  go_enter Try.func29, Try.ntmps29
  go_wp2_with (at_builtin; go_must (refine wpList_append_own_at _ rfl _ _ 31 rfl base 60 i0 _ 5 64 Try.underlying31 hi hz0 hz1 hz2 rfl (by decide) v l.length (l.flatMap bRow) rfl (unhide HO5) ⟨W.heap.size + 1, 0, none⟩ 1 1 ([(N, (⟨1, M, s, a, xl, xc⟩ : TV))].flatMap bRow) rfl rfl (by have := new_bind (W5 := W.alloc (.cells #[.int .i64 1, .int .i64 M, .string s, .slice a xl xc] 24)) (V := N) (x := (⟨1, M, s, a, xl, xc⟩ : TV)); rw [unhide HSZ] at this; exact this) (bRow_one _) (by unfold maxLen; omega) (by omega) (by simp; omega) ?_; intro v' w1 hown' hgrow hnil' hbk'))
  have hmade := (unhide HM).next hB1 (unhide HO1) hown' hgrow hbk'
  have hbel : Below base W w1 := (hB1.mono hbase).grown hgrow (by simp; omega) (unhide HG)
  exact bodyPost_ret (v := v') (by simp [results, Try.results29, go_sem]) rfl ⟨v', _, rfl, hbel, by have := hgrow.size; simp at this; omega, hmade, by simp, fun b hb hne => (hgrow.block b (by simp; omega) (fun e => hne e.symm)).trans (hB1.block b hb)⟩

set_option maxRecDepth 100000 in
set_option maxHeartbeats 1000000 in
theorem appendBind_other {D base : Nat} {S : Nat → Prop} (N : Int) (k : Int) (M : Int) (s : ByteArray) (a : Option Addr) (xl xc : Nat) (ct : List Nd) (v : Value) (l : List (Int × TV)) (c : List (Int × List Nd)) (W : World) (hm : MadeB D S base W v l c)
    (hx : HoldsS D (fun b => v.ownBlock ≠ some b ∧ S b) W (⟨k, M, s, a, xl, xc⟩ : TV).val ct) (hlen : l.length ≤ 4194304) (hbase : base ≤ W.heap.size) (hg : (k == 1) = false) :
    Calls Try.prog 29 #[v, .int .i64 N, .agg #[.int .i64 k, .int .i64 M, .string s, .slice a xl xc]] W fun e W' => ∃ v' l', e = .returned v' ∧ Below base W W' ∧ W.heap.size ≤ W'.heap.size ∧ MadeB D S base W' v' l' (c ++ [(N, ct)]) ∧ l'.length ≤ l.length + 1 ∧ (∀ b, b < W.heap.size → v.ownBlock ≠ some b → W'.heap[b]? = W.heap[b]?) := by
  obtain ⟨i0, hi, hz0, hz1, hz2⟩ := info_parts Try.info_bind
  have HSZ := hide (show (W.alloc (.cells #[.int .i64 k, .int .i64 M, .string s, .slice a xl xc] 24)).heap.size = W.heap.size + 1 by simp)
  have hB1 := ((Below.refl _ W).alloc (Nat.le_refl _) (.cells #[.int .i64 k, .int .i64 M, .string s, .slice a xl xc] 24)).alloc (by simp) (.cells #[.int .i64 N, .int .i64 k, .int .i64 M, .string s, .slice a xl xc] 60)
  have hown5 := (hm.below hB1).owns
  have hone : ∀ Mm, D ≤ Mm → Mm ≤ 2199023255552 → ∃ ks : List (Int × Tm Mm), ks.map (fun p => (p.1, p.2.tv)) = [(N, (⟨k, M, s, a, xl, xc⟩ : TV))] ∧ (∀ p ∈ ks, IsT ((W.alloc (.cells #[.int .i64 k, .int .i64 M, .string s, .slice a xl xc] 24)).alloc (.cells #[.int .i64 N, .int .i64 k, .int .i64 M, .string s, .slice a xl xc] 60)).heap.size ((W.alloc (.cells #[.int .i64 k, .int .i64 M, .string s, .slice a xl xc] 24)).alloc (.cells #[.int .i64 N, .int .i64 k, .int .i64 M, .string s, .slice a xl xc] 60)) p.2 ∧ BlkT (fun b => v.ownBlock ≠ some b ∧ S b) p.2) ∧ cb ks = [(N, ct)] := fun Mm hM hlm => by
    obtain ⟨t, h1, h2, h3, h4⟩ := hx Mm hM hlm
    refine ⟨[(N, t)], by simp [← TV.val_inj h1], fun p hp => ?_, by simp [cb, h4]⟩
    simp at hp
    subst hp
    exact ⟨(h2.below hB1).mono hB1.size, h3⟩
  have hgl : ∀ g, v.ownBlock = some g → base ≤ g := fun g hg => (owns_lt hm.owns hg).1
  have HG := hide hgl
  have HM := hide hm
  have HO1 := hide hone
  have HO5 := hide hown5
  clear hgl hm hone hown5 hx
  go_enter Try.func29, Try.ntmps29
  go_wp2_with (at_builtin; go_must (refine wpList_append_own_at _ rfl _ _ 31 rfl base 60 i0 _ 5 64 Try.underlying31 hi hz0 hz1 hz2 rfl (by decide) v l.length (l.flatMap bRow) rfl (unhide HO5) ⟨W.heap.size + 1, 0, none⟩ 1 1 ([(N, (⟨k, M, s, a, xl, xc⟩ : TV))].flatMap bRow) rfl rfl (by have := new_bind (W5 := W.alloc (.cells #[.int .i64 k, .int .i64 M, .string s, .slice a xl xc] 24)) (V := N) (x := (⟨k, M, s, a, xl, xc⟩ : TV)); rw [unhide HSZ] at this; exact this) (bRow_one _) (by unfold maxLen; omega) (by omega) (by simp; omega) ?_; intro v' w1 hown' hgrow hnil' hbk'))
  have hmade := (unhide HM).next hB1 (unhide HO1) hown' hgrow hbk'
  have hbel : Below base W w1 := (hB1.mono hbase).grown hgrow (by simp; omega) (unhide HG)
  exact bodyPost_ret (v := v') (by simp [results, Try.results29, go_sem]) rfl ⟨v', _, rfl, hbel, by have := hgrow.size; simp at this; omega, hmade, by simp, fun b hb hne => (hgrow.block b (by simp; omega) (fun e => hne e.symm)).trans (hB1.block b hb)⟩

set_option maxRecDepth 100000 in
set_option maxHeartbeats 1000000 in
theorem appendBind_same (N : Int) (s : ByteArray) (a : Option Addr) (xl xc : Nat) (v : Value) (W : World) :
    Calls Try.prog 29 #[v, .int .i64 N, .agg #[.int .i64 1, .int .i64 N, .string s, .slice a xl xc]] W fun e W' => e = .returned v ∧ Below W.heap.size W W' := by
  go_enter Try.func29, Try.ntmps29
  go_wp2_with fail
  exact bodyPost_ret (v := v) (by simp [results, Try.results29, go_sem]) rfl ⟨rfl, (Below.refl _ _).alloc (Nat.le_refl _) _⟩

theorem appendBind_any {D base : Nat} {S : Nat → Prop} (N : Int) (x : TV) (ct : List Nd) (v : Value) (l : List (Int × TV)) (c : List (Int × List Nd)) (W : World) (hm : MadeB D S base W v l c)
    (hx : HoldsS D (fun b => v.ownBlock ≠ some b ∧ S b) W x.val ct) (hv : ∀ y ∈ ct, vOk y) (hlen : l.length ≤ 4194304) (hbase : base ≤ W.heap.size) (hDl : D + 1 ≤ 2199023255552 := by omega) :
    Calls Try.prog 29 #[v, .int .i64 N, x.val] W fun e W' => ∃ v' l', e = .returned v' ∧ Below base W W' ∧ W.heap.size ≤ W'.heap.size ∧ MadeB D S base W' v' l' (addC c N ct) ∧ l'.length ≤ l.length + 1 ∧ (∀ b, b < W.heap.size → v.ownBlock ≠ some b → W'.heap[b]? = W.heap[b]?) := by
  have hq := holds_var hx hv N hDl
  obtain ⟨k, M, s, a, xl, xc⟩ := x
  simp only at hq
  unfold addC
  by_cases hk : k = 1
  · subst hk
    by_cases hN : M = N
    · subst hN
      rw [if_pos (hq.1 ⟨rfl, rfl⟩)]
      refine (appendBind_same M s a xl xc v W).mono fun e W' h => ?_
      exact ⟨v, l, h.1, h.2.mono hbase, h.2.size, hm.below h.2, by omega, fun b hb _ => h.2.block b hb⟩
    · rw [if_neg (fun h => hN (hq.2 h).2)]
      exact appendBind_var N M s a xl xc ct v l c W hm hx hlen hbase (by simp [hN])
  · rw [if_neg (fun h => hk (hq.2 h).1)]
    exact appendBind_other N k M s a xl xc ct v l c W hm hx hlen hbase (by simp [hk])
end Go.Proofs.Ytffbhinpmlcopaa

