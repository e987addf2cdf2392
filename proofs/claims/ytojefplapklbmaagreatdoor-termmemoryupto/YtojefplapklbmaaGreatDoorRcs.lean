import Derived.Test.YtojefplapklbmaaGreatDoorMbs
import Derived.Test.YtojefplapklbmaaGreatDoorSortLay
import Derived.Shelf.SlSortCmp.NoneTotal
/- The contract of hornref.Compose. -/
namespace Go.Proofs.YtojefplapklbmaaGreatDoor
open Go.RowKit Go.Shelf

theorem insK_len {β : Type} (l : List (Int × β)) (n : Int) (y : β) : (insK l n y).length = l.length + 1 := by
  unfold insK
  have := congrArg List.length (List.takeWhile_append_dropWhile (p := fun p : Int × β => decide (p.1 < n)) (l := l))
  simp only [List.length_append, List.length_cons] at *
  omega
/-- A list of binds that is being made: at most k of them. -/
def OutB (D : Nat) (W : World) (v : Value) (k : Nat) (c : List (Int × List Nd)) : Prop :=
  ∃ a len cap l, v = .slice a len cap ∧ SrcB D W a len l c ∧ len ≤ k ∧ len ≤ cap ∧ (a = none → cap = 0)
theorem OutB.zero (D : Nat) (W : World) (hDl : D ≤ 2199023255552 := by omega) : OutB D W (.slice none 0 0) 0 [] :=
  ⟨none, 0, 0, [], rfl, ⟨hDl, fun M _ hlm => ⟨[], ⟨rfl, by omega, .inl rfl⟩, rfl, rfl⟩⟩, Nat.le_refl _, Nat.le_refl _, fun _ => rfl⟩
theorem OutB.below {D : Nat} {W W' : World} {v : Value} {k : Nat} {c : List (Int × List Nd)} (h : OutB D W v k c) (hb : Below W.heap.size W W') : OutB D W' v k c := by
  obtain ⟨a, len, cap, l, h1, h2, h3⟩ := h
  exact ⟨a, len, cap, l, h1, h2.below hb, h3⟩
theorem OutB.more {D : Nat} {W : World} {v : Value} {k k' : Nat} {c : List (Int × List Nd)} (h : OutB D W v k c) (hk : k ≤ k') : OutB D W v k' c := by
  obtain ⟨a, len, cap, l, h1, h2, h3, h4⟩ := h
  exact ⟨a, len, cap, l, h1, h2, by omega, h4⟩
theorem MadeB.out {D : Nat} {S : Nat → Prop} {base : Nat} {W : World} {v : Value} {l : List (Int × TV)} {c : List (Int × List Nd)} (h : MadeB D S base W v l c) {k : Nat} (hk : l.length ≤ k) (hl : k ≤ 1152921504606846976) (hDl : D ≤ 2199023255552 := by omega) : OutB D W v k c := by
  obtain ⟨a, cap, hv, hks⟩ := h.isL (by omega)
  obtain ⟨_, h2⟩ := h.owns
  refine ⟨a, l.length, cap, l, hv, ⟨hDl, fun M hM hlm => ?_⟩, hk, ?_⟩
  · obtain ⟨ks, k1, k2, k3, _⟩ := hks M hM hlm
    exact ⟨ks, k1, k2, k3⟩
  · rcases h2 with ⟨hv', hn⟩ | ⟨g, cap', cur, hv', hg, hb, hnc, _⟩
    · rw [hv'] at hv; simp at hv; obtain ⟨rfl, _, rfl⟩ := hv; exact ⟨by omega, fun _ => rfl⟩
    · rw [hv'] at hv; simp at hv; obtain ⟨rfl, rfl⟩ := hv; exact ⟨hnc, fun h => by cases h⟩
theorem place_out {D : Nat} {v : Value} {k : Nat} {c : List (Int × List Nd)} (N : Int) {x : TV} {ct : List Nd} {S : Nat → Prop} {W : World} (h : OutB D W v k c) (hx : HoldsS D S W x.val ct) (hbig : k ≤ 4194304) :
    Calls Tryz.prog 99 #[v, .int .i64 N, .agg #[.int .i64 x.k, .int .i64 x.N, .string x.s, .slice x.a x.len x.cap]] W fun e W' => ∃ v', e = .returned v' ∧ Below W.heap.size W W' ∧ OutB D W' v' (k + 1) (insK c N ct) := by
  obtain ⟨a, len, cap, l, rfl, h2, h3, h4, h5⟩ := h
  refine (place_any a len cap l c N x ct S W h2 hx (by omega) h4 h5).mono fun e W' hh => ?_
  obtain ⟨v', he, hb, hm⟩ := hh
  exact ⟨v', he, hb, hm.out (by rw [insK_len]; have := h2.len; omega) (by omega) h2.1⟩
theorem same_var {D : Nat} {S : Nat → Prop} {W : World} {x : TV} {ct : List Nd} (hx : HoldsS D S W x.val ct) (V : Int) (hDl : D + 1 ≤ 2199023255552 := by omega) : ∀ W3, Below W.heap.size W W3 → Calls Tryz.prog 41 #[.agg #[.int .i64 x.k, .int .i64 x.N, .string x.s, .slice x.a x.len x.cap], (varV V).val] W3 fun e W' => e = .returned (.bool (decide (ct = [varNd V]))) ∧ Below W3.heap.size W3 W' := fun W3 hb => by
  obtain ⟨t, h1, h2, _, h4⟩ := hx (D + 1) (by omega) hDl
  have hv := holds_leaf (varV V) rfl rfl rfl (by simp [varV, ByteArray.size]) 0 W3
  rw [varV_nd] at hv
  obtain ⟨u, u1, u2, _, u4⟩ := hv (D + 1) (by omega)
  have u2 := u2 hDl
  have hs := same_any (D + 1) t u W3 ((h2.below hb).mono hb.size) u2
  rw [← h1, ← u1] at hs
  have hd : sameT t u = decide (ct = [varNd V]) := by
    rw [sameT_code h2.wl u2.wl, h4, u4]
  rw [hd] at hs
  exact hs

def stepS (cu : List (Int × List Nd)) (c : List (Int × List Nd)) (p : Int × List Nd) : List (Int × List Nd) := if p.2.flatMap (subN (lookC cu)) = [varNd p.1] then c else insK c p.1 (p.2.flatMap (subN (lookC cu)))
def stepU (cs : List (Int × List Nd)) (c : List (Int × List Nd)) (p : Int × List Nd) : List (Int × List Nd) := if (∃ q ∈ cs, q.1 = p.1) ∨ p.2 = [varNd p.1] then c else insK c p.1 p.2
theorem cb_has {n : Nat} {ss : List (Int × Tm n)} {V : Int} : (∃ q ∈ cb ss, q.1 = V) ↔ ∃ p ∈ ss, p.1 = V := by
  constructor
  · rintro ⟨q, hq, h⟩
    obtain ⟨p, hp, rfl⟩ := List.mem_map.1 hq
    exact ⟨p, hp, h⟩
  · rintro ⟨p, hp, h⟩
    exact ⟨_, List.mem_map.2 ⟨p, hp, rfl⟩, h⟩
theorem foldl_take {α β : Type} (f : β → α → β) (b : β) (l : List α) (j : Nat) (x : α) (h : l[j]? = some x) : (l.take (j + 1)).foldl f b = f ((l.take j).foldl f b) x := by
  obtain ⟨hj, rfl⟩ := List.getElem?_eq_some_iff.1 h
  rw [List.take_succ_eq_append_getElem hj, List.foldl_append]; rfl

end Go.Proofs.YtojefplapklbmaaGreatDoor

/- The contract of term.appendBind. -/
namespace Go.Proofs.YtojefplapklbmaaGreatDoor
open Go.RowKit Go.Shelf

/-- A part that is a variable has no Name and no Args. -/
def vOk (x : Nd) : Prop := x.1 = 1 → x.2.2 = ([], 0)
theorem okT_vok {n : Nat} {t : Tm n} (h : okT t = true) : ∀ x ∈ code t, vOk x := by
  intro x hx hk
  obtain ⟨y, hy, rfl⟩ := List.mem_map.1 hx
  have hw : y.ok = true := List.all_eq_true.1 h y hy
  unfold TV.ok at hw
  rcases wm_cases hw with ⟨h1, _, _, h4, h5⟩ | ⟨h1, _⟩ | ⟨h1, _⟩
  · simp [TV.nd, h4, h5]
  · simp only [TV.nd] at hk; omega
  · simp only [TV.nd] at hk; omega
theorem sub_vok {c : List Nd} {cu : List (Int × List Nd)} (h : ∀ x ∈ c, vOk x) (hu : ∀ p ∈ cu, ∀ x ∈ p.2, vOk x) : ∀ x ∈ c.flatMap (subN (lookC cu)), vOk x := by
  intro x hx
  obtain ⟨y, hy, hxy⟩ := List.mem_flatMap.1 hx
  unfold subN at hxy
  split at hxy
  · unfold lookC at hxy
    split at hxy
    · rename_i p hp
      exact hu p (List.mem_of_find?_eq_some hp) x hxy
    · simp at hxy; subst hxy; intro _; rfl
  · simp at hxy; subst hxy; exact h _ hy
theorem holds_var {D : Nat} {S : Nat → Prop} {W : World} {x : TV} {ct : List Nd} (h : HoldsS D S W x.val ct) (hv : ∀ y ∈ ct, vOk y) (N : Int) (hDl : D + 1 ≤ 2199023255552 := by omega) : (x.k = 1 ∧ x.N = N) ↔ ct = [varNd N] := by
  obtain ⟨t, h1, h2, _, h4⟩ := h (D + 1) (by omega) hDl
  obtain ⟨tv, kids⟩ := t
  have hx : x = tv := TV.val_inj h1
  subst hx
  have hc : x.nd :: kids.flatMap code = ct := by rw [← h4]; exact (code_succ x kids).symm
  have hwl : x.len = kids.length := h2.wl.1
  subst hc
  constructor
  · rintro ⟨hk, hN⟩
    have := hv x.nd (by simp) hk
    simp [TV.nd] at this
    have hk0 : kids = [] := List.length_eq_zero_iff.1 (by omega)
    subst hk0
    simp [TV.nd, varNd, hk, hN, this]
  · intro h
    simp [TV.nd, varNd] at h
    exact ⟨h.1.1, h.1.2.1⟩

/-- What appendBind makes of a list of codes. -/
def addC (c : List (Int × List Nd)) (N : Int) (ct : List Nd) : List (Int × List Nd) := if ct = [varNd N] then c else c ++ [(N, ct)]

set_option maxRecDepth 100000 in
set_option maxHeartbeats 1000000 in
theorem appendBind_var {D base : Nat} {S : Nat → Prop} (N : Int) (M : Int) (s : ByteArray) (a : Option Addr) (xl xc : Nat) (ct : List Nd) (v : Value) (l : List (Int × TV)) (c : List (Int × List Nd)) (W : World) (hm : MadeB D S base W v l c)
    (hx : HoldsS D (fun b => v.ownBlock ≠ some b ∧ S b) W (⟨1, M, s, a, xl, xc⟩ : TV).val ct) (hlen : l.length ≤ 4194304) (hbase : base ≤ W.heap.size) (hg : (M == N) = false) :
    Calls Tryz.prog 93 #[v, .int .i64 N, .agg #[.int .i64 1, .int .i64 M, .string s, .slice a xl xc]] W fun e W' => ∃ v' l', e = .returned v' ∧ Below base W W' ∧ W.heap.size ≤ W'.heap.size ∧ MadeB D S base W' v' l' (c ++ [(N, ct)]) ∧ l'.length ≤ l.length + 1 ∧ (∀ b, b < W.heap.size → v.ownBlock ≠ some b → W'.heap[b]? = W.heap[b]?) := by
  obtain ⟨i0, hi, hz0, hz1, hz2⟩ := info_parts Tryz.info_bind
  have HSZ := hide (show (W.alloc (.cells #[.int .i64 1, .int .i64 M, .string s, .slice a xl xc] 24)).heap.size = W.heap.size + 1 by simp)
  have hB1 := ((Below.refl _ W).alloc (Nat.le_refl _) (.cells #[.int .i64 1, .int .i64 M, .string s, .slice a xl xc] 24)).alloc (by simp) (.cells #[.int .i64 N, .int .i64 1, .int .i64 M, .string s, .slice a xl xc] 82)
  have hown5 := (hm.below hB1).owns
  have hone : ∀ Mm, D ≤ Mm → Mm ≤ 2199023255552 → ∃ ks : List (Int × Tm Mm), ks.map (fun p => (p.1, p.2.tv)) = [(N, (⟨1, M, s, a, xl, xc⟩ : TV))] ∧ (∀ p ∈ ks, IsT ((W.alloc (.cells #[.int .i64 1, .int .i64 M, .string s, .slice a xl xc] 24)).alloc (.cells #[.int .i64 N, .int .i64 1, .int .i64 M, .string s, .slice a xl xc] 82)).heap.size ((W.alloc (.cells #[.int .i64 1, .int .i64 M, .string s, .slice a xl xc] 24)).alloc (.cells #[.int .i64 N, .int .i64 1, .int .i64 M, .string s, .slice a xl xc] 82)) p.2 ∧ BlkT (fun b => v.ownBlock ≠ some b ∧ S b) p.2) ∧ cb ks = [(N, ct)] := fun Mm hM hlm => by
    obtain ⟨t, h1, h2, h3, h4⟩ := hx Mm hM hlm
    refine ⟨[(N, t)], by simp [← TV.val_inj h1], fun p hp => ?_, by simp [cb, h4]⟩
    simp at hp
    subst hp
    exact ⟨(h2.below hB1).mono hB1.size, h3⟩
  have hgl : ∀ g, v.ownBlock = some g → base ≤ g := fun g hg => (owns_lt hm.owns hg).1
  have HG := hide hgl
  have HM := hide hm
  have HO1 := hide hone
  have HO5 := hide hown5
  clear hgl hm hone hown5 hx
  go_enter Tryz.func93, Tryz.ntmps93
  go_wp2_with (at_builtin; go_must (refine wpList_append_own_at _ rfl _ _ 32 rfl base 82 i0 _ 5 64 Tryz.underlying32 hi hz0 hz1 hz2 rfl (by decide) v l.length (l.flatMap bRow) rfl (unhide HO5) ⟨W.heap.size + 1, 0, none⟩ 1 1 ([(N, (⟨1, M, s, a, xl, xc⟩ : TV))].flatMap bRow) rfl rfl (by have := new_bind (W5 := W.alloc (.cells #[.int .i64 1, .int .i64 M, .string s, .slice a xl xc] 24)) (V := N) (x := (⟨1, M, s, a, xl, xc⟩ : TV)); rw [unhide HSZ] at this; exact this) (bRow_one _) (by unfold maxLen; omega) (by omega) (by simp; omega) ?_; intro v' w1 hown' hgrow hnil' hbk'))
  have hmade := (unhide HM).next hB1 (unhide HO1) hown' hgrow hbk'
  have hbel : Below base W w1 := (hB1.mono hbase).grown hgrow (by simp; omega) (unhide HG)
  exact bodyPost_ret (v := v') (by simp [results, Tryz.results93, go_sem]) rfl ⟨v', _, rfl, hbel, by have := hgrow.size; simp at this; omega, hmade, by simp, fun b hb hne => (hgrow.block b (by simp; omega) (fun e => hne e.symm)).trans (hB1.block b hb)⟩

set_option maxRecDepth 100000 in
set_option maxHeartbeats 1000000 in
theorem appendBind_other {D base : Nat} {S : Nat → Prop} (N : Int) (k : Int) (M : Int) (s : ByteArray) (a : Option Addr) (xl xc : Nat) (ct : List Nd) (v : Value) (l : List (Int × TV)) (c : List (Int × List Nd)) (W : World) (hm : MadeB D S base W v l c)
    (hx : HoldsS D (fun b => v.ownBlock ≠ some b ∧ S b) W (⟨k, M, s, a, xl, xc⟩ : TV).val ct) (hlen : l.length ≤ 4194304) (hbase : base ≤ W.heap.size) (hg : (k == 1) = false) :
    Calls Tryz.prog 93 #[v, .int .i64 N, .agg #[.int .i64 k, .int .i64 M, .string s, .slice a xl xc]] W fun e W' => ∃ v' l', e = .returned v' ∧ Below base W W' ∧ W.heap.size ≤ W'.heap.size ∧ MadeB D S base W' v' l' (c ++ [(N, ct)]) ∧ l'.length ≤ l.length + 1 ∧ (∀ b, b < W.heap.size → v.ownBlock ≠ some b → W'.heap[b]? = W.heap[b]?) := by
  obtain ⟨i0, hi, hz0, hz1, hz2⟩ := info_parts Tryz.info_bind
  have HSZ := hide (show (W.alloc (.cells #[.int .i64 k, .int .i64 M, .string s, .slice a xl xc] 24)).heap.size = W.heap.size + 1 by simp)
  have hB1 := ((Below.refl _ W).alloc (Nat.le_refl _) (.cells #[.int .i64 k, .int .i64 M, .string s, .slice a xl xc] 24)).alloc (by simp) (.cells #[.int .i64 N, .int .i64 k, .int .i64 M, .string s, .slice a xl xc] 82)
  have hown5 := (hm.below hB1).owns
  have hone : ∀ Mm, D ≤ Mm → Mm ≤ 2199023255552 → ∃ ks : List (Int × Tm Mm), ks.map (fun p => (p.1, p.2.tv)) = [(N, (⟨k, M, s, a, xl, xc⟩ : TV))] ∧ (∀ p ∈ ks, IsT ((W.alloc (.cells #[.int .i64 k, .int .i64 M, .string s, .slice a xl xc] 24)).alloc (.cells #[.int .i64 N, .int .i64 k, .int .i64 M, .string s, .slice a xl xc] 82)).heap.size ((W.alloc (.cells #[.int .i64 k, .int .i64 M, .string s, .slice a xl xc] 24)).alloc (.cells #[.int .i64 N, .int .i64 k, .int .i64 M, .string s, .slice a xl xc] 82)) p.2 ∧ BlkT (fun b => v.ownBlock ≠ some b ∧ S b) p.2) ∧ cb ks = [(N, ct)] := fun Mm hM hlm => by
    obtain ⟨t, h1, h2, h3, h4⟩ := hx Mm hM hlm
    refine ⟨[(N, t)], by simp [← TV.val_inj h1], fun p hp => ?_, by simp [cb, h4]⟩
    simp at hp
    subst hp
    exact ⟨(h2.below hB1).mono hB1.size, h3⟩
  have hgl : ∀ g, v.ownBlock = some g → base ≤ g := fun g hg => (owns_lt hm.owns hg).1
  have HG := hide hgl
  have HM := hide hm
  have HO1 := hide hone
  have HO5 := hide hown5
  clear hgl hm hone hown5 hx
  go_enter Tryz.func93, Tryz.ntmps93
  go_wp2_with (at_builtin; go_must (refine wpList_append_own_at _ rfl _ _ 32 rfl base 82 i0 _ 5 64 Tryz.underlying32 hi hz0 hz1 hz2 rfl (by decide) v l.length (l.flatMap bRow) rfl (unhide HO5) ⟨W.heap.size + 1, 0, none⟩ 1 1 ([(N, (⟨k, M, s, a, xl, xc⟩ : TV))].flatMap bRow) rfl rfl (by have := new_bind (W5 := W.alloc (.cells #[.int .i64 k, .int .i64 M, .string s, .slice a xl xc] 24)) (V := N) (x := (⟨k, M, s, a, xl, xc⟩ : TV)); rw [unhide HSZ] at this; exact this) (bRow_one _) (by unfold maxLen; omega) (by omega) (by simp; omega) ?_; intro v' w1 hown' hgrow hnil' hbk'))
  have hmade := (unhide HM).next hB1 (unhide HO1) hown' hgrow hbk'
  have hbel : Below base W w1 := (hB1.mono hbase).grown hgrow (by simp; omega) (unhide HG)
  exact bodyPost_ret (v := v') (by simp [results, Tryz.results93, go_sem]) rfl ⟨v', _, rfl, hbel, by have := hgrow.size; simp at this; omega, hmade, by simp, fun b hb hne => (hgrow.block b (by simp; omega) (fun e => hne e.symm)).trans (hB1.block b hb)⟩

set_option maxRecDepth 100000 in
set_option maxHeartbeats 1000000 in
theorem appendBind_same (N : Int) (s : ByteArray) (a : Option Addr) (xl xc : Nat) (v : Value) (W : World) :
    Calls Tryz.prog 93 #[v, .int .i64 N, .agg #[.int .i64 1, .int .i64 N, .string s, .slice a xl xc]] W fun e W' => e = .returned v ∧ Below W.heap.size W W' := by
  go_enter Tryz.func93, Tryz.ntmps93
  go_wp2_with fail
  exact bodyPost_ret (v := v) (by simp [results, Tryz.results93, go_sem]) rfl ⟨rfl, (Below.refl _ _).alloc (Nat.le_refl _) _⟩

theorem appendBind_any {D base : Nat} {S : Nat → Prop} (N : Int) (x : TV) (ct : List Nd) (v : Value) (l : List (Int × TV)) (c : List (Int × List Nd)) (W : World) (hm : MadeB D S base W v l c)
    (hx : HoldsS D (fun b => v.ownBlock ≠ some b ∧ S b) W x.val ct) (hv : ∀ y ∈ ct, vOk y) (hlen : l.length ≤ 4194304) (hbase : base ≤ W.heap.size) (hDl : D + 1 ≤ 2199023255552 := by omega) :
    Calls Tryz.prog 93 #[v, .int .i64 N, x.val] W fun e W' => ∃ v' l', e = .returned v' ∧ Below base W W' ∧ W.heap.size ≤ W'.heap.size ∧ MadeB D S base W' v' l' (addC c N ct) ∧ l'.length ≤ l.length + 1 ∧ (∀ b, b < W.heap.size → v.ownBlock ≠ some b → W'.heap[b]? = W.heap[b]?) := by
  have hq := holds_var hx hv N hDl
  obtain ⟨k, M, s, a, xl, xc⟩ := x
  simp only at hq
  unfold addC
  by_cases hk : k = 1
  · subst hk
    by_cases hN : M = N
    · subst hN
      rw [if_pos (hq.1 ⟨rfl, rfl⟩)]
      refine (appendBind_same M s a xl xc v W).mono fun e W' h => ?_
      exact ⟨v, l, h.1, h.2.mono hbase, h.2.size, hm.below h.2, by omega, fun b hb _ => h.2.block b hb⟩
    · rw [if_neg (fun h => hN (hq.2 h).2)]
      exact appendBind_var N M s a xl xc ct v l c W hm hx hlen hbase (by simp [hN])
  · rw [if_neg (fun h => hk (hq.2 h).1)]
    exact appendBind_other N k M s a xl xc ct v l c W hm hx hlen hbase (by simp [hk])
end Go.Proofs.YtojefplapklbmaaGreatDoor

/- Plain mathematics: binds put in one by one (insF) are the sorted row of them. -/
namespace Go.Proofs.YtojefplapklbmaaGreatDoor

/-- Rising by Var, not strictly. -/
def Up {β : Type} (l : List (Int × β)) : Prop := l.Pairwise (fun p q => p.1 ≤ q.1)
def insF {β : Type} (l : List (Int × β)) : List (Int × β) := l.foldl (fun acc p => insK acc p.1 p.2) []
theorem insK_perm {β : Type} (l : List (Int × β)) (n : Int) (y : β) : (insK l n y).Perm ((n, y) :: l) := by
  unfold insK
  refine List.perm_middle.trans ?_
  rw [List.takeWhile_append_dropWhile]
theorem insK_up {β : Type} : ∀ (l : List (Int × β)) (n : Int) (y : β), Up l → Up (insK l n y)
  | [], n, y, _ => by simp [insK, Up]
  | p :: l, n, y, h => by
    obtain ⟨h1, h2⟩ := List.pairwise_cons.1 h
    by_cases hp : p.1 < n
    · have ih := insK_up l n y h2
      have e : insK (p :: l) n y = p :: insK l n y := by simp [insK, hp]
      rw [e]
      refine List.pairwise_cons.2 ⟨fun q hq => ?_, ih⟩
      rcases List.mem_cons.1 ((insK_perm l n y).mem_iff.1 hq) with rfl | hq
      · exact Int.le_of_lt hp
      · exact h1 q hq
    · have e : insK (p :: l) n y = (n, y) :: p :: l := by simp [insK, hp]
      rw [e]
      refine List.pairwise_cons.2 ⟨fun q hq => ?_, h⟩
      rcases List.mem_cons.1 hq with rfl | hq
      · simp only; omega
      · have := h1 q hq; simp only; omega
theorem insF_go {β : Type} : ∀ (l acc : List (Int × β)), Up acc → Up (l.foldl (fun acc p => insK acc p.1 p.2) acc) ∧ (l.foldl (fun acc p => insK acc p.1 p.2) acc).Perm (acc ++ l)
  | [], acc, h => ⟨h, by simp⟩
  | p :: l, acc, h => by
    obtain ⟨h1, h2⟩ := insF_go l (insK acc p.1 p.2) (insK_up _ _ _ h)
    refine ⟨h1, h2.trans ?_⟩
    refine ((insK_perm acc p.1 p.2).append_right l).trans ?_
    exact List.perm_middle.symm
theorem insF_up {β : Type} (l : List (Int × β)) : Up (insF l) := (insF_go l [] List.Pairwise.nil).1
theorem insF_perm {β : Type} (l : List (Int × β)) : (insF l).Perm l := by simpa [insF] using (insF_go l [] List.Pairwise.nil).2
/-- No Var twice. -/
def Once {β : Type} (l : List (Int × β)) : Prop := l.Pairwise (fun p q => p.1 ≠ q.1)
theorem Once.eq {β : Type} {l : List (Int × β)} (h : Once l) {p q : Int × β} (hp : p ∈ l) (hq : q ∈ l) (e : p.1 = q.1) : p = q := by
  induction l with
  | nil => cases hp
  | cons x l ih =>
    obtain ⟨h1, h2⟩ := List.pairwise_cons.1 h
    rcases List.mem_cons.1 hp with m1 | m1 <;> rcases List.mem_cons.1 hq with m2 | m2
    · rw [m1, m2]
    · subst m1; exact (h1 q m2 e).elim
    · subst m2; exact (h1 p m1 e.symm).elim
    · exact ih h2 m1 m2
theorem up_unique {β : Type} : ∀ {a b c : List (Int × β)}, Once c → a.Perm c → b.Perm c → Up a → Up b → a = b
  | [], b, c, _, ha, hb, _, _ => by
    have : c = [] := by simpa using ha.symm
    subst this
    exact (by simpa using hb : b = []).symm
  | x :: a, [], c, _, ha, hb, _, _ => by
    have : c = [] := by simpa using hb.symm
    subst this
    simp at ha
  | x :: a, y :: b, c, hc, ha, hb, ua, ub => by
    obtain ⟨u1, u2⟩ := List.pairwise_cons.1 ua
    obtain ⟨w1, w2⟩ := List.pairwise_cons.1 ub
    have hxc : x ∈ c := ha.mem_iff.1 (by simp)
    have hyc : y ∈ c := hb.mem_iff.1 (by simp)
    have hxy : x.1 ≤ y.1 := by
      rcases List.mem_cons.1 (ha.mem_iff.2 hyc) with e | h
      · rw [e]; exact Int.le_refl _
      · exact u1 y h
    have hyx : y.1 ≤ x.1 := by
      rcases List.mem_cons.1 (hb.mem_iff.2 hxc) with e | h
      · rw [e]; exact Int.le_refl _
      · exact w1 x h
    have e : x = y := hc.eq hxc hyc (by omega)
    subst e
    have hab : a.Perm b := (List.perm_cons x).1 (ha.trans hb.symm)
    have hca : Once (x :: a) := ha.symm.pairwise hc (fun h => Ne.symm h)
    have hoa : Once a := (List.pairwise_cons.1 hca).2
    rw [up_unique hoa (List.Perm.refl a) hab.symm u2 w2]
/-- A permuted row of images is the row of images of a permuted row. -/
theorem perm_lift {α β : Type} (f : α → β) : ∀ {l' l : List β} (_ : l'.Perm l) (ks : List α), ks.map f = l → ∃ ks' : List α, ks'.Perm ks ∧ ks'.map f = l' := by
  intro l' l h
  induction h with
  | nil => intro ks hk; exact ⟨ks, .refl _, hk⟩
  | cons x _ ih =>
    intro ks hk
    cases ks with
    | nil => simp at hk
    | cons k ks =>
      simp at hk
      obtain ⟨ks', h1, h2⟩ := ih ks hk.2
      exact ⟨k :: ks', h1.cons k, by simp [hk.1, h2]⟩
  | swap x y l =>
    intro ks hk
    match ks, hk with
    | [], hk => simp at hk
    | [k], hk => simp at hk
    | k :: k' :: ks, hk =>
      simp at hk
      exact ⟨k' :: k :: ks, .swap k k' ks, by simp [hk]⟩
  | trans _ _ ih1 ih2 =>
    intro ks hk
    obtain ⟨ks1, h1, h2⟩ := ih2 ks hk
    obtain ⟨ks2, h3, h4⟩ := ih1 ks1 h2
    exact ⟨ks2, h3.trans h1, h4⟩
end Go.Proofs.YtojefplapklbmaaGreatDoor

/- The contract of term.sortBinds. -/
namespace Go.Proofs.YtojefplapklbmaaGreatDoor
open Go.RowKit Go.Shelf Go.Sort

set_option maxHeartbeats 1000000 in
/-- The closure of sortBinds: in whatever world: two blocks are laid. -/
theorem sortBinds1_any (x y : Int × TV) (W : World) : Calls Tryz.prog 95 #[.agg (bRow x).toArray, .agg (bRow y).toArray] W fun e w' => e = .returned (.int .i64 (cmp3 x.1 y.1)) ∧ ∃ q os', w' = grow (W.drewN q) os' := by
  have hcon := fun W' => cmpl_any x.1 y.1 W'
  generalize cmp3 x.1 y.1 = r at hcon ⊢
  simp only [bRow, TV.row]
  go_enter Tryz.func95, Tryz.ntmps95
  go_wp2_with (go_at_call 96; refine (hcon _).mono ?_; rintro e w' ⟨rfl, rfl⟩)
  go_ret
  exact ⟨rfl, 0, _, by rw [alloc_eq_grow, alloc_eq_grow, grow_grow]; rfl⟩
theorem cmp3_neg {a b : Int} : decide (cmp3 a b < 0) = decide (a < b) := by
  unfold cmp3
  split
  · simp [*]
  · split
    · rw [Bool.eq_iff_iff]; simp; omega
    · rw [Bool.eq_iff_iff]; simp; omega
theorem swoV : SWO (ltOf fun x y : Int × TV => cmp3 x.1 y.1) := by
  have h : ∀ x y : Int × TV, ltOf (fun x y : Int × TV => cmp3 x.1 y.1) x y = decide (x.1 < y.1) := fun x y => cmp3_neg
  refine ⟨fun x => ?_, fun x y z => ?_, fun x y z => ?_⟩
  · rw [h]; simp
  · rw [h, h, h]; simp; omega
  · rw [h, h, h]; simp; omega
/-- The other blocks behind a sort. -/
theorem sortWorld_below {α : Type} [Inhabited α] (enc : α → List Value) (k : Nat) (w : World) (blk off n : Nat) (d : Array α) (os : Array Obj) : ∀ b, b ≠ blk → b < w.heap.size → (sortWorldK enc k w blk off n d os).heap[b]? = w.heap[b]? := by
  intro b hb hlt
  simp only [sortWorldK, putRowK, putRow, grow, mapBlock]
  rw [Array.getElem?_append_left (by simpa using hlt), Array.getElem?_modify, if_neg (Ne.symm hb)]
  rfl
instance : Inhabited TV := ⟨varV 0⟩
theorem flat_at (d : Array (Int × TV)) (j : Nat) (p : Int × TV) (hj : d.toList[j]? = some p) (q : Nat) (u : Value) (hq : (bRow p)[q]? = some u) : j * 5 + q < (flatK bRow 5 d).size ∧ (flatK bRow 5 d)[j * 5 + q]! = u := by
  obtain ⟨hjl, hje⟩ := List.getElem?_eq_some_iff.1 hj
  have hjl' : j < d.size := by simpa using hjl
  have hq5 : q < 5 := by have := (List.getElem?_eq_some_iff.1 hq).1; simpa [bRow, TV.row] using this
  refine ⟨by simp; omega, ?_⟩
  rw [get_flatK _ _ _ _ (by omega), show (j * 5 + q) / 5 = j by omega, show (j * 5 + q) % 5 = q by omega]
  have e : d[j]! = p := by rw [getElem!_pos d j hjl']; simpa using hje
  rw [e]
  obtain ⟨h1, h2⟩ := List.getElem?_eq_some_iff.1 hq
  rw [getElem!_pos _ q h1, h2]
theorem holdsK_at {W : World} {g off : Nat} {d : Array (Int × TV)} (h : HoldsK bRow 5 W g off d) (j : Nat) (p : Int × TV) (hj : d.toList[j]? = some p) (q : Nat) (u : Value) (hq : (bRow p)[q]? = some u) : W.cell? ⟨g, off + j * 5 + q, none⟩ = some u := by
  obtain ⟨h1, h2⟩ := flat_at d j p hj q u hq
  have := (h (j * 5 + q) h1).1
  rw [h2] at this
  rw [Nat.add_assoc]
  exact this
theorem holdsK_row {W : World} {base g cap : Nat} {l : List (Int × TV)} (h : W.ownsRow base 82 5 (.slice (some ⟨g, 0, none⟩) l.length cap) l.length (l.flatMap bRow)) : HoldsK bRow 5 W g 0 l.toArray := by
  intro j hj
  have hj' : j < l.length * 5 := by simpa using hj
  rw [Nat.zero_add, h.cellAt j hj']
  refine ⟨?_, h.frozenAt j⟩
  obtain ⟨p, hp⟩ : ∃ p, l[j / 5]? = some p := ⟨_, List.getElem?_eq_getElem (show j / 5 < l.length by omega)⟩
  have hlt5 : j % 5 < (bRow p).length := by simp [bRow, TV.row]; omega
  have h1 := bRow_at l (j / 5) p hp (j % 5) _ (List.getElem?_eq_getElem hlt5)
  have h2 := flat_at l.toArray (j / 5) p (by simpa using hp) (j % 5) _ (List.getElem?_eq_getElem hlt5)
  rw [show j / 5 * 5 + j % 5 = j by omega] at h1 h2
  rw [h1]
  simp only [id]
  rw [h2.2]
theorem perm_in {α : Type} [Inhabited α] {d d' : Array α} (h : PermIn 0 d.size d d') : d'.toList.Perm d.toList ∧ d'.size = d.size := by
  obtain ⟨h1, _, h3⟩ := h
  refine ⟨?_, h1⟩
  have e1 : d'.extract 0 d.size = d' := by rw [← h1]; simp
  have e2 : d.extract 0 d.size = d := by simp
  rw [e1, e2] at h3
  exact h3
theorem sorted_up {d : Array (Int × TV)} {n : Nat} (hn : n = d.size) (h : SortedIn (ltOf fun x y : Int × TV => cmp3 x.1 y.1) 0 n d) : Up d.toList := by
  refine List.pairwise_iff_getElem.2 fun i j hi hj hij => ?_
  have := h i j (Nat.zero_le _) hij (by rw [hn]; simpa using hj)
  have e : ltOf (fun x y : Int × TV => cmp3 x.1 y.1) d[j]! d[i]! = decide (d[j]!.1 < d[i]!.1) := cmp3_neg
  rw [e] at this
  have hi' : i < d.size := by simpa using hi
  have hj' : j < d.size := by simpa using hj
  rw [getElem!_pos d i hi', getElem!_pos d j hj'] at this
  simp at this
  simpa using this

/-- What lies there behind the sort. -/
theorem sorted_out {D base : Nat} {S : Nat → Prop} {g cap n : Nat} {l : List (Int × TV)} {c : List (Int × List Nd)} {W : World} {d' : Array (Int × TV)} {os : Array Obj} (hm : MadeB D S base W (.slice (some ⟨g, 0, none⟩) l.length cap) l c) (hone : Once c) (hlen : l.length ≤ 1152921504606846976) (hlc : l.length ≤ cap)
    (hp : PermIn 0 l.toArray.size l.toArray d') (hs : SortedIn (ltOf fun x y : Int × TV => cmp3 x.1 y.1) 0 l.toArray.size d') (hDl : D ≤ 2199023255552) :
    Below base W (sortWorldK bRow 5 W g 0 n d' os) ∧ OutB D (sortWorldK bRow 5 W g 0 n d' os) (.slice (some ⟨g, 0, none⟩) l.length cap) l.length (insF c) := by
  have hg := owns_lt hm.owns (g := g) rfl
  have hH := holdsK_row hm.owns
  obtain ⟨p1, p2⟩ := perm_in hp
  have hup := sorted_up (n := l.toArray.size) p2.symm hs
  have hH' := holdsK_sortWorldK_c bRow 5 W g 0 l.toArray d' n os hH hg.2 p2
  have hoth := sortWorld_below bRow 5 W g 0 n d' os
  have hsz := size_sortWorldK_c bRow 5 W g 0 n d' os
  generalize hW' : sortWorldK bRow 5 W g 0 n d' os = W' at *
  have hll : d'.toList.length = l.length := by simpa using p2
  refine ⟨⟨by subst hW'; rfl, by subst hW'; rfl, by subst hW'; rfl, hsz, fun b hb => hoth b (by omega) (by omega)⟩, some ⟨g, 0, none⟩, l.length, cap, d'.toList, rfl, ⟨hDl, fun M hM hlm => ?_⟩, Nat.le_refl _, hlc, fun h => by cases h⟩
  obtain ⟨ks, k1, k2, k3⟩ := hm.kids M hM hlm
  obtain ⟨ks', q1, q2⟩ := perm_lift (fun p : Int × Tm M => (p.1, p.2.tv)) (by simpa using p1 : d'.toList.Perm l) ks k1
  refine ⟨ks', ⟨by rw [← hll, ← q2]; simp, by omega, .inr ⟨g, 0, rfl, by omega, fun j p hj => ?_⟩⟩, ?_, q2⟩
  · have hpj : d'.toList[j]? = some (p.1, p.2.tv) := by rw [← q2, List.getElem?_map, hj]; rfl
    have hc := holdsK_at hH' j _ hpj
    obtain ⟨z1, z2⟩ := k2 p (q1.mem_iff.1 (List.mem_of_getElem? hj))
    have z3 := z2.and z1.blk
    exact ⟨hc 0 _ rfl, ⟨hc 1 _ rfl, hc 2 _ rfl, hc 3 _ rfl, hc 4 _ rfl⟩, (z1.fromS (fun b hb => hoth b (fun e => hb.1.1 (by rw [e]; rfl)) hb.2) z3).mono hsz⟩
  · have hpc : (cb ks').Perm c := by rw [← k3]; exact q1.map _
    refine up_unique hone hpc (insF_perm c) ?_ (insF_up c)
    have : (cb ks').map (·.1) = d'.toList.map (·.1) := by rw [← q2]; simp [cb]
    unfold Up at hup ⊢
    have h1 : ((cb ks').map (·.1)).Pairwise (· ≤ ·) := by rw [this, List.pairwise_map]; exact hup
    exact List.pairwise_map.1 h1

set_option maxHeartbeats 1000000 in
theorem sortBinds_any {D base : Nat} {S : Nat → Prop} (v : Value) (l : List (Int × TV)) (c : List (Int × List Nd)) (W : World) (hm : MadeB D S base W v l c) (hone : Once c) (hlen : l.length ≤ 1152921504606846976) (hDl : D ≤ 2199023255552 := by omega) :
    Calls Tryz.prog 71 #[v] W fun e W' => e = .returned (.tuple #[]) ∧ Below base W W' ∧ OutB D W' v l.length (insF c) := by
  rcases hm.owns.2 with ⟨rfl, hn⟩ | ⟨g, cap, cur, rfl, hg, hb, hnc, hcm, hcs, htk⟩
  · have hout := hm.out (k := l.length) (Nat.le_refl _) hlen
    have hl : l = [] := List.length_eq_zero_iff.1 hn
    subst hl
    obtain ⟨ks, k1, k2, k3⟩ := hm.kids D (Nat.le_refl _) hDl
    have hk : ks = [] := by simpa using k1
    subst hk
    have hc : c = [] := k3.symm
    subst hc
    have hcon := AnyF.slices_SortFunc_none sortBind none 0 (.func (.func 95) #[] #[]) W
    change Calls Tryz.prog 94 _ _ _ at hcon
    have HO := hide hout
    clear hm hone hlen k1 k2 k3 hout hn
    go_enter Tryz.func71, Tryz.ntmps71
    go_wp2_with (go_at_call 94; refine hcon.mono ?_; rintro e w' ⟨rfl, rfl⟩)
    go_end0
    exact ⟨rfl, Below.refl _ _, unhide HO⟩
  · have eg : ∀ args w, (callFunc 95 args).run Tryz.prog w = .ok (.enter 95 args) w := enters_of Tryz.func95 (by kernel_rfl) rfl
    have hcon := AnyQ.slices_SortFunc sortBind 5 Tryz.isAgg82 Tryz.sizeOf82 bRow (fun _ => rfl) (fun x v hv => bRow_one [x] v (by simpa using hv)) (fun x y : Int × TV => cmp3 x.1 y.1) swoV 95 #[] g 0 cap l.toArray W eg (fun _ _ _ _ x y => sortBinds1_any x y _) (holdsK_row hm.owns) (owns_lt hm.owns (g := g) rfl).2 (by simp; omega)
    change Calls Tryz.prog 94 _ _ _ at hcon
    have hsz : l.toArray.size = l.length := by simp
    have hfin : Calls Tryz.prog 94 #[.slice (some ⟨g, 0, none⟩) l.length cap, .func (.func 95) #[] #[]] W fun e W' => e = .returned (.tuple #[]) ∧ Below base W W' ∧ OutB D W' (.slice (some ⟨g, 0, none⟩) l.length cap) l.length (insF c) := by
      rw [hsz] at hcon
      refine hcon.mono fun e w' h => ?_
      obtain ⟨he, d', n, os, h1, h2, rfl⟩ := h
      exact ⟨he, sorted_out hm hone hlen hnc (by rw [hsz]; exact h1) (by rw [hsz]; exact h2) hDl⟩
    clear hcon hm hone hb hcs htk hsz eg hnc hcm hg hlen
    go_enter Tryz.func71, Tryz.ntmps71
    go_wp2_with (go_at_call 94; refine hfin.mono ?_; rintro e w' ⟨rfl, hx⟩)
    go_end0
    exact ⟨rfl, hx⟩
end Go.Proofs.YtojefplapklbmaaGreatDoor

/- Plain mathematics of Compose: the row that is made, sorted, is the row of binds put in one by one. -/
namespace Go.Proofs.YtojefplapklbmaaGreatDoor

def addS (cu : List (Int × List Nd)) (c : List (Int × List Nd)) (p : Int × List Nd) : List (Int × List Nd) := addC c p.1 (p.2.flatMap (subN (lookC cu)))
def addU (cs : List (Int × List Nd)) (c : List (Int × List Nd)) (p : Int × List Nd) : List (Int × List Nd) := if ∃ q ∈ cs, q.1 = p.1 then c else addC c p.1 p.2
theorem insF_snoc {β : Type} (c : List (Int × β)) (N : Int) (y : β) : insF (c ++ [(N, y)]) = insK (insF c) N y := by
  simp [insF, List.foldl_append]
theorem insF_addC (c : List (Int × List Nd)) (N : Int) (ct : List Nd) : insF (addC c N ct) = if ct = [varNd N] then insF c else insK (insF c) N ct := by
  unfold addC
  split
  · rfl
  · exact insF_snoc _ _ _
theorem insF_addS (cu c : List (Int × List Nd)) (p : Int × List Nd) : insF (addS cu c p) = stepS cu (insF c) p := insF_addC _ _ _
theorem insF_addU (cs c : List (Int × List Nd)) (p : Int × List Nd) : insF (addU cs c p) = stepU cs (insF c) p := by
  unfold addU stepU
  by_cases h : ∃ q ∈ cs, q.1 = p.1
  · rw [if_pos h, if_pos (.inl h)]
  · rw [if_neg h, insF_addC]
    by_cases h2 : p.2 = [varNd p.1]
    · rw [if_pos h2, if_pos (.inr h2)]
    · rw [if_neg h2, if_neg (fun k => k.elim h h2)]
theorem foldl_through {α β γ : Type} (F : β → γ) (f : β → α → β) (g : γ → α → γ) (h : ∀ b a, F (f b a) = g (F b) a) : ∀ (l : List α) (b : β), F (l.foldl f b) = l.foldl g (F b)
  | [], _ => rfl
  | a :: l, b => by rw [List.foldl_cons, List.foldl_cons, foldl_through F f g h l, h]
/-- The row that Compose makes, and sorts. -/
def madeC (cs cu : List (Int × List Nd)) : List (Int × List Nd) := cu.foldl (addU cs) (cs.foldl (addS cu) [])
theorem insF_madeC (cs cu : List (Int × List Nd)) : insF (madeC cs cu) = cu.foldl (stepU cs) (cs.foldl (stepS cu) []) := by
  unfold madeC
  rw [foldl_through insF (addU cs) (stepU cs) (insF_addU cs), foldl_through insF (addS cu) (stepS cu) (insF_addS cu)]
  rfl
theorem once_fold {β : Type} (ok : Int × β → Prop) (f : List (Int × β) → Int × β → List (Int × β)) (hf : ∀ c p, f c p = c ∨ (ok p ∧ ∃ y, f c p = c ++ [(p.1, y)])) :
    ∀ (l c : List (Int × β)), Once l → Once c → (∀ p ∈ c, ∀ q ∈ l, ok q → p.1 ≠ q.1) → Once (l.foldl f c) ∧ ∀ p ∈ l.foldl f c, (∃ r ∈ c, r.1 = p.1) ∨ ∃ q ∈ l, q.1 = p.1
  | [], c, _, hc, _ => ⟨hc, fun p hp => .inl ⟨p, hp, rfl⟩⟩
  | x :: l, c, hl, hc, hd => by
    obtain ⟨h1, h2⟩ := List.pairwise_cons.1 hl
    rcases hf c x with e | ⟨hok, y, e⟩
    · obtain ⟨i1, i2⟩ := once_fold ok f hf l c h2 hc (fun p hp q hq => hd p hp q (List.mem_cons_of_mem _ hq))
      rw [List.foldl_cons, e]
      refine ⟨i1, fun p hp => ?_⟩
      rcases i2 p hp with h | ⟨q, hq, h⟩
      · exact .inl h
      · exact .inr ⟨q, List.mem_cons_of_mem _ hq, h⟩
    · have hc' : Once (c ++ [(x.1, y)]) := by
        refine List.pairwise_append.2 ⟨hc, List.pairwise_singleton _ _, fun p hp q hq => ?_⟩
        simp at hq
        subst hq
        exact hd p hp x (by simp) hok
      obtain ⟨i1, i2⟩ := once_fold ok f hf l (c ++ [(x.1, y)]) h2 hc' (fun p hp q hq hq2 => by
        rcases List.mem_append.1 hp with hp | hp
        · exact hd p hp q (List.mem_cons_of_mem _ hq) hq2
        · simp at hp
          subst hp
          exact h1 q hq)
      rw [List.foldl_cons, e]
      refine ⟨i1, fun p hp => ?_⟩
      rcases i2 p hp with ⟨r, hr, h⟩ | ⟨q, hq, h⟩
      · rcases List.mem_append.1 hr with hr | hr
        · exact .inl ⟨r, hr, h⟩
        · simp at hr
          subst hr
          exact .inr ⟨x, by simp, h⟩
      · exact .inr ⟨q, List.mem_cons_of_mem _ hq, h⟩
theorem rises_once {n : Nat} {bs : List (Int × Tm n)} (h : Rises bs) : Once (cb bs) := by
  refine List.pairwise_iff_getElem.2 fun i j hi hj hij => ?_
  have hi' : i < bs.length := by simpa [cb] using hi
  have hj' : j < bs.length := by simpa [cb] using hj
  have := h i j _ _ (List.getElem?_eq_getElem hi') (List.getElem?_eq_getElem hj') hij
  simp only [cb, List.getElem_map]
  omega
theorem madeC_once {cs cu : List (Int × List Nd)} (h1 : Once cs) (h2 : Once cu) : Once (madeC cs cu) := by
  obtain ⟨i1, i2⟩ := once_fold (fun _ => True) (addS cu) (fun c p => by
    unfold addS addC
    split
    · exact .inl rfl
    · exact .inr ⟨trivial, _, rfl⟩) cs [] h1 List.Pairwise.nil (fun p hp => by cases hp)
  refine (once_fold (fun p => ¬ ∃ q ∈ cs, q.1 = p.1) (addU cs) (fun c p => ?_) cu _ h2 i1 (fun p hp q hq hok e => ?_)).1
  · unfold addU addC
    split
    · exact .inl rfl
    · split
      · exact .inl rfl
      · rename_i h _; exact .inr ⟨h, _, rfl⟩
  · rcases i2 p hp with ⟨r, hr, _⟩ | ⟨r, hr, h⟩
    · cases hr
    · exact hok ⟨r, hr, h.trans e⟩
end Go.Proofs.YtojefplapklbmaaGreatDoor

