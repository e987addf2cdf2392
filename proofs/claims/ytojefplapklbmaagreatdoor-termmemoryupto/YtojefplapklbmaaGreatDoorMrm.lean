import Derived.Test.YtojefplapklbmaaGreatDoorMris
/- The contract of term.Compose, told of the memory of what it answers. (Written by wip/newgen6.py off Ab and Cp.) -/
namespace Go.Proofs.YtojefplapklbmaaGreatDoor
open Go.RowKit Go.Shelf Go.Maps

theorem okC50 {c : List Nd} (h : okC c) : ∀ y ∈ c, y.2.2.2 ≤ 50 := fun y hy => nd50 (List.all_eq_true.1 h y hy)
theorem okT_okC {n : Nat} {t : Tm n} (h : okT t = true) : okC (code t) := by
  unfold okC
  rw [← okT_code]
  exact h
theorem okC_cb {n : Nat} {us : List (Int × Tm n)} (hu : ∀ p ∈ us, okT p.2 = true) : ∀ p ∈ cb us, okC p.2 := fun p hp => by
  obtain ⟨q, hq, rfl⟩ := List.mem_map.1 hp
  exact okT_okC (hu q hq)
theorem sub50 {n m : Nat} {t : Tm n} {us : List (Int × Tm m)} (h : okT t = true) (hu : ∀ p ∈ us, okT p.2 = true) : ∀ y ∈ (code t).flatMap (subN (lookC (cb us))), y.2.2.2 ≤ 50 :=
  okC50 (okC_sub (fun _ h0 h1 => okC_look (okC_cb hu) h0 h1) (okT_okC h))
set_option maxRecDepth 100000 in
set_option maxHeartbeats 1000000 in
theorem appendBind_varR {D base : Nat} {S : Nat → Prop} (N : Int) (M : Int) (s : ByteArray) (a : Option Addr) (xl xc : Nat) (ct : List Nd) (v : Value) (l : List (Int × TV)) (c : List (Int × List Nd)) (W : World) (hm : MadeB D S base W v l c)
    (hx : HoldsS D (fun b => v.ownBlock ≠ some b ∧ S b) W (⟨1, M, s, a, xl, xc⟩ : TV).val ct) (hlen : l.length ≤ 4194304) (hbase : base ≤ W.heap.size) (hg : (M == N) = false) :
    Calls Tryz.prog 93 #[v, .int .i64 N, .agg #[.int .i64 1, .int .i64 M, .string s, .slice a xl xc]] W fun e W' => ∃ v' l', e = .returned v' ∧ Below base W W' ∧ W.heap.size ≤ W'.heap.size ∧ MadeB D S base W' v' l' (c ++ [(N, ct)]) ∧ l'.length ≤ l.length + 1 ∧ (∀ b, b < W.heap.size → v.ownBlock ≠ some b → W'.heap[b]? = W.heap[b]?) ∧ (l' = l ∨ l' = l ++ [(N, (⟨1, M, s, a, xl, xc⟩ : TV))]) := by
  obtain ⟨i0, hi, hz0, hz1, hz2⟩ := info_parts Tryz.info_bind
  have HSZ := hide (show (W.alloc (.cells #[.int .i64 1, .int .i64 M, .string s, .slice a xl xc] 24)).heap.size = W.heap.size + 1 by simp)
  have hB1 := ((Below.refl _ W).alloc (Nat.le_refl _) (.cells #[.int .i64 1, .int .i64 M, .string s, .slice a xl xc] 24)).alloc (by simp) (.cells #[.int .i64 N, .int .i64 1, .int .i64 M, .string s, .slice a xl xc] 82)
  have hown5 := (hm.below hB1).owns
  have hone : ∀ Mm, D ≤ Mm → Mm ≤ 2199023255552 → ∃ ks : List (Int × Tm Mm), ks.map (fun p => (p.1, p.2.tv)) = [(N, (⟨1, M, s, a, xl, xc⟩ : TV))] ∧ (∀ p ∈ ks, IsT ((W.alloc (.cells #[.int .i64 1, .int .i64 M, .string s, .slice a xl xc] 24)).alloc (.cells #[.int .i64 N, .int .i64 1, .int .i64 M, .string s, .slice a xl xc] 82)).heap.size ((W.alloc (.cells #[.int .i64 1, .int .i64 M, .string s, .slice a xl xc] 24)).alloc (.cells #[.int .i64 N, .int .i64 1, .int .i64 M, .string s, .slice a xl xc] 82)) p.2 ∧ BlkT (fun b => v.ownBlock ≠ some b ∧ S b) p.2) ∧ cb ks = [(N, ct)] := fun Mm hM hlm => by
    obtain ⟨t, h1, h2, h3, h4⟩ := hx Mm hM hlm
    refine ⟨[(N, t)], by simp [← TV.val_inj h1], fun p hp => ?_, by simp [cb, h4]⟩
    simp at hp
    subst hp
    exact ⟨(h2.below hB1).mono hB1.size, h3⟩
  have hgl : ∀ g, v.ownBlock = some g → base ≤ g := fun g hg => (owns_lt hm.owns hg).1
  have HG := hide hgl
  have HM := hide hm
  have HO1 := hide hone
  have HO5 := hide hown5
  clear hgl hm hone hown5 hx
  go_enter Tryz.func93, Tryz.ntmps93
  go_wp2_with (at_builtin; go_must (refine wpList_append_own_at _ rfl _ _ 32 rfl base 82 i0 _ 5 64 Tryz.underlying32 hi hz0 hz1 hz2 rfl (by decide) v l.length (l.flatMap bRow) rfl (unhide HO5) ⟨W.heap.size + 1, 0, none⟩ 1 1 ([(N, (⟨1, M, s, a, xl, xc⟩ : TV))].flatMap bRow) rfl rfl (by have := new_bind (W5 := W.alloc (.cells #[.int .i64 1, .int .i64 M, .string s, .slice a xl xc] 24)) (V := N) (x := (⟨1, M, s, a, xl, xc⟩ : TV)); rw [unhide HSZ] at this; exact this) (bRow_one _) (by unfold maxLen; omega) (by omega) (by simp; omega) ?_; intro v' w1 hown' hgrow hnil' hbk'))
  have hmade := (unhide HM).next hB1 (unhide HO1) hown' hgrow hbk'
  have hbel : Below base W w1 := (hB1.mono hbase).grown hgrow (by simp; omega) (unhide HG)
  exact bodyPost_ret (v := v') (by simp [results, Tryz.results93, go_sem]) rfl ⟨v', _, rfl, hbel, by have := hgrow.size; simp at this; omega, hmade, by simp, fun b hb hne => (hgrow.block b (by simp; omega) (fun e => hne e.symm)).trans (hB1.block b hb), .inr rfl⟩

set_option maxRecDepth 100000 in
set_option maxHeartbeats 1000000 in
theorem appendBind_otherR {D base : Nat} {S : Nat → Prop} (N : Int) (k : Int) (M : Int) (s : ByteArray) (a : Option Addr) (xl xc : Nat) (ct : List Nd) (v : Value) (l : List (Int × TV)) (c : List (Int × List Nd)) (W : World) (hm : MadeB D S base W v l c)
    (hx : HoldsS D (fun b => v.ownBlock ≠ some b ∧ S b) W (⟨k, M, s, a, xl, xc⟩ : TV).val ct) (hlen : l.length ≤ 4194304) (hbase : base ≤ W.heap.size) (hg : (k == 1) = false) :
    Calls Tryz.prog 93 #[v, .int .i64 N, .agg #[.int .i64 k, .int .i64 M, .string s, .slice a xl xc]] W fun e W' => ∃ v' l', e = .returned v' ∧ Below base W W' ∧ W.heap.size ≤ W'.heap.size ∧ MadeB D S base W' v' l' (c ++ [(N, ct)]) ∧ l'.length ≤ l.length + 1 ∧ (∀ b, b < W.heap.size → v.ownBlock ≠ some b → W'.heap[b]? = W.heap[b]?) ∧ (l' = l ∨ l' = l ++ [(N, (⟨k, M, s, a, xl, xc⟩ : TV))]) := by
  obtain ⟨i0, hi, hz0, hz1, hz2⟩ := info_parts Tryz.info_bind
  have HSZ := hide (show (W.alloc (.cells #[.int .i64 k, .int .i64 M, .string s, .slice a xl xc] 24)).heap.size = W.heap.size + 1 by simp)
  have hB1 := ((Below.refl _ W).alloc (Nat.le_refl _) (.cells #[.int .i64 k, .int .i64 M, .string s, .slice a xl xc] 24)).alloc (by simp) (.cells #[.int .i64 N, .int .i64 k, .int .i64 M, .string s, .slice a xl xc] 82)
  have hown5 := (hm.below hB1).owns
  have hone : ∀ Mm, D ≤ Mm → Mm ≤ 2199023255552 → ∃ ks : List (Int × Tm Mm), ks.map (fun p => (p.1, p.2.tv)) = [(N, (⟨k, M, s, a, xl, xc⟩ : TV))] ∧ (∀ p ∈ ks, IsT ((W.alloc (.cells #[.int .i64 k, .int .i64 M, .string s, .slice a xl xc] 24)).alloc (.cells #[.int .i64 N, .int .i64 k, .int .i64 M, .string s, .slice a xl xc] 82)).heap.size ((W.alloc (.cells #[.int .i64 k, .int .i64 M, .string s, .slice a xl xc] 24)).alloc (.cells #[.int .i64 N, .int .i64 k, .int .i64 M, .string s, .slice a xl xc] 82)) p.2 ∧ BlkT (fun b => v.ownBlock ≠ some b ∧ S b) p.2) ∧ cb ks = [(N, ct)] := fun Mm hM hlm => by
    obtain ⟨t, h1, h2, h3, h4⟩ := hx Mm hM hlm
    refine ⟨[(N, t)], by simp [← TV.val_inj h1], fun p hp => ?_, by simp [cb, h4]⟩
    simp at hp
    subst hp
    exact ⟨(h2.below hB1).mono hB1.size, h3⟩
  have hgl : ∀ g, v.ownBlock = some g → base ≤ g := fun g hg => (owns_lt hm.owns hg).1
  have HG := hide hgl
  have HM := hide hm
  have HO1 := hide hone
  have HO5 := hide hown5
  clear hgl hm hone hown5 hx
  go_enter Tryz.func93, Tryz.ntmps93
  go_wp2_with (at_builtin; go_must (refine wpList_append_own_at _ rfl _ _ 32 rfl base 82 i0 _ 5 64 Tryz.underlying32 hi hz0 hz1 hz2 rfl (by decide) v l.length (l.flatMap bRow) rfl (unhide HO5) ⟨W.heap.size + 1, 0, none⟩ 1 1 ([(N, (⟨k, M, s, a, xl, xc⟩ : TV))].flatMap bRow) rfl rfl (by have := new_bind (W5 := W.alloc (.cells #[.int .i64 k, .int .i64 M, .string s, .slice a xl xc] 24)) (V := N) (x := (⟨k, M, s, a, xl, xc⟩ : TV)); rw [unhide HSZ] at this; exact this) (bRow_one _) (by unfold maxLen; omega) (by omega) (by simp; omega) ?_; intro v' w1 hown' hgrow hnil' hbk'))
  have hmade := (unhide HM).next hB1 (unhide HO1) hown' hgrow hbk'
  have hbel : Below base W w1 := (hB1.mono hbase).grown hgrow (by simp; omega) (unhide HG)
  exact bodyPost_ret (v := v') (by simp [results, Tryz.results93, go_sem]) rfl ⟨v', _, rfl, hbel, by have := hgrow.size; simp at this; omega, hmade, by simp, fun b hb hne => (hgrow.block b (by simp; omega) (fun e => hne e.symm)).trans (hB1.block b hb), .inr rfl⟩

theorem appendBind_anyR {D base : Nat} {S : Nat → Prop} (N : Int) (x : TV) (ct : List Nd) (v : Value) (l : List (Int × TV)) (c : List (Int × List Nd)) (W : World) (hm : MadeB D S base W v l c)
    (hx : HoldsS D (fun b => v.ownBlock ≠ some b ∧ S b) W x.val ct) (hv : ∀ y ∈ ct, vOk y) (hlen : l.length ≤ 4194304) (hbase : base ≤ W.heap.size) (hDl : D + 1 ≤ 2199023255552 := by omega) :
    Calls Tryz.prog 93 #[v, .int .i64 N, x.val] W fun e W' => ∃ v' l', e = .returned v' ∧ Below base W W' ∧ W.heap.size ≤ W'.heap.size ∧ MadeB D S base W' v' l' (addC c N ct) ∧ l'.length ≤ l.length + 1 ∧ (∀ b, b < W.heap.size → v.ownBlock ≠ some b → W'.heap[b]? = W.heap[b]?) ∧ (l' = l ∨ l' = l ++ [(N, x)]) := by
  have hq := holds_var hx hv N hDl
  obtain ⟨k, M, s, a, xl, xc⟩ := x
  simp only at hq
  unfold addC
  by_cases hk : k = 1
  · subst hk
    by_cases hN : M = N
    · subst hN
      rw [if_pos (hq.1 ⟨rfl, rfl⟩)]
      refine (appendBind_same M s a xl xc v W).mono fun e W' h => ?_
      exact ⟨v, l, h.1, h.2.mono hbase, h.2.size, hm.below h.2, by omega, fun b hb _ => h.2.block b hb, .inl rfl⟩
    · rw [if_neg (fun h => hN (hq.2 h).2)]
      exact appendBind_varR N M s a xl xc ct v l c W hm hx hlen hbase (by simp [hN])
  · rw [if_neg (fun h => hk (hq.2 h).1)]
    exact appendBind_otherR N k M s a xl xc ct v l c W hm hx hlen hbase (by simp [hk])
theorem append_newR {D : Nat} {base : Nat} (hDl : D + 1 ≤ 2199023255552) (N : Int) (x : TV) (ct : List Nd) (v : Value) (l : List (Int × TV)) (c : List (Int × List Nd)) (wr W3 W4 : World) (hm : MadeB D (fun _ => True) base wr v l c) (h3 : Below wr.heap.size wr W3) (h4 : Below W3.heap.size W3 W4)
    (hx : HoldsT D W3.heap.size W4 x.val ct) (hv : ∀ y ∈ ct, vOk y) (hlen : l.length ≤ 4194304) (hbase : base ≤ wr.heap.size) (hnew : wr.heap.size < W3.heap.size) (hf : Fresh D base wr l) (hw : ∀ y ∈ ct, y.2.2.2 ≤ 50) :
    Calls Tryz.prog 93 #[v, .int .i64 N, x.val] W4 fun e W' => ∃ v' l', e = .returned v' ∧ Below base W4 W' ∧ MadeB D (fun _ => True) base W' v' l' (addC c N ct) ∧ l'.length ≤ l.length + 1 ∧ Fresh D base W' l' ∧ ∀ o, W'.cell? ⟨wr.heap.size, o, none⟩ = W4.cell? ⟨wr.heap.size, o, none⟩ := by
  have hb : Below wr.heap.size wr W4 := h3.trans (h4.mono h3.size)
  have hown : ∀ g, v.ownBlock = some g → g < wr.heap.size := fun g hg => (owns_lt hm.owns hg).2
  have hx' : HoldsS D (fun b => v.ownBlock ≠ some b ∧ True) W4 x.val ct := fun m hmm hlim => by
    obtain ⟨t, h1, h2, h3', h5⟩ := hx m hmm
    exact ⟨t, h1, h2 hlim, h3'.new.blk.mono fun b hb' => ⟨fun e => by have h6 := hown b e; have h7 := h3.size; have h8 : W3.heap.size ≤ b := hb'; omega, trivial⟩, h5⟩
  refine (appendBind_anyR N x ct v l c W4 (hm.below hb) hx' hv hlen (Nat.le_trans hbase hb.size) hDl).mono fun e W' h => ?_
  obtain ⟨v', l', e1, e2, e3, e4, e5, e6, e7⟩ := h
  refine ⟨v', l', e1, e2, e4, e5, ?_, fun o => ?_⟩
  · have hk : TK base W4 W' := ⟨e3, fun b arr hlo ha => e6 b (Array.getElem?_eq_some_iff.1 ha).1 (fun e => by
      rcases (hm.below hb).owns.2 with ⟨rfl, _⟩ | ⟨g, cap, cur, rfl, _, h2, _⟩
      · cases e
      · have e' : g = b := by simpa [Value.ownBlock] using e
        subst e'
        rw [h2] at ha
        simp at ha)⟩
    have hf4 : Fresh D base W4 l := hf.tk (TK.of_below' hb)
    rcases e7 with rfl | rfl
    · exact hf4.tk hk
    · intro z hz
      rcases List.mem_append.1 hz with hz | hz
      · exact (hf4.tk hk) z hz
      · simp at hz
        subst hz
        exact ⟨ct, (hx.mono (Nat.le_refl _) (by have := h3.size; omega)).tk hk, hw⟩
  exact World.cell?_of_block (e6 wr.heap.size (by have h7 := h4.size; omega) (fun h => by have h8 := hown _ h; omega))
set_option maxRecDepth 100000 in
set_option maxHeartbeats 1000000 in
theorem compose_new {n : Nat} (ss us : List (Int × Tm n)) (a a' : Option Addr) (len cap len' cap' : Nat) (w : World) (hl : IsL w.heap.size w a len ss) (hl' : IsL w.heap.size w a' len' us)
    (hoks : ∀ p ∈ ss, okT p.2 = true) (hoku : ∀ p ∈ us, okT p.2 = true) (hss : Subst ss) (hsu : Subst us) (hbig : len + len' ≤ 4194304) (hn40 : n ≤ 549755813888) :
    Calls Tryz.prog 69 #[.slice a len cap, .slice a' len' cap'] w fun e W' => ∃ (la : Option Addr) (ll lc : Nat), e = .returned (.tuple #[.slice la ll lc, .int .i64 0]) ∧ Below w.heap.size w W' ∧ OutB (n + (n + 1)) W' (.slice la ll lc) (len + len') (insF (madeC (cb ss) (cb us))) ∧ CanB (n + (n + 1)) w.heap.size W'.heap.size W' la ll lc := by
  have hck := checkLists ss us a a' len cap len' cap' w hl hl'
  have hl1 : len ≤ ss.length := by have := hl.1; omega
  have hl2 : ss.length ≤ len := by have := hl.1; omega
  have hm1 : len' ≤ us.length := by have := hl'.1; omega
  have hm2 : us.length ≤ len' := by have := hl'.1; omega
  have honce := madeC_once (rises_once hss.2) (rises_once hsu.2)
  have hvu : ∀ p ∈ cb us, ∀ x ∈ p.2, vOk x := fun p hp => by
    obtain ⟨q, hq, rfl⟩ := List.mem_map.1 hp
    exact okT_vok (hoku q hq)
  have HS := hide hl
  have HU := hide hl'
  have HOS := hide hoks
  have HOU := hide hoku
  have HSS := hide hss
  have HSU := hide hsu
  have HON := hide honce
  have HVU := hide hvu
  clear hl hl' hoks hoku hss hsu honce hvu
  go_enter Tryz.func69, Tryz.ntmps69
  go_wp2_with fail
  refine hck.mono ?_
  clear hck
  rintro e W1 ⟨hsay, hb1⟩
  obtain ⟨r, rfl, _, _, k0⟩ := hsay
  obtain rfl : r = 0 := k0 (by simp [okB]; exact ⟨fun a b h => (unhide HOS) _ h, fun a b h => (unhide HOU) _ h⟩) (by simp; exact ⟨unhide HSS, unhide HSU⟩)
  clear k0
  go_wp2_with fail
  refine (becoming_any a' len' cap' W1).mono ?_
  rintro e W2 ⟨rfl, hW2⟩
  have hb2 : Below W1.heap.size W1 W2 := by rw [hW2]; exact (Below.refl _ W1).alloc (Nat.le_refl _) _
  have hbox : Boxed W2 W1.heap.size 32 (.slice a' len' cap') := by rw [hW2]; exact Boxed.new W1 32 (.slice a' len' cap')
  have hbw : Below w.heap.size w W2 := hb1.trans (hb2.mono hb1.size)
  have hlt2 : W1.heap.size < W2.heap.size := by rw [hW2]; simp
  clear hW2
  have HBOX := hide hbox
  clear hbox
  go_wp2_with fail
  go_loopw [7, 26] (fun o i wr => ∃ (j : Nat) (l : List (Int × TV)), j ≤ len ∧ i = .int .i64 j ∧ Below W2.heap.size W2 wr ∧ MadeB (n + (n + 1)) (fun _ => True) W2.heap.size wr o l (((cb ss).take j).foldl (addS (cb us)) []) ∧ l.length ≤ j ∧ Fresh (n + (n + 1)) W2.heap.size wr l) (fun _ i _ => len - (intOf i).toNat)
  case atStart => exact ⟨0, [], Nat.zero_le _, rfl, Below.refl _ _, MadeB.zero _ _ _ _, Nat.le_refl _, fun p hp => by cases hp⟩
  case round =>
    obtain ⟨j, l, hj, rfl, hb, hm, hlj, hfr⟩ := hrel
    have HM := hide hm
    clear hm
    by_cases hlt : j < len
    · have hbr : Below w.heap.size w wr := hbw.trans (hb.mono hbw.size)
      obtain ⟨V, t, b, off, ht, rfl, hbk, hT, c0, c1, c2, c3, c4⟩ := bind_at (unhide HS) hbr hlt
      have hj1 : (j : Int) < len := by omega
      have hy3 : b < wr.heap.size := by have := hbr.size; omega
      have hokt : okT t = true := (unhide HOS) _ (List.mem_of_getElem? ht)
      have hcs : (cb ss)[j]? = some (V, code t) := by simp [cb, ht]
      have hst := foldl_take (addS (cb us)) [] (cb ss) j _ hcs
      have HST := hide hst
      have hB3 := (Below.refl _ wr).alloc (Nat.le_refl _) (.cells #[.int .i64 V, .int .i64 t.tv.k, .int .i64 t.tv.N, .string t.tv.s, .slice t.tv.a t.tv.len t.tv.cap] 82)
      have hw50 : ∀ y ∈ (code t).flatMap (subN (lookC (cb us))), y.2.2.2 ≤ 50 := sub50 hokt (unhide HOU)
      have HW50 := hide hw50
      clear hw50
      have hvt := sub_vok (cu := cb us) (okT_vok hokt) (unhide HVU)
      have HVT := hide hvt
      have HOKT := hide hokt
      have HT := hide hT
      clear ht hcs hst hvt hokt hT
      go_wp2_with fail
      have hbx := bind_box wr V t.tv
      have hsz3 : wr.heap.size < (wr.alloc (.cells #[.int .i64 V, .int .i64 t.tv.k, .int .i64 t.tv.N, .string t.tv.s, .slice t.tv.a t.tv.len t.tv.cap] 82)).heap.size := by simp
      obtain ⟨W3, hW3⟩ : ∃ W3, wr.alloc (.cells #[.int .i64 V, .int .i64 t.tv.k, .int .i64 t.tv.N, .string t.tv.s, .slice t.tv.a t.tv.len t.tv.cap] 82) = W3 := ⟨_, rfl⟩
      rw [hW3] at hB3 hbx hsz3 ⊢
      clear hW3
      obtain ⟨x0, x1, x2, x3, x4⟩ := hbx
      have hb3 : Below w.heap.size w W3.drew := (hbr.trans (hB3.mono hbr.size)).drew
      have hrep : Calls Tryz.prog 60 #[.agg #[.int .i64 t.tv.k, .int .i64 t.tv.N, .string t.tv.s, .slice t.tv.a t.tv.len t.tv.cap], .func (.func 89) #[] #[.pointer (some ⟨W1.heap.size, 0, none⟩)]] W3.drew fun e W4 => ∃ x : TV, e = .returned x.val ∧ Below W3.heap.size W3 W4 ∧ HoldsT (n + (n + 1)) W3.heap.size W4 x.val ((code t).flatMap (subN (lookC (cb us)))) := by
        refine (replace_binds t us a' len' cap' W1.heap.size wr (unhide HT) (unhide HOKT) (((unhide HU).below hbr).mono hbr.size) (unhide HSU).2 (unhide HOU) W3.drew hB3.drew ((hB3.drew.block _ (by have := hb.size; omega)).trans ((hb.block _ hlt2).trans (unhide HBOX)))).mono fun e W4 h => ?_
        obtain ⟨v, he, hb4, hv⟩ := h
        obtain ⟨t3, ht3, -⟩ := hv _ (Nat.le_refl _)
        exact ⟨t3.tv, by rw [he, ht3], (Below.refl _ W3).drew.trans hb4, by rw [← ht3]; exact hv⟩
      have happ := fun (x : TV) (W4 : World) => append_newR (D := n + (n + 1)) (by omega) V x ((code t).flatMap (subN (lookC (cb us)))) u7 l _ wr W3 W4 (unhide HM) hB3
      go_region_held3 (fun w' => w'.cell? ⟨wr.heap.size, 0, none⟩ = some (.int .i64 V)
              ∧ w'.cell? ⟨wr.heap.size, 1, none⟩ = some (.int .i64 t.tv.k) ∧ w'.cell? ⟨wr.heap.size, 2, none⟩ = some (.int .i64 t.tv.N) ∧ w'.cell? ⟨wr.heap.size, 3, none⟩ = some (.string t.tv.s) ∧ w'.cell? ⟨wr.heap.size, 4, none⟩ = some (.slice t.tv.a t.tv.len t.tv.cap)) (go_keep)
              (first | (go_at_call 60; refine hrep.mono ?_; clear hrep; rintro e W4 ⟨x, rfl, hb4, hx⟩; have hbc := bcell hb4) | (go_at_call 93; refine (happ x W4 hb4 hx (unhide HVT) (by omega) (by have := hb.size; omega) hsz3 hfr (unhide HW50)).mono ?_; clear happ; rintro e W5 ⟨v', l', rfl, hb5, hm5, hl5, hf5, hbd⟩))
      have hbt : Below W2.heap.size W2 W5 := ((hb.trans (hB3.mono hb.size)).trans (hb4.mono (by have := hb.size; have := hB3.size; omega))).trans hb5
      have hm6 : MadeB (n + (n + 1)) (fun _ => True) W2.heap.size W5 v' l' (((cb ss).take (j + 1)).foldl (addS (cb us)) []) := by rw [unhide HST]; exact hm5
      have HM6 := hide hm6
      clear hm5 hm6 hbc hbd hx hb4 hb5
      go_wp2_with fail
      go_roundw
      case rel => exact ⟨j + 1, l', by omega, by go_num, hbt, unhide HM6, by omega, hf5⟩
      case measure => simp [intOf]; omega
    · have htk : (cb ss).take j = cb ss := List.take_of_length_le (by simp [cb]; omega)
      rw [htk] at HM
      clear htk
      have hj1 : ¬ (j : Int) < len := by omega
      have HB := hide hb
      clear hb
      go_wp2_with fail
      go_loopw [7, 41] (fun o i wq => ∃ (k : Nat) (l : List (Int × TV)), k ≤ len' ∧ i = .int .i64 k ∧ Below W2.heap.size W2 wq ∧ MadeB (n + (n + 1)) (fun _ => True) W2.heap.size wq o l (((cb us).take k).foldl (addU (cb ss)) ((cb ss).foldl (addS (cb us)) [])) ∧ l.length ≤ len + k ∧ Fresh (n + (n + 1)) W2.heap.size wq l) (fun _ i _ => len' - (intOf i).toNat)
      case atStart => exact ⟨0, l, Nat.zero_le _, rfl, unhide HB, unhide HM, by omega, hfr⟩
      case round =>
        clear hfr
        obtain ⟨k, l2, hk, rfl, hb, hm, hlk, hfr⟩ := hrel
        clear HM HB hlj
        have HM := hide hm
        clear hm
        have hbr : Below w.heap.size w wr := hbw.trans (hb.mono hbw.size)
        by_cases hlt' : k < len'
        · obtain ⟨V, t, b, off, ht, rfl, hbk, hT, c0, c1, c2, c3, c4⟩ := bind_at (unhide HU) hbr hlt'
          have hj2 : (k : Int) < len' := by omega
          have hy3 : b < wr.heap.size := by have := hbr.size; omega
          have hokt : okT t = true := (unhide HOU) _ (List.mem_of_getElem? ht)
          have hcu : (cb us)[k]? = some (V, code t) := by simp [cb, ht]
          have hst := foldl_take (addU (cb ss)) ((cb ss).foldl (addS (cb us)) []) (cb us) k _ hcu
          have HST := hide hst
          have hB3 := (Below.refl _ wr).alloc (Nat.le_refl _) (.cells #[.int .i64 V, .int .i64 t.tv.k, .int .i64 t.tv.N, .string t.tv.s, .slice t.tv.a t.tv.len t.tv.cap] 82)
          have hw50 : ∀ y ∈ code t, y.2.2.2 ≤ 50 := fun y hy => nd50 (List.all_eq_true.1 (okT_code t ▸ hokt) y hy)
          have HW50 := hide hw50
          clear hw50
          have hvt := okT_vok hokt
          have HVT := hide hvt
          have HOKT := hide hokt
          have HT := hide hT
          clear ht hcu hst hvt hokt hT
          have hfi := find_any ss a len cap V (wr.alloc (.cells #[.int .i64 V, .int .i64 t.tv.k, .int .i64 t.tv.N, .string t.tv.s, .slice t.tv.a t.tv.len t.tv.cap] 82)) (((unhide HS).below (hbr.trans (hB3.mono hbr.size))).mono (hbr.trans (hB3.mono hbr.size)).size) (unhide HSS).2
          go_wp2_with fail
          have hbx := bind_box wr V t.tv
          have hsz3 : wr.heap.size < (wr.alloc (.cells #[.int .i64 V, .int .i64 t.tv.k, .int .i64 t.tv.N, .string t.tv.s, .slice t.tv.a t.tv.len t.tv.cap] 82)).heap.size := by simp
          obtain ⟨W3, hW3⟩ : ∃ W3, wr.alloc (.cells #[.int .i64 V, .int .i64 t.tv.k, .int .i64 t.tv.N, .string t.tv.s, .slice t.tv.a t.tv.len t.tv.cap] 82) = W3 := ⟨_, rfl⟩
          rw [hW3] at hB3 hbx hsz3 hfi ⊢
          clear hW3
          refine hfi.mono ?_
          clear hfi
          rintro e W4 ⟨pos, f, rfl, hb4, hf1, hf2⟩
          have hB4 : Below wr.heap.size wr W4 := hB3.trans (hb4.mono hB3.size)
          cases f with
          | true =>
            have hex : ∃ q ∈ cb ss, q.1 = V := by
              obtain ⟨p, hp, e⟩ := hf1 rfl
              exact cb_has.2 ⟨p, List.mem_of_getElem? hp, e⟩
            have HEX := hide hex
            clear hex hf1 hf2
            go_wp2_with fail
            go_roundw
            case rel =>
              refine ⟨k + 1, l2, by omega, by go_num, hb.trans (hB4.mono hb.size), ?_, by omega, hfr.tk (TK.of_below' hB4)⟩
              rw [unhide HST]
              unfold addU
              rw [if_pos (unhide HEX)]
              exact (unhide HM).below hB4
            case measure => simp [intOf]; omega
          | false =>
            have hnf : ¬ ∃ q ∈ cb ss, q.1 = V := fun h => by
              obtain ⟨p, hp, e⟩ := cb_has.1 h
              exact hf2 rfl p hp e
            have HNF := hide hnf
            clear hnf hf1 hf2
            have hbc := bcell hb4
            obtain ⟨x0, x1, x2, x3, x4⟩ := hbx
            have y0 := (hbc wr.heap.size 0 hsz3).trans x0
            have y1 := (hbc wr.heap.size 1 hsz3).trans x1
            have y2 := (hbc wr.heap.size 2 hsz3).trans x2
            have y3 := (hbc wr.heap.size 3 hsz3).trans x3
            have y4 := (hbc wr.heap.size 4 hsz3).trans x4
            have hsz4 : wr.heap.size < W4.heap.size := by have := hb4.size; omega
            clear hbc x0 x1 x2 x3 x4
            have hcp : Calls Tryz.prog 68 #[.agg #[.int .i64 t.tv.k, .int .i64 t.tv.N, .string t.tv.s, .slice t.tv.a t.tv.len t.tv.cap]] W4.drew fun e W5 => ∃ x : TV, e = .returned x.val ∧ Below W4.heap.size W4 W5 ∧ HoldsT (n + (n + 1)) W4.heap.size W5 x.val (code t) := by
              refine (copy_any t W4.drew (((unhide HT).below hB4.drew).mono hB4.size) (unhide HOKT)).mono fun e W5 h => ?_
              obtain ⟨x, h1, h2, h3⟩ := h
              exact ⟨x, h1, (Below.refl _ W4).drew.trans h2, h3.mono (by omega) (Nat.le_refl _)⟩
            have happ := fun (x : TV) (W5 : World) => append_newR (D := n + (n + 1)) (by omega) V x (code t) u7 l2 _ wr W4 W5 (unhide HM) hB4
            go_wp2_with fail
            go_region_held3 (fun w' => w'.cell? ⟨wr.heap.size, 0, none⟩ = some (.int .i64 V)
              ∧ w'.cell? ⟨wr.heap.size, 1, none⟩ = some (.int .i64 t.tv.k) ∧ w'.cell? ⟨wr.heap.size, 2, none⟩ = some (.int .i64 t.tv.N) ∧ w'.cell? ⟨wr.heap.size, 3, none⟩ = some (.string t.tv.s) ∧ w'.cell? ⟨wr.heap.size, 4, none⟩ = some (.slice t.tv.a t.tv.len t.tv.cap)) (go_keep)
              (first | (go_at_call 68; refine hcp.mono ?_; clear hcp; rintro e W5 ⟨x, rfl, hb5, hx⟩; have hbc := bcell hb5) | (go_at_call 93; refine (happ x W5 hb5 hx (unhide HVT) (by omega) (by have := hb.size; omega) hsz4 hfr (unhide HW50)).mono ?_; clear happ; rintro e W6 ⟨v', l', rfl, hb6, hm6, hl6, hf6, hbd⟩))
            have hbt : Below W2.heap.size W2 W6 := ((hb.trans (hB4.mono hb.size)).trans (hb5.mono (by have := hb.size; have := hB4.size; omega))).trans hb6
            have hm7 : MadeB (n + (n + 1)) (fun _ => True) W2.heap.size W6 v' l' (((cb us).take (k + 1)).foldl (addU (cb ss)) ((cb ss).foldl (addS (cb us)) [])) := by
              rw [unhide HST]
              unfold addU
              rw [if_neg (unhide HNF)]
              exact hm6
            have HM7 := hide hm7
            clear hm6 hm7 hbc hbd hx hb5 hb6
            go_wp2_with fail
            go_roundw
            case rel => exact ⟨k + 1, l', by omega, by go_num, hbt, unhide HM7, by omega, hf6⟩
            case measure => simp [intOf]; omega
        · have htk : (cb us).take k = cb us := List.take_of_length_le (by simp [cb]; omega)
          rw [htk] at HM
          clear htk
          have hj2 : ¬ (k : Int) < len' := by omega
          obtain ⟨la, lc, hv, -⟩ := (unhide HM).isL (by omega)
          subst hv
          have HFR : Hid (∀ W5 : World, wr.heap.size ≤ W5.heap.size → (∀ b, b < wr.heap.size → Value.ownBlock (.slice la l2.length lc) ≠ some b → W5.heap[b]? = wr.heap[b]?) → Fresh (n + (n + 1)) W2.heap.size W5 l2) := fun W5 hs ho => hfr.sorted (unhide HM) hs ho
          have hso := sortBinds_row (.slice la l2.length lc) l2 (madeC (cb ss) (cb us)) wr (unhide HM) (unhide HON) (by omega)
          go_wp2_with fail
          refine hso.mono ?_
          clear hso
          rintro e W4 ⟨rfl, hb4, ho4, hrow4, hoth4⟩
          have HCAN := hide ((canB_of hrow4 (HFR.out W4 hb4.size hoth4) (by omega) (by omega) rfl).lower (lo' := w.heap.size) hbw.size)
          clear hrow4 hoth4
          have ho5 := ho4.more (k' := len + len') (by omega)
          have HO := hide ho5
          clear ho4 ho5
          have hbf : Below w.heap.size w W4 := hbw.trans ((hb.trans hb4).mono hbw.size)
          go_wp2_with fail
          exact bodyPost_ret (v := .tuple #[.slice la l2.length lc, .int .i64 0]) (by simp [results, Tryz.results69, go_sem]) rfl ⟨la, l2.length, lc, rfl, hbf, unhide HO, unhide HCAN⟩
end Go.Proofs.YtojefplapklbmaaGreatDoor

