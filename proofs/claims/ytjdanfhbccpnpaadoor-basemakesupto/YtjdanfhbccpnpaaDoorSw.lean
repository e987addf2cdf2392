import Derived.Test.YtjdanfhbccpnpaaDoorHss
import Derived.Test.YtjdanfhbccpnpaaDoorNqs
/- The contracts of hornref.Swap and hornref.Rename: variables get new numbers. -/
namespace Go.Proofs.YtjdanfhbccpnpaaDoor
open Go.RowKit Go.Shelf Go.Maps

set_option maxRecDepth 100000 in
set_option maxHeartbeats 1000000 in
theorem rswap_var (ms : List Int) (la : Option Addr) (ll lc : Nat) (f : Int) (N : Int) (s : ByteArray) (a : Option Addr) (len cap : Nat) (W : World) (hl : IsN W la ll ms) (hf0 : 0 ≤ f) (hf1 : f ≤ 1099511627776) (hN : N ∈ ms) :
    Calls Tryd.prog 28 #[.agg #[.int .i64 1, .int .i64 N, .string s, .slice a len cap], .slice la ll lc, .int .i64 f] W fun e W' => ∃ x : TV, e = .returned x.val ∧ Below W.heap.size W W' ∧ HoldsS 1 (Mix 0 W.heap.size) W' x.val (renN f ms N) := by
  have hH := Head.new W ⟨1, N, s, a, len, cap⟩
  simp only at hH
  have hll := hl.1
  have hl2 := hl.2.1
  have hh := has_any ms la ll lc N _ (hl.below hH.below)
  have hidx : hasI ms N = (ms.idxOf N : Nat) := if_pos hN
  have hlt0 : ms.idxOf N < ms.length := List.idxOf_lt_length_of_mem hN
  rw [hidx] at hh
  have hren : renN f ms N = [varNd (f + (ms.idxOf N : Nat))] := rfl
  rw [hren]
  have hpos : ¬ ((ms.idxOf N : Nat) : Int) < 0 := by omega
  have hle : ((ms.idxOf N : Nat) : Int) ≤ 1152921504606846976 := by omega
  clear hl hidx hN hren hlt0 hll
  generalize ms.idxOf N = p at *
  go_enter Tryd.func28, Tryd.ntmps28
  go_wp2_with fail
  refine hh.mono ?_
  clear hh
  rintro e W1 ⟨rfl, hb1⟩
  replace hH := hH.next hb1
  have hv := v_any (f + (p : Nat)) W1
  simp only [TV.val, varV] at hv
  have HH := hide hH
  have HB := hide hb1
  clear hH hb1
  go_wp2_with fail
  refine hv.mono ?_
  clear hv
  rintro e W2 ⟨rfl, hb2⟩
  have hH := (unhide HH).next hb2
  obtain ⟨⟨z0, z1, z2, z3⟩, y0, y1, y2, y3⟩ := zbox_kept hH.bz
  have hlt : W.heap.size + 1 < W2.heap.size := hH.lt
  have hfin : HoldsS 1 (Mix 0 W.heap.size) (set4 W2 (W.heap.size + 1) 0 (varV (f + (p : Nat)))) (varV (f + (p : Nat))).val [varNd (f + (p : Nat))] := (varV_holds (f + (p : Nat)) W.heap.size _).holdsS.mono (Nat.le_refl _) (fun b hb => .inr hb)
  have hbf : Below W.heap.size W (set4 W2 (W.heap.size + 1) 0 (varV (f + (p : Nat)))) := set4_below hH.below (by omega) 0 _
  have HF := hide hfin
  have HBF := hide hbf
  clear hfin hbf hH hb2
  go_wp2_with fail
  refine bodyPost_ret (v := (varV (f + (p : Nat))).val) ?_ rfl ⟨_, rfl, unhide HBF, unhide HF⟩
  simp [results, Tryd.results28, go_sem, TV.val, varV, z0, z1, z2, z3]

set_option maxRecDepth 100000 in
set_option maxHeartbeats 1000000 in
theorem rswap_comp (ms : List Int) (la : Option Addr) (ll lc : Nat) (f : Int) (D : Nat) {d : Nat}
    (ih : ∀ (u : Tm d) (W : World), IsN W la ll ms → IsT W.heap.size W u → okT u = true → (∀ N, IsVarOf (code u) N → N ∈ ms) → Calls Tryd.prog 28 #[u.tv.val, .slice la ll lc, .int .i64 f] W fun e W' => ∃ x : TV, e = .returned x.val ∧ Below W.heap.size W W' ∧ HoldsS D (Mix 0 W.heap.size) W' x.val ((code u).flatMap (subN (renN f ms))))
    (k N : Int) (s : ByteArray) (a : Option Addr) (len cap : Nat) (kids : List (Tm d)) (W : World) (hl : IsN W la ll ms) (hk1 : k ≠ 1) (hs : s.size ≤ 9223372036854775807) (hl50 : len ≤ 50) (hlen : len = kids.length)
    (hkids : kids = [] ∨ ∃ b off, a = some ⟨b, off, none⟩ ∧ b < W.heap.size ∧ ∀ j u, kids[j]? = some u → cellsAt W b (off + j * 4) u.tv ∧ IsT W.heap.size W u) (hok : ∀ u ∈ kids, okT u = true) (hin : ∀ u ∈ kids, ∀ N, IsVarOf (code u) N → N ∈ ms) :
    Calls Tryd.prog 28 #[.agg #[.int .i64 k, .int .i64 N, .string s, .slice a len cap], .slice la ll lc, .int .i64 f] W fun e W' => ∃ x : TV, e = .returned x.val ∧ Below W.heap.size W W' ∧ HoldsS (D + 1) (Mix 0 W.heap.size) W' x.val ((k, N, s.toList, len) :: (kids.flatMap code).flatMap (subN (renN f ms))) := by
  have hl1 : len ≤ kids.length := by omega
  have hl2 : kids.length ≤ len := by omega
  have hk1' : (k == 1) = false := by simp [hk1]
  clear hlen hk1
  have hH := Head.new W ⟨k, N, s, a, len, cap⟩
  simp only at hH
  have HI := hide ih
  have HO := hide hok
  have HIN := hide hin
  have HL := hide hl
  clear ih hok hl hin
  obtain ⟨i0, hi, hz0, hz1, hz2⟩ := info_parts Tryd.info28
  go_enter Tryd.func28, Tryd.ntmps28
  go_wp2_with fail
  obtain ⟨W2, hW2⟩ : ∃ W2, (W.alloc (.cells #[.int .i64 k, .int .i64 N, .string s, .slice a len cap] 24)).alloc (.cells #[.int .i64 0, .int .i64 0, .string ⟨#[]⟩, .slice none 0 0] 24) = W2 := ⟨_, rfl⟩
  have hsz2 : ((W.alloc (.cells #[.int .i64 k, .int .i64 N, .string s, .slice a len cap] 24)).alloc (.cells #[.int .i64 0, .int .i64 0, .string ⟨#[]⟩, .slice none 0 0] 24)).heap.size = W.heap.size + 2 := by simp
  rw [hW2] at hH hsz2 ⊢
  clear hW2
  have HH := hide hH
  have HSZ := hide hsz2
  clear hH hsz2
  go_loopw [8, 9] (fun av i wr => ∃ (j : Nat) (l : List TV), j ≤ len ∧ i = .int .i64 j ∧ l.length = j ∧ Below (W.heap.size + 2) W2 wr ∧ Made D (Mix 0 (W.heap.size + 2)) (W.heap.size + 2) wr av l (((kids.take j).flatMap code).flatMap (subN (renN f ms)))) (fun _ i _ => len - (intOf i).toNat)
  case atStart => exact ⟨0, [], Nat.zero_le _, rfl, rfl, Below.refl _ _, Made.zero _ _ _ _⟩
  case round =>
    obtain ⟨j, l, hj, rfl, hll, hb, hm⟩ := hrel
    have hb' : Below W2.heap.size W2 wr := by rw [unhide HSZ]; exact hb
    have hH := (unhide HH).next hb'
    have x2 := hH.ba.c2
    have x3 := hH.ba.c3
    have x0 := hH.ba.c0
    have x1 := hH.ba.c1
    simp only at x0 x1 x2 x3
    have HHr := hide hH
    have HM := hide hm
    have HLL := hide hll
    clear hH hm hll
    by_cases hlt : j < len
    · obtain ⟨u, b, off, hu, rfl, ⟨c0, c1, c2, c3⟩, hT, hbk⟩ := kid_at hkids (unhide HHr).below hlt hl1
      have ihu := (unhide HI) u wr ((unhide HL).below (unhide HHr).below) hT ((unhide HO) u (List.mem_of_getElem? hu)) ((unhide HIN) u (List.mem_of_getElem? hu))
      have hcode := code_take kids j u hu
      have HC := hide hcode
      clear hT hkids hu hcode
      simp only [TV.val] at ihu
      have hj1 : (j : Int) < len := by omega
      go_wp2_with fail
      refine ihu.mono ?_
      clear ihu
      rintro e W5 ⟨x, rfl, hb5, hx⟩
      dsimp only [TV.val]
      clear x0 x1 x2 x3 c0 c1 c2 c3
      have hown5 : (W5.alloc (.cells #[.int .i64 x.k, .int .i64 x.N, .string x.s, .slice x.a x.len x.cap] 24)).ownsRow (W.heap.size + 2) 24 4 u8 l.length (l.flatMap TV.row) :=
        owns_below (unhide HM).owns (fun g hg => by
          have hlt := (owns_lt (unhide HM).owns hg).2
          exact (Below.heap_alloc _ _ _ (Nat.lt_of_lt_of_le hlt hb5.size)).trans (hb5.block g hlt))
      go_wp2_with (at_builtin; go_must (refine wpList_append_own_at _ rfl _ _ 22 rfl (W.heap.size + 2) 24 i0 _ 4 56 Tryd.underlying22 hi hz0 hz1 hz2 rfl (by decide) u8 l.length (l.flatMap TV.row) rfl hown5 ⟨W5.heap.size, 0, none⟩ 1 1 x.row rfl rfl new_cells row_one (by have := unhide HLL; unfold maxLen; omega) (by have := unhide HLL; omega) (by have := hb5.size; have := hb'.size; have := unhide HSZ; simp; omega) ?_; intro v' w1 hown' hgrow hnil hbk))
      have hgl : ∀ g, u8.ownBlock = some g → W.heap.size + 2 ≤ g ∧ g < wr.heap.size := fun g hg => owns_lt (unhide HM).owns hg
      have hwr : W.heap.size + 2 ≤ wr.heap.size := by have := hb'.size; have := unhide HSZ; omega
      have hmade := (unhide HM).next hb5 (hx.mono (Nat.le_refl _) (fun b hb => ⟨by unfold Mix at hb ⊢; omega, fun e => by have := hgl b e; unfold Mix at hb; omega⟩)) hown' hgrow (by simpa using hbk)
      rw [← List.flatMap_append, ← unhide HC] at hmade
      have hbel : Below (W.heap.size + 2) W2 w1 := ((hb.trans (hb5.mono hwr)).alloc (Nat.le_trans hwr hb5.size) _).grown hgrow (by have := hb5.size; simp; omega) (fun g hg => (hgl g hg).1)
      exact ⟨⟨j + 1, l ++ [x], by omega, by go_num, by simp [unhide HLL], hbel, hmade⟩, by simp [intOf]; omega⟩
    · have hjl : j = len := by omega
      have ht : kids.take j = kids := List.take_of_length_le (by omega)
      have hm := unhide HM
      rw [ht] at hm
      obtain ⟨a', cap', rfl, hfin⟩ := args_end (k := k) (N := N) (s := s) (len := len) (by rw [unhide HLL, hjl]) hl50 hs (unhide HHr).below (Nat.zero_le _) hm
      obtain ⟨⟨z0, z1, z2, z3⟩, y0, y1, y2, y3⟩ := zbox_kept (unhide HHr).bz
      have f3 : wr.frozen? ⟨W.heap.size, 3, none⟩ = false := by simp [World.frozen?, show wr.heap[W.heap.size]? = _ from (unhide HHr).ba]
      obtain ⟨f1, f2⟩ := hfin
      have F1 := hide f1
      have F2 := hide f2
      have hlt' : ¬ (j : Int) < (len : Int) := by omega
      clear f1 f2 hm ht hkids hjl
      go_wp2_with fail
      refine bodyPost_ret (v := (⟨k, N, s, a', len, cap'⟩ : TV).val) ?_ rfl ⟨_, rfl, unhide F1, unhide F2⟩
      simp [results, Tryd.results28, go_sem, TV.val, z0, z1, z2, z3]

/-- hornref.Swap, whatever the term. -/
theorem rswap_any (ms : List Int) (la : Option Addr) (ll lc : Nat) (f : Int) (hf0 : 0 ≤ f) (hf1 : f ≤ 1099511627776) : ∀ (d : Nat) (t : Tm d) (W : World), IsN W la ll ms → IsT W.heap.size W t → okT t = true → (∀ N, IsVarOf (code t) N → N ∈ ms) →
    Calls Tryd.prog 28 #[t.tv.val, .slice la ll lc, .int .i64 f] W fun e W' => ∃ x : TV, e = .returned x.val ∧ Below W.heap.size W W' ∧ HoldsS (d + 1) (Mix 0 W.heap.size) W' x.val ((code t).flatMap (subN (renN f ms))) := by
  intro d
  induction d with
  | zero => intro t; exact Empty.elim t
  | succ d ih =>
    intro t W hl hT hok hin
    obtain ⟨⟨k, N, s, a, len, cap⟩, kids⟩ := t
    obtain ⟨hwm, hk⟩ := ok_kids hok
    obtain ⟨h1, h2, h3, h4⟩ := hT
    simp only [Tm.tv, Tm.kids] at h1 h2 h3 h4 hwm
    rw [code_succ] at hin ⊢
    rw [List.flatMap_cons]
    by_cases hk1 : k = 1
    · subst hk1
      have hl0 : len = 0 := by
        rcases wm_cases hwm with ⟨_, _, _, _, h⟩ | ⟨h, _⟩ | ⟨h, _⟩
        · exact h
        · omega
        · omega
      subst hl0
      have hnil : kids = [] := List.length_eq_zero_iff.1 h1.symm
      subst hnil
      refine (rswap_var ms la ll lc f N s a 0 cap W hl hf0 hf1 (hin N ⟨_, List.mem_cons_self, rfl, rfl⟩)).mono fun e W' h => ?_
      obtain ⟨x, he, hb', hv⟩ := h
      exact ⟨x, he, hb', by simpa [subN, TV.nd] using hv.mono (by omega) (fun _ h => h)⟩
    · have hl50 : len ≤ 50 := by
        rcases wm_cases hwm with ⟨h, _⟩ | ⟨_, h⟩ | ⟨_, _, _, h⟩ <;> omega
      refine (rswap_comp ms la ll lc f (d + 1) ih k N s a len cap kids W hl hk1 h3 hl50 h1 h4 hk (fun u hu M hM => hin M ?_)).mono fun e W' h => ?_
      · obtain ⟨y, hy, e1, e2⟩ := hM
        exact ⟨y, List.mem_cons_of_mem _ (List.mem_flatMap.2 ⟨u, hu, hy⟩), e1, e2⟩
      · obtain ⟨x, he, hb', hv⟩ := h
        exact ⟨x, he, hb', by simpa [subN, TV.nd, hk1] using hv.mono (by omega) (fun _ h => h)⟩

theorem steps_all {c : List Nd} : ∀ N, IsVarOf c N → N ∈ varsC [] c := fun N h => (steps_mem c [] N).2 (.inr h)
theorem ret_same {v v' : Value} (h : v = v') : Ending.returned v = .returned v' := by rw [h]

end Go.Proofs.YtjdanfhbccpnpaaDoor

