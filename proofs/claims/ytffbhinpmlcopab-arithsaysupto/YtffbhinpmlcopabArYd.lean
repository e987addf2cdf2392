import Derived.Test.YtffbhinpmlcopabArYa
import Derived.Test.YtffbhinpmlcopabArU
import Derived.Test.YtffbhinpmlcopabArV
import Derived.Test.YtffbhinpmlcopabHd
/- hornref.Fold. -/
namespace Go.Proofs.Ytffbhinpmlcopab
open Go.RowKit Go.Shelf

theorem fold_take {n : Nat} (kids : List (Tm n)) (j : Nat) (u : Tm n) (h : kids[j]? = some u) : (kids.take (j + 1)).flatMap foldC = (kids.take j).flatMap foldC ++ foldC u := by
  obtain ⟨hj, rfl⟩ := List.getElem?_eq_some_iff.1 h
  rw [List.take_succ_eq_append_getElem hj, List.flatMap_append, List.flatMap_cons, List.flatMap_nil, List.append_nil]

set_option maxRecDepth 100000 in
set_option maxHeartbeats 1000000 in
theorem rfold_leaf (k N : Int) (s : ByteArray) (a : Option Addr) (len cap : Nat) (hk : k ≠ 4) (W : World) :
    Calls Try.prog 13 #[.agg #[.int .i64 k, .int .i64 N, .string s, .slice a len cap]] W fun e W' => e = .returned (⟨k, N, s, a, len, cap⟩ : TV).val ∧ Below W.heap.size W W' := by
  have hk1 : (k == 4) = false := by simp [hk]
  have hk2 : (k != 4) = true := by simp [hk]
  clear hk
  go_enter Try.func13, Try.ntmps13
  go_wp2
  all_goals refine bodyPost_ret (v := (⟨k, N, s, a, len, cap⟩ : TV).val) (by simp [results, Try.results13, go_sem, TV.val]) rfl ⟨rfl, ?_⟩
  all_goals exact ((Below.refl _ _).alloc (Nat.le_refl _) _).alloc (by simp) _

set_option maxRecDepth 100000 in
set_option maxHeartbeats 2000000 in
theorem rfold_comp {n : Nat}
    (ih : ∀ (u : Tm n) (W : World), IsT W.heap.size W u → okT u = true → numsT u → Calls Try.prog 13 #[u.tv.val] W fun e W' => ∃ x : TV, e = .returned x.val ∧ Below W.heap.size W W' ∧ HoldsS n (Mix 0 W.heap.size) W' x.val (foldC u))
    (s : ByteArray) (a : Option Addr) (len cap : Nat) (kids : List (Tm n)) (W : World) (hs : s.size ≤ 9223372036854775807) (hl50 : len ≤ 50) (hlen : len = kids.length)
    (hkids : kids = [] ∨ ∃ b off, a = some ⟨b, off, none⟩ ∧ b < W.heap.size ∧ ∀ j u, kids[j]? = some u → cellsAt W b (off + j * 4) u.tv ∧ IsT W.heap.size W u) (hok : ∀ u ∈ kids, okT u = true) (hnum : ∀ u ∈ kids, numsT u)
    (r : Except (List Nd) Int) (hE : ∀ V, Below W.heap.size W V → Calls Try.prog 14 #[.agg #[.int .i64 4, .int .i64 0, .string s, .slice a len cap]] V fun e W' => RSays V.heap.size r e W' ∧ Below V.heap.size V W') :
    Calls Try.prog 13 #[.agg #[.int .i64 4, .int .i64 0, .string s, .slice a len cap]] W fun e W' => ∃ x : TV, e = .returned x.val ∧ Below W.heap.size W W' ∧ HoldsS (n + 1) (Mix 0 W.heap.size) W' x.val (foldV r ((4, 0, s.toList, len) :: kids.flatMap foldC)) := by
  have hl1 : len ≤ kids.length := by omega
  have hl2 : kids.length ≤ len := by omega
  clear hlen
  have HI := hide ih
  have HO := hide hok
  have HN := hide hnum
  have HK := hide hkids
  clear ih hok hnum hkids
  obtain ⟨W2, hW2, hb2, hs2, bT, hz⟩ := box_zero W ⟨4, 0, s, a, len, cap⟩
  simp only at hW2
  have hEv := hE W2 hb2
  clear hE
  have c0 := bT.c0
  have c1 := bT.c1
  have c2 := bT.c2
  have c3 := bT.c3
  simp only at c0 c1 c2 c3
  have HB : Hid (BoxT W2 W.heap.size ⟨4, 0, s, a, len, cap⟩) := bT
  have HZ : Hid (BoxT W2 (W.heap.size + 1) noTerm) := hz
  clear bT hz
  go_enter Try.func13, Try.ntmps13
  cases r with
  | ok m =>
    simp only [RSays, noTerm, TV.val] at hEv
    have hin := rinteger_any m
    simp only [intV, TV.val] at hin
    go_wp2_with fail
    refine hEv.mono ?_
    rintro e W7 ⟨rfl, hb7⟩
    try rw [hW2] at hb7
    clear hEv hW2 c0 c1 c2 c3
    go_wp2_with fail
    refine (hin _).mono ?_
    rintro e W9 ⟨rfl, hb9⟩
    clear hin
    have s7 := hb7.size
    have hb8 : Below W7.heap.size W7 W9 := ((Below.refl _ W7).alloc (Nat.le_refl _) _).trans (hb9.mono (by simp))
    have bZ9 : BoxT W9 (W.heap.size + 1) noTerm := (BoxT.below (show BoxT _ _ noTerm from HZ.out) hb7 (by omega)).below hb8 (by omega)
    have z0 := bZ9.c0
    have z1 := bZ9.c1
    have z2 := bZ9.c2
    have z3 := bZ9.c3
    obtain ⟨y0, y1, y2, y3⟩ := bZ9.frz
    have HF : Hid (Below W.heap.size W (set4 W9 (W.heap.size + 1) 0 (intV m))) := set4_below ((hb2.trans (hb7.mono (by omega))).trans (hb8.mono (by omega))) (by omega) 0 _
    clear hb7 hb9 hb8 bZ9
    go_wp2_with fail
    refine bodyPost_ret (v := (intV m).val) (by simp [results, Try.results13, go_sem, TV.val, intV, noTerm, z0, z1, z2, z3]) rfl ⟨intV m, rfl, HF.out, ?_⟩
    exact ((int_holds m W.heap.size _).mono (by omega) (Nat.le_refl _)).shared fun b hb => .inr hb
  | error c =>
    simp only [RSays] at hEv
    obtain ⟨i0, hi, hz0, hz1, hz2⟩ := info_parts Try.info28
    go_wp2_with fail
    refine hEv.mono ?_
    rintro e W7 ⟨⟨t, rfl, ht⟩, hb7⟩
    try rw [hW2] at hb7
    clear hEv hW2 c0 c1 c2 c3 ht
    have s7 := hb7.size
    obtain ⟨W8, hW8, hb8, s8⟩ : ∃ W8, W7.alloc (.cells #[.int .i64 t.k, .int .i64 t.N, .string t.s, .slice t.a t.len t.cap] 24) = W8 ∧ Below W7.heap.size W7 W8 ∧ W8.heap.size = W7.heap.size + 1 := ⟨_, rfl, (Below.refl _ _).alloc (Nat.le_refl _) _, by simp⟩
    have hB8 : Below W.heap.size W W8 := (hb2.trans (hb7.mono (by omega))).trans (hb8.mono (by omega))
    have bT8 : BoxT W8 W.heap.size ⟨4, 0, s, a, len, cap⟩ := (BoxT.below (show BoxT _ _ _ from HB.out) hb7 (by omega)).below hb8 (by omega)
    have bZ8 : BoxT W8 (W.heap.size + 1) noTerm := (BoxT.below (show BoxT _ _ noTerm from HZ.out) hb7 (by omega)).below hb8 (by omega)
    have HT8 := hide bT8
    have HZ8 := hide bZ8
    clear HB HZ bT8 bZ8 hb7 hb8
    simp only [TV.val]
    go_wp2_with fail
    try rw [hW8]
    clear hW8
    go_loopw [6, 7] (fun av i wr => ∃ (j : Nat) (l : List TV), j ≤ len ∧ i = .int .i64 j ∧ l.length = j ∧ Below W8.heap.size W8 wr ∧ Made n (Mix 0 W8.heap.size) W8.heap.size wr av l ((kids.take j).flatMap foldC)) (fun _ i _ => len - (intOf i).toNat)
    case atStart => exact ⟨0, [], Nat.zero_le _, rfl, rfl, Below.refl _ _, Made.zero _ _ _ _⟩
    case round =>
      obtain ⟨j, l, hj, rfl, hll, hb, hm⟩ := hrel
      have hBr : Below W.heap.size W wr := hB8.trans (hb.mono (by omega))
      have sr := hb.size
      have bTr : BoxT wr W.heap.size ⟨4, 0, s, a, len, cap⟩ := (unhide HT8).below hb (by omega)
      have bZr : BoxT wr (W.heap.size + 1) noTerm := (unhide HZ8).below hb (by omega)
      have x0 := bTr.c0
      have x1 := bTr.c1
      have x2 := bTr.c2
      have x3 := bTr.c3
      simp only at x0 x1 x2 x3
      have HBZ := hide bZr
      have HBT := hide bTr
      have HM := hide hm
      have HLL := hide hll
      clear bZr bTr hm hll
      by_cases hlt : j < len
      · obtain ⟨u, b, off, hu, rfl, ⟨c0, c1, c2, c3⟩, hT, hbk⟩ := kid_at (unhide HK) hBr hlt hl1
        have ihu := (unhide HI) u wr hT ((unhide HO) u (List.mem_of_getElem? hu)) ((unhide HN) u (List.mem_of_getElem? hu))
        have hcode := fold_take kids j u hu
        have HC := hide hcode
        clear hT hu hcode
        simp only [TV.val] at ihu
        have hj1 : (j : Int) < len := by omega
        go_wp2_with fail
        refine ihu.mono ?_
        clear ihu
        rintro e W5 ⟨x, rfl, hb5, hx⟩
        dsimp only [TV.val]
        clear x0 x1 x2 x3 c0 c1 c2 c3
        have hown5 : (W5.alloc (.cells #[.int .i64 x.k, .int .i64 x.N, .string x.s, .slice x.a x.len x.cap] 24)).ownsRow W8.heap.size 24 4 u6 l.length (l.flatMap TV.row) :=
          owns_below (unhide HM).owns (fun g hg => by
            have hlt := (owns_lt (unhide HM).owns hg).2
            exact (Below.heap_alloc _ _ _ (Nat.lt_of_lt_of_le hlt hb5.size)).trans (hb5.block g hlt))
        go_wp2_with (at_builtin; go_must (refine wpList_append_own_at _ rfl _ _ 22 rfl W8.heap.size 24 i0 _ 4 56 Try.underlying22 hi hz0 hz1 hz2 rfl (by decide) u6 l.length (l.flatMap TV.row) rfl hown5 ⟨W5.heap.size, 0, none⟩ 1 1 x.row rfl rfl new_cells row_one (by have := unhide HLL; unfold maxLen; omega) (by have := unhide HLL; omega) (by have := hb5.size; simp; omega) ?_; intro v' w1 hown' hgrow hnil hbk))
        have hgl : ∀ g, u6.ownBlock = some g → W8.heap.size ≤ g ∧ g < wr.heap.size := fun g hg => owns_lt (unhide HM).owns hg
        have hmade := (unhide HM).next hb5 (hx.mono (Nat.le_refl _) (fun b hb => ⟨by unfold Mix at hb ⊢; omega, fun e => by have := hgl b e; unfold Mix at hb; omega⟩)) hown' hgrow (by simpa using hbk)
        rw [← unhide HC] at hmade
        have hbel : Below W8.heap.size W8 w1 := ((hb.trans (hb5.mono sr)).alloc (Nat.le_trans sr hb5.size) _).grown hgrow (by have := hb5.size; simp; omega) (fun g hg => (hgl g hg).1)
        exact ⟨⟨j + 1, l ++ [x], by omega, by go_num, by simp [unhide HLL], hbel, hmade⟩, by simp [intOf]; omega⟩
      · have hjl : j = len := by omega
        have ht : kids.take j = kids := List.take_of_length_le (by omega)
        have hm := unhide HM
        rw [ht] at hm
        obtain ⟨a', cap', rfl, hfin⟩ := args_end (k := 4) (N := 0) (s := s) (len := len) (ns := 0) (by rw [unhide HLL, hjl]) hl50 hs hBr (Nat.zero_le _) (hm.base (base' := W.heap.size + 2) (S' := Mix 0 (W.heap.size + 2)) (by omega) (fun b hb => by unfold Mix at hb ⊢; omega))
        have bZr := unhide HBZ
        have z0 := bZr.c0
        have z1 := bZr.c1
        have z2 := bZr.c2
        have z3 := bZr.c3
        obtain ⟨y0, y1, y2, y3⟩ := bZr.frz
        have f3 : wr.frozen? ⟨W.heap.size, 3, none⟩ = false := (unhide HBT).frz.2.2.2
        obtain ⟨f1, f2⟩ := hfin
        have F1 := hide f1
        have F2 := hide f2
        have hlt' : ¬ (j : Int) < (len : Int) := by omega
        clear f1 f2 hm ht hjl bZr
        go_wp2_with fail
        refine bodyPost_ret (v := (⟨4, 0, s, a', len, cap'⟩ : TV).val) ?_ rfl ⟨_, rfl, unhide F1, unhide F2⟩
        simp [results, Try.results13, go_sem, TV.val, noTerm, z0, z1, z2, z3]

theorem rfold_any : ∀ {n : Nat} (t : Tm n) (W : World), IsT W.heap.size W t → okT t = true → numsT t →
    Calls Try.prog 13 #[t.tv.val] W fun e W' => ∃ x : TV, e = .returned x.val ∧ Below W.heap.size W W' ∧ HoldsS n (Mix 0 W.heap.size) W' x.val (foldC t) := by
  intro n
  induction n with
  | zero => intro t; exact Empty.elim t
  | succ n ih =>
    intro t W hT hok hnum
    have hEv := fun (V : World) (hb : Below W.heap.size W V) => reval_any t V ((hT.below hb).mono hb.size) hok hnum
    obtain ⟨⟨k, N, s, a, len, cap⟩, kids⟩ := t
    obtain ⟨hwm, hk⟩ := ok_kids hok
    obtain ⟨h1, h2, h3, h4⟩ := hT
    obtain ⟨hN, hnk⟩ := numsT_succ hnum
    simp only [Tm.tv, Tm.kids] at h1 h2 h3 h4 hwm
    by_cases hk4 : k = 4
    · subst hk4
      obtain ⟨rfl, hl50⟩ : N = 0 ∧ len ≤ 50 := by rcases wm_cases hwm with ⟨h, _⟩ | ⟨h, _⟩ | ⟨_, h, _, h'⟩ <;> first | exact ⟨h, h'⟩ | (exfalso; omega)
      rw [foldC_comp rfl]
      exact rfold_comp ih s a len cap kids W h3 hl50 h1 h4 hk hnk _ hEv
    · have hl0 : len = 0 := by rcases wm_cases hwm with ⟨_, _, _, _, h⟩ | ⟨_, h⟩ | ⟨h, _⟩ <;> first | exact h | (exfalso; omega)
      rw [foldC_leaf hk4]
      subst hl0
      refine (rfold_leaf k N s a 0 cap hk4 W).mono fun e W' h => ⟨_, h.1, h.2, fun m hm hlim => ?_⟩
      obtain ⟨M, rfl⟩ : ∃ M, m = M + 1 := ⟨m - 1, by omega⟩
      refine ⟨((⟨k, N, s, a, 0, cap⟩, []) : TV × List (Tm M)), rfl, ⟨rfl, ⟨by simp [Tm.tv], by simp [Tm.tv], hlim⟩, h3, .inl rfl⟩, ⟨.inl rfl, fun u hu => by cases hu⟩, ?_⟩
      rw [code_succ]; rfl
end Go.Proofs.Ytffbhinpmlcopab

