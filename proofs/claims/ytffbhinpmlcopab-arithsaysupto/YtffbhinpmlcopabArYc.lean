import Derived.Test.YtffbhinpmlcopabArYb
import Derived.Test.YtffbhinpmlcopabArH
/- arith.folded, arith.Fold. -/
namespace Go.Proofs.Ytffbhinpmlcopab
open Go.RowKit Go.Shelf

theorem comp_end {D : Nat} {W wr : World} {s : ByteArray} {len : Nat} {c : List Nd} (hB : Below W.heap.size W wr) (hs : s.size ≤ 9223372036854775807) (hl : len ≤ 50) (_hsz : W.heap.size + 3 ≤ wr.heap.size) (hr : Row4 wr (W.heap.size + 2) len) (hw : Written D (W.heap.size + 2) len wr c) :
    let x : TV := ⟨4, 0, s, some ⟨W.heap.size + 2, 0, none⟩, len, len⟩
    Below W.heap.size W (set4 wr (W.heap.size + 1) 0 x) ∧ HoldsT (D + 1) W.heap.size (set4 wr (W.heap.size + 1) 0 x) x.val ((4, 0, s.toList, len) :: c) := by
  intro x
  refine ⟨set4_below hB (by omega) 0 x, ((comp_holds hs hl hr hw (Nat.le_refl _)).tk ⟨?_, ?_⟩).mono (Nat.le_refl _) (by omega)⟩
  · rw [set4_size]; exact Nat.le_refl _
  · intro b arr hb ha
    rw [set4_other wr _ _ _ (by omega)]

set_option maxRecDepth 100000 in
set_option maxHeartbeats 1000000 in
theorem folded_leaf (k N : Int) (s : ByteArray) (a : Option Addr) (len cap : Nat) (hk : k ≠ 4) (W : World) :
    Calls Try.prog 31 #[.agg #[.int .i64 k, .int .i64 N, .string s, .slice a len cap]] W fun e W' => e = .returned (⟨k, N, s, none, 0, 0⟩ : TV).val ∧ Below W.heap.size W W' := by
  have hk1 : (k == 4) = false := by simp [hk]
  have hk2 : (k != 4) = true := by simp [hk]
  have HB : Hid (∀ o p, Below W.heap.size W ((W.alloc o).alloc p)) := fun o p => ((Below.refl _ _).alloc (Nat.le_refl _) _).alloc (by simp) _
  clear hk
  go_enter Try.func31, Try.ntmps31
  go_wp2
  all_goals refine bodyPost_ret (v := (⟨k, N, s, none, 0, 0⟩ : TV).val) (by simp [results, Try.results31, go_sem, TV.val]) rfl ⟨rfl, ?_⟩
  all_goals exact ((Below.refl _ _).alloc (Nat.le_refl _) _).alloc (by simp) _

set_option maxRecDepth 100000 in
set_option maxHeartbeats 2000000 in
theorem folded_comp {n : Nat}
    (ih : ∀ (u : Tm n) (W : World), IsT W.heap.size W u → okT u = true → numsT u → Calls Try.prog 31 #[u.tv.val] W fun e W' => ∃ x : TV, e = .returned x.val ∧ Below W.heap.size W W' ∧ HoldsT n W.heap.size W' x.val (foldC u))
    (s : ByteArray) (a : Option Addr) (len cap : Nat) (kids : List (Tm n)) (W : World) (hs : s.size ≤ 9223372036854775807) (hl50 : len ≤ 50) (hlen : len = kids.length)
    (hkids : kids = [] ∨ ∃ b off, a = some ⟨b, off, none⟩ ∧ b < W.heap.size ∧ ∀ j u, kids[j]? = some u → cellsAt W b (off + j * 4) u.tv ∧ IsT W.heap.size W u) (hok : ∀ u ∈ kids, okT u = true) (hnum : ∀ u ∈ kids, numsT u) :
    Calls Try.prog 31 #[.agg #[.int .i64 4, .int .i64 0, .string s, .slice a len cap]] W fun e W' => ∃ x : TV, e = .returned x.val ∧ Below W.heap.size W W' ∧ HoldsT (n + 1) W.heap.size W' x.val (foldV (compR s.toList len (evL evT kids)) ((4, 0, s.toList, len) :: kids.flatMap foldC)) := by
  have HEQ : Hid (len = kids.length) := hlen
  have hl1 : len ≤ kids.length := by omega
  have hl2 : kids.length ≤ len := by omega
  clear hlen
  have HI := hide ih
  have HO := hide hok
  have HN := hide hnum
  clear ih hok hnum
  have hmk := make_terms len hl50
  go_enter Try.func31, Try.ntmps31
  go_wp2_with fail
  obtain ⟨W3, hW3, hb3, hs3, bT, hz, hr⟩ := made_world W ⟨4, 0, s, a, len, cap⟩ len
  simp only at hW3
  rw [hW3]
  clear hW3 hmk
  have HZ := hide hz
  have HT := hide bT
  have HR := hide hr
  have HS := hide hs3
  clear hz bT hr hs3
  go_loopw [25] (fun i wr => ∃ j : Nat, j ≤ len ∧ i = .int .i64 j ∧ Below (W.heap.size + 2) W3 wr ∧ Row4 wr (W.heap.size + 2) len ∧ WrittenL n (W.heap.size + 2) j wr ((kids.take j).map foldC)) (fun i _ => len - (intOf i).toNat)
  case atStart => exact ⟨0, Nat.zero_le _, rfl, Below.refl _ _, unhide HR, WrittenL.zero _ _ _⟩
  case round =>
    obtain ⟨j, hj, rfl, hb, hrow, hwr⟩ := hrel
    have hbw : Below W.heap.size W wr := hb3.trans (hb.mono (by omega))
    have hsz : W.heap.size + 3 ≤ wr.heap.size := by have := hb.size; have := unhide HS; omega
    by_cases hlt : j < len
    · obtain ⟨u, b, off, hu, rfl, ⟨c0, c1, c2, c3⟩, hT, hbk⟩ := kid_at hkids hbw hlt hl1
      have hbu : Below wr.heap.size wr (wr.alloc (.cells #[.int .i64 u.tv.k, .int .i64 u.tv.N, .string u.tv.s, .slice u.tv.a u.tv.len u.tv.cap] 24)) := (Below.refl _ wr).alloc (Nat.le_refl _) _
      have ihu := (unhide HI) u (wr.alloc (.cells #[.int .i64 u.tv.k, .int .i64 u.tv.N, .string u.tv.s, .slice u.tv.a u.tv.len u.tv.cap] 24)) ((hT.below hbu).mono hbu.size) ((unhide HO) u (List.mem_of_getElem? hu)) ((unhide HN) u (List.mem_of_getElem? hu))
      have hcode := map_take foldC kids j u hu
      have HC := hide hcode
      have HW := hide hwr
      have HRW := hide hrow
      clear hT hkids hu hcode hwr hrow
      simp only [TV.val] at ihu
      have hj1 : (j : Int) < len := by omega
      go_wp2_with fail
      refine ihu.mono ?_
      clear ihu
      rintro e W5 ⟨t5, rfl, hb5, hv⟩
      have hb5' : Below wr.heap.size wr W5 := hbu.trans (hb5.mono hbu.size)
      have hrow5 : Row4 W5 (W.heap.size + 2) len := (unhide HRW).kept (hb5'.block _ (unhide HRW).lt)
      obtain ⟨⟨_, z0⟩, y0⟩ := hrow5.cell (o := j * 4) (by omega)
      obtain ⟨⟨_, z1⟩, y1⟩ := hrow5.cell (o := j * 4 + 1) (by omega)
      obtain ⟨⟨_, z2⟩, y2⟩ := hrow5.cell (o := j * 4 + 2) (by omega)
      obtain ⟨⟨_, z3⟩, y3⟩ := hrow5.cell (o := j * 4 + 3) (by omega)
      have hfin := (unhide HW).next hlt hrow5 hb5' (unhide HRW).lt hv (by simp)
      rw [← unhide HC] at hfin
      have hfin2 := hrow5.set4 (j * 4) t5
      have hfin3 : Below (W.heap.size + 2) W3 (set4 W5 (W.heap.size + 2) (j * 4) t5) := set4_below (hb.trans (hb5'.mono (by omega))) (Nat.le_refl _) _ _
      have G1 := hide hfin
      have G2 := hide hfin2
      have G3 := hide hfin3
      clear hfin hfin2 hfin3 hv hb5 hrow5 hb5' hbu
      dsimp only
      go_wp2_with fail
      go_roundw
      case rel => exact ⟨j + 1, by omega, by go_num, unhide G3, unhide G2, unhide G1⟩
      case measure => simp [intOf]; omega
    · have ht : kids.take j = kids := List.take_of_length_le (by omega)
      obtain rfl : j = len := by omega
      rw [ht] at hwr
      have hz := (hb.block (W.heap.size + 1) (by omega)).trans (unhide HZ)
      have bT : BoxT wr W.heap.size ⟨4, 0, s, a, j, cap⟩ := (hb.block W.heap.size (by omega)).trans (unhide HT)
      have x2 := bT.c2
      simp only at x2
      obtain ⟨ks, hkl, hks, hkc, -⟩ := hwr n (Nat.le_refl _)
      have hat := atOnce_any s (W.heap.size + 2) j j kids ks wr HEQ.out hkl (by omega) (fun i v hv => (hks i v hv).1) (unhide HN) (speaks (unhide HO) hkc)
      have HW := hide hwr
      have HRW := hide hrow
      have HZw := hide hz
      have HBT := hide bT
      clear hwr ht hkids hrow hkl hks hkc hz bT
      cases hcr : compR s.toList j (evL evT kids) with
      | ok m =>
        rw [hcr] at hat
        simp only [atV] at hat
        have HV : Hid (compR s.toList j (evL evT kids) = .ok m) := hcr
        clear hcr
        have hin := ainteger_any m
        simp only [intV, TV.val] at hin
        go_wp2_with fail
        refine hat.mono ?_
        rintro e W6 ⟨rfl, hb6⟩
        clear hat
        go_wp2_with fail
        refine (hin _).mono ?_
        rintro e W7 ⟨rfl, hb7⟩
        clear hin
        have s6 := hb6.size
        obtain ⟨⟨z0, z1, z2, z3⟩, y0, y1, y2, y3⟩ := zbox_kept ((hb7.block (W.heap.size + 1) (by omega)).trans ((hb6.block (W.heap.size + 1) (by omega)).trans (unhide HZw)))
        have HF : Hid (Below W.heap.size W (set4 W7 (W.heap.size + 1) 0 (intV m))) := set4_below ((hbw.trans (hb6.mono hbw.size)).trans (hb7.mono (by omega))) (by omega) 0 _
        clear hb6 hb7
        go_wp2_with fail
        refine bodyPost_ret (v := (intV m).val) (by simp [results, Try.results31, go_sem, TV.val, intV, z0, z1, z2, z3]) rfl ⟨intV m, rfl, HF.out, ?_⟩
        rw [HV.out]
        exact (int_holds m _ _).mono (by omega) (Nat.le_refl _)
      | error c =>
        rw [hcr] at hat
        simp only [atV] at hat
        have HV : Hid (compR s.toList j (evL evT kids) = .error c) := hcr
        clear hcr
        go_wp2_with fail
        refine hat.mono ?_
        rintro e W6 ⟨rfl, hb6⟩
        clear hat x2
        have s6 := hb6.size
        have bT6 : BoxT W6 W.heap.size ⟨4, 0, s, a, j, cap⟩ := (hb6.block W.heap.size (by omega)).trans (unhide HBT)
        have x2 := bT6.c2
        simp only at x2
        obtain ⟨⟨z0, z1, z2, z3⟩, y0, y1, y2, y3⟩ := zbox_kept ((hb6.block (W.heap.size + 1) (by omega)).trans (unhide HZw))
        obtain ⟨f1, f2⟩ := comp_end (hbw.trans (hb6.mono hbw.size)) hs hl50 (by omega) ((unhide HRW).kept (hb6.block _ (unhide HRW).lt)) ((unhide HW).kept hb6 (unhide HRW).lt).flat
        have F1 := hide f1
        have F2 := hide f2
        clear f1 f2 bT6 hb6
        go_wp2_with fail
        refine bodyPost_ret (v := (⟨4, 0, s, some ⟨W.heap.size + 2, 0, none⟩, j, j⟩ : TV).val) (by simp [results, Try.results31, go_sem, TV.val, z0, z1, z2, z3]) rfl ⟨_, rfl, unhide F1, ?_⟩
        have h := unhide F2
        rw [← List.flatMap_def] at h
        rw [HV.out]
        exact h

theorem folded_any : ∀ {n : Nat} (t : Tm n) (W : World), IsT W.heap.size W t → okT t = true → numsT t →
    Calls Try.prog 31 #[t.tv.val] W fun e W' => ∃ x : TV, e = .returned x.val ∧ Below W.heap.size W W' ∧ HoldsT n W.heap.size W' x.val (foldC t) := by
  intro n
  induction n with
  | zero => intro t; exact Empty.elim t
  | succ n ih =>
    intro t W hT hok hnum
    obtain ⟨⟨k, N, s, a, len, cap⟩, kids⟩ := t
    obtain ⟨hwm, hk⟩ := ok_kids hok
    obtain ⟨h1, h2, h3, h4⟩ := hT
    obtain ⟨hN, hnk⟩ := numsT_succ hnum
    simp only [Tm.tv, Tm.kids] at h1 h2 h3 h4 hwm
    by_cases hk4 : k = 4
    · subst hk4
      obtain ⟨rfl, hl50⟩ : N = 0 ∧ len ≤ 50 := by rcases wm_cases hwm with ⟨h, _⟩ | ⟨h, _⟩ | ⟨_, h, _, h'⟩ <;> first | exact ⟨h, h'⟩ | (exfalso; omega)
      rw [foldC_comp rfl, evT_comp rfl]
      exact folded_comp ih s a len cap kids W h3 hl50 h1 h4 hk hnk
    · rw [foldC_leaf hk4]
      refine (folded_leaf k N s a len cap hk4 W).mono fun e W' h => ⟨_, h.1, h.2, ?_⟩
      exact (holds_leaf ⟨k, N, s, none, 0, 0⟩ rfl rfl rfl h3 _ _).mono (by omega) (Nat.le_refl _)

set_option maxRecDepth 100000 in
set_option maxHeartbeats 1000000 in
theorem afold_ok {n : Nat} (t : Tm n) (W : World) (hT : IsT W.heap.size W t) (hok : okT t = true) (hnum : numsT t) :
    Calls Try.prog 9 #[t.tv.val] W fun e W' => ∃ x : TV, e = .returned (.tuple #[x.val, .int .i64 0]) ∧ Below W.heap.size W W' ∧ HoldsT n W.heap.size W' x.val (foldC t) := by
  obtain ⟨W2, hW2, hb2, hs2, bT, hz⟩ := box_zero W t.tv
  have hT2 : IsT W2.heap.size W2 t := (hT.below hb2).mono (by omega)
  have hck := check_any t W2 hT2
  rw [chk_yes hok] at hck
  have HN : Hid _ := fun (W3 : World) (hb : Below W2.heap.size W2 W3) => folded_any t W3 ((hT2.below hb).mono hb.size) hok hnum
  clear hT hT2 hok hnum
  simp only [TV.val] at hck HN ⊢
  have c0 := bT.c0
  have c1 := bT.c1
  have c2 := bT.c2
  have c3 := bT.c3
  have HX : Hid _ := bT
  clear bT
  go_enter Try.func9, Try.ntmps9
  go_wp2_with fail
  refine hck.mono ?_
  rintro e W3 ⟨rfl, hb3⟩
  try rw [hW2] at hb3
  clear hck c0 c1 c2 c3 hW2
  have bT3 : BoxT W3 W.heap.size t.tv := (hb3.block _ (by omega)).trans HX.out
  have c0 := bT3.c0
  have c1 := bT3.c1
  have c2 := bT3.c2
  have c3 := bT3.c3
  have hnm := HN.out W3 hb3
  have s3 := hb3.size
  have hz3 : W3.heap[W.heap.size + 1]? = _ := (hb3.block _ (by omega)).trans hz
  have HZ : Hid _ := hz3
  clear HX hz hz3 bT3
  go_wp2_with fail
  refine hnm.mono ?_
  rintro e W4 ⟨x, rfl, hb4, hx⟩
  have hz4 : W4.heap[W.heap.size + 1]? = _ := (hb4.block _ (by omega)).trans HZ.out
  obtain ⟨⟨z0, z1, z2, z3⟩, y0, y1, y2, y3⟩ := zbox_kept hz4
  have HF : Hid (HoldsT n W.heap.size (set4 W4 (W.heap.size + 1) 0 x) x.val (foldC t) ∧ Below W.heap.size W (set4 W4 (W.heap.size + 1) 0 x)) :=
    ⟨(holds_set4 hx (by omega) 0 _).mono (Nat.le_refl _) (by omega), set4_below ((hb2.trans (hb3.mono (by omega))).trans (hb4.mono (by omega))) (by omega) 0 _⟩
  clear hnm c0 c1 c2 c3 hz4 hb4 hb3 hx
  go_wp2_with fail
  exact bodyPost_ret (v := .tuple #[x.val, .int .i64 0]) (by simp [results, Try.results9, go_sem, TV.val, z0, z1, z2, z3]) rfl ⟨x, rfl, HF.out.2, HF.out.1⟩
set_option maxRecDepth 100000 in
set_option maxHeartbeats 1000000 in
theorem afold_bad {n : Nat} (t : Tm n) (W : World) (hT : IsT W.heap.size W t) (hok : okT t = false) :
    Calls Try.prog 9 #[t.tv.val] W fun e W' => e = .returned (.tuple #[noTerm.val, .int .i64 2]) ∧ Below W.heap.size W W' := by
  obtain ⟨W2, hW2, hb2, hs2, bT, hz⟩ := box_zero W t.tv
  have hT2 : IsT W2.heap.size W2 t := (hT.below hb2).mono (by omega)
  have hck := check_any t W2 hT2
  rw [chk_no hok] at hck
  clear hT hT2 hok
  simp only [TV.val] at hck ⊢
  have c0 := bT.c0
  have c1 := bT.c1
  have c2 := bT.c2
  have c3 := bT.c3
  clear bT
  go_enter Try.func9, Try.ntmps9
  go_wp2_with fail
  refine hck.mono ?_
  rintro e W3 ⟨rfl, hb3⟩
  try rw [hW2] at hb3
  clear hck c0 c1 c2 c3 hW2
  have s3 := hb3.size
  have hz3 : W3.heap[W.heap.size + 1]? = _ := (hb3.block _ (by omega)).trans hz
  obtain ⟨⟨z0, z1, z2, z3⟩, y0, y1, y2, y3⟩ := zbox_kept hz3
  have HF : Hid (Below W.heap.size W (set4 W3 (W.heap.size + 1) 0 noTerm)) := set4_below (hb2.trans (hb3.mono (by omega))) (by omega) 0 _
  clear hz hz3 hb3
  go_wp2_with fail
  exact bodyPost_ret (v := .tuple #[noTerm.val, .int .i64 2]) (by simp [results, Try.results9, go_sem, TV.val, noTerm, z0, z1, z2, z3]) rfl ⟨rfl, HF.out⟩
end Go.Proofs.Ytffbhinpmlcopab

