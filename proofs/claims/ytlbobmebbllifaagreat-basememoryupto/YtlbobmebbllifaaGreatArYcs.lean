import Derived.Test.YtlbobmebbllifaaGreatArGs
import Derived.Test.YtlbobmebbllifaaGreatBeOs
/- arith.folded, arith.Fold. -/
namespace Go.Proofs.YtlbobmebbllifaaGreat
set_option maxHeartbeats 2000000
set_option maxRecDepth 100000
open Go.RowKit Go.Shelf
theorem comp_end {D : Nat} {W wr : World} {s : ByteArray} {len : Nat} {c : List Nd} (hB : Below W.heap.size W wr) (hs : s.size ≤ 9223372036854775807) (hl : len ≤ 50) (_hsz : W.heap.size + 3 ≤ wr.heap.size) (hr : Row4 wr (W.heap.size + 2) len) (hw : Written D (W.heap.size + 2) len wr c) :
  let x : TV := ⟨4, 0, s, some ⟨W.heap.size + 2, 0, none⟩, len, len⟩
  Below W.heap.size W (set4 wr (W.heap.size + 1) 0 x) ∧ HoldsT (D + 1) W.heap.size (set4 wr (W.heap.size + 1) 0 x) x.val ((4, 0, s.toList, len) :: c) := by
 intro x
 refine ⟨set4_below hB (by omega) 0 x, ((comp_holds hs hl hr hw (Nat.le_refl _)).tk ⟨?_, ?_⟩).mono (Nat.le_refl _) (by omega)⟩
 ·rw [set4_size]; exact Nat.le_refl _
 ·intro b arr hb ha
  rw [set4_other wr _ _ _ (by omega)]
theorem folded_leaf (k N : Int) (s : ByteArray) (a : Option Addr) (len cap : Nat) (hk : k ≠ 4) (W : World) :
  Calls Tryz.prog 43 #[.agg #[.int .i64 k, .int .i64 N, .string s, .slice a len cap]] W fun e W' => e = .returned (⟨k, N, s, none, 0, 0⟩ : TV).val ∧ Below W.heap.size W W' := by
 have hk1 : (k == 4) = false := by simp [hk]
 have hk2 : (k != 4) = true := by simp [hk]
 have HB : Hid (∀ o p, Below W.heap.size W ((W.alloc o).alloc p)) := fun o p => ((Below.refl _ _).alloc (Nat.le_refl _) _).alloc (by simp) _
 clear hk
 go_enter Tryz.func43, Tryz.ntmps43
 go_wp2
 all_goals refine bodyPost_ret (v := (⟨k, N, s, none, 0, 0⟩ : TV).val) (by simp [results, Tryz.results43, go_sem, TV.val]) rfl ⟨rfl, ?_⟩
 all_goals exact ((Below.refl _ _).alloc (Nat.le_refl _) _).alloc (by simp) _
theorem folded_comp {n : Nat}
  (ih : ∀ (u : Tm n) (W : World), IsT W.heap.size W u → okT u = true → numsT u → Calls Tryz.prog 43 #[u.tv.val] W fun e W' => ∃ x : TV, e = .returned x.val ∧ Below W.heap.size W W' ∧ HoldsT n W.heap.size W' x.val (foldC u))
  (s : ByteArray) (a : Option Addr) (len cap : Nat) (kids : List (Tm n)) (W : World) (hs : s.size ≤ 9223372036854775807) (hl50 : len ≤ 50) (hlen : len = kids.length)
  (hkids : kids = [] ∨ ∃ b off, a = some ⟨b, off, none⟩ ∧ b < W.heap.size ∧ ∀ j u, kids[j]? = some u → cellsAt W b (off + j * 4) u.tv ∧ IsT W.heap.size W u) (hok : ∀ u ∈ kids, okT u = true) (hnum : ∀ u ∈ kids, numsT u) :
  Calls Tryz.prog 43 #[.agg #[.int .i64 4, .int .i64 0, .string s, .slice a len cap]] W fun e W' => ∃ x : TV, e = .returned x.val ∧ Below W.heap.size W W' ∧ HoldsT (n + 1) W.heap.size W' x.val (foldV (compR s.toList len (evL evT kids)) ((4, 0, s.toList, len) :: kids.flatMap foldC)) := by
 have HEQ : Hid (len = kids.length) := hlen
 have hl1 : len ≤ kids.length := by omega
 have hl2 : kids.length ≤ len := by omega
 clear hlen
 have HI := hide ih
 have HO := hide hok
 have HN := hide hnum
 clear ih hok hnum
 have hmk := make_terms len hl50
 go_enter Tryz.func43, Tryz.ntmps43
 go_wp2_with fail
 obtain ⟨W3, hW3, hb3, hs3, bT, hz, hr⟩ := made_world W ⟨4, 0, s, a, len, cap⟩ len
 simp only at hW3
 rw [hW3]
 clear hW3 hmk
 have HZ := hide hz
 have HT := hide bT
 have HR := hide hr
 have HS := hide hs3
 clear hz bT hr hs3
 go_loopw [25] (fun i wr => ∃ j : Nat, j ≤ len ∧ i = .int .i64 j ∧ Below (W.heap.size + 2) W3 wr ∧ Row4 wr (W.heap.size + 2) len ∧ WrittenL n (W.heap.size + 2) j wr ((kids.take j).map foldC)) (fun i _ => len - (intOf i).toNat)
 case atStart => exact ⟨0, Nat.zero_le _, rfl, Below.refl _ _, unhide HR, WrittenL.zero _ _ _⟩
 case round =>
  obtain ⟨j, hj, rfl, hb, hrow, hwr⟩ := hrel
  have hbw : Below W.heap.size W wr := hb3.trans (hb.mono (by omega))
  have hsz : W.heap.size + 3 ≤ wr.heap.size := by have := hb.size; have := unhide HS; omega
  by_cases hlt : j < len
  ·obtain ⟨u, b, off, hu, rfl, ⟨c0, c1, c2, c3⟩, hT, hbk⟩ := kid_at hkids hbw hlt hl1
   have hbu : Below wr.heap.size wr (wr.alloc (.cells #[.int .i64 u.tv.k, .int .i64 u.tv.N, .string u.tv.s, .slice u.tv.a u.tv.len u.tv.cap] 24)) := (Below.refl _ wr).alloc (Nat.le_refl _) _
   have ihu := (unhide HI) u (wr.alloc (.cells #[.int .i64 u.tv.k, .int .i64 u.tv.N, .string u.tv.s, .slice u.tv.a u.tv.len u.tv.cap] 24)) ((hT.below hbu).mono hbu.size) ((unhide HO) u (List.mem_of_getElem? hu)) ((unhide HN) u (List.mem_of_getElem? hu))
   have hcode := map_take foldC kids j u hu
   have HC := hide hcode
   have HW := hide hwr
   have HRW := hide hrow
   clear hT hkids hu hcode hwr hrow
   simp only [TV.val] at ihu
   have hj1 : (j : Int) < len := by omega
   go_wp2_with fail
   refine ihu.mono ?_
   clear ihu
   rintro e W5 ⟨t5, rfl, hb5, hv⟩
   have hb5' : Below wr.heap.size wr W5 := hbu.trans (hb5.mono hbu.size)
   have hrow5 : Row4 W5 (W.heap.size + 2) len := (unhide HRW).kept (hb5'.block _ (unhide HRW).lt)
   obtain ⟨⟨_, z0⟩, y0⟩ := hrow5.cell (o := j * 4) (by omega)
   obtain ⟨⟨_, z1⟩, y1⟩ := hrow5.cell (o := j * 4 + 1) (by omega)
   obtain ⟨⟨_, z2⟩, y2⟩ := hrow5.cell (o := j * 4 + 2) (by omega)
   obtain ⟨⟨_, z3⟩, y3⟩ := hrow5.cell (o := j * 4 + 3) (by omega)
   have hfin := (unhide HW).next hlt hrow5 hb5' (unhide HRW).lt hv (by simp)
   rw [← unhide HC] at hfin
   have hfin2 := hrow5.set4 (j * 4) t5
   have hfin3 : Below (W.heap.size + 2) W3 (set4 W5 (W.heap.size + 2) (j * 4) t5) := set4_below (hb.trans (hb5'.mono (by omega))) (Nat.le_refl _) _ _
   have G1 := hide hfin
   have G2 := hide hfin2
   have G3 := hide hfin3
   clear hfin hfin2 hfin3 hv hb5 hrow5 hb5' hbu
   dsimp only
   go_wp2_with fail
   go_roundw
   case rel => exact ⟨j + 1, by omega, by go_num, unhide G3, unhide G2, unhide G1⟩
   case measure => simp [intOf]; omega
  ·have ht : kids.take j = kids := List.take_of_length_le (by omega)
   obtain rfl : j = len := by omega
   rw [ht] at hwr
   have hz := (hb.block (W.heap.size + 1) (by omega)).trans (unhide HZ)
   have bT : BoxT wr W.heap.size ⟨4, 0, s, a, j, cap⟩ := (hb.block W.heap.size (by omega)).trans (unhide HT)
   have x2 := bT.c2
   simp only at x2
   obtain ⟨ks, hkl, hks, hkc, -⟩ := hwr n (Nat.le_refl _)
   have hat := atOnce_any s (W.heap.size + 2) j j kids ks wr HEQ.out hkl (by omega) (fun i v hv => (hks i v hv).1) (unhide HN) (speaks (unhide HO) hkc)
   have HW := hide hwr
   have HRW := hide hrow
   have HZw := hide hz
   have HBT := hide bT
   clear hwr ht hkids hrow hkl hks hkc hz bT
   cases hcr : compR s.toList j (evL evT kids) with
   | ok m =>
    rw [hcr] at hat
    simp only [atV] at hat
    have HV : Hid (compR s.toList j (evL evT kids) = .ok m) := hcr
    clear hcr
    have hin := ainteger_any m
    simp only [intV, TV.val] at hin
    go_wp2_with fail
    refine hat.mono ?_
    rintro e W6 ⟨rfl, hb6⟩
    clear hat
    go_wp2_with fail
    refine (hin _).mono ?_
    rintro e W7 ⟨rfl, hb7⟩
    clear hin
    have s6 := hb6.size
    obtain ⟨⟨z0, z1, z2, z3⟩, y0, y1, y2, y3⟩ := zbox_kept ((hb7.block (W.heap.size + 1) (by omega)).trans ((hb6.block (W.heap.size + 1) (by omega)).trans (unhide HZw)))
    have HF : Hid (Below W.heap.size W (set4 W7 (W.heap.size + 1) 0 (intV m))) := set4_below ((hbw.trans (hb6.mono hbw.size)).trans (hb7.mono (by omega))) (by omega) 0 _
    clear hb6 hb7
    go_wp2_with fail
    refine bodyPost_ret (v := (intV m).val) (by simp [results, Tryz.results43, go_sem, TV.val, intV, z0, z1, z2, z3]) rfl ⟨intV m, rfl, HF.out, ?_⟩
    rw [HV.out]
    exact (int_holds m _ _).mono (by omega) (Nat.le_refl _)
   | error c =>
    rw [hcr] at hat
    simp only [atV] at hat
    have HV : Hid (compR s.toList j (evL evT kids) = .error c) := hcr
    clear hcr
    go_wp2_with fail
    refine hat.mono ?_
    rintro e W6 ⟨rfl, hb6⟩
    clear hat x2
    have s6 := hb6.size
    have bT6 : BoxT W6 W.heap.size ⟨4, 0, s, a, j, cap⟩ := (hb6.block W.heap.size (by omega)).trans (unhide HBT)
    have x2 := bT6.c2
    simp only at x2
    obtain ⟨⟨z0, z1, z2, z3⟩, y0, y1, y2, y3⟩ := zbox_kept ((hb6.block (W.heap.size + 1) (by omega)).trans (unhide HZw))
    obtain ⟨f1, f2⟩ := comp_end (hbw.trans (hb6.mono hbw.size)) hs hl50 (by omega) ((unhide HRW).kept (hb6.block _ (unhide HRW).lt)) ((unhide HW).kept hb6 (unhide HRW).lt).flat
    have F1 := hide f1
    have F2 := hide f2
    clear f1 f2 bT6 hb6
    go_wp2_with fail
    refine bodyPost_ret (v := (⟨4, 0, s, some ⟨W.heap.size + 2, 0, none⟩, j, j⟩ : TV).val) (by simp [results, Tryz.results43, go_sem, TV.val, z0, z1, z2, z3]) rfl ⟨_, rfl, unhide F1, ?_⟩
    have h := unhide F2
    rw [← List.flatMap_def] at h
    rw [HV.out]
    exact h
theorem folded_any : ∀ {n : Nat} (t : Tm n) (W : World), IsT W.heap.size W t → okT t = true → numsT t →
  Calls Tryz.prog 43 #[t.tv.val] W fun e W' => ∃ x : TV, e = .returned x.val ∧ Below W.heap.size W W' ∧ HoldsT n W.heap.size W' x.val (foldC t) := by
 intro n
 induction n with
 | zero => intro t; exact Empty.elim t
 | succ n ih =>
  intro t W hT hok hnum
  obtain ⟨⟨k, N, s, a, len, cap⟩, kids⟩ := t
  obtain ⟨hwm, hk⟩ := ok_kids hok
  obtain ⟨h1, h2, h3, h4⟩ := hT
  obtain ⟨hN, hnk⟩ := numsT_succ hnum
  simp only [Tm.tv, Tm.kids] at h1 h2 h3 h4 hwm
  by_cases hk4 : k = 4
  ·subst hk4
   obtain ⟨rfl, hl50⟩ : N = 0 ∧ len ≤ 50 := by rcases wm_cases hwm with ⟨h, _⟩ | ⟨h, _⟩ | ⟨_, h, _, h'⟩ <;> first | exact ⟨h, h'⟩ | (exfalso; omega)
   rw [foldC_comp rfl, evT_comp rfl]
   exact folded_comp ih s a len cap kids W h3 hl50 h1 h4 hk hnk
  ·rw [foldC_leaf hk4]
   refine (folded_leaf k N s a len cap hk4 W).mono fun e W' h => ⟨_, h.1, h.2, ?_⟩
   exact (holds_leaf ⟨k, N, s, none, 0, 0⟩ rfl rfl rfl h3 _ _).mono (by omega) (Nat.le_refl _)
theorem afold_ok {n : Nat} (t : Tm n) (W : World) (hT : IsT W.heap.size W t) (hok : okT t = true) (hnum : numsT t) :
  Calls Tryz.prog 19 #[t.tv.val] W fun e W' => ∃ x : TV, e = .returned (.tuple #[x.val, .int .i64 0]) ∧ Below W.heap.size W W' ∧ HoldsT n W.heap.size W' x.val (foldC t) := by
 obtain ⟨W2, hW2, hb2, hs2, bT, hz⟩ := box_zero W t.tv
 have hT2 : IsT W2.heap.size W2 t := (hT.below hb2).mono (by omega)
 have hck := check_any t W2 hT2
 rw [chk_yes hok] at hck
 have HN : Hid _ := fun (W3 : World) (hb : Below W2.heap.size W2 W3) => folded_any t W3 ((hT2.below hb).mono hb.size) hok hnum
 clear hT hT2 hok hnum
 simp only [TV.val] at hck HN ⊢
 have c0 := bT.c0
 have c1 := bT.c1
 have c2 := bT.c2
 have c3 := bT.c3
 have HX : Hid _ := bT
 clear bT
 go_enter Tryz.func19, Tryz.ntmps19
 go_wp2_with fail
 refine hck.mono ?_
 rintro e W3 ⟨rfl, hb3⟩
 try rw [hW2] at hb3
 clear hck c0 c1 c2 c3 hW2
 have bT3 : BoxT W3 W.heap.size t.tv := (hb3.block _ (by omega)).trans HX.out
 have c0 := bT3.c0
 have c1 := bT3.c1
 have c2 := bT3.c2
 have c3 := bT3.c3
 have hnm := HN.out W3 hb3
 have s3 := hb3.size
 have hz3 : W3.heap[W.heap.size + 1]? = _ := (hb3.block _ (by omega)).trans hz
 have HZ : Hid _ := hz3
 clear HX hz hz3 bT3
 go_wp2_with fail
 refine hnm.mono ?_
 rintro e W4 ⟨x, rfl, hb4, hx⟩
 have hz4 : W4.heap[W.heap.size + 1]? = _ := (hb4.block _ (by omega)).trans HZ.out
 obtain ⟨⟨z0, z1, z2, z3⟩, y0, y1, y2, y3⟩ := zbox_kept hz4
 have HF : Hid (HoldsT n W.heap.size (set4 W4 (W.heap.size + 1) 0 x) x.val (foldC t) ∧ Below W.heap.size W (set4 W4 (W.heap.size + 1) 0 x)) :=
  ⟨(holds_set4 hx (by omega) 0 _).mono (Nat.le_refl _) (by omega), set4_below ((hb2.trans (hb3.mono (by omega))).trans (hb4.mono (by omega))) (by omega) 0 _⟩
 clear hnm c0 c1 c2 c3 hz4 hb4 hb3 hx
 go_wp2_with fail
 exact bodyPost_ret (v := .tuple #[x.val, .int .i64 0]) (by simp [results, Tryz.results19, go_sem, TV.val, z0, z1, z2, z3]) rfl ⟨x, rfl, HF.out.2, HF.out.1⟩
theorem afold_bad {n : Nat} (t : Tm n) (W : World) (hT : IsT W.heap.size W t) (hok : okT t = false) :
  Calls Tryz.prog 19 #[t.tv.val] W fun e W' => e = .returned (.tuple #[noTerm.val, .int .i64 2]) ∧ Below W.heap.size W W' := by
 obtain ⟨W2, hW2, hb2, hs2, bT, hz⟩ := box_zero W t.tv
 have hT2 : IsT W2.heap.size W2 t := (hT.below hb2).mono (by omega)
 have hck := check_any t W2 hT2
 rw [chk_no hok] at hck
 clear hT hT2 hok
 simp only [TV.val] at hck ⊢
 have c0 := bT.c0
 have c1 := bT.c1
 have c2 := bT.c2
 have c3 := bT.c3
 clear bT
 go_enter Tryz.func19, Tryz.ntmps19
 go_wp2_with fail
 refine hck.mono ?_
 rintro e W3 ⟨rfl, hb3⟩
 try rw [hW2] at hb3
 clear hck c0 c1 c2 c3 hW2
 have s3 := hb3.size
 have hz3 : W3.heap[W.heap.size + 1]? = _ := (hb3.block _ (by omega)).trans hz
 obtain ⟨⟨z0, z1, z2, z3⟩, y0, y1, y2, y3⟩ := zbox_kept hz3
 have HF : Hid (Below W.heap.size W (set4 W3 (W.heap.size + 1) 0 noTerm)) := set4_below (hb2.trans (hb3.mono (by omega))) (by omega) 0 _
 clear hz hz3 hb3
 go_wp2_with fail
 exact bodyPost_ret (v := .tuple #[noTerm.val, .int .i64 2]) (by simp [results, Tryz.results19, go_sem, TV.val, noTerm, z0, z1, z2, z3]) rfl ⟨rfl, HF.out⟩
/- Body and Fold of a term, their answers told of memory. -/
open Go.Maps
theorem wide_noC : WideN noC := fun y hy => by
 simp [noC] at hy
 subst hy
 show (0 : Nat) ≤ 50
 omega
theorem fold_wide : ∀ {n : Nat} {t : Tm n}, okT t = true → WideN (foldC t) := by
 intro n
 induction n with
 | zero => intro t; exact Empty.elim t
 | succ n ih =>
  intro t hok
  obtain ⟨x, kids⟩ := t
  obtain ⟨hw, hk⟩ := ok_kids hok
  by_cases h4 : x.k = 4
  ·rw [foldC_comp h4]
   cases evT (n := n + 1) ((x, kids) : TV × List (Tm n)) with
   | ok m =>
    intro y hy
    simp [foldV, intC] at hy
    subst hy
    show (0 : Nat) ≤ 50
    omega
   | error b =>
    intro y hy
    rcases List.mem_cons.1 hy with rfl | hy
    ·show x.len ≤ 50
     rcases wm_cases hw with ⟨-, -, -, -, h⟩ | ⟨-, h⟩ | ⟨-, -, -, h⟩ <;> omega
    ·obtain ⟨u, hu, hy⟩ := List.mem_flatMap.1 hy
     exact ih (hk u hu) y hy
  ·rw [foldC_leaf h4]
   intro y hy
   simp at hy
   subst hy
   show (0 : Nat) ≤ 50
   omega
def AnsL (W : World) (e : Ending) (W' : World) : Prop := ∃ (y : TV) (r : Int), e = .returned (.tuple #[y.val, .int .i64 r]) ∧ (∃ (D : Nat) (c : List Nd), D ≤ 2199023255552 ∧ HoldsL D (W.heap.size ≤ ·) W' y.val c ∧ WideN c) ∧ Below W.heap.size W W'
theorem bodyL {n : Nat} (t : Tm n) (W : World) (hT : IsT W.heap.size W t) (hn40 : n ≤ 549755813888 := by omega) : Calls Tryz.prog 18 #[t.tv.val] W (AnsL W) := by
 cases hok : okT t with
 | false => exact (body_bad t W hT hok).mono fun e W' h => ⟨noTerm, 2, h.1, ⟨1, noC, by omega, (no_holds 1 _ (by omega) W').holdsL, wide_noC⟩, h.2⟩
 | true =>
  refine (body_ok t W hT hok hn40).mono fun e W' h => ?_
  obtain ⟨⟨x, he, hx⟩, g⟩ := h
  refine ⟨x, _, he, ⟨_, _, ?_, hx, ?_⟩, g⟩
  ·omega
  ·cases hb : bodyC t with
   | none => exact wide_noC
   | some c => exact wideN_ok (body_fine hT.wl hok hb).1
theorem foldL {n : Nat} (t : Tm n) (W : World) (hT : IsT W.heap.size W t) (hnum : numC (code t)) (hn40 : n ≤ 549755813888 := by omega) : Calls Tryz.prog 19 #[t.tv.val] W (AnsL W) := by
 cases hok : okT t with
 | false => exact (afold_bad t W hT hok).mono fun e W' h => ⟨noTerm, 2, h.1, ⟨1, noC, by omega, (no_holds 1 _ (by omega) W').holdsL, wide_noC⟩, h.2⟩
 | true =>
  refine (afold_ok t W hT hok (fun x hx => ?_)).mono fun e W' h => ?_
  ·have := hnum x.nd (List.mem_map.2 ⟨x, hx, rfl⟩)
   exact this
  ·obtain ⟨x, he, g, hx⟩ := h
   exact ⟨x, _, he, ⟨_, _, by omega, hx.holdsL, fold_wide hok⟩, g⟩
def lastA (W : World) (vb : Nat) : Int := match W.cell? ⟨vb, 2, none⟩ with | some (.int _ z) => z | _ => 0
theorem StV.last {n₀ : Nat} {W₁ V : World} {b vb wb : Nat} {laid : Int} {E A1 A2 B1 B2 : List En} {lv lw : Int} {Sp : Nat → Prop} (h : StV n₀ W₁ b vb wb laid E A1 A2 B1 B2 lv lw Sp V) : lastA V vb = lv := by
 obtain ⟨M, O, h1, h2, h3, h4, h5, h6, h7, h8⟩ := h
 obtain ⟨p, q, hv, -⟩ := h6.blk
 unfold lastA
 rw [hv.cs.1.2.2]
theorem restA_ans {A1 A2 : List En} {last : Int} {s : Option (Int × List Nd × List Nd)} (hs : (stepN A1 A2 last).map En.say = s) : ((ansS s).2.1 = true → restV A1 A2 (lastS last s) < restV A1 A2 last ∧ ∃ e : En, e ∈ A1 ++ A2 ∧ (ansS s).1 = max e.pl (-e.pl) ∧ (ansS s).2.2.1 = e.ch ∧ (ansS s).2.2.2 = e.cb) := by
 cases h : stepN A1 A2 last with
 | none =>
  rw [h] at hs
  subst hs
  exact fun e => by cases e
 | some x =>
  rw [h] at hs
  subst hs
  exact fun _ => ⟨restV_lt h, x, (stepN_in h).1, rfl, rfl, rfl⟩
theorem StV.wide {n₀ : Nat} {W₁ V : World} {b vb wb : Nat} {laid : Int} {E A1 A2 B1 B2 : List En} {lv lw : Int} {Sp : Nat → Prop} (h : StV n₀ W₁ b vb wb laid E A1 A2 B1 B2 lv lw Sp V) {e : En} (he : e ∈ E) : WideN e.ch ∧ WideN e.cb := by
 obtain ⟨M, O, h1, h2, h3, h4, h5, h6⟩ := h
 obtain ⟨me, mf, ce, cf, ge, gf, F, hB, hO⟩ := h5
 exact ⟨wideN_ok (hB.oks e he).1, wideN_ok (hB.oks e he).2.1⟩
/- A clause in a box, while others are spoilt. -/
structure ClK (V : World) (Q : Nat) (x y : TV) (h b : List Nd) (D : Nat) (S : Nat → Prop) : Prop where
 box : BoxC V Q x y
 hh : HoldsL D S V x.val h
 hb : HoldsL D S V y.val b
 lt : ∀ k, S k → k < Q
 hD : D ≤ 2199023255552
section
variable {V V' : World} {Q : Nat} {x y : TV} {h b : List Nd} {D : Nat} {S : Nat → Prop}
theorem ClK.sz (p : ClK V Q x y h b D S) : ∀ k, S k → k < V.heap.size := fun k hk => Nat.lt_trans (p.lt k hk) p.box.lt
theorem ClK.kept (p : ClK V Q x y h b D S) (hk : ∀ k, (S k ∨ k = Q) → V'.heap[k]? = V.heap[k]?) (hz : V.heap.size ≤ V'.heap.size) : ClK V' Q x y h b D S :=
 ⟨(hk Q (.inr rfl)).trans p.box, p.hh.fromS (fun k h _ => hk k (.inl h)) hz, p.hb.fromS (fun k h _ => hk k (.inl h)) hz, p.lt, p.hD⟩
theorem ClK.below (p : ClK V Q x y h b D S) (g : Below V.heap.size V V') : ClK V' Q x y h b D S :=
 p.kept (fun k hk => g.block k (by rcases hk with hk | rfl; exact p.sz k hk; exact p.box.lt)) g.size
theorem ClK.off {T : Nat → Prop} (p : ClK V Q x y h b D S) (g : Spoils T V V') (hT : ∀ k, T k → ¬ S k ∧ k ≠ Q) : ClK V' Q x y h b D S :=
 p.kept (fun k hk => g.other k (by rcases hk with hk | rfl; exact p.sz k hk; exact p.box.lt) (fun ht => by rcases hk with hk | rfl; exact (hT k ht).1 hk; exact (hT _ ht).2 rfl)) g.size
theorem ClK.new {lo : Nat} {U : World} {D : Upto 1099511627776} (p : HoldsL D.1 (lo ≤ ·) V x.val h) (q : HoldsL D.1 (lo ≤ ·) V y.val b) (g : Below V.heap.size V U) (hc : BoxC U V.heap.size x y) :
  ClK U V.heap.size x y h b D.1 (fun k => lo ≤ k ∧ k < V.heap.size ∧ NoFix V k ∧ NoFix U k) := by
 have hn : ∀ k, (lo ≤ k ∧ k < V.heap.size ∧ NoFix V k) → lo ≤ k ∧ k < V.heap.size ∧ NoFix V k ∧ NoFix U k := fun k hk => ⟨hk.1, hk.2.1, hk.2.2, fun c t o hq => hk.2.2 c t o ((g.block k hk.2.1).symm.trans hq)⟩
 exact ⟨hc, (p.nofix.fromS (fun k _ hl => g.block k hl) g.size).mono (Nat.le_refl _) hn, (q.nofix.fromS (fun k _ hl => g.block k hl) g.size).mono (Nat.le_refl _) hn, fun k hk => hk.2.1, by have := D.2; omega⟩
theorem ClK.spoil (p : ClK V Q x y h b D S) (wh : WideN h) (wb : WideN b) : Calls Tryz.prog 10 #[x.val] V fun e V' => e = .returned (.tuple #[]) ∧ Spoils S V V' ∧ BoxC V' Q x y ∧ Calls Tryz.prog 10 #[y.val] V' fun e V'' => e = .returned (.tuple #[]) ∧ Spoils S V' V'' := by
 have c1 := p.hh.can p.hD wh
 have c2 := p.hb.can p.hD wb
 refine (c1.call p.sz).mono fun e V' k => ⟨k.1, k.2, ?_, (c2.spoilt k.2).call fun i hi => Nat.lt_of_lt_of_le (p.sz i hi) k.2.size⟩
 exact (k.2.other Q p.box.lt (fun hS => by have := p.lt Q hS; omega)).trans p.box
end
theorem clK_same {V : World} {Q Q' : Nat} {x y x' y' : TV} {h b : List Nd} {D D' : Nat} {S S' : Nat → Prop} (p : ClK V Q x y h b D S) (q : ClK V Q' x' y' h b D' S') :
  Calls Tryz.prog 12 #[x.val, x'.val] V (fun e V' => e = .returned (.bool true) ∧ Below V.heap.size V V') ∧ Calls Tryz.prog 12 #[y.val, y'.val] V (fun e V' => e = .returned (.bool true) ∧ Below V.heap.size V V') :=
 ⟨same_ll p.hh.s q.hh.s p.hD q.hD, same_ll p.hb.s q.hb.s p.hD q.hD⟩
theorem StV.lt {n₀ : Nat} {W₁ V : World} {b vb wb : Nat} {laid : Int} {E A1 A2 B1 B2 : List En} {lv lw : Int} {Sp : Nat → Prop} (h : StV n₀ W₁ b vb wb laid E A1 A2 B1 B2 lv lw Sp V) : vb < V.heap.size ∧ wb < V.heap.size := by
 obtain ⟨M, O, h1, h2, h3, h4, h5, h6, h7, h8⟩ := h
 exact ⟨(h4 vb h6.mem).1, (h4 wb h7.mem).1⟩
end Go.Proofs.YtlbobmebbllifaaGreat
