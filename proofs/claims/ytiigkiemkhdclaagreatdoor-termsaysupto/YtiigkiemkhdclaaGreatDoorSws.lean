import Derived.Test.YtiigkiemkhdclaaGreatDoorLms
import Derived.Test.YtiigkiemkhdclaaGreatDoorNms
import Derived.Test.YtiigkiemkhdclaaGreatDoorMqs
import Derived.Test.YtiigkiemkhdclaaGreatDoorGes
/- The contracts of hornref.Swap and hornref.Rename: variables get new numbers. -/
namespace Go.Proofs.YtiigkiemkhdclaaGreatDoor
open Go.RowKit Go.Shelf Go.Maps

set_option maxRecDepth 100000 in
set_option maxHeartbeats 1000000 in
theorem rswap_var (ms : List Int) (la : Option Addr) (ll lc : Nat) (f : Int) (N : Int) (s : ByteArray) (a : Option Addr) (len cap : Nat) (W : World) (hl : IsN W la ll ms) (hf0 : 0 ≤ f) (hf1 : f ≤ 1099511627776) (hN : N ∈ ms) :
    Calls Tryz.prog 77 #[.agg #[.int .i64 1, .int .i64 N, .string s, .slice a len cap], .slice la ll lc, .int .i64 f] W fun e W' => ∃ x : TV, e = .returned x.val ∧ Below W.heap.size W W' ∧ HoldsS 1 (Mix 0 W.heap.size) W' x.val (renN f ms N) := by
  have hH := Head.new W ⟨1, N, s, a, len, cap⟩
  simp only at hH
  have hll := hl.1
  have hl2 := hl.2.1
  have hh := has_any ms la ll lc N _ (hl.below hH.below)
  have hidx : hasI ms N = (ms.idxOf N : Nat) := if_pos hN
  have hlt0 : ms.idxOf N < ms.length := List.idxOf_lt_length_of_mem hN
  rw [hidx] at hh
  have hren : renN f ms N = [varNd (f + (ms.idxOf N : Nat))] := rfl
  rw [hren]
  have hpos : ¬ ((ms.idxOf N : Nat) : Int) < 0 := by omega
  have hle : ((ms.idxOf N : Nat) : Int) ≤ 1152921504606846976 := by omega
  clear hl hidx hN hren hlt0 hll
  generalize ms.idxOf N = p at *
  go_enter Tryz.func77, Tryz.ntmps77
  go_wp2_with fail
  refine hh.mono ?_
  clear hh
  rintro e W1 ⟨rfl, hb1⟩
  replace hH := hH.next hb1
  have hv := v_any (f + (p : Nat)) W1
  simp only [TV.val, varV] at hv
  have HH := hide hH
  have HB := hide hb1
  clear hH hb1
  go_wp2_with fail
  refine hv.mono ?_
  clear hv
  rintro e W2 ⟨rfl, hb2⟩
  have hH := (unhide HH).next hb2
  obtain ⟨⟨z0, z1, z2, z3⟩, y0, y1, y2, y3⟩ := zbox_kept hH.bz
  have hlt : W.heap.size + 1 < W2.heap.size := hH.lt
  have hfin : HoldsS 1 (Mix 0 W.heap.size) (set4 W2 (W.heap.size + 1) 0 (varV (f + (p : Nat)))) (varV (f + (p : Nat))).val [varNd (f + (p : Nat))] := (varV_holds (f + (p : Nat)) W.heap.size _).holdsS.mono (Nat.le_refl _) (fun b hb => .inr hb)
  have hbf : Below W.heap.size W (set4 W2 (W.heap.size + 1) 0 (varV (f + (p : Nat)))) := set4_below hH.below (by omega) 0 _
  have HF := hide hfin
  have HBF := hide hbf
  clear hfin hbf hH hb2
  go_wp2_with fail
  refine bodyPost_ret (v := (varV (f + (p : Nat))).val) ?_ rfl ⟨_, rfl, unhide HBF, unhide HF⟩
  simp [results, Tryz.results77, go_sem, TV.val, varV, z0, z1, z2, z3]

set_option maxRecDepth 100000 in
set_option maxHeartbeats 1000000 in
theorem rswap_comp (ms : List Int) (la : Option Addr) (ll lc : Nat) (f : Int) (D : Nat) {d : Nat}
    (ih : ∀ (u : Tm d) (W : World), IsN W la ll ms → IsT W.heap.size W u → okT u = true → (∀ N, IsVarOf (code u) N → N ∈ ms) → Calls Tryz.prog 77 #[u.tv.val, .slice la ll lc, .int .i64 f] W fun e W' => ∃ x : TV, e = .returned x.val ∧ Below W.heap.size W W' ∧ HoldsS D (Mix 0 W.heap.size) W' x.val ((code u).flatMap (subN (renN f ms))))
    (k N : Int) (s : ByteArray) (a : Option Addr) (len cap : Nat) (kids : List (Tm d)) (W : World) (hl : IsN W la ll ms) (hk1 : k ≠ 1) (hs : s.size ≤ 9223372036854775807) (hl50 : len ≤ 50) (hlen : len = kids.length)
    (hkids : kids = [] ∨ ∃ b off, a = some ⟨b, off, none⟩ ∧ b < W.heap.size ∧ ∀ j u, kids[j]? = some u → cellsAt W b (off + j * 4) u.tv ∧ IsT W.heap.size W u) (hok : ∀ u ∈ kids, okT u = true) (hin : ∀ u ∈ kids, ∀ N, IsVarOf (code u) N → N ∈ ms) :
    Calls Tryz.prog 77 #[.agg #[.int .i64 k, .int .i64 N, .string s, .slice a len cap], .slice la ll lc, .int .i64 f] W fun e W' => ∃ x : TV, e = .returned x.val ∧ Below W.heap.size W W' ∧ HoldsS (D + 1) (Mix 0 W.heap.size) W' x.val ((k, N, s.toList, len) :: (kids.flatMap code).flatMap (subN (renN f ms))) := by
  have hl1 : len ≤ kids.length := by omega
  have hl2 : kids.length ≤ len := by omega
  have hk1' : (k == 1) = false := by simp [hk1]
  clear hlen hk1
  have hH := Head.new W ⟨k, N, s, a, len, cap⟩
  simp only at hH
  have HI := hide ih
  have HO := hide hok
  have HIN := hide hin
  have HL := hide hl
  clear ih hok hl hin
  obtain ⟨i0, hi, hz0, hz1, hz2⟩ := info_parts Tryz.info28
  go_enter Tryz.func77, Tryz.ntmps77
  go_wp2_with fail
  obtain ⟨W2, hW2⟩ : ∃ W2, (W.alloc (.cells #[.int .i64 k, .int .i64 N, .string s, .slice a len cap] 24)).alloc (.cells #[.int .i64 0, .int .i64 0, .string ⟨#[]⟩, .slice none 0 0] 24) = W2 := ⟨_, rfl⟩
  have hsz2 : ((W.alloc (.cells #[.int .i64 k, .int .i64 N, .string s, .slice a len cap] 24)).alloc (.cells #[.int .i64 0, .int .i64 0, .string ⟨#[]⟩, .slice none 0 0] 24)).heap.size = W.heap.size + 2 := by simp
  rw [hW2] at hH hsz2 ⊢
  clear hW2
  have HH := hide hH
  have HSZ := hide hsz2
  clear hH hsz2
  go_loopw [8, 9] (fun av i wr => ∃ (j : Nat) (l : List TV), j ≤ len ∧ i = .int .i64 j ∧ l.length = j ∧ Below (W.heap.size + 2) W2 wr ∧ Made D (Mix 0 (W.heap.size + 2)) (W.heap.size + 2) wr av l (((kids.take j).flatMap code).flatMap (subN (renN f ms)))) (fun _ i _ => len - (intOf i).toNat)
  case atStart => exact ⟨0, [], Nat.zero_le _, rfl, rfl, Below.refl _ _, Made.zero _ _ _ _⟩
  case round =>
    obtain ⟨j, l, hj, rfl, hll, hb, hm⟩ := hrel
    have hb' : Below W2.heap.size W2 wr := by rw [unhide HSZ]; exact hb
    have hH := (unhide HH).next hb'
    have x2 := hH.ba.c2
    have x3 := hH.ba.c3
    have x0 := hH.ba.c0
    have x1 := hH.ba.c1
    simp only at x0 x1 x2 x3
    have HHr := hide hH
    have HM := hide hm
    have HLL := hide hll
    clear hH hm hll
    by_cases hlt : j < len
    · obtain ⟨u, b, off, hu, rfl, ⟨c0, c1, c2, c3⟩, hT, hbk⟩ := kid_at hkids (unhide HHr).below hlt hl1
      have ihu := (unhide HI) u wr ((unhide HL).below (unhide HHr).below) hT ((unhide HO) u (List.mem_of_getElem? hu)) ((unhide HIN) u (List.mem_of_getElem? hu))
      have hcode := code_take kids j u hu
      have HC := hide hcode
      clear hT hkids hu hcode
      simp only [TV.val] at ihu
      have hj1 : (j : Int) < len := by omega
      go_wp2_with fail
      refine ihu.mono ?_
      clear ihu
      rintro e W5 ⟨x, rfl, hb5, hx⟩
      dsimp only [TV.val]
      clear x0 x1 x2 x3 c0 c1 c2 c3
      have hown5 : (W5.alloc (.cells #[.int .i64 x.k, .int .i64 x.N, .string x.s, .slice x.a x.len x.cap] 24)).ownsRow (W.heap.size + 2) 24 4 u8 l.length (l.flatMap TV.row) :=
        owns_below (unhide HM).owns (fun g hg => by
          have hlt := (owns_lt (unhide HM).owns hg).2
          exact (Below.heap_alloc _ _ _ (Nat.lt_of_lt_of_le hlt hb5.size)).trans (hb5.block g hlt))
      go_wp2_with (at_builtin; go_must (refine wpList_append_own_at _ rfl _ _ 22 rfl (W.heap.size + 2) 24 i0 _ 4 56 Tryz.underlying22 hi hz0 hz1 hz2 rfl (by decide) u8 l.length (l.flatMap TV.row) rfl hown5 ⟨W5.heap.size, 0, none⟩ 1 1 x.row rfl rfl new_cells row_one (by have := unhide HLL; unfold maxLen; omega) (by have := unhide HLL; omega) (by have := hb5.size; have := hb'.size; have := unhide HSZ; simp; omega) ?_; intro v' w1 hown' hgrow hnil hbk))
      have hgl : ∀ g, u8.ownBlock = some g → W.heap.size + 2 ≤ g ∧ g < wr.heap.size := fun g hg => owns_lt (unhide HM).owns hg
      have hwr : W.heap.size + 2 ≤ wr.heap.size := by have := hb'.size; have := unhide HSZ; omega
      have hmade := (unhide HM).next hb5 (hx.mono (Nat.le_refl _) (fun b hb => ⟨by unfold Mix at hb ⊢; omega, fun e => by have := hgl b e; unfold Mix at hb; omega⟩)) hown' hgrow (by simpa using hbk)
      rw [← List.flatMap_append, ← unhide HC] at hmade
      have hbel : Below (W.heap.size + 2) W2 w1 := ((hb.trans (hb5.mono hwr)).alloc (Nat.le_trans hwr hb5.size) _).grown hgrow (by have := hb5.size; simp; omega) (fun g hg => (hgl g hg).1)
      exact ⟨⟨j + 1, l ++ [x], by omega, by go_num, by simp [unhide HLL], hbel, hmade⟩, by simp [intOf]; omega⟩
    · have hjl : j = len := by omega
      have ht : kids.take j = kids := List.take_of_length_le (by omega)
      have hm := unhide HM
      rw [ht] at hm
      obtain ⟨a', cap', rfl, hfin⟩ := args_end (k := k) (N := N) (s := s) (len := len) (by rw [unhide HLL, hjl]) hl50 hs (unhide HHr).below (Nat.zero_le _) hm
      obtain ⟨⟨z0, z1, z2, z3⟩, y0, y1, y2, y3⟩ := zbox_kept (unhide HHr).bz
      have f3 : wr.frozen? ⟨W.heap.size, 3, none⟩ = false := by simp [World.frozen?, show wr.heap[W.heap.size]? = _ from (unhide HHr).ba]
      obtain ⟨f1, f2⟩ := hfin
      have F1 := hide f1
      have F2 := hide f2
      have hlt' : ¬ (j : Int) < (len : Int) := by omega
      clear f1 f2 hm ht hkids hjl
      go_wp2_with fail
      refine bodyPost_ret (v := (⟨k, N, s, a', len, cap'⟩ : TV).val) ?_ rfl ⟨_, rfl, unhide F1, unhide F2⟩
      simp [results, Tryz.results77, go_sem, TV.val, z0, z1, z2, z3]

/-- hornref.Swap, whatever the term. -/
theorem rswap_any (ms : List Int) (la : Option Addr) (ll lc : Nat) (f : Int) (hf0 : 0 ≤ f) (hf1 : f ≤ 1099511627776) : ∀ (d : Nat) (t : Tm d) (W : World), IsN W la ll ms → IsT W.heap.size W t → okT t = true → (∀ N, IsVarOf (code t) N → N ∈ ms) →
    Calls Tryz.prog 77 #[t.tv.val, .slice la ll lc, .int .i64 f] W fun e W' => ∃ x : TV, e = .returned x.val ∧ Below W.heap.size W W' ∧ HoldsS (d + 1) (Mix 0 W.heap.size) W' x.val ((code t).flatMap (subN (renN f ms))) := by
  intro d
  induction d with
  | zero => intro t; exact Empty.elim t
  | succ d ih =>
    intro t W hl hT hok hin
    obtain ⟨⟨k, N, s, a, len, cap⟩, kids⟩ := t
    obtain ⟨hwm, hk⟩ := ok_kids hok
    obtain ⟨h1, h2, h3, h4⟩ := hT
    simp only [Tm.tv, Tm.kids] at h1 h2 h3 h4 hwm
    rw [code_succ] at hin ⊢
    rw [List.flatMap_cons]
    by_cases hk1 : k = 1
    · subst hk1
      have hl0 : len = 0 := by
        rcases wm_cases hwm with ⟨_, _, _, _, h⟩ | ⟨h, _⟩ | ⟨h, _⟩
        · exact h
        · omega
        · omega
      subst hl0
      have hnil : kids = [] := List.length_eq_zero_iff.1 h1.symm
      subst hnil
      refine (rswap_var ms la ll lc f N s a 0 cap W hl hf0 hf1 (hin N ⟨_, List.mem_cons_self, rfl, rfl⟩)).mono fun e W' h => ?_
      obtain ⟨x, he, hb', hv⟩ := h
      exact ⟨x, he, hb', by simpa [subN, TV.nd] using hv.mono (by omega) (fun _ h => h)⟩
    · have hl50 : len ≤ 50 := by
        rcases wm_cases hwm with ⟨h, _⟩ | ⟨_, h⟩ | ⟨_, _, _, h⟩ <;> omega
      refine (rswap_comp ms la ll lc f (d + 1) ih k N s a len cap kids W hl hk1 h3 hl50 h1 h4 hk (fun u hu M hM => hin M ?_)).mono fun e W' h => ?_
      · obtain ⟨y, hy, e1, e2⟩ := hM
        exact ⟨y, List.mem_cons_of_mem _ (List.mem_flatMap.2 ⟨u, hu, hy⟩), e1, e2⟩
      · obtain ⟨x, he, hb', hv⟩ := h
        exact ⟨x, he, hb', by simpa [subN, TV.nd, hk1] using hv.mono (by omega) (fun _ h => h)⟩

theorem steps_all {c : List Nd} : ∀ N, IsVarOf c N → N ∈ varsC [] c := fun N h => (steps_mem c [] N).2 (.inr h)
theorem ret_same {v v' : Value} (h : v = v') : Ending.returned v = .returned v' := by rw [h]

set_option maxRecDepth 100000 in
set_option maxHeartbeats 2000000 in
/-- hornref.Rename. -/
theorem rrename_any {d : Nat} (t : Tm d) (f : Int) (w : World) (hT : IsT w.heap.size w t) (hok : okT t = true) (hl : (code t).length ≤ 4194304) (hf0 : 0 ≤ f) (hf1 : f ≤ 1099511627776) :
    Calls Tryz.prog 42 #[t.tv.val, .int .i64 f] w fun e W' => ∃ x : TV, e = .returned x.val ∧ Below w.heap.size w W' ∧ HoldsS (d + 1) (fun _ => True) W' x.val (canon f (code t)) := by
  have hH := Head.new w t.tv
  obtain ⟨W1, hW1⟩ : ∃ W1, (w.alloc (.cells #[.int .i64 t.tv.k, .int .i64 t.tv.N, .string t.tv.s, .slice t.tv.a t.tv.len t.tv.cap] 24)).alloc (.cells #[.int .i64 0, .int .i64 0, .string ⟨#[]⟩, .slice none 0 0] 24) = W1 := ⟨_, rfl⟩
  rw [hW1] at hH
  have hT1 : IsT W1.heap.size W1 t := (hT.below hH.below).mono hH.below.size
  have hbA : Below W1.heap.size W1 (W1.drew.alloc (.cells #[.int .i64 t.tv.k, .int .i64 t.tv.N, .string t.tv.s, .slice t.tv.a t.tv.len t.tv.cap] 24)) := ((Below.refl _ W1).drew).alloc (Nat.le_refl _) _
  have hV := (rVars_one t W1.heap.size 0 1 _ ((hT1.below hbA).mono hbA.size) (by
    have h := BoxT.new W1.drew t.tv
    exact ⟨h.c0, h.c1, h.c2, h.c3⟩) hok hl).mono (R' := fun e W3 => ∃ va vl vc, e = .returned (.slice va vl vc) ∧ Below W1.heap.size W1 W3 ∧ Calls Tryz.prog 77 #[t.tv.val, .slice va vl vc, .int .i64 f] W3 fun e W5 => ∃ x : TV, e = .returned x.val ∧ Below W1.heap.size W1 W5 ∧ HoldsS (d + 1) (Mix 0 W3.heap.size) W5 x.val (canon f (code t))) (fun e W3 h => by
    obtain ⟨v, he, hb3, hv⟩ := h
    have hvl := varsC_len [] (code t)
    obtain ⟨va, vc, rfl, hN⟩ := hv.isN (by simp at hvl; omega)
    have hb3' : Below W1.heap.size W1 W3 := hbA.trans (hb3.mono (by simp))
    exact ⟨va, _, vc, he, hb3', (rswap_any _ va _ vc f hf0 hf1 d t W3 hN ((hT1.below hb3').mono hb3'.size) hok steps_all).mono fun e W5 h => by
      obtain ⟨x, e1, e2, e3⟩ := h
      exact ⟨x, e1, hb3'.trans (e2.mono hb3'.size), e3⟩⟩)
  have c0 := hH.ba.c0
  have c1 := hH.ba.c1
  have c2 := hH.ba.c2
  have c3 := hH.ba.c3
  have hy1 : w.heap.size < W1.heap.size := hH.ba.lt
  have hy2 : w.heap.size + 1 < W1.heap.size := hH.lt
  have hzb := hH.bz
  obtain ⟨⟨z0, z1, z2, z3⟩, -⟩ := zbox_kept hzb
  have HH := hide hH
  generalize canon f (code t) = cf at *
  clear hT hok hl hT1 hbA hH
  simp only [TV.val] at hV ⊢
  go_enter Tryz.func42, Tryz.ntmps42
  go_wp2_with fail
  clear hW1
  go_region_held3 (fun w' => w'.cell? ⟨w.heap.size, 0, none⟩ = some (.int .i64 t.tv.k) ∧ w'.cell? ⟨w.heap.size, 1, none⟩ = some (.int .i64 t.tv.N) ∧ w'.cell? ⟨w.heap.size, 2, none⟩ = some (.string t.tv.s) ∧ w'.cell? ⟨w.heap.size, 3, none⟩ = some (.slice t.tv.a t.tv.len t.tv.cap)) (go_keep)
    (first | (go_at_call 39; refine hV.mono ?_; clear hV; rintro e W3 ⟨va, vl, vc, rfl, hb3, hS3⟩; have hbc := bcell hb3) | (go_at_call 77; refine hS3.mono ?_; clear hS3; rintro e W5 ⟨x, rfl, hb5, hx⟩; have hbd := bcell hb5; obtain ⟨-, y0, y1, y2, y3⟩ := zbox_kept ((hb5.block (w.heap.size + 1) hy2).trans hzb)))
  obtain ⟨⟨q0, q1, q2, q3⟩, -⟩ := zbox_kept ((hb5.block (w.heap.size + 1) hy2).trans hzb)
  have hB5 : Below w.heap.size w W5 := (unhide HH).below.trans (hb5.mono (unhide HH).below.size)
  have hb3s := hb3.size
  have hfin : HoldsS (d + 1) (fun _ => True) (set4 W5 (w.heap.size + 1) 0 x) x.val cf := (hx.fromS (fun b hb _ => set4_other _ _ 0 x (by unfold Mix at hb; omega)) (by rw [set4_size]; exact Nat.le_refl _)).mono (Nat.le_refl _) (fun _ _ => trivial)
  have hbf : Below w.heap.size w (set4 W5 (w.heap.size + 1) 0 x) := set4_below hB5 (by omega) 0 x
  have HF := hide hfin
  have HBF := hide hbf
  clear hfin hbf hx hB5 hb5 hb3 hbc hbd z0 z1 z2 z3
  go_wp2_with fail
  refine bodyPost_ret (v := x.val) ?_ rfl ⟨x, rfl, unhide HBF, unhide HF⟩
  simp [results, Tryz.results42, go_sem, TV.val, q0, q1, q2, q3]
end Go.Proofs.YtiigkiemkhdclaaGreatDoor

/- The contract of hornref.laid: a variable for each pair in the list, else the parts laid out (Gc). -/
namespace Go.Proofs.YtiigkiemkhdclaaGreatDoor
open Go.RowKit Go.Shelf Go.Maps

/-- As args_end, with one box more. -/
theorem args_end3 {D : Nat} {ns : Nat} {W wr : World} {k N : Int} {s : ByteArray} {len : Nat} {v : Value} {l : List TV} {c : List Nd} (hl : l.length = len) (hl50 : len ≤ 50) (hs : s.size ≤ 9223372036854775807) (hB : Below W.heap.size W wr) (hns : ns ≤ W.heap.size)
    (hm : Made D (Mix ns (W.heap.size + 3)) (W.heap.size + 3) wr v l c) :
    ∃ a' cap', v = .slice a' len cap' ∧ (let x : TV := ⟨k, N, s, a', len, cap'⟩
      Below W.heap.size W (set4 (wr.setCell ⟨W.heap.size, 3, none⟩ v) (W.heap.size + 2) 0 x) ∧ HoldsS (D + 1) (Mix ns W.heap.size) (set4 (wr.setCell ⟨W.heap.size, 3, none⟩ v) (W.heap.size + 2) 0 x) x.val ((k, N, s.toList, len) :: c)) := by
  have hoc := owns_cells hm.owns
  obtain ⟨a', cap', hv⟩ : ∃ a' cap', v = .slice a' len cap' := by
    rcases hoc with ⟨hv, hn⟩ | ⟨g, cp, hv, _⟩
    · subst hn; simp at hl; subst hl; exact ⟨none, 0, hv⟩
    · exact ⟨_, cp, by rw [hv, hl]⟩
  refine ⟨a', cap', hv, ?_⟩
  intro x
  have hother : ∀ b, b ≠ W.heap.size → b ≠ W.heap.size + 2 → (set4 (wr.setCell ⟨W.heap.size, 3, none⟩ v) (W.heap.size + 2) 0 x).heap[b]? = wr.heap[b]? := fun b h1 h2 =>
    (set4_other _ _ 0 x h2).trans (Below.heap_setCell _ _ _ _ h1)
  have hsz' : (set4 (wr.setCell ⟨W.heap.size, 3, none⟩ v) (W.heap.size + 2) 0 x).heap.size = wr.heap.size := by rw [set4_size]; simp
  refine ⟨set4_below (hB.setCell (p := ⟨W.heap.size, 3, none⟩) (Nat.le_refl _) _) (by omega) 0 x, fun m hm' => ?_⟩
  obtain ⟨M, rfl⟩ : ∃ M, m = M + 1 := ⟨m - 1, by omega⟩
  obtain ⟨ks, k1, k2, k3⟩ := hm.kids M (by omega)
  have hkl : ks.length = len := by rw [← hl, ← k1]; simp
  have hT : ∀ u ∈ ks, IsT wr.heap.size (set4 (wr.setCell ⟨W.heap.size, 3, none⟩ v) (W.heap.size + 2) 0 x) u := fun u hu =>
    (k2 u hu).1.fromS (fun b hb => hother b (by have := hb.2; unfold Mix at this; omega) (by have := hb.2; unfold Mix at this; omega)) (k2 u hu).2
  have hS : ∀ u ∈ ks, BlkT (Mix ns W.heap.size) u := fun u hu => (k2 u hu).2.mono fun b hb => by have := hb.2; unfold Mix at this ⊢; omega
  refine ⟨((x, ks) : TV × List (Tm M)), rfl, ?_, ?_, ?_⟩
  · rw [hsz']
    refine ⟨hkl.symm, ?_, hs, ?_⟩
    · show len ≤ _
      omega
    · rcases hoc with ⟨_, hn⟩ | ⟨g, cp, hv2, hg1, hg2, hcells⟩
      · left
        show ks = []
        apply List.length_eq_zero_iff.1
        rw [hkl, ← hl, hn]; rfl
      · right
        rw [hv] at hv2
        simp at hv2
        obtain ⟨e1, _, _⟩ := hv2
        refine ⟨g, 0, e1, hg2, fun j u hu => ⟨?_, hT u (List.mem_of_getElem? hu)⟩⟩
        rw [Nat.zero_add]
        have hu' : ks[j]? = some u := hu
        have : l[j]? = some u.tv := by rw [← k1, List.getElem?_map, hu']; rfl
        exact (hcells j u.tv this).kept (hother g (by omega) (by omega))
  · refine ⟨?_, hS⟩
    rcases hoc with ⟨_, hn⟩ | ⟨g, cp, hv2, hg1, hg2, hcells⟩
    · left
      show ks = []
      apply List.length_eq_zero_iff.1
      rw [hkl, ← hl, hn]; rfl
    · right
      rw [hv] at hv2
      simp at hv2
      obtain ⟨e1, _, _⟩ := hv2
      exact ⟨g, 0, e1, by unfold Mix; omega⟩
  · rw [code_succ, k3]; rfl


theorem row_slice {W : World} {base : Nat} {e : TypeId} {sz : Nat} {v : Value} {n : Nat} {xs : List Value} (h : W.ownsRow base e sz v n xs) : ∃ a cap, v = .slice a n cap := by
  obtain ⟨_, h2⟩ := h
  rcases h2 with ⟨hv, hn⟩ | ⟨g, cap, cur, hv, _⟩
  · exact ⟨none, 0, by rw [hv, hn]⟩
  · exact ⟨_, cap, hv⟩
theorem three_z (w : World) (x y : TV) : ∃ W3, ((w.alloc (.cells #[.int .i64 x.k, .int .i64 x.N, .string x.s, .slice x.a x.len x.cap] 24)).alloc (.cells #[.int .i64 y.k, .int .i64 y.N, .string y.s, .slice y.a y.len y.cap] 24)).alloc (.cells #[.int .i64 0, .int .i64 0, .string ⟨#[]⟩, .slice none 0 0] 24) = W3 ∧ Below w.heap.size w W3 ∧ BoxT W3 w.heap.size x ∧ BoxT W3 (w.heap.size + 1) y ∧ W3.heap[w.heap.size + 2]? = some (.cells #[.int .i64 0, .int .i64 0, .string ⟨#[]⟩, .slice none 0 0] 24 (0, 0)) ∧ W3.heap.size = w.heap.size + 3 := by
  obtain ⟨W2, h1, h2, h3, h4, h5⟩ := two_new w x y
  rw [h1]
  refine ⟨_, rfl, h2.alloc (by omega) _, h3.alloc _, h4.alloc _, ?_, by simp [h5]⟩
  have := World.alloc_heap_new W2 (.cells #[.int .i64 0, .int .i64 0, .string ⟨#[]⟩, .slice none 0 0] 24)
  rw [h5] at this
  exact this

/-- What laid answers. -/
def LaidSays (D : Nat) (W : World) (c : List Nd) (e : Ending) (W' : World) : Prop := ∃ x : TV, e = .returned x.val ∧ Below W.heap.size W W' ∧ HoldsS D (Mix 0 W.heap.size) W' x.val c

set_option maxRecDepth 100000 in
set_option maxHeartbeats 2000000 in
theorem laid_comp {m n D : Nat} (ps : List (Tm m × Tm m)) (la : Option Addr) (ll lc : Nat)
    (ih : ∀ (x y : Tm n) (W : World), IsP W.heap.size W la ll ps → IsT W.heap.size W x → IsT W.heap.size W y → okT x = true → okT y = true → (∀ q ∈ prs x y, q ∈ cpP ps) → Calls Tryz.prog 82 #[x.tv.val, y.tv.val, .slice la ll lc] W (LaidSays D W (Gc (ιP (cpP ps)) x y)))
    (k N : Int) (s s' : ByteArray) (k' N' : Int) (a a' : Option Addr) (len cap len' cap' : Nat) (kids kids' : List (Tm n)) (W : World) (hP : IsP W.heap.size W la ll ps)
    (hnt : ∀ W2, Below W.heap.size W W2 → Calls Tryz.prog 81 #[.slice la ll lc, .agg #[.int .i64 k, .int .i64 N, .string s, .slice a len cap], .agg #[.int .i64 k', .int .i64 N', .string s', .slice a' len' cap']] W2 fun e W3 => e = .returned (.int .i64 (-1)) ∧ Below W2.heap.size W2 W3)
    (hlq : len = len') (hlen : len = kids.length) (hlen' : len' = kids'.length) (hl50 : len ≤ 50) (hs : s.size ≤ 9223372036854775807)
    (hkids : kids = [] ∨ ∃ b off, a = some ⟨b, off, none⟩ ∧ b < W.heap.size ∧ ∀ j u, kids[j]? = some u → cellsAt W b (off + j * 4) u.tv ∧ IsT W.heap.size W u)
    (hkids' : kids' = [] ∨ ∃ b off, a' = some ⟨b, off, none⟩ ∧ b < W.heap.size ∧ ∀ j u, kids'[j]? = some u → cellsAt W b (off + j * 4) u.tv ∧ IsT W.heap.size W u)
    (ok : ∀ u ∈ kids, okT u = true) (ok' : ∀ u ∈ kids', okT u = true) (hsub : ∀ (j : Nat) u v, kids[j]? = some u → kids'[j]? = some v → ∀ q ∈ prs u v, q ∈ cpP ps) :
    Calls Tryz.prog 82 #[.agg #[.int .i64 k, .int .i64 N, .string s, .slice a len cap], .agg #[.int .i64 k', .int .i64 N', .string s', .slice a' len' cap'], .slice la ll lc] W (LaidSays (D + 1) W ((k, N, s.toList, len) :: zf (Gc (ιP (cpP ps))) kids kids')) := by
  have hl1 : len ≤ kids.length := by omega
  have hl2 : kids.length ≤ len := by omega
  have hl3 : len ≤ kids'.length := by omega
  have hl4 : kids'.length ≤ len := by omega
  have hl5 : (len : Int) ≤ len' := by omega
  obtain ⟨W3, hW3, hB3, hba, hbb, hbz, hsz⟩ := three_z W ⟨k, N, s, a, len, cap⟩ ⟨k', N', s', a', len', cap'⟩
  simp only at hW3
  have hn3 := hnt W3 hB3
  have b0 := hba.c0
  have b1 := hba.c1
  have b2 := hba.c2
  have b3 := hba.c3
  have d0 := hbb.c0
  have d1 := hbb.c1
  have d2 := hbb.c2
  have d3 := hbb.c3
  simp only at b0 b1 b2 b3 d0 d1 d2 d3
  obtain ⟨i0, hi, hz0, hz1, hz2⟩ := info_parts Tryz.info28
  have HI := hide ih
  have HP := hide hP
  have HO := hide ok
  have HO' := hide ok'
  have HSUB := hide hsub
  have HB3 := hide hB3
  have HBA := hide hba
  have HBB := hide hbb
  have HBZ := hide hbz
  have HSZ := hide hsz
  clear ih hP ok ok' hsub hB3 hba hbb hbz hsz hnt hlq hlen hlen'
  go_enter Tryz.func82, Tryz.ntmps82
  go_wp2_with fail
  refine hn3.mono ?_
  clear hn3 b0 b1 b2 b3 d0 d1 d2 d3 hW3
  rintro e W4 ⟨rfl, hb4⟩
  have hB4 : Below W.heap.size W W4 := (unhide HB3).trans (hb4.mono (unhide HB3).size)
  have hs4 : W.heap.size + 3 ≤ W4.heap.size := by have := hb4.size; have := unhide HSZ; omega
  have hba4 : BoxT W4 W.heap.size ⟨k, N, s, a, len, cap⟩ := boxT_on (unhide HBA) hb4
  have hbb4 : BoxT W4 (W.heap.size + 1) ⟨k', N', s', a', len', cap'⟩ := boxT_on (unhide HBB) hb4
  have hbz4 := (hb4.block (W.heap.size + 2) (by have := unhide HSZ; omega)).trans (unhide HBZ)
  have HB4 := hide hB4
  have HBA4 := hide hba4
  have HBB4 := hide hbb4
  have HBZ4 := hide hbz4
  clear hb4 hB4 hba4 hbb4 hbz4 HB3 HBA HBB HBZ HSZ
  go_wp2_with fail
  go_loopw [8, 9] (fun av i wr => ∃ (j : Nat) (l : List TV), j ≤ len ∧ i = .int .i64 j ∧ l.length = j ∧ Below (W.heap.size + 3) W4 wr ∧ Made D (Mix 0 (W.heap.size + 3)) (W.heap.size + 3) wr av l (zf (Gc (ιP (cpP ps))) (kids.take j) (kids'.take j))) (fun _ i _ => len - (intOf i).toNat)
  case atStart => exact ⟨0, [], Nat.zero_le _, rfl, rfl, Below.refl _ _, by simpa [zf] using Made.zero _ _ _ _⟩
  case round =>
    obtain ⟨j, l, hj, rfl, hll, hb, hm⟩ := hrel
    have hbs := hb.size
    have hbw : Below W.heap.size W wr := (unhide HB4).trans (hb.mono (by omega))
    have hbar : BoxT wr W.heap.size ⟨k, N, s, a, len, cap⟩ := (hb.block _ (by omega)).trans (unhide HBA4)
    have hbbr : BoxT wr (W.heap.size + 1) ⟨k', N', s', a', len', cap'⟩ := (hb.block _ (by omega)).trans (unhide HBB4)
    have hbzr := (hb.block (W.heap.size + 2) (by omega)).trans (unhide HBZ4)
    have b3 := hbar.c3
    have d3 := hbbr.c3
    simp only at b3 d3
    have HM := hide hm
    have HLL := hide hll
    clear hll
    obtain ⟨va, vc, rfl⟩ := row_slice hm.owns
    by_cases hlt : j < len
    · obtain ⟨u, bk, off, hu, rfl, ⟨c0, c1, c2, c3⟩, hT, hbk2⟩ := kid_at hkids hbw hlt hl1
      obtain ⟨v, bk', off', hv, rfl, ⟨e0, e1, e2, e3⟩, hT', hbk2'⟩ := kid_at hkids' hbw hlt hl3
      have hj1 : (j : Int) < len := by omega
      have hj2 : (j : Int) < len' := by omega
      have hdr : Below wr.heap.size wr wr.drew := (Below.refl _ wr).drew
      have hPw : IsP wr.drew.heap.size wr.drew la ll ps := ((unhide HP).below hbw.drew).mono hbw.drew.size
      have hzf := zfU_take (f := Gc (ιP (cpP ps))) kids kids' j u v hu hv
      have ihu := ((unhide HI) u v wr.drew hPw (hT.below hdr) (hT'.below hdr) ((unhide HO) u (List.mem_of_getElem? hu)) ((unhide HO') v (List.mem_of_getElem? hv)) ((unhide HSUB) j u v hu hv)).mono
        (R' := fun e W5 => ∃ x : TV, e = .returned x.val ∧ Below wr.heap.size wr W5 ∧ HoldsS D (Mix 0 wr.heap.size) W5 x.val (Gc (ιP (cpP ps)) u v)) (fun e W5 h => by
          obtain ⟨x, g1, g2, g3⟩ := h
          exact ⟨x, g1, hdr.trans g2, g3⟩)
      have hy0 : W.heap.size < wr.heap.size := by omega
      have hy1 : W.heap.size + 1 < wr.heap.size := by omega
      have hy2 : bk < wr.heap.size := by omega
      have hy3 : bk' < wr.heap.size := by omega
      have hx0 : W.heap.size < W.heap.size + 3 := by omega
      have hx1 : W.heap.size + 1 < W.heap.size + 3 := by omega
      have hx2 : bk < W.heap.size + 3 := by omega
      have hx3 : bk' < W.heap.size + 3 := by omega
      have HZF := hide hzf
      clear hkids hkids' hT hT' hu hv hzf hdr hPw hm hbar hbbr hbzr
      simp only [TV.val] at ihu
      go_wp2_with fail
      refine wp_region_noPanic ?_
      refine wp_region_held_drew (S := (fun w' => w'.cell? ⟨W.heap.size, 3, none⟩ = some (.slice (some ⟨bk, off, none⟩) len cap) ∧ w'.cell? ⟨W.heap.size + 1, 3, none⟩ = some (.slice (some ⟨bk', off', none⟩) len' cap') ∧ w'.cell? ⟨bk, off + j * 4, none⟩ = some (.int .i64 u.tv.k) ∧ w'.cell? ⟨bk, off + j * 4 + 1, none⟩ = some (.int .i64 u.tv.N) ∧ w'.cell? ⟨bk, off + j * 4 + 2, none⟩ = some (.string u.tv.s) ∧ w'.cell? ⟨bk, off + j * 4 + 3, none⟩ = some (.slice u.tv.a u.tv.len u.tv.cap) ∧ w'.cell? ⟨bk', off' + j * 4, none⟩ = some (.int .i64 v.tv.k) ∧ w'.cell? ⟨bk', off' + j * 4 + 1, none⟩ = some (.int .i64 v.tv.N) ∧ w'.cell? ⟨bk', off' + j * 4 + 2, none⟩ = some (.string v.tv.s) ∧ w'.cell? ⟨bk', off' + j * 4 + 3, none⟩ = some (.slice v.tv.a v.tv.len v.tv.cap))) (by kernel_rfl) ?_ (fun hHeld => ?_)
      · go_keep
      refine wpAnyH_take (i := 0) (oi := { dst := some 25, op := Op.move (Operand.tmp 8), type := 22, pos := "term.go:293", after := #[], guard := none }) (v := ?_) rfl (by kernel_rfl) (by kernel_rfl) (by kernel_rfl) (fun _ _ _ h => h) (Or.inl ⟨by rfl, ?_⟩) hHeld ?_
      rotate_left
      · (intro w' hSw; (try dsimp only at hSw); go_simp; try with_reducible rfl)
      try simp only [Act.put, List.setIfInBounds_toArray, List.set_cons_zero, List.set_cons_succ]
      refine wpAnyH_take (i := 1) (oi := { dst := some 26, op := Op.fieldAddr 24 (Operand.tmp 3) 3, type := 0, pos := "term.go:293", after := #[], guard := none }) (v := ?_) rfl (by kernel_rfl) (by kernel_rfl) (by kernel_rfl) (fun _ _ _ h => h) (Or.inl ⟨by rfl, ?_⟩) hHeld ?_
      rotate_left
      · (intro w' hSw; (try dsimp only at hSw); go_simp; try with_reducible rfl)
      try simp only [Act.put, List.setIfInBounds_toArray, List.set_cons_zero, List.set_cons_succ]
      refine wpAnyH_take (i := 2) (oi := { dst := some 27, op := Op.load 22 (Operand.tmp 26), type := 22, pos := "term.go:293", after := #[{ on := 1, ground := Ground.data }], guard := none }) (v := ?_) rfl (by kernel_rfl) (by kernel_rfl) (by kernel_rfl) (fun _ _ _ h => h) (Or.inl ⟨by rfl, ?_⟩) hHeld ?_
      rotate_left
      · (intro w' hSw; (try dsimp only at hSw); go_simp; try with_reducible rfl)
      try simp only [Act.put, List.setIfInBounds_toArray, List.set_cons_zero, List.set_cons_succ]
      refine wpAnyH_take (i := 3) (oi := { dst := some 28, op := Op.move (Operand.tmp 9), type := 3, pos := "term.go:293", after := #[], guard := none }) (v := ?_) rfl (by kernel_rfl) (by kernel_rfl) (by kernel_rfl) (fun _ _ _ h => h) (Or.inl ⟨by rfl, ?_⟩) hHeld ?_
      rotate_left
      · (intro w' hSw; (try dsimp only at hSw); go_simp; try with_reducible rfl)
      try simp only [Act.put, List.setIfInBounds_toArray, List.set_cons_zero, List.set_cons_succ]
      refine wpAnyH_take (i := 4) (oi := { dst := some 29, op := Op.indexAddr 22 (Operand.tmp 27) (Operand.tmp 28), type := 0, pos := "term.go:293", after := #[{ on := 2, ground := Ground.data }, { on := 3, ground := Ground.data }], guard := none }) (v := ?_) rfl (by kernel_rfl) (by kernel_rfl) (by kernel_rfl) (fun _ _ _ h => h) (Or.inl ⟨by rfl, ?_⟩) hHeld ?_
      rotate_left
      · (intro w' hSw; (try dsimp only at hSw); go_simp; try with_reducible rfl)
      try simp only [Act.put, List.setIfInBounds_toArray, List.set_cons_zero, List.set_cons_succ]
      refine wpAnyH_take (i := 5) (oi := { dst := some 30, op := Op.load 24 (Operand.tmp 29), type := 24, pos := "term.go:293", after := #[{ on := 4, ground := Ground.data }], guard := none }) (v := ?_) rfl (by kernel_rfl) (by kernel_rfl) (by kernel_rfl) (fun _ _ _ h => h) (Or.inl ⟨by rfl, ?_⟩) hHeld ?_
      rotate_left
      · (intro w' hSw; (try dsimp only at hSw); go_simp; try with_reducible rfl)
      try simp only [Act.put, List.setIfInBounds_toArray, List.set_cons_zero, List.set_cons_succ]
      refine wpAnyH_take (i := 6) (oi := { dst := some 31, op := Op.fieldAddr 24 (Operand.tmp 4) 3, type := 0, pos := "term.go:293", after := #[], guard := none }) (v := ?_) rfl (by kernel_rfl) (by kernel_rfl) (by kernel_rfl) (fun _ _ _ h => h) (Or.inl ⟨by rfl, ?_⟩) hHeld ?_
      rotate_left
      · (intro w' hSw; (try dsimp only at hSw); go_simp; try with_reducible rfl)
      try simp only [Act.put, List.setIfInBounds_toArray, List.set_cons_zero, List.set_cons_succ]
      refine wpAnyH_take (i := 7) (oi := { dst := some 32, op := Op.load 22 (Operand.tmp 31), type := 22, pos := "term.go:293", after := #[{ on := 6, ground := Ground.data }], guard := none }) (v := ?_) rfl (by kernel_rfl) (by kernel_rfl) (by kernel_rfl) (fun _ _ _ h => h) (Or.inl ⟨by rfl, ?_⟩) hHeld ?_
      rotate_left
      · (intro w' hSw; (try dsimp only at hSw); go_simp; try with_reducible rfl)
      try simp only [Act.put, List.setIfInBounds_toArray, List.set_cons_zero, List.set_cons_succ]
      refine wpAnyH_take (i := 8) (oi := { dst := some 33, op := Op.move (Operand.tmp 9), type := 3, pos := "term.go:293", after := #[], guard := none }) (v := ?_) rfl (by kernel_rfl) (by kernel_rfl) (by kernel_rfl) (fun _ _ _ h => h) (Or.inl ⟨by rfl, ?_⟩) hHeld ?_
      rotate_left
      · (intro w' hSw; (try dsimp only at hSw); go_simp; try with_reducible rfl)
      try simp only [Act.put, List.setIfInBounds_toArray, List.set_cons_zero, List.set_cons_succ]
      refine wpAnyH_take (i := 9) (oi := { dst := some 34, op := Op.indexAddr 22 (Operand.tmp 32) (Operand.tmp 33), type := 0, pos := "term.go:293", after := #[{ on := 7, ground := Ground.data }, { on := 8, ground := Ground.data }], guard := none }) (v := ?_) rfl (by kernel_rfl) (by kernel_rfl) (by kernel_rfl) (fun _ _ _ h => h) (Or.inl ⟨by rfl, ?_⟩) hHeld ?_
      rotate_left
      · (intro w' hSw; (try dsimp only at hSw); go_simp; try with_reducible rfl)
      try simp only [Act.put, List.setIfInBounds_toArray, List.set_cons_zero, List.set_cons_succ]
      refine wpAnyH_take (i := 10) (oi := { dst := some 35, op := Op.load 24 (Operand.tmp 34), type := 24, pos := "term.go:293", after := #[{ on := 9, ground := Ground.data }], guard := none }) (v := ?_) rfl (by kernel_rfl) (by kernel_rfl) (by kernel_rfl) (fun _ _ _ h => h) (Or.inl ⟨by rfl, ?_⟩) hHeld ?_
      rotate_left
      · (intro w' hSw; (try dsimp only at hSw); go_simp; try with_reducible rfl)
      try simp only [Act.put, List.setIfInBounds_toArray, List.set_cons_zero, List.set_cons_succ]
      refine wpAnyH_take (i := 11) (oi := { dst := some 36, op := Op.move (Operand.tmp 2), type := 110, pos := "term.go:293", after := #[], guard := none }) (v := ?_) rfl (by kernel_rfl) (by kernel_rfl) (by kernel_rfl) (fun _ _ _ h => h) (Or.inl ⟨by rfl, ?_⟩) hHeld ?_
      rotate_left
      · (intro w' hSw; (try dsimp only at hSw); go_simp; try with_reducible rfl)
      try simp only [Act.put, List.setIfInBounds_toArray, List.set_cons_zero, List.set_cons_succ]
      refine wpAnyH_ready (rs := [12]) (by kernel_rfl) (by simp) ?_
      refine AllReadyH.cons (o := { dst := some 37, op := Op.call { callee := Callee.value (Operand.func 82), args := #[Operand.tmp 30, Operand.tmp 35, Operand.tmp 36], argTypes := #[24, 24, 110] }, type := 24, pos := "term.go:293", after := #[{ on := 5, ground := Ground.data }, { on := 10, ground := Ground.data }, { on := 11, ground := Ground.data }], guard := none }) rfl (fun K hK => ?_) AllReadyH.nil
      have hHold := hHeld
      clear hHeld
      go_simp
      refine ihu.mono ?_
      clear ihu
      rintro e W5 ⟨x, rfl, hb5, hx⟩
      have hbc := bcell hb5
      dsimp only [TV.val]
      go_wp2_with fail
      refine hK.out _ _ ?_ (fun hHeld => ?_)
      · ((try dsimp only); go_keep)
      clear hK K hHold
      try simp only [Act.put, List.setIfInBounds_toArray, List.set_cons_zero, List.set_cons_succ]
      refine wpAnyH_ready (rs := [13]) (by kernel_rfl) (by simp) ?_
      refine AllReadyH.cons (o := { dst := some 38, op := Op.buildSlice 22 1 #[(0, Operand.tmp 37)], type := 22, pos := "term.go:293", after := #[{ on := 12, ground := Ground.data }], guard := none }) rfl (fun K hK => ?_) AllReadyH.nil
      have hHold := hHeld
      clear hHeld
      go_simp
      refine hK.out _ _ ?_ (fun hHeld => ?_)
      · ((try dsimp only); go_keep)
      clear hK K hHold
      try simp only [Act.put, List.setIfInBounds_toArray, List.set_cons_zero, List.set_cons_succ]
      refine wpAnyH_ready (rs := [14]) (by kernel_rfl) (by simp) ?_
      refine AllReadyH.cons (o := { dst := some 39, op := Op.call { callee := Callee.builtin Builtin.append, args := #[Operand.tmp 25, Operand.tmp 38], argTypes := #[22, 22] }, type := 22, pos := "term.go:293", after := #[{ on := 0, ground := Ground.data }, { on := 13, ground := Ground.data }, { on := 12, ground := Ground.chain }], guard := none }) rfl (fun K hK => ?_) AllReadyH.nil
      have hHold := hHeld
      clear hHeld
      have hs5 := hb5.size
      have hown5 : (W5.alloc (.cells #[.int .i64 x.k, .int .i64 x.N, .string x.s, .slice x.a x.len x.cap] 24)).ownsRow (W.heap.size + 3) 24 4 (.slice va l.length vc) l.length (l.flatMap TV.row) :=
        owns_below (unhide HM).owns (fun g hg => by
          have hlt := (owns_lt (unhide HM).owns hg).2
          exact (Below.heap_alloc _ _ _ (Nat.lt_of_lt_of_le hlt hb5.size)).trans (hb5.block g hlt))
      obtain ⟨u6, w6, hr6, hown6, hg6, _, hbk6⟩ := run_append_own_at (P := Tryz.prog) _ (W.heap.size + 3) 22 22 24 i0 _ 4 56 Tryz.underlying22 hi hz0 hz1 hz2 rfl (by decide) (.slice va l.length vc) l.length (l.flatMap TV.row) hown5 ⟨W5.heap.size, 0, none⟩ 1 1 x.row rfl new_cells row_one (by have := unhide HLL; unfold maxLen; omega) (by have := unhide HLL; omega) (by simp; omega)
      have hgl : ∀ g, (Value.slice va l.length vc).ownBlock = some g → W.heap.size + 3 ≤ g ∧ g < wr.heap.size := fun g hg => owns_lt (unhide HM).owns hg
      have hb6 : Below (W.heap.size + 3) W5 w6 := ((Below.refl _ W5).alloc (by omega) _).grown hg6 (by simp; omega) (fun g hg => (hgl g hg).1)
      have hbd : ∀ b o, b < W.heap.size + 3 → w6.cell? ⟨b, o, none⟩ = W5.cell? ⟨b, o, none⟩ := fun b o h => hb6.cell (p := ⟨b, o, none⟩) h
      obtain ⟨va6, vc6, rfl⟩ := row_slice hown6
      rw [if_pos (by rfl)]
      refine wp_append_row _ _ _ rfl rfl rfl hr6 ?_
      refine hK.out _ _ ?_ (fun hHeld => ?_)
      · ((try dsimp only); go_keep)
      clear hK K hHold
      try simp only [Act.put, List.setIfInBounds_toArray, List.set_cons_zero, List.set_cons_succ]
      refine wpAnyH_take (i := 15) (oi := { dst := some 8, op := Op.assign (Operand.tmp 39), type := 22, pos := "term.go:293", after := #[{ on := 14, ground := Ground.data }, { on := 14, ground := Ground.chain }, { on := 0, ground := Ground.phase }, { on := 1, ground := Ground.phase }, { on := 2, ground := Ground.phase }, { on := 3, ground := Ground.phase }, { on := 4, ground := Ground.phase }, { on := 5, ground := Ground.phase }, { on := 6, ground := Ground.phase }, { on := 7, ground := Ground.phase }, { on := 8, ground := Ground.phase }, { on := 9, ground := Ground.phase }, { on := 10, ground := Ground.phase }, { on := 11, ground := Ground.phase }, { on := 12, ground := Ground.phase }, { on := 13, ground := Ground.phase }, { on := 14, ground := Ground.phase }], guard := none }) (v := ?_) rfl (by kernel_rfl) (by kernel_rfl) (by kernel_rfl) (fun _ _ _ h => h) (Or.inl ⟨by rfl, ?_⟩) hHeld ?_
      rotate_left
      · (intro w' hSw; (try dsimp only at hSw); go_simp; try with_reducible rfl)
      try simp only [Act.put, List.setIfInBounds_toArray, List.set_cons_zero, List.set_cons_succ]
      refine wpAnyH_done (by kernel_rfl) ?_ _
      refine NoPanic.normal ?_
      clear hbc hbd
      have hmade := (unhide HM).next hb5 (hx.mono (Nat.le_refl _) (fun b hb => ⟨by unfold Mix at hb ⊢; omega, fun e => by have := hgl b e; unfold Mix at hb; omega⟩)) hown6 hg6 (by simpa using hbk6)
      rw [← unhide HZF] at hmade
      have hbel : Below (W.heap.size + 3) W4 w6 := (hb.trans (hb5.mono (by omega))).trans hb6
      have HMF := hide hmade
      clear hmade hown6 hown5 hg6 hr6 hb6 hx hbk6 hgl
      go_wp2_with fail
      exact ⟨⟨j + 1, l ++ [x], by omega, by go_num, by simp [unhide HLL], hbel, unhide HMF⟩, by simp [intOf]; omega⟩
    · have hjl : j = len := by omega
      have ht : kids.take j = kids := List.take_of_length_le (by omega)
      have ht' : kids'.take j = kids' := List.take_of_length_le (by omega)
      rw [ht, ht'] at hm
      obtain ⟨aa, cc, hv', hfin⟩ := args_end3 (k := k) (N := N) (s := s) (len := len) (by rw [unhide HLL, hjl]) hl50 hs hbw (Nat.zero_le _) hm
      obtain ⟨⟨z0, z1, z2, z3⟩, y0, y1, y2, y3⟩ := zbox_kept hbzr
      have x0 := hbar.c0
      have x1 := hbar.c1
      have x2 := hbar.c2
      have x3 := hbar.c3
      simp only at x0 x1 x2 x3
      have f3 : wr.frozen? ⟨W.heap.size, 3, none⟩ = false := by simp [World.frozen?, show wr.heap[W.heap.size]? = _ from hbar]
      simp only [Value.slice.injEq] at hv'
      obtain ⟨rfl, hle, rfl⟩ := hv'
      rw [hle] at hfin ⊢
      clear hle
      obtain ⟨f1, f2⟩ := hfin
      have F1 := hide f1
      have F2 := hide f2
      have hlt' : ¬ (j : Int) < (len : Int) := by omega
      clear f1 f2 hm ht ht' hkids hkids' hjl hbar hbbr hbzr
      go_wp2_with fail
      refine bodyPost_ret (v := (⟨k, N, s, va, len, vc⟩ : TV).val) ?_ rfl ⟨_, rfl, unhide F1, unhide F2⟩
      simp [results, Tryz.results82, go_sem, TV.val, z0, z1, z2, z3]
end Go.Proofs.YtiigkiemkhdclaaGreatDoor

/- The contract of term.Rename, whatever it is asked. -/
namespace Go.Proofs.YtiigkiemkhdclaaGreatDoor
open Go.RowKit Go.Shelf Go.Maps

/-- What Rename answers, of a term: the number of the first variable it did not give, or an error. -/
def RenAll {n : Nat} (t : Tm n) (f : Int) (lo : Nat) (W' : World) (x : TV) (k r : Int) : Prop :=
  (0 ≤ f ∧ f ≤ 1099511627776 ∧ f + ((stepsN stpN [] (code t)).length : Nat) ≤ 1099511627777 ∧ r = 0 ∧ k = f + ((stepsN stpN [] (code t)).length : Nat) ∧ HoldsT (n + 1) lo W' x.val (canon f (code t))) ∨
  (0 ≤ f ∧ f ≤ 1099511627776 ∧ ¬ f + ((stepsN stpN [] (code t)).length : Nat) ≤ 1099511627777 ∧ r = 9 ∧ k = 0 ∧ x = ⟨0, 0, ⟨#[]⟩, none, 0, 0⟩) ∨
  (¬ (0 ≤ f ∧ f ≤ 1099511627776) ∧ r = 1 ∧ k = 0 ∧ x = ⟨0, 0, ⟨#[]⟩, none, 0, 0⟩)

set_option maxRecDepth 100000 in
set_option maxHeartbeats 1000000 in
theorem rename_full {n : Nat} (t : Tm n) (f : Int) (w : World) (hT : IsT w.heap.size w t) (hok : okT t = true) :
    Calls Tryz.prog 15 #[t.tv.val, .int .i64 f] w fun e W' => ∃ (x : TV) (k r : Int), e = .returned (.tuple #[x.val, .int .i64 k, .int .i64 r]) ∧ Below w.heap.size w W' ∧ RenAll t f w.heap.size W' x k r := by
  have hH := Head.new w t.tv
  have hB1 : Below w.heap.size w ((w.alloc (.cells #[.int .i64 t.tv.k, .int .i64 t.tv.N, .string t.tv.s, .slice t.tv.a t.tv.len t.tv.cap] 24)).alloc (.cells #[.int .i64 0, .int .i64 0, .string ⟨#[]⟩, .slice none 0 0] 24)) := ((Below.refl _ w).alloc (Nat.le_refl _) _).alloc (by simp) _
  have hck := check_any t _ ((hT.below hB1).mono hB1.size)
  rw [chk_yes hok] at hck
  have hokc : okC (code t) := by unfold okC; rw [← okT_code]; exact hok
  by_cases hf : 0 ≤ f ∧ f ≤ 1099511627776
  · obtain ⟨hf0, hf1⟩ := hf
    have hnm := fun (W : World) (hb : Below w.heap.size w W) => number_any t f W ((hT.below hb).mono hb.size) hok hf0 hf1
    have hokn := fun h => okC_canon (f := f) hokc hf0 h
    have hlen : (stepsN stpN [] (code t)).length ≤ 1099511627777 := steps_len hokc
    obtain ⟨L, hL⟩ : ∃ L, (stepsN stpN [] (code t)).length = L := ⟨_, rfl⟩
    rw [hL] at hnm hokn hlen
    have HLL := hide hL
    clear hL
    have hiv := fun (W : World) => isVar_any f W
    have hdd : (decide (0 ≤ f) && decide (f ≤ 1099511627776)) = true := by simp [hf0, hf1]
    simp only [hdd] at hiv
    have hwr : IntKind.i64.wrap (f + (L : Nat) - 1) = f + (L : Nat) - 1 := by simp [IntKind.wrap, IntKind.bits, IntKind.signed]; omega
    simp only [TV.val] at hnm hck ⊢
    have HNM := hide hnm
    have HOKN := hide hokn
    clear hT hok hokc hnm hokn hdd hB1
    go_enter Tryz.func15, Tryz.ntmps15
    go_wp2_with fail
    refine hck.mono ?_
    clear hck
    rintro e W1 ⟨rfl, hb1⟩
    replace hH := hH.next hb1
    clear hb1
    go_wp2_with fail
    refine (hiv _).mono ?_
    clear hiv
    rintro e W2 ⟨rfl, hb2⟩
    replace hH := hH.next hb2
    clear hb2
    have c0 := hH.ba.c0
    have c1 := hH.ba.c1
    have c2 := hH.ba.c2
    have c3 := hH.ba.c3
    go_wp2_with fail
    refine ((unhide HNM) W2 hH.below).mono ?_
    clear c0 c1 c2 c3 HNM
    rintro e W3 ⟨x, rfl, hb3, hx⟩
    have hb4 : Below W3.heap.size W3 (W3.alloc (.cells #[.int .i64 x.k, .int .i64 x.N, .string x.s, .slice x.a x.len x.cap] 24)) := (Below.refl _ W3).alloc (Nat.le_refl _) _
    have hb24 := hb3.trans (hb4.mono hb3.size)
    have hlt2 := hH.lt
    replace hH := hH.next hb24
    have hbx := BoxT.new W3 x
    have hx4 : HoldsT (n + 1) W2.heap.size (W3.alloc (.cells #[.int .i64 x.k, .int .i64 x.N, .string x.s, .slice x.a x.len x.cap] 24)) x.val (canon f (code t)) := hx.below hb4
    obtain ⟨⟨z0, z1, z2, z3⟩, y0, y1, y2, y3⟩ := zbox_kept hH.bz
    by_cases hbig : f + (L : Nat) - 1 ≤ 1099511627776
    · have hg : ¬ 1099511627776 < f + (L : Nat) - 1 := by omega
      have hfin := (holds_set4 hx4 hlt2 0 x).mono (lo' := w.heap.size) (Nat.le_refl _) (by omega)
      have hbf := set4_below hH.below (b := w.heap.size + 1) (by omega) 0 x
      have b0 := hbx.c0
      have b1 := hbx.c1
      have b2 := hbx.c2
      have b3 := hbx.c3
      have HF := hide (And.intro hbf (And.intro ((unhide HOKN) hbig) hfin))
      clear hfin hbf hx4 hx hbx hH hb3 hb4 hb24 HOKN
      go_wp2_with fail
      exact bodyPost_ret (v := .tuple #[x.val, .int .i64 (f + (L : Nat)), .int .i64 0]) (by simp [results, Tryz.results15, go_sem, TV.val, z0, z1, z2, z3]) rfl ⟨x, _, 0, rfl, (unhide HF).1, .inl ⟨hf0, hf1, by rw [unhide HLL]; omega, rfl, by rw [unhide HLL], (unhide HF).2.2⟩⟩
    · have hg : 1099511627776 < f + (L : Nat) - 1 := by omega
      have hbf := set4_below hH.below (b := w.heap.size + 1) (by omega) 0 ⟨0, 0, ⟨#[]⟩, none, 0, 0⟩
      have HF := hide hbf
      clear hbf hx4 hx hbx hH hb3 hb4 hb24 hbig HOKN
      go_wp2_with fail
      exact bodyPost_ret (v := .tuple #[.agg #[.int .i64 0, .int .i64 0, .string ⟨#[]⟩, .slice none 0 0], .int .i64 0, .int .i64 9]) (by simp [results, Tryz.results15, go_sem, z0, z1, z2, z3]) rfl ⟨⟨0, 0, ⟨#[]⟩, none, 0, 0⟩, 0, 9, rfl, unhide HF, .inr (.inl ⟨hf0, hf1, by rw [unhide HLL]; omega, rfl, rfl, rfl⟩)⟩
  · have hiv := fun (W : World) => isVar_any f W
    have hdd : (decide (0 ≤ f) && decide (f ≤ 1099511627776)) = false := by
      rw [Bool.and_eq_false_iff, decide_eq_false_iff_not, decide_eq_false_iff_not]; omega
    simp only [hdd] at hiv
    simp only [TV.val] at hck ⊢
    clear hT hok hokc hdd hB1
    have HFF := hide hf
    clear hf
    go_enter Tryz.func15, Tryz.ntmps15
    go_wp2_with fail
    refine hck.mono ?_
    clear hck
    rintro e W1 ⟨rfl, hb1⟩
    replace hH := hH.next hb1
    clear hb1
    go_wp2_with fail
    refine (hiv _).mono ?_
    clear hiv
    rintro e W2 ⟨rfl, hb2⟩
    replace hH := hH.next hb2
    clear hb2
    obtain ⟨⟨z0, z1, z2, z3⟩, y0, y1, y2, y3⟩ := zbox_kept hH.bz
    have hbf := set4_below hH.below (b := w.heap.size + 1) (by omega) 0 ⟨0, 0, ⟨#[]⟩, none, 0, 0⟩
    have HF := hide hbf
    clear hbf hH
    go_wp2_with fail
    exact bodyPost_ret (v := .tuple #[.agg #[.int .i64 0, .int .i64 0, .string ⟨#[]⟩, .slice none 0 0], .int .i64 0, .int .i64 1]) (by simp [results, Tryz.results15, go_sem, z0, z1, z2, z3]) rfl ⟨⟨0, 0, ⟨#[]⟩, none, 0, 0⟩, 0, 1, rfl, unhide HF, .inr (.inr ⟨unhide HFF, rfl, rfl, rfl⟩)⟩

set_option maxRecDepth 100000 in
set_option maxHeartbeats 1000000 in
theorem rename_bad {n : Nat} (t : Tm n) (f : Int) (w : World) (hT : IsT w.heap.size w t) (hok : okT t = false) :
    Calls Tryz.prog 15 #[t.tv.val, .int .i64 f] w fun e W' => e = .returned (.tuple #[(⟨0, 0, ⟨#[]⟩, none, 0, 0⟩ : TV).val, .int .i64 0, .int .i64 2]) ∧ Below w.heap.size w W' := by
  have hH := Head.new w t.tv
  have hB1 : Below w.heap.size w ((w.alloc (.cells #[.int .i64 t.tv.k, .int .i64 t.tv.N, .string t.tv.s, .slice t.tv.a t.tv.len t.tv.cap] 24)).alloc (.cells #[.int .i64 0, .int .i64 0, .string ⟨#[]⟩, .slice none 0 0] 24)) := ((Below.refl _ w).alloc (Nat.le_refl _) _).alloc (by simp) _
  have hck := check_any t _ ((hT.below hB1).mono hB1.size)
  rw [chk_no hok] at hck
  simp only [TV.val] at hck ⊢
  clear hT hok hB1
  go_enter Tryz.func15, Tryz.ntmps15
  go_wp2_with fail
  refine hck.mono ?_
  clear hck
  rintro e W1 ⟨rfl, hb1⟩
  replace hH := hH.next hb1
  clear hb1
  obtain ⟨⟨z0, z1, z2, z3⟩, y0, y1, y2, y3⟩ := zbox_kept hH.bz
  have hbf := set4_below hH.below (b := w.heap.size + 1) (by omega) 0 ⟨0, 0, ⟨#[]⟩, none, 0, 0⟩
  have HF := hide hbf
  clear hbf hH
  go_wp2_with fail
  exact bodyPost_ret (v := .tuple #[.agg #[.int .i64 0, .int .i64 0, .string ⟨#[]⟩, .slice none 0 0], .int .i64 0, .int .i64 2]) (by simp [results, Tryz.results15, go_sem, z0, z1, z2, z3]) rfl ⟨rfl, unhide HF⟩
end Go.Proofs.YtiigkiemkhdclaaGreatDoor

