import Derived.Test.YtojefplapklbmaaGreatDoorVss
import Derived.Test.YtojefplapklbmaaGreatDoorNss
import Derived.Test.YtojefplapklbmaaGreatDoorVrs
import Derived.Test.YtojefplapklbmaaGreatDoorGes
/- The contracts of hornref.Swap and hornref.Rename: variables get new numbers. -/
namespace Go.Proofs.YtojefplapklbmaaGreatDoor
open Go.RowKit Go.Shelf Go.Maps

set_option maxRecDepth 100000 in
set_option maxHeartbeats 1000000 in
theorem rswap_var (ms : List Int) (la : Option Addr) (ll lc : Nat) (f : Int) (N : Int) (s : ByteArray) (a : Option Addr) (len cap : Nat) (W : World) (hl : IsN W la ll ms) (hf0 : 0 ≤ f) (hf1 : f ≤ 1099511627776) (hN : N ∈ ms) :
    Calls Tryz.prog 77 #[.agg #[.int .i64 1, .int .i64 N, .string s, .slice a len cap], .slice la ll lc, .int .i64 f] W fun e W' => ∃ x : TV, e = .returned x.val ∧ Below W.heap.size W W' ∧ HoldsS 1 (Mix 0 W.heap.size) W' x.val (renN f ms N) := by
  have hH := Head.new W ⟨1, N, s, a, len, cap⟩
  simp only at hH
  have hll := hl.1
  have hl2 := hl.2.1
  have hh := has_any ms la ll lc N _ (hl.below hH.below)
  have hidx : hasI ms N = (ms.idxOf N : Nat) := if_pos hN
  have hlt0 : ms.idxOf N < ms.length := List.idxOf_lt_length_of_mem hN
  rw [hidx] at hh
  have hren : renN f ms N = [varNd (f + (ms.idxOf N : Nat))] := rfl
  rw [hren]
  have hpos : ¬ ((ms.idxOf N : Nat) : Int) < 0 := by omega
  have hle : ((ms.idxOf N : Nat) : Int) ≤ 1152921504606846976 := by omega
  clear hl hidx hN hren hlt0 hll
  generalize ms.idxOf N = p at *
  go_enter Tryz.func77, Tryz.ntmps77
  go_wp2_with fail
  refine hh.mono ?_
  clear hh
  rintro e W1 ⟨rfl, hb1⟩
  replace hH := hH.next hb1
  have hv := v_any (f + (p : Nat)) W1
  simp only [TV.val, varV] at hv
  have HH := hide hH
  have HB := hide hb1
  clear hH hb1
  go_wp2_with fail
  refine hv.mono ?_
  clear hv
  rintro e W2 ⟨rfl, hb2⟩
  have hH := (unhide HH).next hb2
  obtain ⟨⟨z0, z1, z2, z3⟩, y0, y1, y2, y3⟩ := zbox_kept hH.bz
  have hlt : W.heap.size + 1 < W2.heap.size := hH.lt
  have hfin : HoldsS 1 (Mix 0 W.heap.size) (set4 W2 (W.heap.size + 1) 0 (varV (f + (p : Nat)))) (varV (f + (p : Nat))).val [varNd (f + (p : Nat))] := (varV_holds (f + (p : Nat)) W.heap.size _).holdsS.mono (Nat.le_refl _) (fun b hb => .inr hb)
  have hbf : Below W.heap.size W (set4 W2 (W.heap.size + 1) 0 (varV (f + (p : Nat)))) := set4_below hH.below (by omega) 0 _
  have HF := hide hfin
  have HBF := hide hbf
  clear hfin hbf hH hb2
  go_wp2_with fail
  refine bodyPost_ret (v := (varV (f + (p : Nat))).val) ?_ rfl ⟨_, rfl, unhide HBF, unhide HF⟩
  simp [results, Tryz.results77, go_sem, TV.val, varV, z0, z1, z2, z3]

set_option maxRecDepth 100000 in
set_option maxHeartbeats 1000000 in
theorem rswap_comp (ms : List Int) (la : Option Addr) (ll lc : Nat) (f : Int) (D : Nat) {d : Nat}
    (ih : ∀ (u : Tm d) (W : World), IsN W la ll ms → IsT W.heap.size W u → okT u = true → (∀ N, IsVarOf (code u) N → N ∈ ms) → Calls Tryz.prog 77 #[u.tv.val, .slice la ll lc, .int .i64 f] W fun e W' => ∃ x : TV, e = .returned x.val ∧ Below W.heap.size W W' ∧ HoldsS D (Mix 0 W.heap.size) W' x.val ((code u).flatMap (subN (renN f ms))))
    (k N : Int) (s : ByteArray) (a : Option Addr) (len cap : Nat) (kids : List (Tm d)) (W : World) (hl : IsN W la ll ms) (hk1 : k ≠ 1) (hs : s.size ≤ 9223372036854775807) (hl50 : len ≤ 50) (hlen : len = kids.length)
    (hkids : kids = [] ∨ ∃ b off, a = some ⟨b, off, none⟩ ∧ b < W.heap.size ∧ ∀ j u, kids[j]? = some u → cellsAt W b (off + j * 4) u.tv ∧ IsT W.heap.size W u) (hok : ∀ u ∈ kids, okT u = true) (hin : ∀ u ∈ kids, ∀ N, IsVarOf (code u) N → N ∈ ms) :
    Calls Tryz.prog 77 #[.agg #[.int .i64 k, .int .i64 N, .string s, .slice a len cap], .slice la ll lc, .int .i64 f] W fun e W' => ∃ x : TV, e = .returned x.val ∧ Below W.heap.size W W' ∧ HoldsS (D + 1) (Mix 0 W.heap.size) W' x.val ((k, N, s.toList, len) :: (kids.flatMap code).flatMap (subN (renN f ms))) := by
  have hl1 : len ≤ kids.length := by omega
  have hl2 : kids.length ≤ len := by omega
  have hk1' : (k == 1) = false := by simp [hk1]
  clear hlen hk1
  have hH := Head.new W ⟨k, N, s, a, len, cap⟩
  simp only at hH
  have HI := hide ih
  have HO := hide hok
  have HIN := hide hin
  have HL := hide hl
  clear ih hok hl hin
  obtain ⟨i0, hi, hz0, hz1, hz2⟩ := info_parts Tryz.info28
  go_enter Tryz.func77, Tryz.ntmps77
  go_wp2_with fail
  obtain ⟨W2, hW2⟩ : ∃ W2, (W.alloc (.cells #[.int .i64 k, .int .i64 N, .string s, .slice a len cap] 24)).alloc (.cells #[.int .i64 0, .int .i64 0, .string ⟨#[]⟩, .slice none 0 0] 24) = W2 := ⟨_, rfl⟩
  have hsz2 : ((W.alloc (.cells #[.int .i64 k, .int .i64 N, .string s, .slice a len cap] 24)).alloc (.cells #[.int .i64 0, .int .i64 0, .string ⟨#[]⟩, .slice none 0 0] 24)).heap.size = W.heap.size + 2 := by simp
  rw [hW2] at hH hsz2 ⊢
  clear hW2
  have HH := hide hH
  have HSZ := hide hsz2
  clear hH hsz2
  go_loopw [8, 9] (fun av i wr => ∃ (j : Nat) (l : List TV), j ≤ len ∧ i = .int .i64 j ∧ l.length = j ∧ Below (W.heap.size + 2) W2 wr ∧ Made D (Mix 0 (W.heap.size + 2)) (W.heap.size + 2) wr av l (((kids.take j).flatMap code).flatMap (subN (renN f ms)))) (fun _ i _ => len - (intOf i).toNat)
  case atStart => exact ⟨0, [], Nat.zero_le _, rfl, rfl, Below.refl _ _, Made.zero _ _ _ _⟩
  case round =>
    obtain ⟨j, l, hj, rfl, hll, hb, hm⟩ := hrel
    have hb' : Below W2.heap.size W2 wr := by rw [unhide HSZ]; exact hb
    have hH := (unhide HH).next hb'
    have x2 := hH.ba.c2
    have x3 := hH.ba.c3
    have x0 := hH.ba.c0
    have x1 := hH.ba.c1
    simp only at x0 x1 x2 x3
    have HHr := hide hH
    have HM := hide hm
    have HLL := hide hll
    clear hH hm hll
    by_cases hlt : j < len
    · obtain ⟨u, b, off, hu, rfl, ⟨c0, c1, c2, c3⟩, hT, hbk⟩ := kid_at hkids (unhide HHr).below hlt hl1
      have ihu := (unhide HI) u wr ((unhide HL).below (unhide HHr).below) hT ((unhide HO) u (List.mem_of_getElem? hu)) ((unhide HIN) u (List.mem_of_getElem? hu))
      have hcode := code_take kids j u hu
      have HC := hide hcode
      clear hT hkids hu hcode
      simp only [TV.val] at ihu
      have hj1 : (j : Int) < len := by omega
      go_wp2_with fail
      refine ihu.mono ?_
      clear ihu
      rintro e W5 ⟨x, rfl, hb5, hx⟩
      dsimp only [TV.val]
      clear x0 x1 x2 x3 c0 c1 c2 c3
      have hown5 : (W5.alloc (.cells #[.int .i64 x.k, .int .i64 x.N, .string x.s, .slice x.a x.len x.cap] 24)).ownsRow (W.heap.size + 2) 24 4 u8 l.length (l.flatMap TV.row) :=
        owns_below (unhide HM).owns (fun g hg => by
          have hlt := (owns_lt (unhide HM).owns hg).2
          exact (Below.heap_alloc _ _ _ (Nat.lt_of_lt_of_le hlt hb5.size)).trans (hb5.block g hlt))
      go_wp2_with (at_builtin; go_must (refine wpList_append_own_at _ rfl _ _ 22 rfl (W.heap.size + 2) 24 i0 _ 4 56 Tryz.underlying22 hi hz0 hz1 hz2 rfl (by decide) u8 l.length (l.flatMap TV.row) rfl hown5 ⟨W5.heap.size, 0, none⟩ 1 1 x.row rfl rfl new_cells row_one (by have := unhide HLL; unfold maxLen; omega) (by have := unhide HLL; omega) (by have := hb5.size; have := hb'.size; have := unhide HSZ; simp; omega) ?_; intro v' w1 hown' hgrow hnil hbk))
      have hgl : ∀ g, u8.ownBlock = some g → W.heap.size + 2 ≤ g ∧ g < wr.heap.size := fun g hg => owns_lt (unhide HM).owns hg
      have hwr : W.heap.size + 2 ≤ wr.heap.size := by have := hb'.size; have := unhide HSZ; omega
      have hmade := (unhide HM).next hb5 (hx.mono (Nat.le_refl _) (fun b hb => ⟨by unfold Mix at hb ⊢; omega, fun e => by have := hgl b e; unfold Mix at hb; omega⟩)) hown' hgrow (by simpa using hbk)
      rw [← List.flatMap_append, ← unhide HC] at hmade
      have hbel : Below (W.heap.size + 2) W2 w1 := ((hb.trans (hb5.mono hwr)).alloc (Nat.le_trans hwr hb5.size) _).grown hgrow (by have := hb5.size; simp; omega) (fun g hg => (hgl g hg).1)
      exact ⟨⟨j + 1, l ++ [x], by omega, by go_num, by simp [unhide HLL], hbel, hmade⟩, by simp [intOf]; omega⟩
    · have hjl : j = len := by omega
      have ht : kids.take j = kids := List.take_of_length_le (by omega)
      have hm := unhide HM
      rw [ht] at hm
      obtain ⟨a', cap', rfl, hfin⟩ := args_end (k := k) (N := N) (s := s) (len := len) (by rw [unhide HLL, hjl]) hl50 hs (unhide HHr).below (Nat.zero_le _) hm
      obtain ⟨⟨z0, z1, z2, z3⟩, y0, y1, y2, y3⟩ := zbox_kept (unhide HHr).bz
      have f3 : wr.frozen? ⟨W.heap.size, 3, none⟩ = false := by simp [World.frozen?, show wr.heap[W.heap.size]? = _ from (unhide HHr).ba]
      obtain ⟨f1, f2⟩ := hfin
      have F1 := hide f1
      have F2 := hide f2
      have hlt' : ¬ (j : Int) < (len : Int) := by omega
      clear f1 f2 hm ht hkids hjl
      go_wp2_with fail
      refine bodyPost_ret (v := (⟨k, N, s, a', len, cap'⟩ : TV).val) ?_ rfl ⟨_, rfl, unhide F1, unhide F2⟩
      simp [results, Tryz.results77, go_sem, TV.val, z0, z1, z2, z3]

/-- hornref.Swap, whatever the term. -/
theorem rswap_any (ms : List Int) (la : Option Addr) (ll lc : Nat) (f : Int) (hf0 : 0 ≤ f) (hf1 : f ≤ 1099511627776) : ∀ (d : Nat) (t : Tm d) (W : World), IsN W la ll ms → IsT W.heap.size W t → okT t = true → (∀ N, IsVarOf (code t) N → N ∈ ms) →
    Calls Tryz.prog 77 #[t.tv.val, .slice la ll lc, .int .i64 f] W fun e W' => ∃ x : TV, e = .returned x.val ∧ Below W.heap.size W W' ∧ HoldsS (d + 1) (Mix 0 W.heap.size) W' x.val ((code t).flatMap (subN (renN f ms))) := by
  intro d
  induction d with
  | zero => intro t; exact Empty.elim t
  | succ d ih =>
    intro t W hl hT hok hin
    obtain ⟨⟨k, N, s, a, len, cap⟩, kids⟩ := t
    obtain ⟨hwm, hk⟩ := ok_kids hok
    obtain ⟨h1, h2, h3, h4⟩ := hT
    simp only [Tm.tv, Tm.kids] at h1 h2 h3 h4 hwm
    rw [code_succ] at hin ⊢
    rw [List.flatMap_cons]
    by_cases hk1 : k = 1
    · subst hk1
      have hl0 : len = 0 := by
        rcases wm_cases hwm with ⟨_, _, _, _, h⟩ | ⟨h, _⟩ | ⟨h, _⟩
        · exact h
        · omega
        · omega
      subst hl0
      have hnil : kids = [] := List.length_eq_zero_iff.1 h1.symm
      subst hnil
      refine (rswap_var ms la ll lc f N s a 0 cap W hl hf0 hf1 (hin N ⟨_, List.mem_cons_self, rfl, rfl⟩)).mono fun e W' h => ?_
      obtain ⟨x, he, hb', hv⟩ := h
      exact ⟨x, he, hb', by simpa [subN, TV.nd] using hv.mono (by omega) (fun _ h => h)⟩
    · have hl50 : len ≤ 50 := by
        rcases wm_cases hwm with ⟨h, _⟩ | ⟨_, h⟩ | ⟨_, _, _, h⟩ <;> omega
      refine (rswap_comp ms la ll lc f (d + 1) ih k N s a len cap kids W hl hk1 h3 hl50 h1 h4 hk (fun u hu M hM => hin M ?_)).mono fun e W' h => ?_
      · obtain ⟨y, hy, e1, e2⟩ := hM
        exact ⟨y, List.mem_cons_of_mem _ (List.mem_flatMap.2 ⟨u, hu, hy⟩), e1, e2⟩
      · obtain ⟨x, he, hb', hv⟩ := h
        exact ⟨x, he, hb', by simpa [subN, TV.nd, hk1] using hv.mono (by omega) (fun _ h => h)⟩

theorem steps_all {c : List Nd} : ∀ N, IsVarOf c N → N ∈ varsC [] c := fun N h => (steps_mem c [] N).2 (.inr h)
theorem ret_same {v v' : Value} (h : v = v') : Ending.returned v = .returned v' := by rw [h]

set_option maxRecDepth 100000 in
set_option maxHeartbeats 2000000 in
/-- hornref.Rename. -/
theorem rrename_any {d : Nat} (t : Tm d) (f : Int) (w : World) (hT : IsT w.heap.size w t) (hok : okT t = true) (hl : (code t).length ≤ 4194304) (hf0 : 0 ≤ f) (hf1 : f ≤ 1099511627776) :
    Calls Tryz.prog 42 #[t.tv.val, .int .i64 f] w fun e W' => ∃ x : TV, e = .returned x.val ∧ Below w.heap.size w W' ∧ HoldsS (d + 1) (fun _ => True) W' x.val (canon f (code t)) := by
  have hH := Head.new w t.tv
  obtain ⟨W1, hW1⟩ : ∃ W1, (w.alloc (.cells #[.int .i64 t.tv.k, .int .i64 t.tv.N, .string t.tv.s, .slice t.tv.a t.tv.len t.tv.cap] 24)).alloc (.cells #[.int .i64 0, .int .i64 0, .string ⟨#[]⟩, .slice none 0 0] 24) = W1 := ⟨_, rfl⟩
  rw [hW1] at hH
  have hT1 : IsT W1.heap.size W1 t := (hT.below hH.below).mono hH.below.size
  have hbA : Below W1.heap.size W1 (W1.drew.alloc (.cells #[.int .i64 t.tv.k, .int .i64 t.tv.N, .string t.tv.s, .slice t.tv.a t.tv.len t.tv.cap] 24)) := ((Below.refl _ W1).drew).alloc (Nat.le_refl _) _
  have hV := (rVars_one t W1.heap.size 0 1 _ ((hT1.below hbA).mono hbA.size) (by
    have h := BoxT.new W1.drew t.tv
    exact ⟨h.c0, h.c1, h.c2, h.c3⟩) hok hl).mono (R' := fun e W3 => ∃ va vl vc, e = .returned (.slice va vl vc) ∧ Below W1.heap.size W1 W3 ∧ Calls Tryz.prog 77 #[t.tv.val, .slice va vl vc, .int .i64 f] W3 fun e W5 => ∃ x : TV, e = .returned x.val ∧ Below W1.heap.size W1 W5 ∧ HoldsS (d + 1) (Mix 0 W3.heap.size) W5 x.val (canon f (code t))) (fun e W3 h => by
    obtain ⟨v, he, hb3, hv⟩ := h
    have hvl := varsC_len [] (code t)
    obtain ⟨va, vc, rfl, hN⟩ := hv.isN (by simp at hvl; omega)
    have hb3' : Below W1.heap.size W1 W3 := hbA.trans (hb3.mono (by simp))
    exact ⟨va, _, vc, he, hb3', (rswap_any _ va _ vc f hf0 hf1 d t W3 hN ((hT1.below hb3').mono hb3'.size) hok steps_all).mono fun e W5 h => by
      obtain ⟨x, e1, e2, e3⟩ := h
      exact ⟨x, e1, hb3'.trans (e2.mono hb3'.size), e3⟩⟩)
  have c0 := hH.ba.c0
  have c1 := hH.ba.c1
  have c2 := hH.ba.c2
  have c3 := hH.ba.c3
  have hy1 : w.heap.size < W1.heap.size := hH.ba.lt
  have hy2 : w.heap.size + 1 < W1.heap.size := hH.lt
  have hzb := hH.bz
  obtain ⟨⟨z0, z1, z2, z3⟩, -⟩ := zbox_kept hzb
  have HH := hide hH
  generalize canon f (code t) = cf at *
  clear hT hok hl hT1 hbA hH
  simp only [TV.val] at hV ⊢
  go_enter Tryz.func42, Tryz.ntmps42
  go_wp2_with fail
  clear hW1
  go_region_held3 (fun w' => w'.cell? ⟨w.heap.size, 0, none⟩ = some (.int .i64 t.tv.k) ∧ w'.cell? ⟨w.heap.size, 1, none⟩ = some (.int .i64 t.tv.N) ∧ w'.cell? ⟨w.heap.size, 2, none⟩ = some (.string t.tv.s) ∧ w'.cell? ⟨w.heap.size, 3, none⟩ = some (.slice t.tv.a t.tv.len t.tv.cap)) (go_keep)
    (first | (go_at_call 39; refine hV.mono ?_; clear hV; rintro e W3 ⟨va, vl, vc, rfl, hb3, hS3⟩; have hbc := bcell hb3) | (go_at_call 77; refine hS3.mono ?_; clear hS3; rintro e W5 ⟨x, rfl, hb5, hx⟩; have hbd := bcell hb5; obtain ⟨-, y0, y1, y2, y3⟩ := zbox_kept ((hb5.block (w.heap.size + 1) hy2).trans hzb)))
  obtain ⟨⟨q0, q1, q2, q3⟩, -⟩ := zbox_kept ((hb5.block (w.heap.size + 1) hy2).trans hzb)
  have hB5 : Below w.heap.size w W5 := (unhide HH).below.trans (hb5.mono (unhide HH).below.size)
  have hb3s := hb3.size
  have hfin : HoldsS (d + 1) (fun _ => True) (set4 W5 (w.heap.size + 1) 0 x) x.val cf := (hx.fromS (fun b hb _ => set4_other _ _ 0 x (by unfold Mix at hb; omega)) (by rw [set4_size]; exact Nat.le_refl _)).mono (Nat.le_refl _) (fun _ _ => trivial)
  have hbf : Below w.heap.size w (set4 W5 (w.heap.size + 1) 0 x) := set4_below hB5 (by omega) 0 x
  have HF := hide hfin
  have HBF := hide hbf
  clear hfin hbf hx hB5 hb5 hb3 hbc hbd z0 z1 z2 z3
  go_wp2_with fail
  refine bodyPost_ret (v := x.val) ?_ rfl ⟨x, rfl, unhide HBF, unhide HF⟩
  simp [results, Tryz.results42, go_sem, TV.val, q0, q1, q2, q3]
end Go.Proofs.YtojefplapklbmaaGreatDoor

/- The contract of term.Rename, whatever it is asked. -/
namespace Go.Proofs.YtojefplapklbmaaGreatDoor
open Go.RowKit Go.Shelf Go.Maps

end Go.Proofs.YtojefplapklbmaaGreatDoor

/- The part at a path: the contracts of term.placeOf, term.At and hornref.At. -/
namespace Go.Proofs.YtojefplapklbmaaGreatDoor
open Go.RowKit Go.Shelf Go.Maps

/-- The part at a path. -/
def atT : List Int → {n : Nat} → Tm n → Option (Σ m, Tm m)
  | [], n, t => some ⟨n, t⟩
  | _ :: _, 0, t => Empty.elim t
  | k :: r, _ + 1, t => if 0 ≤ k ∧ k < (t.kids.length : Int) then (t.kids[k.toNat]?).bind fun u => atT r u else none
theorem atT_go {k : Int} {r : List Int} {n : Nat} {t : Tm (n + 1)} {u : Tm n} {j : Nat} (hk : k = (j : Nat)) (hu : t.kids[j]? = some u) : atT (k :: r) t = atT r u := by
  subst hk
  have hj := (List.getElem?_eq_some_iff.1 hu).1
  simp only [atT]
  rw [if_pos ⟨by omega, by omega⟩, Int.toNat_natCast, hu]
  rfl
theorem atT_no {k : Int} {r : List Int} {n : Nat} {t : Tm (n + 1)} (hk : ¬ (0 ≤ k ∧ k < (t.kids.length : Int))) : atT (k :: r) t = none := by
  simp only [atT]
  rw [if_neg hk]

/-- What placeOf answers. -/
def PlaceSays (n₀ : Nat) (W : World) (r : Option (Σ m, Tm m)) (e : Ending) : Prop :=
  (r = none ∧ e = .returned (.pointer none)) ∨ ∃ (m : Nat) (u : Tm m) (b o : Nat), r = some ⟨m, u⟩ ∧ e = .returned (.pointer (some ⟨b, o, none⟩)) ∧ cellsAt W b o u.tv ∧ IsT n₀ W u

set_option maxRecDepth 100000 in
set_option maxHeartbeats 2000000 in
theorem placeOf_any {n₀ n : Nat} (ns : List Int) (a : Option Addr) (len cap : Nat) (t : Tm n) (b o : Nat) (W : World) (hN : IsN W a len ns) (hc : cellsAt W b o t.tv) (hT : IsT n₀ W t) :
    Calls Tryz.prog 67 #[.pointer (some ⟨b, o, none⟩), .slice a len cap] W fun e W' => PlaceSays n₀ W (atT ns t) e ∧ W' = W := by
  have h1 := hN.1
  have h2 := hN.2.1
  have hl1 : len ≤ ns.length := by omega
  have hl2 : ns.length ≤ len := by omega
  clear h1
  have HN := hide hN
  clear hN
  go_enter Tryz.func67, Tryz.ntmps67
  go_wp2_with fail
  go_loop [0, 9] (fun p i => ∃ (j m : Nat) (u : Tm m) (b o : Nat), j ≤ len ∧ i = .int .i64 j ∧ p = .pointer (some ⟨b, o, none⟩) ∧ cellsAt W b o u.tv ∧ IsT n₀ W u ∧ atT ns t = atT (ns.drop j) u) (fun _ i => len - (intOf i).toNat)
  case atStart => exact ⟨0, n, t, b, o, Nat.zero_le _, rfl, rfl, hc, hT, rfl⟩
  case round =>
    obtain ⟨j, m, u, b, o, hj, rfl, rfl, hcu, hTu, hat⟩ := hrel
    by_cases hlt : j < len
    · obtain ⟨k, pb, off, hk, rfl, c0⟩ := num_at (unhide HN) hlt
      have hdrop : ns.drop j = k :: ns.drop (j + 1) := by
        obtain ⟨hj', hk'⟩ := List.getElem?_eq_some_iff.1 hk
        rw [List.drop_eq_getElem_cons hj', hk']
      rw [hdrop] at hat
      have hj1 : (j : Int) < len := by omega
      cases m with
      | zero => exact Empty.elim u
      | succ m =>
        obtain ⟨⟨uk, uN, us, ua, ul, uc⟩, kids⟩ := u
        obtain ⟨d0, d1, d2, d3⟩ := hcu
        obtain ⟨hlen, hmax, hsm, hkids⟩ := hTu
        simp only [Tm.tv, Tm.kids] at hlen hmax hkids d3
        by_cases hin : 0 ≤ k ∧ k < (ul : Int)
        · obtain ⟨q, hq⟩ : ∃ q : Nat, k = (q : Nat) := ⟨k.toNat, by omega⟩
          subst hq
          have hql : q < kids.length := by omega
          obtain ⟨z, hz⟩ : ∃ z, kids[q]? = some z := ⟨kids[q], List.getElem?_eq_getElem hql⟩
          have hne : kids ≠ [] := by rintro rfl; simp at hz
          obtain ⟨bk, ok, rfl, hbk, hkk⟩ := hkids.resolve_left hne
          obtain ⟨hcz, hTz⟩ := hkk q z hz
          have hnx : atT ns t = atT (ns.drop (j + 1)) z := hat.trans (atT_go rfl hz)
          have hq1 : (q : Int) < ul := by omega
          have hq0 : ¬ (q : Int) < 0 := by omega
          have hq2 : q < ul := by omega
          have HX := hide (And.intro hcz (And.intro hTz hnx))
          clear hcz hTz hnx hkk hkids hz hne hat hdrop hin hsm d0 d1 d2
          go_wp2_with fail
          exact ⟨⟨j + 1, m, z, bk, ok + q * 4, by omega, by go_num, rfl, (unhide HX).1, (unhide HX).2.1, (unhide HX).2.2⟩, by simp [intOf]; omega⟩
        · have hno : atT ns t = none := hat.trans (atT_no (by simpa [Tm.kids, ← hlen] using hin))
          have HNO := hide hno
          clear hno hat hdrop hkids hsm d0 d1 d2
          by_cases hk0 : k < 0
          · go_wp2_with fail
            go_ret
            exact ⟨.inl ⟨unhide HNO, rfl⟩, rfl⟩
          · have hk1 : (ul : Int) ≤ k := by omega
            go_wp2_with fail
            go_ret
            exact ⟨.inl ⟨unhide HNO, rfl⟩, rfl⟩
    · have hd : ns.drop j = [] := List.drop_of_length_le (by omega)
      rw [hd] at hat
      have HAT := hide hat
      clear hat hd
      go_wp2_with fail
      go_ret
      exact ⟨.inr ⟨m, u, b, o, (unhide HAT), rfl, hcu, hTu⟩, rfl⟩

theorem atT_ok : ∀ (ns : List Int) {n : Nat} {t : Tm n} {m : Nat} {u : Tm m}, okT t = true → atT ns t = some ⟨m, u⟩ → okT u = true
  | [], n, t, m, u, h, e => by
    simp only [atT, Option.some.injEq, Sigma.mk.injEq] at e
    obtain ⟨rfl, e⟩ := e
    cases e
    exact h
  | k :: r, 0, t, _, _, _, _ => Empty.elim t
  | k :: r, n + 1, t, m, u, h, e => by
    simp only [atT] at e
    split at e
    · cases hz : t.kids[k.toNat]? with
      | none => rw [hz] at e; cases e
      | some z =>
        rw [hz] at e
        exact atT_ok r (ok_kids' h z (List.mem_of_getElem? hz)) e
    · cases e
theorem atT_isT {n₀ : Nat} {W : World} : ∀ (ns : List Int) {n : Nat} {t : Tm n} {m : Nat} {u : Tm m}, IsT n₀ W t → atT ns t = some ⟨m, u⟩ → IsT n₀ W u
  | [], n, t, m, u, h, e => by
    simp only [atT, Option.some.injEq, Sigma.mk.injEq] at e
    obtain ⟨rfl, e⟩ := e
    cases e
    exact h
  | k :: r, 0, t, _, _, _, _ => Empty.elim t
  | k :: r, n + 1, t, m, u, h, e => by
    simp only [atT] at e
    split at e
    · cases hz : t.kids[k.toNat]? with
      | none => rw [hz] at e; cases e
      | some z =>
        rw [hz] at e
        obtain ⟨_, _, _, h4⟩ := h
        have hne : t.kids ≠ [] := fun e' => by rw [e'] at hz; simp at hz
        obtain ⟨b, off, _, _, hk⟩ := h4.resolve_left hne
        exact atT_isT r (hk _ z hz).2 e
    · cases e
theorem atT_parts : ∀ (ns : List Int) {n : Nat} {t : Tm n} {m : Nat} {u : Tm m}, atT ns t = some ⟨m, u⟩ → (parts u).length ≤ (parts t).length
  | [], n, t, m, u, e => by
    simp only [atT, Option.some.injEq, Sigma.mk.injEq] at e
    obtain ⟨rfl, e⟩ := e
    cases e
    exact Nat.le_refl _
  | k :: r, 0, t, _, _, _ => Empty.elim t
  | k :: r, n + 1, t, m, u, e => by
    simp only [atT] at e
    split at e
    · cases hz : t.kids[k.toNat]? with
      | none => rw [hz] at e; cases e
      | some z =>
        rw [hz] at e
        have h1 := atT_parts r e
        have h2 := pre_parts t.kids _ z hz
        have h3 : (parts t).length = (t.kids.flatMap parts).length + 1 := by simp [parts]
        omega
    · cases e
def zeroT : TV := ⟨0, 0, ⟨#[]⟩, none, 0, 0⟩

set_option maxRecDepth 100000 in
set_option maxHeartbeats 1000000 in
theorem at_bad {n : Nat} (t : Tm n) (a : Option Addr) (len cap : Nat) (w : World) (hT : IsT w.heap.size w t) (hok : okT t = false) :
    Calls Tryz.prog 21 #[t.tv.val, .slice a len cap] w fun e W' => e = .returned (.tuple #[zeroT.val, .int .i64 2]) ∧ Below w.heap.size w W' := by
  have hH := Head.new w t.tv
  have hB1 : Below w.heap.size w ((w.alloc (.cells #[.int .i64 t.tv.k, .int .i64 t.tv.N, .string t.tv.s, .slice t.tv.a t.tv.len t.tv.cap] 24)).alloc (.cells #[.int .i64 0, .int .i64 0, .string ⟨#[]⟩, .slice none 0 0] 24)) := ((Below.refl _ w).alloc (Nat.le_refl _) _).alloc (by simp) _
  have hck := check_any t _ ((hT.below hB1).mono hB1.size)
  rw [chk_no hok] at hck
  simp only [TV.val, zeroT] at hck ⊢
  clear hT hok hB1
  go_enter Tryz.func21, Tryz.ntmps21
  go_wp2_with fail
  refine hck.mono ?_
  clear hck
  rintro e W1 ⟨rfl, hb1⟩
  replace hH := hH.next hb1
  clear hb1
  obtain ⟨⟨z0, z1, z2, z3⟩, y0, y1, y2, y3⟩ := zbox_kept hH.bz
  have hbf := set4_below hH.below (b := w.heap.size + 1) (by omega) 0 zeroT
  unfold zeroT at hbf
  have HF := hide hbf
  clear hbf hH
  go_wp2_with fail
  exact bodyPost_ret (v := .tuple #[.agg #[.int .i64 0, .int .i64 0, .string ⟨#[]⟩, .slice none 0 0], .int .i64 2]) (by simp [results, Tryz.results21, go_sem, z0, z1, z2, z3]) rfl ⟨rfl, unhide HF⟩

/-- What At answers, of a term. -/
def AtSays (lo : Nat) (W' : World) (r : Option (Σ m, Tm m)) (x : TV) (e : Int) : Prop :=
  (r = none ∧ x = zeroT ∧ e = 8) ∨ ∃ (m : Nat) (u : Tm m), r = some ⟨m, u⟩ ∧ e = 0 ∧ HoldsT (m + 1) lo W' x.val (code u)

set_option maxRecDepth 100000 in
set_option maxHeartbeats 2000000 in
theorem at_any {n : Nat} (t : Tm n) (ns : List Int) (a : Option Addr) (len cap : Nat) (w : World) (hT : IsT w.heap.size w t) (hok : okT t = true) (hN : IsN w a len ns) :
    Calls Tryz.prog 21 #[t.tv.val, .slice a len cap] w fun e W' => ∃ (x : TV) (r : Int), e = .returned (.tuple #[x.val, .int .i64 r]) ∧ Below w.heap.size w W' ∧ AtSays w.heap.size W' (atT ns t) x r := by
  have hH := Head.new w t.tv
  have hB1 : Below w.heap.size w ((w.alloc (.cells #[.int .i64 t.tv.k, .int .i64 t.tv.N, .string t.tv.s, .slice t.tv.a t.tv.len t.tv.cap] 24)).alloc (.cells #[.int .i64 0, .int .i64 0, .string ⟨#[]⟩, .slice none 0 0] 24)) := ((Below.refl _ w).alloc (Nat.le_refl _) _).alloc (by simp) _
  have hck := check_any t _ ((hT.below hB1).mono hB1.size)
  rw [chk_yes hok] at hck
  have hpl := fun (W : World) (hb : Below w.heap.size w W) (hx : BoxT W w.heap.size t.tv) => placeOf_any (n₀ := w.heap.size) ns a len cap t w.heap.size 0 W (hN.below hb) ⟨hx.c0, hx.c1, hx.c2, hx.c3⟩ (hT.below hb)
  have hoku := fun m u => atT_ok ns (t := t) (m := m) (u := u) hok
  generalize atT ns t = r at *
  have HPL := hide hpl
  have HOU := hide hoku
  simp only [TV.val] at hck ⊢
  clear hT hok hB1 hN hpl hoku
  go_enter Tryz.func21, Tryz.ntmps21
  go_wp2_with fail
  refine hck.mono ?_
  clear hck
  rintro e W1 ⟨rfl, hb1⟩
  replace hH := hH.next hb1
  clear hb1
  have hp1 := (unhide HPL) W1 hH.below hH.ba
  go_wp2_with fail
  refine hp1.mono ?_
  clear hp1
  rintro e W2 ⟨hps, rfl⟩
  rcases hps with ⟨rfl, rfl⟩ | ⟨m, u, b, o, rfl, rfl, hcu, hTu⟩
  · obtain ⟨⟨z0, z1, z2, z3⟩, y0, y1, y2, y3⟩ := zbox_kept hH.bz
    have hbf := set4_below hH.below (b := w.heap.size + 1) (by omega) 0 zeroT
    unfold zeroT at hbf
    have HF := hide hbf
    clear hbf hH
    go_wp2_with fail
    exact bodyPost_ret (v := .tuple #[.agg #[.int .i64 0, .int .i64 0, .string ⟨#[]⟩, .slice none 0 0], .int .i64 8]) (by simp [results, Tryz.results21, go_sem, z0, z1, z2, z3]) rfl ⟨zeroT, 8, rfl, unhide HF, .inl ⟨rfl, rfl, rfl⟩⟩
  · have hTs : IsT W2.heap.size W2 u := hTu.mono hH.below.size
    have hcp := copy_any u W2 hTs ((unhide HOU) m u rfl)
    obtain ⟨c0, c1, c2, c3⟩ := hcu
    have HH := hide hH
    simp only [TV.val] at hcp
    clear hTu hTs hH
    go_wp2_with fail
    refine hcp.mono ?_
    clear hcp
    rintro e W3 ⟨x, rfl, hb3, hx⟩
    have hlt2 := (unhide HH).lt
    have hH := (unhide HH).next hb3
    obtain ⟨⟨z0, z1, z2, z3⟩, y0, y1, y2, y3⟩ := zbox_kept hH.bz
    have hfin := (holds_set4 hx (b := w.heap.size + 1) hlt2 0 x).mono (lo' := w.heap.size) (Nat.le_refl _) (by omega)
    have hbf := set4_below hH.below (b := w.heap.size + 1) (by omega) 0 x
    have HF := hide (And.intro hbf hfin)
    clear hfin hbf hx hH hb3 c0 c1 c2 c3
    go_wp2_with fail
    exact bodyPost_ret (v := .tuple #[x.val, .int .i64 0]) (by simp [results, Tryz.results21, go_sem, TV.val, z0, z1, z2, z3]) rfl ⟨x, 0, rfl, (unhide HF).1, .inr ⟨m, u, rfl, rfl, (unhide HF).2⟩⟩

set_option maxRecDepth 100000 in
set_option maxHeartbeats 2000000 in
theorem rat_any : ∀ (ns : List Int) (n : Nat) (t : Tm n) (a : Option Addr) (len cap : Nat) (W : World), IsN W a len ns → len ≤ cap → IsT W.heap.size W t →
    Calls Tryz.prog 40 #[t.tv.val, .slice a len cap] W fun e W' => Below W.heap.size W W' ∧ ((atT ns t = none ∧ e = .returned (.tuple #[zeroT.val, .bool false])) ∨ ∃ (m : Nat) (u : Tm m), atT ns t = some ⟨m, u⟩ ∧ e = .returned (.tuple #[u.tv.val, .bool true])) := by
  intro ns
  induction ns with
  | nil =>
    intro n t a len cap W hN hcap hT
    have hl0 : len = 0 := hN.1
    subst hl0
    have hH := Head.new W t.tv
    clear hT hN
    simp only [TV.val, zeroT]
    go_enter Tryz.func40, Tryz.ntmps40
    have hfin : Below W.heap.size W ((W.alloc (.cells #[.int .i64 t.tv.k, .int .i64 t.tv.N, .string t.tv.s, .slice t.tv.a t.tv.len t.tv.cap] 24)).alloc (.cells #[.int .i64 t.tv.k, .int .i64 t.tv.N, .string t.tv.s, .slice t.tv.a t.tv.len t.tv.cap] 24)) := ((Below.refl _ W).alloc (Nat.le_refl _) _).alloc (by simp) _
    clear hH
    go_wp2_with fail
    exact bodyPost_ret (v := .tuple #[t.tv.val, .bool true]) (by simp [results, Tryz.results40, go_sem, TV.val]) rfl ⟨hfin, .inr ⟨n, t, rfl, rfl⟩⟩
  | cons k r ih =>
    intro n t a len cap W hN hcap hT
    cases n with
    | zero => exact Empty.elim t
    | succ n =>
      have hl0 : len = r.length + 1 := by have := hN.1; simpa using this
      obtain ⟨k', pb, off, hk', rfl, p0⟩ := num_at hN (j := 0) (by omega)
      simp at hk'
      subst hk'
      have hN' : IsN W (if cap = 1 then some ⟨pb, off, none⟩ else some ⟨pb, off + 1, none⟩) (len - 1) r := by
        obtain ⟨g1, g2, g3⟩ := hN
        refine ⟨by omega, by omega, ?_⟩
        by_cases hc1 : cap = 1
        · exact .inl (List.length_eq_zero_iff.1 (by omega))
        · rw [if_neg hc1]
          obtain ⟨b, o, he, hlt, hk⟩ := g3.resolve_left (by simp)
          simp at he
          obtain ⟨rfl, rfl⟩ := he
          exact .inr ⟨pb, off + 1, rfl, hlt, fun j N hj => by have := hk (j + 1) N (by simpa using hj); rwa [show off + (j + 1) = off + 1 + j by omega] at this⟩
      obtain ⟨A, hA⟩ : ∃ A, (if cap = 1 then some (⟨pb, off, none⟩ : Addr) else some ⟨pb, off + 1, none⟩) = A := ⟨_, rfl⟩
      rw [hA] at hN'
      have hpb : pb < W.heap.size := by
        obtain ⟨_, _, g3⟩ := hN
        obtain ⟨b, o, he, hlt, _⟩ := g3.resolve_left (by simp)
        simp at he
        omega
      have hH := Head.new W t.tv
      obtain ⟨W1, hW1⟩ : ∃ W1, (W.alloc (.cells #[.int .i64 t.tv.k, .int .i64 t.tv.N, .string t.tv.s, .slice t.tv.a t.tv.len t.tv.cap] 24)).alloc (.cells #[.int .i64 0, .int .i64 0, .string ⟨#[]⟩, .slice none 0 0] 24) = W1 := ⟨_, rfl⟩
      rw [hW1] at hH
      have hbw := hH.below
      have p1 : W1.cell? ⟨pb, off, none⟩ = some (.int .i64 k) := by
        have := (hbw.cell (p := ⟨pb, off, none⟩) hpb).trans p0
        simpa using this
      have x3 := hH.ba.c3
      obtain ⟨⟨z0, z1, z2, z3⟩, y0, y1, y2, y3⟩ := zbox_kept hH.bz
      have hzb := hH.bz
      obtain ⟨⟨tk, tN, ts, ta, tl, tc⟩, kids⟩ := t
      obtain ⟨hlen, hmax, hsm, hkids⟩ := hT
      simp only [Tm.tv, Tm.kids] at hlen hmax hsm hkids x3 hW1
      have hl1 : (0 : Int) < len := by omega
      have hl0n : 0 < len := by omega
      have hlz : ((len : Int) == 0) = false := by simp; omega
      have hle1 : (1 : Int) ≤ len := by omega
      have HN := hide hN'
      have HI := hide ih
      have HH := hide hH
      simp only [TV.val, zeroT, Tm.tv]
      by_cases hin : 0 ≤ k ∧ k < (tl : Int)
      · obtain ⟨q, hq⟩ : ∃ q : Nat, k = (q : Nat) := ⟨k.toNat, by omega⟩
        subst hq
        obtain ⟨z, hz⟩ : ∃ z, kids[q]? = some z := ⟨kids[q]'(by omega), List.getElem?_eq_getElem (by omega)⟩
        have hne : kids ≠ [] := by rintro rfl; simp at hz
        obtain ⟨bk, ok, rfl, hbk, hkk⟩ := hkids.resolve_left hne
        obtain ⟨⟨c0, c1, c2, c3⟩, hTz⟩ := hkk q z hz
        replace c0 : W1.cell? ⟨bk, ok + q * 4, none⟩ = some (.int .i64 z.tv.k) := (hbw.cell (p := ⟨bk, ok + q * 4, none⟩) hbk).trans c0
        replace c1 : W1.cell? ⟨bk, ok + q * 4 + 1, none⟩ = some (.int .i64 z.tv.N) := (hbw.cell (p := ⟨bk, ok + q * 4 + 1, none⟩) hbk).trans c1
        replace c2 : W1.cell? ⟨bk, ok + q * 4 + 2, none⟩ = some (.string z.tv.s) := (hbw.cell (p := ⟨bk, ok + q * 4 + 2, none⟩) hbk).trans c2
        replace c3 : W1.cell? ⟨bk, ok + q * 4 + 3, none⟩ = some (.slice z.tv.a z.tv.len z.tv.cap) := (hbw.cell (p := ⟨bk, ok + q * 4 + 3, none⟩) hbk).trans c3
        have hat : atT ((q : Int) :: r) (n := n + 1) ((⟨tk, tN, ts, some ⟨bk, ok, none⟩, tl, tc⟩, kids) : TV × List (Tm n)) = atT r z := atT_go rfl hz
        have HAT := hide hat
        have hq1 : (q : Int) < tl := by omega
        have hq0 : ¬ (q : Int) < 0 := by omega
        have hq2 : ¬ (tl : Int) ≤ q := by omega
        have hq3 : decide ((q : Int) < 0) = false := decide_eq_false hq0
        have hq4 : decide (tl ≤ q) = false := decide_eq_false (by omega)
        have hq5 : decide ((tl : Int) ≤ (q : Int)) = false := decide_eq_false hq2
        have hq6 : q < tl := by omega
        have hdr2 : Below W.heap.size W W1.drew.drew := hbw.drew.drew
        have ihz := ((unhide HI) n z A (len - 1) (cap - 1) W1.drew.drew ((unhide HN).below hdr2) (by omega) ((hTz.below hdr2).mono hdr2.size)).mono (R' := fun e W2 => Below W1.heap.size W1 W2 ∧ ∃ (x : TV) (f : Bool), e = .returned (.tuple #[x.val, .bool f]) ∧ ((atT r z = none ∧ x = zeroT ∧ f = false) ∨ ∃ (m : Nat) (u : Tm m), atT r z = some ⟨m, u⟩ ∧ x = u.tv ∧ f = true)) (fun e W2 h => by
          obtain ⟨g1, g2⟩ := h
          refine ⟨(Below.refl _ W1).drew.drew.trans g1, ?_⟩
          rcases g2 with ⟨g2, g3⟩ | ⟨m, u, g2, g3⟩
          · exact ⟨zeroT, false, g3, .inl ⟨g2, rfl, rfl⟩⟩
          · exact ⟨u.tv, true, g3, .inr ⟨m, u, g2, rfl, rfl⟩⟩)
        simp only [TV.val] at ihz
        have hy0 : W.heap.size < W1.heap.size := hH.ba.lt
        have hy1 : W.heap.size + 1 < W1.heap.size := hH.lt
        have hy2 : pb < W1.heap.size := Nat.lt_of_lt_of_le hpb hbw.size
        have hy3 : bk < W1.heap.size := Nat.lt_of_lt_of_le hbk hbw.size
        have hsl : len ≤ cap := hcap
        have hn1 : W.heap.size + 1 ≠ pb := by omega
        have hn2 : W.heap.size + 1 ≠ bk := by omega
        have hn3 : W.heap.size + 1 ≠ W.heap.size := by omega
        clear hkids hkk hTz hz hne hat hin hH hN hN' ih hlen hl0 hdr2 p0 y0 y1 y2 y3
        go_enter Tryz.func40, Tryz.ntmps40
        go_wp2_with fail
        clear hW1
        go_region
        go_wp2_with fail
        go_region_held3 (fun w' => w'.cell? ⟨W.heap.size, 3, none⟩ = some (.slice (some ⟨bk, ok, none⟩) tl tc) ∧ w'.cell? ⟨pb, off, none⟩ = some (.int .i64 (q : Int)) ∧ w'.cell? ⟨bk, ok + q * 4, none⟩ = some (.int .i64 z.tv.k) ∧ w'.cell? ⟨bk, ok + q * 4 + 1, none⟩ = some (.int .i64 z.tv.N) ∧ w'.cell? ⟨bk, ok + q * 4 + 2, none⟩ = some (.string z.tv.s) ∧ w'.cell? ⟨bk, ok + q * 4 + 3, none⟩ = some (.slice z.tv.a z.tv.len z.tv.cap)) (go_keep)
          (first | (go_at_call 40; refine ihz.mono ?_; clear ihz; rintro e W5 ⟨hb5, x, f, rfl, hx⟩; have HX := hide hx; clear hx; have hbd := bcell hb5; obtain ⟨-, y0, y1, y2, y3⟩ := zbox_kept ((hb5.block (W.heap.size + 1) hy1).trans hzb)))
        have hB5 : Below W.heap.size W W5 := hbw.trans (hb5.mono hbw.size)
        have hbf : Below W.heap.size W (set4 W5 (W.heap.size + 1) 0 x) := set4_below hB5 (by omega) 0 x
        obtain ⟨⟨q0, q1, q2, q3⟩, -⟩ := zbox_kept ((hb5.block (W.heap.size + 1) hy1).trans hzb)
        have HF := hide hbf
        clear hbf hB5 hb5 hbd z0 z1 z2 z3
        go_wp2_with fail
        refine bodyPost_ret (v := .tuple #[x.val, .bool f]) (by simp [results, Tryz.results40, go_sem, TV.val, q0, q1, q2, q3]) rfl ⟨unhide HF, ?_⟩
        rw [unhide HAT]
        rcases unhide HX with ⟨g1, rfl, rfl⟩ | ⟨m, u, g1, rfl, rfl⟩
        · exact .inl ⟨g1, rfl⟩
        · exact .inr ⟨m, u, g1, rfl⟩
      · have hno : atT (k :: r) (n := n + 1) ((⟨tk, tN, ts, ta, tl, tc⟩, kids) : TV × List (Tm n)) = none := atT_no (by simpa [Tm.kids, ← hlen] using hin)
        have HNO := hide hno
        have hbf := set4_below (hbw.drew) (b := W.heap.size + 1) (by omega) 0 zeroT
        unfold zeroT at hbf
        have HF := hide hbf
        by_cases hk0 : k < 0
        · have hk0' : decide (k < 0) = true := decide_eq_true hk0
          clear hkids hN hN' ih hlen hl0 hin hno hbf hbw hH p0
          go_enter Tryz.func40, Tryz.ntmps40
          go_wp2_with fail
          clear hW1
          go_region
          go_wp2_with fail
          exact bodyPost_ret (v := .tuple #[zeroT.val, .bool false]) (by simp [results, Tryz.results40, go_sem, TV.val, zeroT, z0, z1, z2, z3]) rfl ⟨unhide HF, .inl ⟨unhide HNO, rfl⟩⟩
        · have hk1 : (tl : Int) ≤ k := by omega
          have hk0' : decide (k < 0) = false := decide_eq_false hk0
          have hk1' : decide ((tl : Int) ≤ k) = true := decide_eq_true hk1
          clear hkids hN hN' ih hlen hl0 hin hno hbf hbw hH p0
          go_enter Tryz.func40, Tryz.ntmps40
          go_wp2_with fail
          clear hW1
          go_region
          go_wp2_with fail
          exact bodyPost_ret (v := .tuple #[zeroT.val, .bool false]) (by simp [results, Tryz.results40, go_sem, TV.val, zeroT, z0, z1, z2, z3]) rfl ⟨unhide HF, .inl ⟨unhide HNO, rfl⟩⟩
end Go.Proofs.YtojefplapklbmaaGreatDoor

