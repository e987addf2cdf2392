import Derived.Test.YtffbhinpmlcopaaV
import Derived.Test.YtffbhinpmlcopaaT
import Derived.Deep.DeepMust
/- The contract of hornref.Apply: each variable of a term gives way to what the binds say; the answer may share memory with the binds. -/
namespace Go.Proofs.Ytffbhinpmlcopaa
open Go.RowKit Go.Shelf

/-- Old memory (below ns), or laid since. -/
def Mix (ns lo : Nat) (b : Nat) : Prop := b < ns ∨ lo ≤ b

set_option maxRecDepth 100000 in
set_option maxHeartbeats 1000000 in
theorem rapply_var {n : Nat} (bs : List (Int × Tm n)) (la : Option Addr) (ll lc : Nat) (ns : Nat) (N : Int) (s : ByteArray) (a : Option Addr) (len cap : Nat) (W : World) (hl : IsL ns W la ll bs) (hns : ns ≤ W.heap.size) :
    Calls Try.prog 15 #[.agg #[.int .i64 1, .int .i64 N, .string s, .slice a len cap], .slice la ll lc] W fun e W' => ∃ x : TV, e = .returned x.val ∧ Below W.heap.size W W' ∧ HoldsS (n + 1) (Mix ns W.heap.size) W' x.val (lookC (cb bs) N) := by
  have hH := Head.new W ⟨1, N, s, a, len, cap⟩
  simp only at hH
  have hf := rfind_any bs la ll lc N ns _ (hl.below (hH.below.mono hns)) (Nat.le_trans hns hH.below.size)
  clear hl
  go_enter Try.func15, Try.ntmps15
  go_wp2_with fail
  refine hf.mono ?_
  clear hf
  rintro e W1 ⟨x, f, rfl, hb1, hx, _⟩
  replace hH := hH.next hb1
  obtain ⟨⟨z0, z1, z2, z3⟩, y0, y1, y2, y3⟩ := zbox_kept hH.bz
  have hlt : W.heap.size + 1 < W1.heap.size := hH.lt
  have hfin : HoldsS (n + 1) (Mix ns W.heap.size) ((set4 W1 (W.heap.size + 1) 0 x).alloc (.cells #[.int .i64 x.k, .int .i64 x.N, .string x.s, .slice x.a x.len x.cap] 24)) x.val (lookC (cb bs) N) :=
    ((hx.fromS (fun b hb _ => set4_other _ _ 0 x (by omega)) (by rw [set4_size]; exact Nat.le_refl _)).below ((Below.refl _ _).alloc (Nat.le_refl _) _)).mono (Nat.le_refl _) (fun b hb => .inl hb)
  have hbf : Below W.heap.size W ((set4 W1 (W.heap.size + 1) 0 x).alloc (.cells #[.int .i64 x.k, .int .i64 x.N, .string x.s, .slice x.a x.len x.cap] 24)) := (set4_below hH.below (by omega) 0 x).alloc (by rw [set4_size]; omega) _
  have HF := hide hfin
  have HB := hide hbf
  clear hfin hbf hx hH hb1
  simp only [TV.val]
  go_wp2_with fail
  refine bodyPost_ret (v := x.val) ?_ rfl ⟨x, rfl, unhide HB, unhide HF⟩
  simp [results, Try.results15, go_sem, TV.val, z0, z1, z2, z3, hlt]

theorem addr_add (b o n : Nat) : Addr.add ⟨b, o, none⟩ n = ⟨b, o + n, none⟩ := by
  unfold Addr.add; split
  · rename_i h; subst h; rfl
  · rfl
theorem new_cells {W5 : World} {x : TV} : ∀ j u, x.row[j]? = some u → (W5.alloc (.cells #[.int .i64 x.k, .int .i64 x.N, .string x.s, .slice x.a x.len x.cap] 24)).cell? ((⟨W5.heap.size, 0, none⟩ : Addr).add j) = some u := by
  intro j u hj
  rw [addr_add, Nat.zero_add]
  match j, hj with
  | 0, hj => simp [TV.row] at hj; subst hj; simp
  | 1, hj => simp [TV.row] at hj; subst hj; simp
  | 2, hj => simp [TV.row] at hj; subst hj; simp
  | 3, hj => simp [TV.row] at hj; subst hj; simp
  | j + 4, hj => simp [TV.row] at hj
theorem row_one {x : TV} : ∀ u ∈ x.row, u.oneCell' = true := by
  intro u hu
  simp [TV.row] at hu
  rcases hu with rfl | rfl | rfl | rfl <;> rfl

/-- The end of hornref.Apply at a term that is no variable: the row of its new Args put into its box, and this into the result. -/
theorem args_end {D : Nat} {ns : Nat} {W wr : World} {k N : Int} {s : ByteArray} {len : Nat} {v : Value} {l : List TV} {c : List Nd} (hl : l.length = len) (hl50 : len ≤ 50) (hs : s.size ≤ 9223372036854775807) (hB : Below W.heap.size W wr) (hns : ns ≤ W.heap.size)
    (hm : Made D (Mix ns (W.heap.size + 2)) (W.heap.size + 2) wr v l c) :
    ∃ a' cap', v = .slice a' len cap' ∧ (let x : TV := ⟨k, N, s, a', len, cap'⟩
      Below W.heap.size W (set4 (wr.setCell ⟨W.heap.size, 3, none⟩ v) (W.heap.size + 1) 0 x) ∧ HoldsS (D + 1) (Mix ns W.heap.size) (set4 (wr.setCell ⟨W.heap.size, 3, none⟩ v) (W.heap.size + 1) 0 x) x.val ((k, N, s.toList, len) :: c)) := by
  have hoc := owns_cells hm.owns
  obtain ⟨a', cap', hv⟩ : ∃ a' cap', v = .slice a' len cap' := by
    rcases hoc with ⟨hv, hn⟩ | ⟨g, cp, hv, _⟩
    · subst hn; simp at hl; subst hl; exact ⟨none, 0, hv⟩
    · exact ⟨_, cp, by rw [hv, hl]⟩
  refine ⟨a', cap', hv, ?_⟩
  intro x
  have hother : ∀ b, b ≠ W.heap.size → b ≠ W.heap.size + 1 → (set4 (wr.setCell ⟨W.heap.size, 3, none⟩ v) (W.heap.size + 1) 0 x).heap[b]? = wr.heap[b]? := fun b h1 h2 =>
    (set4_other _ _ 0 x h2).trans (Below.heap_setCell _ _ _ _ h1)
  have hsz' : (set4 (wr.setCell ⟨W.heap.size, 3, none⟩ v) (W.heap.size + 1) 0 x).heap.size = wr.heap.size := by rw [set4_size]; simp
  refine ⟨set4_below (hB.setCell (p := ⟨W.heap.size, 3, none⟩) (Nat.le_refl _) _) (by omega) 0 x, fun m hm' hlim => ?_⟩
  obtain ⟨M, rfl⟩ : ∃ M, m = M + 1 := ⟨m - 1, by omega⟩
  obtain ⟨ks, k1, k2, k3⟩ := hm.kids M (by omega) (by omega)
  have hcl : len ≤ cap' := by
    rcases hm.owns.2 with ⟨h, hn⟩ | ⟨g, cp, cur, h, _, _, hnc, _⟩
    · omega
    · rw [hv] at h
      simp at h
      omega
  have hkl : ks.length = len := by rw [← hl, ← k1]; simp
  have hT : ∀ u ∈ ks, IsT wr.heap.size (set4 (wr.setCell ⟨W.heap.size, 3, none⟩ v) (W.heap.size + 1) 0 x) u := fun u hu =>
    (k2 u hu).1.fromS (fun b hb => hother b (by have := hb.2; unfold Mix at this; omega) (by have := hb.2; unfold Mix at this; omega)) (k2 u hu).2
  have hS : ∀ u ∈ ks, BlkT (Mix ns W.heap.size) u := fun u hu => (k2 u hu).2.mono fun b hb => by have := hb.2; unfold Mix at this ⊢; omega
  refine ⟨((x, ks) : TV × List (Tm M)), rfl, ?_, ?_, ?_⟩
  · rw [hsz']
    refine ⟨hkl.symm, ⟨?_, hcl, hlim⟩, hs, ?_⟩
    · show len ≤ _
      omega
    · rcases hoc with ⟨_, hn⟩ | ⟨g, cp, hv2, hg1, hg2, hcells⟩
      · left
        show ks = []
        apply List.length_eq_zero_iff.1
        rw [hkl, ← hl, hn]; rfl
      · right
        rw [hv] at hv2
        simp at hv2
        obtain ⟨e1, _, _⟩ := hv2
        refine ⟨g, 0, e1, hg2, fun j u hu => ⟨?_, hT u (List.mem_of_getElem? hu)⟩⟩
        rw [Nat.zero_add]
        have hu' : ks[j]? = some u := hu
        have : l[j]? = some u.tv := by rw [← k1, List.getElem?_map, hu']; rfl
        exact (hcells j u.tv this).kept (hother g (by omega) (by omega))
  · refine ⟨?_, hS⟩
    rcases hoc with ⟨_, hn⟩ | ⟨g, cp, hv2, hg1, hg2, hcells⟩
    · left
      show ks = []
      apply List.length_eq_zero_iff.1
      rw [hkl, ← hl, hn]; rfl
    · right
      rw [hv] at hv2
      simp at hv2
      obtain ⟨e1, _, _⟩ := hv2
      exact ⟨g, 0, e1, by unfold Mix; omega⟩
  · rw [code_succ, k3]; rfl

set_option maxRecDepth 100000 in
set_option maxHeartbeats 1000000 in
theorem rapply_comp {n : Nat} (bs : List (Int × Tm n)) (la : Option Addr) (ll lc : Nat) (ns : Nat) (D : Nat) {d : Nat}
    (ih : ∀ (u : Tm d) (W : World), IsL ns W la ll bs → ns ≤ W.heap.size → IsT W.heap.size W u → okT u = true → Calls Try.prog 15 #[u.tv.val, .slice la ll lc] W fun e W' => ∃ x : TV, e = .returned x.val ∧ Below W.heap.size W W' ∧ HoldsS D (Mix ns W.heap.size) W' x.val ((code u).flatMap (subN (lookC (cb bs)))))
    (k N : Int) (s : ByteArray) (a : Option Addr) (len cap : Nat) (kids : List (Tm d)) (W : World) (hl : IsL ns W la ll bs) (hns : ns ≤ W.heap.size) (hk1 : k ≠ 1) (hs : s.size ≤ 9223372036854775807) (hl50 : len ≤ 50) (hlen : len = kids.length)
    (hkids : kids = [] ∨ ∃ b off, a = some ⟨b, off, none⟩ ∧ b < W.heap.size ∧ ∀ j u, kids[j]? = some u → cellsAt W b (off + j * 4) u.tv ∧ IsT W.heap.size W u) (hok : ∀ u ∈ kids, okT u = true) :
    Calls Try.prog 15 #[.agg #[.int .i64 k, .int .i64 N, .string s, .slice a len cap], .slice la ll lc] W fun e W' => ∃ x : TV, e = .returned x.val ∧ Below W.heap.size W W' ∧ HoldsS (D + 1) (Mix ns W.heap.size) W' x.val ((k, N, s.toList, len) :: (kids.flatMap code).flatMap (subN (lookC (cb bs)))) := by
  have hl1 : len ≤ kids.length := by omega
  have hl2 : kids.length ≤ len := by omega
  have hk1' : (k == 1) = false := by simp [hk1]
  clear hlen hk1
  have hH := Head.new W ⟨k, N, s, a, len, cap⟩
  simp only at hH
  have HI := hide ih
  have HO := hide hok
  have HL := hide hl
  clear ih hok hl
  obtain ⟨i0, hi, hz0, hz1, hz2⟩ := info_parts Try.info28
  go_enter Try.func15, Try.ntmps15
  go_wp2_with fail
  obtain ⟨W2, hW2⟩ : ∃ W2, (W.alloc (.cells #[.int .i64 k, .int .i64 N, .string s, .slice a len cap] 24)).alloc (.cells #[.int .i64 0, .int .i64 0, .string ⟨#[]⟩, .slice none 0 0] 24) = W2 := ⟨_, rfl⟩
  have hsz2 : ((W.alloc (.cells #[.int .i64 k, .int .i64 N, .string s, .slice a len cap] 24)).alloc (.cells #[.int .i64 0, .int .i64 0, .string ⟨#[]⟩, .slice none 0 0] 24)).heap.size = W.heap.size + 2 := by simp
  rw [hW2] at hH hsz2 ⊢
  clear hW2
  have HH := hide hH
  have HSZ := hide hsz2
  clear hH hsz2
  go_loopw [7, 8] (fun av i wr => ∃ (j : Nat) (l : List TV), j ≤ len ∧ i = .int .i64 j ∧ l.length = j ∧ Below (W.heap.size + 2) W2 wr ∧ Made D (Mix ns (W.heap.size + 2)) (W.heap.size + 2) wr av l (((kids.take j).flatMap code).flatMap (subN (lookC (cb bs))))) (fun _ i _ => len - (intOf i).toNat)
  case atStart => exact ⟨0, [], Nat.zero_le _, rfl, rfl, Below.refl _ _, Made.zero _ _ _ _⟩
  case round =>
    obtain ⟨j, l, hj, rfl, hll, hb, hm⟩ := hrel
    have hb' : Below W2.heap.size W2 wr := by rw [unhide HSZ]; exact hb
    have hH := (unhide HH).next hb'
    have x2 := hH.ba.c2
    have x3 := hH.ba.c3
    have x0 := hH.ba.c0
    have x1 := hH.ba.c1
    simp only at x0 x1 x2 x3
    have HHr := hide hH
    have HM := hide hm
    have HLL := hide hll
    clear hH hm hll
    by_cases hlt : j < len
    · obtain ⟨u, b, off, hu, rfl, ⟨c0, c1, c2, c3⟩, hT, hbk⟩ := kid_at hkids (unhide HHr).below hlt hl1
      have ihu := (unhide HI) u wr ((unhide HL).below ((unhide HHr).below.mono hns)) (Nat.le_trans hns (unhide HHr).below.size) hT ((unhide HO) u (List.mem_of_getElem? hu))
      have hcode := code_take kids j u hu
      have HC := hide hcode
      clear hT hkids hu hcode
      simp only [TV.val] at ihu
      have hj1 : (j : Int) < len := by omega
      go_wp2_with fail
      refine ihu.mono ?_
      clear ihu
      rintro e W5 ⟨x, rfl, hb5, hx⟩
      dsimp only [TV.val]
      clear x0 x1 x2 x3 c0 c1 c2 c3
      have hown5 : (W5.alloc (.cells #[.int .i64 x.k, .int .i64 x.N, .string x.s, .slice x.a x.len x.cap] 24)).ownsRow (W.heap.size + 2) 24 4 u7 l.length (l.flatMap TV.row) :=
        owns_below (unhide HM).owns (fun g hg => by
          have hlt := (owns_lt (unhide HM).owns hg).2
          exact (Below.heap_alloc _ _ _ (Nat.lt_of_lt_of_le hlt hb5.size)).trans (hb5.block g hlt))
      go_wp2_with (at_builtin; go_must (refine wpList_append_own_at _ rfl _ _ 22 rfl (W.heap.size + 2) 24 i0 _ 4 56 Try.underlying22 hi hz0 hz1 hz2 rfl (by decide) u7 l.length (l.flatMap TV.row) rfl hown5 ⟨W5.heap.size, 0, none⟩ 1 1 x.row rfl rfl new_cells row_one (by have := unhide HLL; unfold maxLen; omega) (by have := unhide HLL; omega) (by have := hb5.size; have := hb'.size; have := unhide HSZ; simp; omega) ?_; intro v' w1 hown' hgrow hnil hbk))
      have hgl : ∀ g, u7.ownBlock = some g → W.heap.size + 2 ≤ g ∧ g < wr.heap.size := fun g hg => owns_lt (unhide HM).owns hg
      have hwr : W.heap.size + 2 ≤ wr.heap.size := by have := hb'.size; have := unhide HSZ; omega
      have hmade := (unhide HM).next hb5 (hx.mono (Nat.le_refl _) (fun b hb => ⟨by unfold Mix at hb ⊢; omega, fun e => by have := hgl b e; unfold Mix at hb; omega⟩)) hown' hgrow (by simpa using hbk)
      rw [← List.flatMap_append, ← unhide HC] at hmade
      have hbel : Below (W.heap.size + 2) W2 w1 := ((hb.trans (hb5.mono hwr)).alloc (Nat.le_trans hwr hb5.size) _).grown hgrow (by have := hb5.size; simp; omega) (fun g hg => (hgl g hg).1)
      exact ⟨⟨j + 1, l ++ [x], by omega, by go_num, by simp [unhide HLL], hbel, hmade⟩, by simp [intOf]; omega⟩
    · have hjl : j = len := by omega
      have ht : kids.take j = kids := List.take_of_length_le (by omega)
      have hm := unhide HM
      rw [ht] at hm
      obtain ⟨a', cap', rfl, hfin⟩ := args_end (k := k) (N := N) (s := s) (len := len) (by rw [unhide HLL, hjl]) hl50 hs (unhide HHr).below hns hm
      obtain ⟨⟨z0, z1, z2, z3⟩, y0, y1, y2, y3⟩ := zbox_kept (unhide HHr).bz
      have f3 : wr.frozen? ⟨W.heap.size, 3, none⟩ = false := by simp [World.frozen?, show wr.heap[W.heap.size]? = _ from (unhide HHr).ba]
      obtain ⟨f1, f2⟩ := hfin
      have F1 := hide f1
      have F2 := hide f2
      have hlt' : ¬ (j : Int) < (len : Int) := by omega
      clear f1 f2 hm ht hkids hjl
      go_wp2_with fail
      refine bodyPost_ret (v := (⟨k, N, s, a', len, cap'⟩ : TV).val) ?_ rfl ⟨_, rfl, unhide F1, unhide F2⟩
      simp [results, Try.results15, go_sem, TV.val, z0, z1, z2, z3]

/-- hornref.Apply, whatever the term. -/
theorem rapply_any {n : Nat} (bs : List (Int × Tm n)) (la : Option Addr) (ll lc : Nat) (ns : Nat) : ∀ (d : Nat) (t : Tm d) (W : World), IsL ns W la ll bs → ns ≤ W.heap.size → IsT W.heap.size W t → okT t = true →
    Calls Try.prog 15 #[t.tv.val, .slice la ll lc] W fun e W' => ∃ x : TV, e = .returned x.val ∧ Below W.heap.size W W' ∧ HoldsS (d + (n + 1)) (Mix ns W.heap.size) W' x.val ((code t).flatMap (subN (lookC (cb bs)))) := by
  intro d
  induction d with
  | zero => intro t; exact Empty.elim t
  | succ d ih =>
    intro t W hl hns hT hok
    obtain ⟨⟨k, N, s, a, len, cap⟩, kids⟩ := t
    obtain ⟨hwm, hk⟩ := ok_kids hok
    obtain ⟨h1, h2, h3, h4⟩ := hT
    simp only [Tm.tv, Tm.kids] at h1 h2 h3 h4 hwm
    rw [code_succ, List.flatMap_cons]
    by_cases hk1 : k = 1
    · subst hk1
      have hl0 : len = 0 := by
        rcases wm_cases hwm with ⟨_, _, _, _, h⟩ | ⟨h, _⟩ | ⟨h, _⟩
        · exact h
        · omega
        · omega
      subst hl0
      have hnil : kids = [] := List.length_eq_zero_iff.1 h1.symm
      subst hnil
      refine (rapply_var bs la ll lc ns N s a 0 cap W hl hns).mono fun e W' h => ?_
      obtain ⟨x, he, hb', hv⟩ := h
      exact ⟨x, he, hb', by simpa [subN, TV.nd] using hv.mono (by omega) (fun _ h => h)⟩
    · have hl50 : len ≤ 50 := by
        rcases wm_cases hwm with ⟨h, _⟩ | ⟨_, h⟩ | ⟨_, _, _, h⟩ <;> omega
      refine (rapply_comp bs la ll lc ns (d + (n + 1)) ih k N s a len cap kids W hl hns hk1 h3 hl50 h1 h4 hk).mono fun e W' h => ?_
      obtain ⟨x, he, hb', hv⟩ := h
      exact ⟨x, he, hb', by simpa [subN, TV.nd, hk1] using hv.mono (by omega) (fun _ h => h)⟩
end Go.Proofs.Ytffbhinpmlcopaa

