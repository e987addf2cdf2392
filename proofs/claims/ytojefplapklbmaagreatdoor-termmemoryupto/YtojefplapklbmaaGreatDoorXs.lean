import Derived.Test.YtojefplapklbmaaGreatDoorUs
import Derived.Test.YtojefplapklbmaaGreatDoorSs
import Derived.Deep.DeepMust
import Derived.Test.YtojefplapklbmaaGreatDoorRows
import Derived.Test.YtojefplapklbmaaGreatDoorJs
import Derived.Lib.SmallJoins
import Derived.Deep.Slices
/- The contract of hornref.Apply: each variable of a term gives way to what the binds say; the answer may share memory with the binds. -/
namespace Go.Proofs.YtojefplapklbmaaGreatDoor
open Go.RowKit Go.Shelf

/-- Old memory (below ns), or laid since. -/
def Mix (ns lo : Nat) (b : Nat) : Prop := b < ns ∨ lo ≤ b

set_option maxRecDepth 100000 in
set_option maxHeartbeats 1000000 in
theorem rapply_var {n : Nat} (bs : List (Int × Tm n)) (la : Option Addr) (ll lc : Nat) (ns : Nat) (N : Int) (s : ByteArray) (a : Option Addr) (len cap : Nat) (W : World) (hl : IsL ns W la ll bs) (hns : ns ≤ W.heap.size) :
    Calls Tryz.prog 84 #[.agg #[.int .i64 1, .int .i64 N, .string s, .slice a len cap], .slice la ll lc] W fun e W' => ∃ x : TV, e = .returned x.val ∧ Below W.heap.size W W' ∧ HoldsS (n + 1) (Mix ns W.heap.size) W' x.val (lookC (cb bs) N) := by
  have hH := Head.new W ⟨1, N, s, a, len, cap⟩
  simp only at hH
  have hf := rfind_any bs la ll lc N ns _ (hl.below (hH.below.mono hns)) (Nat.le_trans hns hH.below.size)
  clear hl
  go_enter Tryz.func84, Tryz.ntmps84
  go_wp2_with fail
  refine hf.mono ?_
  clear hf
  rintro e W1 ⟨x, f, rfl, hb1, hx, _⟩
  replace hH := hH.next hb1
  obtain ⟨⟨z0, z1, z2, z3⟩, y0, y1, y2, y3⟩ := zbox_kept hH.bz
  have hlt : W.heap.size + 1 < W1.heap.size := hH.lt
  have hfin : HoldsS (n + 1) (Mix ns W.heap.size) ((set4 W1 (W.heap.size + 1) 0 x).alloc (.cells #[.int .i64 x.k, .int .i64 x.N, .string x.s, .slice x.a x.len x.cap] 24)) x.val (lookC (cb bs) N) :=
    ((hx.fromS (fun b hb _ => set4_other _ _ 0 x (by omega)) (by rw [set4_size]; exact Nat.le_refl _)).below ((Below.refl _ _).alloc (Nat.le_refl _) _)).mono (Nat.le_refl _) (fun b hb => .inl hb)
  have hbf : Below W.heap.size W ((set4 W1 (W.heap.size + 1) 0 x).alloc (.cells #[.int .i64 x.k, .int .i64 x.N, .string x.s, .slice x.a x.len x.cap] 24)) := (set4_below hH.below (by omega) 0 x).alloc (by rw [set4_size]; omega) _
  have HF := hide hfin
  have HB := hide hbf
  clear hfin hbf hx hH hb1
  simp only [TV.val]
  go_wp2_with fail
  refine bodyPost_ret (v := x.val) ?_ rfl ⟨x, rfl, unhide HB, unhide HF⟩
  simp [results, Tryz.results84, go_sem, TV.val, z0, z1, z2, z3, hlt]

theorem addr_add (b o n : Nat) : Addr.add ⟨b, o, none⟩ n = ⟨b, o + n, none⟩ := by
  unfold Addr.add; split
  · rename_i h; subst h; rfl
  · rfl
theorem new_cells {W5 : World} {x : TV} : ∀ j u, x.row[j]? = some u → (W5.alloc (.cells #[.int .i64 x.k, .int .i64 x.N, .string x.s, .slice x.a x.len x.cap] 24)).cell? ((⟨W5.heap.size, 0, none⟩ : Addr).add j) = some u := by
  intro j u hj
  rw [addr_add, Nat.zero_add]
  match j, hj with
  | 0, hj => simp [TV.row] at hj; subst hj; simp
  | 1, hj => simp [TV.row] at hj; subst hj; simp
  | 2, hj => simp [TV.row] at hj; subst hj; simp
  | 3, hj => simp [TV.row] at hj; subst hj; simp
  | j + 4, hj => simp [TV.row] at hj
theorem row_one {x : TV} : ∀ u ∈ x.row, u.oneCell' = true := by
  intro u hu
  simp [TV.row] at hu
  rcases hu with rfl | rfl | rfl | rfl <;> rfl

/-- The end of hornref.Apply at a term that is no variable: the row of its new Args put into its box, and this into the result. -/
theorem args_end {D : Nat} {ns : Nat} {W wr : World} {k N : Int} {s : ByteArray} {len : Nat} {v : Value} {l : List TV} {c : List Nd} (hl : l.length = len) (hl50 : len ≤ 50) (hs : s.size ≤ 9223372036854775807) (hB : Below W.heap.size W wr) (hns : ns ≤ W.heap.size)
    (hm : Made D (Mix ns (W.heap.size + 2)) (W.heap.size + 2) wr v l c) :
    ∃ a' cap', v = .slice a' len cap' ∧ (let x : TV := ⟨k, N, s, a', len, cap'⟩
      Below W.heap.size W (set4 (wr.setCell ⟨W.heap.size, 3, none⟩ v) (W.heap.size + 1) 0 x) ∧ HoldsS (D + 1) (Mix ns W.heap.size) (set4 (wr.setCell ⟨W.heap.size, 3, none⟩ v) (W.heap.size + 1) 0 x) x.val ((k, N, s.toList, len) :: c)) := by
  have hoc := owns_cells hm.owns
  obtain ⟨a', cap', hv⟩ : ∃ a' cap', v = .slice a' len cap' := by
    rcases hoc with ⟨hv, hn⟩ | ⟨g, cp, hv, _⟩
    · subst hn; simp at hl; subst hl; exact ⟨none, 0, hv⟩
    · exact ⟨_, cp, by rw [hv, hl]⟩
  refine ⟨a', cap', hv, ?_⟩
  intro x
  have hother : ∀ b, b ≠ W.heap.size → b ≠ W.heap.size + 1 → (set4 (wr.setCell ⟨W.heap.size, 3, none⟩ v) (W.heap.size + 1) 0 x).heap[b]? = wr.heap[b]? := fun b h1 h2 =>
    (set4_other _ _ 0 x h2).trans (Below.heap_setCell _ _ _ _ h1)
  have hsz' : (set4 (wr.setCell ⟨W.heap.size, 3, none⟩ v) (W.heap.size + 1) 0 x).heap.size = wr.heap.size := by rw [set4_size]; simp
  refine ⟨set4_below (hB.setCell (p := ⟨W.heap.size, 3, none⟩) (Nat.le_refl _) _) (by omega) 0 x, fun m hm' hlim => ?_⟩
  obtain ⟨M, rfl⟩ : ∃ M, m = M + 1 := ⟨m - 1, by omega⟩
  obtain ⟨ks, k1, k2, k3⟩ := hm.kids M (by omega) (by omega)
  have hcl : len ≤ cap' := by
    rcases hm.owns.2 with ⟨h, hn⟩ | ⟨g, cp, cur, h, _, _, hnc, _⟩
    · omega
    · rw [hv] at h
      simp at h
      omega
  have hkl : ks.length = len := by rw [← hl, ← k1]; simp
  have hT : ∀ u ∈ ks, IsT wr.heap.size (set4 (wr.setCell ⟨W.heap.size, 3, none⟩ v) (W.heap.size + 1) 0 x) u := fun u hu =>
    (k2 u hu).1.fromS (fun b hb => hother b (by have := hb.2; unfold Mix at this; omega) (by have := hb.2; unfold Mix at this; omega)) (k2 u hu).2
  have hS : ∀ u ∈ ks, BlkT (Mix ns W.heap.size) u := fun u hu => (k2 u hu).2.mono fun b hb => by have := hb.2; unfold Mix at this ⊢; omega
  refine ⟨((x, ks) : TV × List (Tm M)), rfl, ?_, ?_, ?_⟩
  · rw [hsz']
    refine ⟨hkl.symm, ⟨?_, hcl, hlim⟩, hs, ?_⟩
    · show len ≤ _
      omega
    · rcases hoc with ⟨_, hn⟩ | ⟨g, cp, hv2, hg1, hg2, hcells⟩
      · left
        show ks = []
        apply List.length_eq_zero_iff.1
        rw [hkl, ← hl, hn]; rfl
      · right
        rw [hv] at hv2
        simp at hv2
        obtain ⟨e1, _, _⟩ := hv2
        refine ⟨g, 0, e1, hg2, fun j u hu => ⟨?_, hT u (List.mem_of_getElem? hu)⟩⟩
        rw [Nat.zero_add]
        have hu' : ks[j]? = some u := hu
        have : l[j]? = some u.tv := by rw [← k1, List.getElem?_map, hu']; rfl
        exact (hcells j u.tv this).kept (hother g (by omega) (by omega))
  · refine ⟨?_, hS⟩
    rcases hoc with ⟨_, hn⟩ | ⟨g, cp, hv2, hg1, hg2, hcells⟩
    · left
      show ks = []
      apply List.length_eq_zero_iff.1
      rw [hkl, ← hl, hn]; rfl
    · right
      rw [hv] at hv2
      simp at hv2
      obtain ⟨e1, _, _⟩ := hv2
      exact ⟨g, 0, e1, by unfold Mix; omega⟩
  · rw [code_succ, k3]; rfl

set_option maxRecDepth 100000 in
set_option maxHeartbeats 1000000 in
theorem rapply_comp {n : Nat} (bs : List (Int × Tm n)) (la : Option Addr) (ll lc : Nat) (ns : Nat) (D : Nat) {d : Nat}
    (ih : ∀ (u : Tm d) (W : World), IsL ns W la ll bs → ns ≤ W.heap.size → IsT W.heap.size W u → okT u = true → Calls Tryz.prog 84 #[u.tv.val, .slice la ll lc] W fun e W' => ∃ x : TV, e = .returned x.val ∧ Below W.heap.size W W' ∧ HoldsS D (Mix ns W.heap.size) W' x.val ((code u).flatMap (subN (lookC (cb bs)))))
    (k N : Int) (s : ByteArray) (a : Option Addr) (len cap : Nat) (kids : List (Tm d)) (W : World) (hl : IsL ns W la ll bs) (hns : ns ≤ W.heap.size) (hk1 : k ≠ 1) (hs : s.size ≤ 9223372036854775807) (hl50 : len ≤ 50) (hlen : len = kids.length)
    (hkids : kids = [] ∨ ∃ b off, a = some ⟨b, off, none⟩ ∧ b < W.heap.size ∧ ∀ j u, kids[j]? = some u → cellsAt W b (off + j * 4) u.tv ∧ IsT W.heap.size W u) (hok : ∀ u ∈ kids, okT u = true) :
    Calls Tryz.prog 84 #[.agg #[.int .i64 k, .int .i64 N, .string s, .slice a len cap], .slice la ll lc] W fun e W' => ∃ x : TV, e = .returned x.val ∧ Below W.heap.size W W' ∧ HoldsS (D + 1) (Mix ns W.heap.size) W' x.val ((k, N, s.toList, len) :: (kids.flatMap code).flatMap (subN (lookC (cb bs)))) := by
  have hl1 : len ≤ kids.length := by omega
  have hl2 : kids.length ≤ len := by omega
  have hk1' : (k == 1) = false := by simp [hk1]
  clear hlen hk1
  have hH := Head.new W ⟨k, N, s, a, len, cap⟩
  simp only at hH
  have HI := hide ih
  have HO := hide hok
  have HL := hide hl
  clear ih hok hl
  obtain ⟨i0, hi, hz0, hz1, hz2⟩ := info_parts Tryz.info28
  go_enter Tryz.func84, Tryz.ntmps84
  go_wp2_with fail
  obtain ⟨W2, hW2⟩ : ∃ W2, (W.alloc (.cells #[.int .i64 k, .int .i64 N, .string s, .slice a len cap] 24)).alloc (.cells #[.int .i64 0, .int .i64 0, .string ⟨#[]⟩, .slice none 0 0] 24) = W2 := ⟨_, rfl⟩
  have hsz2 : ((W.alloc (.cells #[.int .i64 k, .int .i64 N, .string s, .slice a len cap] 24)).alloc (.cells #[.int .i64 0, .int .i64 0, .string ⟨#[]⟩, .slice none 0 0] 24)).heap.size = W.heap.size + 2 := by simp
  rw [hW2] at hH hsz2 ⊢
  clear hW2
  have HH := hide hH
  have HSZ := hide hsz2
  clear hH hsz2
  go_loopw [7, 8] (fun av i wr => ∃ (j : Nat) (l : List TV), j ≤ len ∧ i = .int .i64 j ∧ l.length = j ∧ Below (W.heap.size + 2) W2 wr ∧ Made D (Mix ns (W.heap.size + 2)) (W.heap.size + 2) wr av l (((kids.take j).flatMap code).flatMap (subN (lookC (cb bs))))) (fun _ i _ => len - (intOf i).toNat)
  case atStart => exact ⟨0, [], Nat.zero_le _, rfl, rfl, Below.refl _ _, Made.zero _ _ _ _⟩
  case round =>
    obtain ⟨j, l, hj, rfl, hll, hb, hm⟩ := hrel
    have hb' : Below W2.heap.size W2 wr := by rw [unhide HSZ]; exact hb
    have hH := (unhide HH).next hb'
    have x2 := hH.ba.c2
    have x3 := hH.ba.c3
    have x0 := hH.ba.c0
    have x1 := hH.ba.c1
    simp only at x0 x1 x2 x3
    have HHr := hide hH
    have HM := hide hm
    have HLL := hide hll
    clear hH hm hll
    by_cases hlt : j < len
    · obtain ⟨u, b, off, hu, rfl, ⟨c0, c1, c2, c3⟩, hT, hbk⟩ := kid_at hkids (unhide HHr).below hlt hl1
      have ihu := (unhide HI) u wr ((unhide HL).below ((unhide HHr).below.mono hns)) (Nat.le_trans hns (unhide HHr).below.size) hT ((unhide HO) u (List.mem_of_getElem? hu))
      have hcode := code_take kids j u hu
      have HC := hide hcode
      clear hT hkids hu hcode
      simp only [TV.val] at ihu
      have hj1 : (j : Int) < len := by omega
      go_wp2_with fail
      refine ihu.mono ?_
      clear ihu
      rintro e W5 ⟨x, rfl, hb5, hx⟩
      dsimp only [TV.val]
      clear x0 x1 x2 x3 c0 c1 c2 c3
      have hown5 : (W5.alloc (.cells #[.int .i64 x.k, .int .i64 x.N, .string x.s, .slice x.a x.len x.cap] 24)).ownsRow (W.heap.size + 2) 24 4 u7 l.length (l.flatMap TV.row) :=
        owns_below (unhide HM).owns (fun g hg => by
          have hlt := (owns_lt (unhide HM).owns hg).2
          exact (Below.heap_alloc _ _ _ (Nat.lt_of_lt_of_le hlt hb5.size)).trans (hb5.block g hlt))
      go_wp2_with (at_builtin; go_must (refine wpList_append_own_at _ rfl _ _ 22 rfl (W.heap.size + 2) 24 i0 _ 4 56 Tryz.underlying22 hi hz0 hz1 hz2 rfl (by decide) u7 l.length (l.flatMap TV.row) rfl hown5 ⟨W5.heap.size, 0, none⟩ 1 1 x.row rfl rfl new_cells row_one (by have := unhide HLL; unfold maxLen; omega) (by have := unhide HLL; omega) (by have := hb5.size; have := hb'.size; have := unhide HSZ; simp; omega) ?_; intro v' w1 hown' hgrow hnil hbk))
      have hgl : ∀ g, u7.ownBlock = some g → W.heap.size + 2 ≤ g ∧ g < wr.heap.size := fun g hg => owns_lt (unhide HM).owns hg
      have hwr : W.heap.size + 2 ≤ wr.heap.size := by have := hb'.size; have := unhide HSZ; omega
      have hmade := (unhide HM).next hb5 (hx.mono (Nat.le_refl _) (fun b hb => ⟨by unfold Mix at hb ⊢; omega, fun e => by have := hgl b e; unfold Mix at hb; omega⟩)) hown' hgrow (by simpa using hbk)
      rw [← List.flatMap_append, ← unhide HC] at hmade
      have hbel : Below (W.heap.size + 2) W2 w1 := ((hb.trans (hb5.mono hwr)).alloc (Nat.le_trans hwr hb5.size) _).grown hgrow (by have := hb5.size; simp; omega) (fun g hg => (hgl g hg).1)
      exact ⟨⟨j + 1, l ++ [x], by omega, by go_num, by simp [unhide HLL], hbel, hmade⟩, by simp [intOf]; omega⟩
    · have hjl : j = len := by omega
      have ht : kids.take j = kids := List.take_of_length_le (by omega)
      have hm := unhide HM
      rw [ht] at hm
      obtain ⟨a', cap', rfl, hfin⟩ := args_end (k := k) (N := N) (s := s) (len := len) (by rw [unhide HLL, hjl]) hl50 hs (unhide HHr).below hns hm
      obtain ⟨⟨z0, z1, z2, z3⟩, y0, y1, y2, y3⟩ := zbox_kept (unhide HHr).bz
      have f3 : wr.frozen? ⟨W.heap.size, 3, none⟩ = false := by simp [World.frozen?, show wr.heap[W.heap.size]? = _ from (unhide HHr).ba]
      obtain ⟨f1, f2⟩ := hfin
      have F1 := hide f1
      have F2 := hide f2
      have hlt' : ¬ (j : Int) < (len : Int) := by omega
      clear f1 f2 hm ht hkids hjl
      go_wp2_with fail
      refine bodyPost_ret (v := (⟨k, N, s, a', len, cap'⟩ : TV).val) ?_ rfl ⟨_, rfl, unhide F1, unhide F2⟩
      simp [results, Tryz.results84, go_sem, TV.val, z0, z1, z2, z3]

/-- hornref.Apply, whatever the term. -/
theorem rapply_any {n : Nat} (bs : List (Int × Tm n)) (la : Option Addr) (ll lc : Nat) (ns : Nat) : ∀ (d : Nat) (t : Tm d) (W : World), IsL ns W la ll bs → ns ≤ W.heap.size → IsT W.heap.size W t → okT t = true →
    Calls Tryz.prog 84 #[t.tv.val, .slice la ll lc] W fun e W' => ∃ x : TV, e = .returned x.val ∧ Below W.heap.size W W' ∧ HoldsS (d + (n + 1)) (Mix ns W.heap.size) W' x.val ((code t).flatMap (subN (lookC (cb bs)))) := by
  intro d
  induction d with
  | zero => intro t; exact Empty.elim t
  | succ d ih =>
    intro t W hl hns hT hok
    obtain ⟨⟨k, N, s, a, len, cap⟩, kids⟩ := t
    obtain ⟨hwm, hk⟩ := ok_kids hok
    obtain ⟨h1, h2, h3, h4⟩ := hT
    simp only [Tm.tv, Tm.kids] at h1 h2 h3 h4 hwm
    rw [code_succ, List.flatMap_cons]
    by_cases hk1 : k = 1
    · subst hk1
      have hl0 : len = 0 := by
        rcases wm_cases hwm with ⟨_, _, _, _, h⟩ | ⟨h, _⟩ | ⟨h, _⟩
        · exact h
        · omega
        · omega
      subst hl0
      have hnil : kids = [] := List.length_eq_zero_iff.1 h1.symm
      subst hnil
      refine (rapply_var bs la ll lc ns N s a 0 cap W hl hns).mono fun e W' h => ?_
      obtain ⟨x, he, hb', hv⟩ := h
      exact ⟨x, he, hb', by simpa [subN, TV.nd] using hv.mono (by omega) (fun _ h => h)⟩
    · have hl50 : len ≤ 50 := by
        rcases wm_cases hwm with ⟨h, _⟩ | ⟨_, h⟩ | ⟨_, _, _, h⟩ <;> omega
      refine (rapply_comp bs la ll lc ns (d + (n + 1)) ih k N s a len cap kids W hl hns hk1 h3 hl50 h1 h4 hk).mono fun e W' h => ?_
      obtain ⟨x, he, hb', hv⟩ := h
      exact ⟨x, he, hb', by simpa [subN, TV.nd, hk1] using hv.mono (by omega) (fun _ h => h)⟩
end Go.Proofs.YtojefplapklbmaaGreatDoor

/- The contracts of hornref.Binds, hornlaw.none and hornref.SameBinds. -/
namespace Go.Proofs.YtojefplapklbmaaGreatDoor
open Go.RowKit Go.Shelf

set_option maxHeartbeats 400000 in
theorem none_any (x : TV) (w : World) : Calls Tryz.prog 35 #[x.val] w fun e W' => e = .returned (.bool (decide (x.k = 0) && (decide (x.N = 0) && (decide (x.s.toList = []) && ((x.len : Int) == 0))))) ∧ Below w.heap.size w W' := by
  simp only [TV.val]
  go_enter Tryz.func35, Tryz.ntmps35
  go_wp2
  all_goals go_ret
  all_goals refine ⟨?_, (Below.refl _ w).alloc (Nat.le_refl _) _⟩
  all_goals simp_all

end Go.Proofs.YtojefplapklbmaaGreatDoor

/- A term that can be read as data, and is of a bulk that is small, lies in memory as IsT says, at every number of storeys from the bulk on. -/
namespace Go.Proofs.YtojefplapklbmaaGreatDoor
open Go.RowKit Go.Joins Go.WideShapes

theorem Tryz.cells28 : Tryz.prog.cellsOf 24 = 4 := by kernel_rfl
theorem Tryz.cells3 : Tryz.prog.cellsOf 3 = 1 := by kernel_rfl
theorem Tryz.cells2 : Tryz.prog.cellsOf 2 = 1 := by kernel_rfl
theorem Tryz.cells9 : Tryz.prog.cellsOf 9 = 1 := by kernel_rfl
theorem Tryz.cells26 : Tryz.prog.cellsOf 22 = 1 := by kernel_rfl

theorem list4 {α : Type} {l : List α} (h : l.length = 4) : ∃ a b c d, l = [a, b, c, d] := by
  match l, h with
  | [a, b, c, d], _ => exact ⟨a, b, c, d, rfl⟩

theorem cells4 {w : World} {base : Nat} {a : Addr} {c0 c1 c2 c3 : Value} (h : w.cells? base a 4 = some [c0, c1, c2, c3]) : a.spot = none ∧ w.cell? ⟨a.block, a.off, none⟩ = some c0 ∧ w.cell? ⟨a.block, a.off + 1, none⟩ = some c1 ∧ w.cell? ⟨a.block, a.off + 2, none⟩ = some c2 ∧ w.cell? ⟨a.block, a.off + 3, none⟩ = some c3 := by
  unfold World.cells? at h
  split at h
  · obtain ⟨b, off, spot⟩ := a
    simp [List.range_succ, List.mapM_cons, Addr.add, Option.bind_eq_some_iff] at h
    obtain ⟨h0, h1, h2, h3⟩ := h
    have hs : spot = none := World.cell?_spot h0
    subst hs
    exact ⟨rfl, h0, h1, h2, h3⟩
  · cases h

theorem mapM_size {α β : Type} {f : α → Option β} : ∀ {l : List α} {r : List β}, l.mapM f = some r → r.length = l.length
  | [], r, h => by simp at h; subst h; rfl
  | a :: l, r, h => by
    simp [List.mapM_cons, Option.bind_eq_some_iff] at h
    obtain ⟨b, _, r', hr, rfl⟩ := h
    simp [mapM_size hr]
theorem cells_len {w : World} {base : Nat} {a : Addr} {n : Nat} {cs : List Value} (h : w.cells? base a n = some cs) : cs.length = n := by
  unfold World.cells? at h
  split at h
  · have := mapM_size h; simpa using this
  · cases h

theorem list_of {α : Type} {p : Nat → α → Prop} : ∀ {n : Nat}, (∀ i, i < n → ∃ x, p i x) → ∃ l : List α, l.length = n ∧ ∀ j u, l[j]? = some u → p j u
  | 0, _ => ⟨[], rfl, fun j u h => by simp at h⟩
  | n + 1, h => by
    obtain ⟨l, hl, hp⟩ := list_of (n := n) (fun i hi => h i (by omega))
    obtain ⟨x, hx⟩ := h n (by omega)
    refine ⟨l ++ [x], by simp [hl], fun j u hu => ?_⟩
    by_cases hj : j < n
    · rw [List.getElem?_append_left (by omega)] at hu; exact hp j u hu
    · rw [List.getElem?_append_right (by omega)] at hu
      have hj2 : j - l.length = 0 := by
        by_cases e : j - l.length = 0
        · exact e
        · rw [List.getElem?_eq_none (by simp; omega)] at hu; cases hu
      rw [hj2] at hu
      simp at hu
      subst hu
      obtain rfl : j = n := by omega
      exact hx
theorem add_none (b off n : Nat) : Addr.add ⟨b, off, none⟩ n = ⟨b, off + n, none⟩ := by
  unfold Addr.add; split
  · rename_i h; subst h; rfl
  · rfl
theorem cell_lt {w : World} {b o : Nat} {v : Value} (h : w.cell? ⟨b, o, none⟩ = some v) : b < w.heap.size := by
  unfold World.cell? at h
  simp only at h
  cases hb : w.heap[b]? with
  | none => rw [hb] at h; cases h
  | some ob => exact (Array.getElem?_eq_some_iff.1 hb).1

/-- As IsT, however deep. -/
def IsU (n₀ : Nat) (W : World) : {n : Nat} → Tm n → Prop
  | 0, t => Empty.elim t
  | _ + 1, t => t.tv.len = t.kids.length ∧ (t.tv.len ≤ 9223372036854775807 ∧ t.tv.len ≤ t.tv.cap) ∧ t.tv.s.size ≤ 9223372036854775807 ∧ (t.kids = [] ∨ ∃ b off, t.tv.a = some ⟨b, off, none⟩ ∧ b < n₀ ∧
      ∀ j u, t.kids[j]? = some u → cellsAt W b (off + j * 4) u.tv ∧ IsU n₀ W u)
theorem isU_mk {n n₀ : Nat} {W : World} (x : TV) (kids : List (Tm n)) (h1 : x.len = kids.length) (h2 : x.len ≤ 9223372036854775807 ∧ x.len ≤ x.cap) (h3 : x.s.size ≤ 9223372036854775807)
    (h4 : kids = [] ∨ ∃ b off, x.a = some ⟨b, off, none⟩ ∧ b < n₀ ∧ ∀ j u, kids[j]? = some u → cellsAt W b (off + j * 4) u.tv ∧ IsU n₀ W u) : IsU n₀ W (n := n + 1) ((x, kids) : TV × List (Tm n)) := ⟨h1, h2, h3, h4⟩
theorem lower_list {n₀ n m : Nat} {W : World} : ∀ (kids : List (Tm n)), (∀ u ∈ kids, ∃ t' : Tm m, t'.tv = u.tv ∧ IsT n₀ W t' ∧ parts t' = parts u) →
    ∃ kids' : List (Tm m), kids'.length = kids.length ∧ (∀ (j : Nat) (u' : Tm m), kids'[j]? = some u' → ∃ u : Tm n, kids[j]? = some u ∧ u'.tv = u.tv ∧ IsT n₀ W u') ∧ kids'.flatMap parts = kids.flatMap parts
  | [], _ => ⟨[], rfl, fun j u' h => by simp at h, rfl⟩
  | u :: kids, h => by
    obtain ⟨t', e1, e2, e3⟩ := h u (by simp)
    obtain ⟨ks, k1, k2, k3⟩ := lower_list kids (fun z hz => h z (by simp [hz]))
    refine ⟨t' :: ks, by simp [k1], fun j u' hu => ?_, by simp [e3, k3]⟩
    cases j with
    | zero => simp at hu; subst hu; exact ⟨u, rfl, e1, e2⟩
    | succ j =>
      obtain ⟨z, z1, z2⟩ := k2 j u' (by simpa using hu)
      exact ⟨z, by simpa using z1, z2⟩
theorem part_len {n : Nat} {kids : List (Tm n)} {u : Tm n} (h : u ∈ kids) : (parts u).length ≤ (kids.flatMap parts).length := by
  induction kids with
  | nil => cases h
  | cons z kids ih =>
    simp only [List.flatMap_cons, List.length_append]
    rcases List.mem_cons.1 h with rfl | h
    · omega
    · have := ih h
      omega
/-- A term of few parts is not nested deeper than it has parts. -/
theorem lower {n₀ : Nat} {W : World} : ∀ (n : Nat) (t : Tm n), IsU n₀ W t → ∀ m, (parts t).length ≤ m → m ≤ 2199023255552 → ∃ t' : Tm m, t'.tv = t.tv ∧ IsT n₀ W t' ∧ parts t' = parts t := by
  intro n
  induction n with
  | zero => intro t; exact Empty.elim t
  | succ n ih =>
    intro t ht m hm hlim
    obtain ⟨x, kids⟩ := t
    obtain ⟨h1, h2, h3, h4⟩ := ht
    have hp : parts (n := n + 1) ((x, kids) : TV × List (Tm n)) = x :: kids.flatMap parts := rfl
    rw [hp] at hm ⊢
    simp only [List.length_cons] at hm
    obtain ⟨m, rfl⟩ : ∃ k, m = k + 1 := ⟨m - 1, by omega⟩
    have hu : ∀ u ∈ kids, IsU n₀ W u := fun u hu => by
      rcases h4 with h4 | ⟨b, off, _, _, hk⟩
      · have h4' : kids = [] := h4
        rw [h4'] at hu; cases hu
      · obtain ⟨j, hj⟩ := List.mem_iff_getElem?.1 hu
        exact (hk j u hj).2
    obtain ⟨ks, k1, k2, k3⟩ := lower_list (m := m) (n₀ := n₀) (W := W) kids (fun u hu' => ih u (hu u hu') m (by have := part_len hu'; omega) (by omega))
    refine ⟨((x, ks) : TV × List (Tm m)), rfl, ⟨?_, ⟨h2.1, h2.2, hlim⟩, h3, ?_⟩, ?_⟩
    · show x.len = ks.length
      rw [k1]; exact h1
    · rcases h4 with h4 | ⟨b, off, ha, hb, hk⟩
      · refine .inl ?_
        have h4' : kids = [] := h4
        show ks = []
        rw [h4'] at k1
        exact List.length_eq_zero_iff.1 k1
      · refine .inr ⟨b, off, ha, hb, fun j u' hu' => ?_⟩
        obtain ⟨u, q1, q2, q3⟩ := k2 j u' hu'
        exact ⟨by rw [q2]; exact (hk j u q1).1, q3⟩
    · show x :: ks.flatMap parts = _
      rw [k3]
theorem bulk_one {H : Type} (d : DataW H) : 1 ≤ Rows.uptoBulk d := by
  cases d with
  | lit l => cases l <;> simp [Rows.uptoBulk]
  | nil => simp [Rows.uptoBulk]
  | ptr d => simp [Rows.uptoBulk]
  | slice elems spare => simp [Rows.uptoBulk]
  | agg parts => simp [Rows.uptoBulk]
  | iface t d => simp [Rows.uptoBulk]
  | map entries => simp [Rows.uptoBulk]
  | held h => simp [Rows.uptoBulk]
theorem bulk_len {H : Type} (l : List (DataW H)) : l.length ≤ Rows.uptoBulkAll l := by
  induction l with
  | nil => simp [Rows.uptoBulkAll]
  | cons x r ih => have := bulk_one x; simp only [Rows.uptoBulkAll, List.length_cons]; omega
theorem bulk_list {H : Type} {d : DataW H} {len : Nat} (h : len = 0 ∨ ∃ es sp, d = .slice es sp ∧ es.length = len) : len ≤ Rows.uptoBulk d := by
  rcases h with h | ⟨es, sp, rfl, h⟩
  · omega
  · have := bulk_len es
    simp only [Rows.uptoBulk]
    omega
theorem bulk_part {H : Type} {d : DataW H} {l : List (DataW H)} (h : d ∈ l) : Rows.uptoBulk d ≤ Rows.uptoBulkAll l := by
  induction l with
  | nil => cases h
  | cons x r ih =>
    simp only [Rows.uptoBulkAll]
    cases List.mem_cons.1 h with
    | inl e => subst e; omega
    | inr e => have := ih e; omega
theorem bulk_kids {H : Type} {n : Nat} : ∀ (kids : List (Tm n)) (ds : List (DataW H)), kids.length = ds.length → (∀ (i : Nat) (u : Tm n) (d : DataW H), kids[i]? = some u → ds[i]? = some d → (code u).length ≤ Rows.uptoBulk d) → (kids.flatMap code).length ≤ Rows.uptoBulkAll ds
  | [], ds, _, _ => by simp
  | u :: kids, [], h, _ => by simp at h
  | u :: kids, d :: ds, h, hk => by
    have h1 := hk 0 u d rfl rfl
    have h2 := bulk_kids kids ds (by simpa using h) (fun i u d hu hd => hk (i + 1) u d (by simpa using hu) (by simpa using hd))
    simp only [List.flatMap_cons, List.length_append, Rows.uptoBulkAll]
    omega

def Nw (x : TV) : Prop := -9223372036854775808 ≤ x.N ∧ x.N ≤ 9223372036854775807
theorem nums_kids {m : Nat} {x : TV} {kids : List (Tm m)} (h0 : Nw x) (h : ∀ u ∈ kids, ∀ y ∈ parts u, Nw y) : ∀ y ∈ parts (n := m + 1) ((x, kids) : TV × List (Tm m)), Nw y := fun y hy => by
  have hy' : y ∈ x :: kids.flatMap parts := hy
  rcases List.mem_cons.1 hy' with e | e
  · rw [e]; exact h0
  · obtain ⟨u, hu, e⟩ := List.mem_flatMap.1 e
    exact h u hu y e
theorem nw_wf {k N : Int} {s : ByteArray} {a : Option Addr} {l c : Nat} (h : (Lit.int .i64 N).wf = true) : Nw ⟨k, N, s, a, l, c⟩ := by
  simp only [Lit.wf, Bool.and_eq_true, decide_eq_true_eq] at h
  exact h

/-- The cells of a term that can be read, and how many parts it has. -/
theorem open_nums {H : Type} {enc : TypeId × Value → H} {w : World} {spare : Nat → Bool} {held : Bool} : ∀ (k fuel : Nat), fuel ≤ k → ∀ (m : Nat), fuel ≤ m → ∀ (cs : List Value) (y : DataW H × List MemPlace),
    DataW.trod enc Tryz.prog w 0 spare held fuel 24 cs = some y → ∃ t : Tm m, cs = [.int .i64 t.tv.k, .int .i64 t.tv.N, .string t.tv.s, .slice t.tv.a t.tv.len t.tv.cap] ∧ IsU w.heap.size w t ∧ (code t).length ≤ Rows.uptoBulk y.1 ∧ ∀ x ∈ parts t, Nw x := by
  intro k
  induction k with
  | zero =>
    intro fuel hf m _ cs y h
    obtain rfl : fuel = 0 := by omega
    simp [DataW.trod] at h
  | succ k ih =>
    intro fuel hf m hm cs y h
    obtain ⟨xs, n, rfl, rfl, hl, hxl, hfs⟩ := DataW.trod_struct Tryz.underlying24 h
    rw [Tryz.cells28] at hl
    have hx4 : xs.length = 4 := hxl
    clear hxl
    obtain ⟨v0, v1, v2, v3, rfl⟩ := list4 hl
    have f0 : DataW.trod enc Tryz.prog w 0 spare held n 3 (List.take (Tryz.prog.cellsOf 3) (List.drop 0 [v0, v1, v2, v3])) = xs[0]? := hfs 0 _ rfl
    have f1 : DataW.trod enc Tryz.prog w 0 spare held n 2 (List.take (Tryz.prog.cellsOf 2) (List.drop 1 [v0, v1, v2, v3])) = xs[1]? := hfs 1 _ rfl
    have f2 : DataW.trod enc Tryz.prog w 0 spare held n 9 (List.take (Tryz.prog.cellsOf 9) (List.drop 2 [v0, v1, v2, v3])) = xs[2]? := hfs 2 _ rfl
    have f3 : DataW.trod enc Tryz.prog w 0 spare held n 22 (List.take (Tryz.prog.cellsOf 22) (List.drop 3 [v0, v1, v2, v3])) = xs[3]? := hfs 3 _ rfl
    rw [Tryz.cells3] at f0
    rw [Tryz.cells2] at f1
    rw [Tryz.cells9] at f2
    rw [Tryz.cells26] at f3
    simp only [List.drop_zero, List.drop_succ_cons, List.take_succ_cons, List.take_zero] at f0 f1 f2 f3
    clear hfs
    obtain ⟨x0, x1, x2, x3, rfl⟩ := list4 hx4
    simp only [List.getElem?_cons_zero, List.getElem?_cons_succ] at f0 f1 f2 f3
    obtain ⟨tk, g0, -, -⟩ := DataW.trod_int Tryz.underlying3 f0
    obtain ⟨tN, g1, -, hwf⟩ := DataW.trod_int Tryz.underlying2 f1
    obtain ⟨ts, g2, -, hsm⟩ := DataW.trod_string Tryz.underlying9 f2
    simp only [List.cons.injEq, and_true] at g0 g1 g2
    subst g0 g1 g2
    unfold maxLen at hsm
    have hbulk : Rows.uptoBulk x3.1 ≤ Rows.uptoBulkAll ([x0, x1, x2, x3].map (·.1)) := bulk_part (by simp)
    have hb1 := bulk_one x3.1
    obtain ⟨m', rfl⟩ : ∃ m', m = m' + 1 := ⟨m - 1, by omega⟩
    rcases DataW.trod_slice Tryz.underlying22 f3 with ⟨g3, -⟩ | ⟨a, len, cap, elems, rest, n', hn', g3, hd3, hb, hlc, hmx, hlen, hel, -, -⟩
    · simp only [List.cons.injEq, and_true] at g3
      subst g3
      refine ⟨((⟨tk, tN, ts, none, 0, 0⟩, []) : TV × List (Tm m')), rfl, ⟨rfl, ⟨by simp [Tm.tv], by simp [Tm.tv]⟩, by simp only [Tm.tv]; omega, .inl rfl⟩, ?_, nums_kids (nw_wf hwf) (fun u hu => by cases hu)⟩
      rw [code_succ]
      simp only [Rows.uptoBulk, List.flatMap_nil, List.length_cons, List.length_nil]
      omega
    · simp only [List.cons.injEq, and_true] at g3
      subst g3
      unfold maxLen at hmx
      by_cases hl0 : len = 0
      · subst hl0
        refine ⟨((⟨tk, tN, ts, some a, 0, cap⟩, []) : TV × List (Tm m')), rfl, ⟨rfl, ⟨by simp [Tm.tv], by simp [Tm.tv]⟩, by simp only [Tm.tv]; omega, .inl rfl⟩, ?_, nums_kids (nw_wf hwf) (fun u hu => by cases hu)⟩
        rw [code_succ]
        simp only [Rows.uptoBulk, List.flatMap_nil, List.length_cons, List.length_nil]
        omega
      · have hel' : ∀ i, i < len → ∃ u : Tm m', w.cells? 0 (a.add (i * 4)) 4 = some [.int .i64 u.tv.k, .int .i64 u.tv.N, .string u.tv.s, .slice u.tv.a u.tv.len u.tv.cap] ∧ IsU w.heap.size w u ∧ (∀ x ∈ parts u, Nw x) ∧ ∀ d, (elems.map (·.1))[i]? = some d → (code u).length ≤ Rows.uptoBulk d := by
          intro i hi
          have h1 := hel i hi
          rw [List.getElem?_eq_getElem (by omega)] at h1
          obtain ⟨cs', h2, h3⟩ := Option.bind_eq_some_iff.1 h1
          obtain ⟨u, hu, hT, hc, hnw⟩ := ih n' (by omega) m' (by omega) cs' _ h3
          subst hu
          rw [Tryz.cells28] at h2
          refine ⟨u, h2, hT, hnw, fun d hd => ?_⟩
          rw [List.getElem?_map, List.getElem?_eq_getElem (by omega)] at hd
          simp at hd
          rw [← hd]
          exact hc
        clear hel
        obtain ⟨b, off, spot⟩ := a
        have hspot : spot = none := by
          obtain ⟨u, h2, -⟩ := hel' 0 (by omega)
          obtain ⟨s1, -⟩ := cells4 h2
          simpa [Addr.add] using s1
        subst hspot
        have hkid : ∀ i, i < len → ∃ u : Tm m', b < w.heap.size ∧ (cellsAt w b (off + i * 4) u.tv ∧ IsU w.heap.size w u) ∧ (∀ x ∈ parts u, Nw x) ∧ ∀ d, (elems.map (·.1))[i]? = some d → (code u).length ≤ Rows.uptoBulk d := by
          intro i hi
          obtain ⟨u, h2, hT, hnw, hc⟩ := hel' i hi
          rw [add_none] at h2
          obtain ⟨-, k0, k1, k2, k3⟩ := cells4 h2
          exact ⟨u, cell_lt k0, ⟨⟨k0, k1, k2, k3⟩, hT⟩, hnw, hc⟩
        obtain ⟨kids, hkl, hks⟩ := list_of hkid
        obtain ⟨_, hb0, _⟩ := hkid 0 (by omega)
        clear hkid hel' ih
        have hl63 : len ≤ 9223372036854775807 ∧ len ≤ cap := ⟨by omega, hlc⟩
        have hs63 : ts.size ≤ 9223372036854775807 := by omega
        have hfin : IsU w.heap.size w (n := m' + 1) (((⟨tk, tN, ts, some ⟨b, off, none⟩, len, cap⟩ : TV), kids) : TV × List (Tm m')) := isU_mk _ kids hkl.symm hl63 hs63 (.inr ⟨b, off, rfl, hb0, fun j u hu => (hks j u hu).2.1⟩)
        refine ⟨_, rfl, hfin, ?_, nums_kids (nw_wf hwf) (fun u hu => by obtain ⟨i, hi⟩ := List.getElem?_of_mem hu; exact (hks i u hi).2.2.1)⟩
        have hsum := bulk_kids kids (elems.map (·.1)) (by simp [hkl, hlen]) (fun i u d hu hd => (hks i u hu).2.2.2 d hd)
        rw [code_succ]
        have h3 : Rows.uptoBulkAll (elems.map (·.1)) + 1 ≤ Rows.uptoBulk x3.1 := by rw [hd3]; simp only [Rows.uptoBulk]; omega
        simp only [Rows.uptoBulk, List.length_cons]
        omega

set_option maxRecDepth 100000 in
/-- An argument that is a term of a small bulk: from that bulk on it is one, of no more parts. -/
theorem open_arg_nums {H : Type} {enc : TypeId × Value → H} {w : World} {r : Reach} {b0 : Nat} {spare : Nat → Bool} {held : Bool} {v : Value} {d : DataW H} {p : List MemPlace} (hv : Value.okWide Tryz.prog w r b0 24 v) (h : DataW.Trod enc Tryz.prog w 0 spare held 24 v d p) :
    ∀ m, Rows.uptoBulk d ≤ m → m ≤ 2199023255552 → ∃ t : Tm m, v = t.tv.val ∧ IsT w.heap.size w t ∧ (code t).length ≤ Rows.uptoBulk d ∧ ∀ x ∈ parts t, Nw x := by
  obtain ⟨cs, rfl, _⟩ := okWide_struct Tryz.underlying24 hv
  obtain ⟨fuel, hf⟩ := h
  intro m hm hlim
  obtain ⟨t0, ht, hU, hc, hnw⟩ := open_nums fuel fuel (Nat.le_refl _) fuel (Nat.le_refl _) _ _ hf
  have hc' : (parts t0).length ≤ Rows.uptoBulk d := by simpa [code] using hc
  obtain ⟨t, e1, e2, e3⟩ := lower fuel t0 hU m (by omega) hlim
  refine ⟨t, ?_, e2, by simpa [code, e3] using hc', by rw [e3]; exact hnw⟩
  have : cs.toList = [.int .i64 t0.tv.k, .int .i64 t0.tv.N, .string t0.tv.s, .slice t0.tv.a t0.tv.len t0.tv.cap] := by simpa [Value.cells] using ht
  rw [← e1] at this
  unfold TV.val
  rw [← this]
end Go.Proofs.YtojefplapklbmaaGreatDoor

