import Derived.Test.YtdjlekcapfeniaaK
import Derived.Test.YtdjlekcapfeniaaD
import Derived.Test.YtdjlekcapfeniaaF
/- The contract of term.replace: each variable of a term gives way to what a function says of it, in new memory. -/
namespace Go.Proofs.Ytdjlekcapfeniaa
open Go.RowKit Go.Shelf

theorem code_take {n : Nat} (kids : List (Tm n)) (j : Nat) (u : Tm n) (h : kids[j]? = some u) : (kids.take (j + 1)).flatMap code = (kids.take j).flatMap code ++ code u := by
  obtain ⟨hj, rfl⟩ := List.getElem?_eq_some_iff.1 h
  rw [List.take_succ_eq_append_getElem hj, List.flatMap_append, List.flatMap_cons, List.flatMap_nil, List.append_nil]

/-- What lies behind the call's first steps: the term's box, the cell of the result, the room that was made. -/
theorem made_world (W : World) (x : TV) (len : Nat) : ∃ W3, ((W.alloc (.cells #[.int .i64 x.k, .int .i64 x.N, .string x.s, .slice x.a x.len x.cap] 24)).alloc (.cells #[.int .i64 0, .int .i64 0, .string ⟨#[]⟩, .slice none 0 0] 24)).alloc (.cells (madeCells #[.int .i64 0, .int .i64 0, .string ⟨#[]⟩, .slice none 0 0] (len * 4)) 24) = W3 ∧
    Below W.heap.size W W3 ∧ W3.heap.size = W.heap.size + 3 ∧ BoxT W3 W.heap.size x ∧ W3.heap[W.heap.size + 1]? = some (.cells #[.int .i64 0, .int .i64 0, .string ⟨#[]⟩, .slice none 0 0] 24 (0, 0)) ∧ Row4 W3 (W.heap.size + 2) len := by
  refine ⟨_, rfl, (((Below.refl _ W).alloc (Nat.le_refl _) _).alloc (by simp) _).alloc (by simp; omega) _, by simp, ((BoxT.new W x).alloc _).alloc _, ?_, ?_⟩
  · have h := World.alloc_heap_new (W.alloc (.cells #[.int .i64 x.k, .int .i64 x.N, .string x.s, .slice x.a x.len x.cap] 24)) (.cells #[.int .i64 0, .int .i64 0, .string ⟨#[]⟩, .slice none 0 0] 24)
    rw [World.size_alloc] at h
    exact (Below.heap_alloc _ _ _ (by simp)).trans h
  · refine ⟨madeCells #[.int .i64 0, .int .i64 0, .string ⟨#[]⟩, .slice none 0 0] (len * 4), ?_, size_madeCells _ _⟩
    have h := World.alloc_heap_new ((W.alloc (.cells #[.int .i64 x.k, .int .i64 x.N, .string x.s, .slice x.a x.len x.cap] 24)).alloc (.cells #[.int .i64 0, .int .i64 0, .string ⟨#[]⟩, .slice none 0 0] 24)) (.cells (madeCells #[.int .i64 0, .int .i64 0, .string ⟨#[]⟩, .slice none 0 0] (len * 4)) 24)
    rw [World.size_alloc, World.size_alloc] at h
    exact h

/-- The end of replace at a compound. -/
theorem comp_end {D : Nat} {W wr : World} {s : ByteArray} {len : Nat} {c : List Nd} (hB : Below W.heap.size W wr) (hs : s.size ≤ 9223372036854775807) (hl : len ≤ 50) (hsz : W.heap.size + 3 ≤ wr.heap.size) (hr : Row4 wr (W.heap.size + 2) len) (hw : Written D (W.heap.size + 2) len wr c) :
    let x : TV := ⟨4, 0, s, some ⟨W.heap.size + 2, 0, none⟩, len, len⟩
    Below W.heap.size W (set4 wr (W.heap.size + 1) 0 x) ∧ HoldsT (D + 1) W.heap.size (set4 wr (W.heap.size + 1) 0 x) x.val ((4, 0, s.toList, len) :: c) := by
  intro x
  refine ⟨set4_below hB (by omega) 0 x, fun m hm => ?_⟩
  obtain ⟨M, rfl⟩ : ∃ M, m = M + 1 := ⟨m - 1, by omega⟩
  obtain ⟨ks, hkl, hks, hkc, hnd⟩ := hw M (by omega)
  refine ⟨((x, ks) : TV × List (Tm M)), rfl, ?_, ?_, ?_⟩
  · refine ⟨hkl.symm, ?_, hs, .inr ⟨W.heap.size + 2, 0, rfl, by rw [set4_size]; omega, fun j u hu => ?_⟩⟩
    · show len ≤ _
      omega
    · obtain ⟨k1, k2, k3⟩ := hks j u hu
      refine ⟨?_, ?_⟩
      · rw [Nat.zero_add]
        exact k1.kept (set4_other wr _ 0 x (by omega))
      · rw [set4_size]
        exact k2.from (fun q hq => set4_other wr _ 0 x (by omega)) k3.new
  · obtain ⟨arr, ha1, ha2⟩ := hr
    refine ⟨⟨.inr ⟨W.heap.size + 2, 0, rfl, by omega⟩, fun u hu => ?_⟩, ⟨.inr ⟨W.heap.size + 2, arr, by omega, rfl, rfl, (set4_other wr _ 0 x (by omega)).trans ha1, ha2⟩, fun u hu => ?_⟩, row_apart (B := W.heap.size + 2) rfl (Nat.lt_succ_self _) (fun i z hz => (hks i z hz).2.2) hnd⟩
    · obtain ⟨j, hj⟩ := List.mem_iff_getElem?.1 hu
      exact ((hks j u hj).2.2.mono (by omega)).new
    · obtain ⟨j, hj⟩ := List.mem_iff_getElem?.1 hu
      exact (((hks j u hj).2.2.kept (fun q hq _ => set4_other wr _ 0 x (by omega))).mono (by omega)).wh
  · rw [code_succ, hkc]; rfl

set_option maxRecDepth 100000 in
set_option maxHeartbeats 1000000 in
theorem replace_comp {n : Nat} (fv : Value) (β : Int → List Nd) (D : Nat) (w : World)
    (ih : ∀ (u : Tm n) (W : World), Below w.heap.size w W → IsT W.heap.size W u → okT u = true → Calls Try.prog 45 #[u.tv.val, fv] W fun e W' => ∃ v, e = .returned v ∧ Below W.heap.size W W' ∧ HoldsT (n + D) W.heap.size W' v ((code u).flatMap (subN β)))
    (s : ByteArray) (a : Option Addr) (len cap : Nat) (kids : List (Tm n)) (W : World) (hbW : Below w.heap.size w W) (hs : s.size ≤ 9223372036854775807) (hl50 : len ≤ 50) (hlen : len = kids.length)
    (hkids : kids = [] ∨ ∃ b off, a = some ⟨b, off, none⟩ ∧ b < W.heap.size ∧ ∀ j u, kids[j]? = some u → cellsAt W b (off + j * 4) u.tv ∧ IsT W.heap.size W u) (hok : ∀ u ∈ kids, okT u = true) :
    Calls Try.prog 45 #[.agg #[.int .i64 4, .int .i64 0, .string s, .slice a len cap], fv] W fun e W' => ∃ v, e = .returned v ∧ Below W.heap.size W W' ∧ HoldsT (n + 1 + D) W.heap.size W' v ((4, 0, s.toList, len) :: (kids.flatMap code).flatMap (subN β)) := by
  have hl1 : len ≤ kids.length := by omega
  have hl2 : kids.length ≤ len := by omega
  clear hlen
  have HI := hide ih
  have HO := hide hok
  clear ih hok
  have hmk := make_terms len hl50
  go_enter Try.func45, Try.ntmps45
  go_wp2_with fail
  obtain ⟨W3, hW3, hb3, hs3, bT, hz, hr⟩ := made_world W ⟨4, 0, s, a, len, cap⟩ len
  simp only at hW3
  rw [hW3]
  clear hW3 hmk
  have HZ := hide hz
  have HT := hide bT
  have HR := hide hr
  have HS := hide hs3
  clear hz bT hr hs3
  go_loopw [25] (fun i wr => ∃ j : Nat, j ≤ len ∧ i = .int .i64 j ∧ Below (W.heap.size + 2) W3 wr ∧ Row4 wr (W.heap.size + 2) len ∧ Written (n + D) (W.heap.size + 2) j wr (((kids.take j).flatMap code).flatMap (subN β))) (fun i _ => len - (intOf i).toNat)
  case atStart => exact ⟨0, Nat.zero_le _, rfl, Below.refl _ _, unhide HR, Written.zero _ _ _⟩
  case round =>
    obtain ⟨j, hj, rfl, hb, hrow, hwr⟩ := hrel
    have hbw : Below W.heap.size W wr := hb3.trans (hb.mono (by omega))
    have hsz : W.heap.size + 3 ≤ wr.heap.size := by have := hb.size; have := unhide HS; omega
    by_cases hlt : j < len
    · obtain ⟨u, b, off, hu, rfl, ⟨c0, c1, c2, c3⟩, hT, hbk⟩ := kid_at hkids hbw hlt hl1
      have hbu : Below wr.heap.size wr (wr.alloc (.cells #[.int .i64 u.tv.k, .int .i64 u.tv.N, .string u.tv.s, .slice u.tv.a u.tv.len u.tv.cap] 24)) := (Below.refl _ wr).alloc (Nat.le_refl _) _
      have ihu := (unhide HI) u (wr.alloc (.cells #[.int .i64 u.tv.k, .int .i64 u.tv.N, .string u.tv.s, .slice u.tv.a u.tv.len u.tv.cap] 24)) (hbW.trans ((hbw.trans (hbu.mono hbw.size)).mono hbW.size)) ((hT.below hbu).mono hbu.size) ((unhide HO) u (List.mem_of_getElem? hu))
      have hcode := code_take kids j u hu
      have HC := hide hcode
      have HW := hide hwr
      have HRW := hide hrow
      clear hT hkids hu hcode hwr hrow
      simp only [TV.val] at ihu
      have hj1 : (j : Int) < len := by omega
      go_wp2_with fail
      refine ihu.mono ?_
      clear ihu
      rintro e W5 ⟨v, rfl, hb5, hv⟩
      obtain ⟨t5, ht5, -⟩ := hv _ (Nat.le_refl _)
      subst ht5
      have hb5' : Below wr.heap.size wr W5 := hbu.trans (hb5.mono hbu.size)
      have hrow5 : Row4 W5 (W.heap.size + 2) len := (unhide HRW).kept (hb5'.block _ (unhide HRW).lt)
      obtain ⟨⟨_, z0⟩, y0⟩ := hrow5.cell (o := j * 4) (by omega)
      obtain ⟨⟨_, z1⟩, y1⟩ := hrow5.cell (o := j * 4 + 1) (by omega)
      obtain ⟨⟨_, z2⟩, y2⟩ := hrow5.cell (o := j * 4 + 2) (by omega)
      obtain ⟨⟨_, z3⟩, y3⟩ := hrow5.cell (o := j * 4 + 3) (by omega)
      have hfin := (unhide HW).next hlt hrow5 hb5' (unhide HRW).lt hv (by simp)
      rw [← List.flatMap_append, ← unhide HC] at hfin
      have hfin2 := hrow5.set4 (j * 4) t5.tv
      have hfin3 : Below (W.heap.size + 2) W3 (set4 W5 (W.heap.size + 2) (j * 4) t5.tv) := set4_below (hb.trans (hb5'.mono (by omega))) (Nat.le_refl _) _ _
      have G1 := hide hfin
      have G2 := hide hfin2
      have G3 := hide hfin3
      clear hfin hfin2 hfin3 hv hb5 hrow5 hb5' hbu
      simp only [TV.val]
      go_wp2_with fail
      go_roundw
      case rel => exact ⟨j + 1, by omega, by go_num, unhide G3, unhide G2, unhide G1⟩
      case measure => simp [intOf]; omega
    · have ht : kids.take j = kids := List.take_of_length_le (by omega)
      obtain rfl : j = len := by omega
      rw [ht] at hwr
      obtain ⟨⟨z0, z1, z2, z3⟩, y0, y1, y2, y3⟩ := zbox_kept ((hb.block (W.heap.size + 1) (by omega)).trans (unhide HZ))
      have bT : BoxT wr W.heap.size ⟨4, 0, s, a, j, cap⟩ := (hb.block W.heap.size (by omega)).trans (unhide HT)
      have x2 := bT.c2
      obtain ⟨f1, f2⟩ := comp_end hbw hs hl50 hsz hrow hwr
      have F1 := hide f1
      have F2 := hide f2
      clear f1 f2 hwr ht hkids hrow
      go_wp2_with fail
      exact bodyPost_ret (v := (⟨4, 0, s, some ⟨W.heap.size + 2, 0, none⟩, j, j⟩ : TV).val) (by simp [results, Try.results45, go_sem, TV.val, z0, z1, z2, z3]) rfl ⟨_, rfl, unhide F1, by have h := unhide F2; rw [show n + 1 + D = n + D + 1 by omega]; exact h⟩

theorem ok_kids {n : Nat} {x : TV} {kids : List (Tm n)} (h : okT (n := n + 1) ((x, kids) : TV × List (Tm n)) = true) : wmB x.k x.N x.s x.len = true ∧ ∀ u ∈ kids, okT u = true := by
  rw [okT_succ, Bool.and_eq_true] at h
  exact ⟨h.1, List.all_eq_true.1 h.2⟩
theorem wm_cases {k N : Int} {s : ByteArray} {len : Nat} (h : wmB k N s len = true) : (k = 1 ∧ 0 ≤ N ∧ N ≤ 1099511627776 ∧ s.toList = [] ∧ len = 0) ∨ ((k = 2 ∨ k = 3) ∧ len = 0) ∨ (k = 4 ∧ N = 0 ∧ 1 ≤ len ∧ len ≤ 50) := by
  unfold wmB at h
  split at h
  · rename_i hk
    simp at h
    exact .inl ⟨hk, h.1.1.1, h.1.1.2, h.1.2, h.2⟩
  · split at h
    · rename_i hk
      simp at h
      exact .inr (.inl ⟨.inl hk, h.2⟩)
    · split at h
      · rename_i hk
        simp at h
        exact .inr (.inl ⟨.inr hk, h.2⟩)
      · split at h
        · rename_i hk
          simp at h
          exact .inr (.inr ⟨hk, h.1.1.1, by omega, by omega⟩)
        · cases h

/-- term.replace, whatever the term. -/
theorem replace_any (g : Nat) (lb : Array Value) (β : Int → List Nd) (D : Nat) (w : World) (hD : 1 ≤ D) (eg : ∀ args w, (callFunc g args).run Try.prog w = .ok (.enter g args) w) (hbec : Becomes g lb β D w) :
    ∀ (n : Nat) (t : Tm n) (W : World), Below w.heap.size w W → IsT W.heap.size W t → okT t = true →
      Calls Try.prog 45 #[t.tv.val, .func (.func g) #[] lb] W fun e W' => ∃ v, e = .returned v ∧ Below W.heap.size W W' ∧ HoldsT (n + D) W.heap.size W' v ((code t).flatMap (subN β)) := by
  intro n
  induction n with
  | zero => intro t; exact Empty.elim t
  | succ n ih =>
    intro t W hb hT hok
    obtain ⟨⟨k, N, s, a, len, cap⟩, kids⟩ := t
    obtain ⟨hwm, hk⟩ := ok_kids hok
    obtain ⟨h1, h2, h3, h4⟩ := hT
    simp only [Tm.tv, Tm.kids] at h1 h2 h3 h4 hwm
    rw [code_succ, List.flatMap_cons]
    rcases wm_cases hwm with ⟨rfl, hN1, hN2, hse, rfl⟩ | ⟨hk23, rfl⟩ | ⟨rfl, rfl, hl1, hl2⟩
    · have hnil : kids = [] := List.length_eq_zero_iff.1 h1.symm
      subst hnil
      refine (replace_var g lb β D w eg hbec N s a 0 cap W hN1 hN2 hb).mono fun e W' h => ?_
      obtain ⟨v, he, hb', hv⟩ := h
      exact ⟨v, he, hb', by simpa [subN, TV.nd] using hv.mono (by omega) (Nat.le_refl _)⟩
    · have hnil : kids = [] := List.length_eq_zero_iff.1 h1.symm
      subst hnil
      refine (replace_leaf _ k N s a 0 cap W hk23 h3).mono fun e W' h => ?_
      obtain ⟨v, he, hb', hv⟩ := h
      have hne : ¬ k = 1 := by omega
      exact ⟨v, he, hb', by simpa [subN, TV.nd, hne] using hv.mono (by omega) (Nat.le_refl _)⟩
    · refine (replace_comp _ β D w ih s a len cap kids W hb h3 hl2 h1 h4 hk).mono fun e W' h => ?_
      obtain ⟨v, he, hb', hv⟩ := h
      exact ⟨v, he, hb', by simpa [subN, TV.nd] using hv⟩
end Go.Proofs.Ytdjlekcapfeniaa

