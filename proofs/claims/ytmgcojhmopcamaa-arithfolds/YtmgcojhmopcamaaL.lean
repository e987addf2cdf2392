import Derived.Test.YtmgcojhmopcamaaK
import Derived.Test.YtmgcojhmopcamaaD
import Derived.Test.YtmgcojhmopcamaaF
/- The contract of term.replace: each variable of a term gives way to what a function says of it, in new memory. -/
namespace Go.Proofs.Ytmgcojhmopcamaa
open Go.RowKit Go.Shelf

theorem code_take {n : Nat} (kids : List (Tm n)) (j : Nat) (u : Tm n) (h : kids[j]? = some u) : (kids.take (j + 1)).flatMap code = (kids.take j).flatMap code ++ code u := by
  obtain ⟨hj, rfl⟩ := List.getElem?_eq_some_iff.1 h
  rw [List.take_succ_eq_append_getElem hj, List.flatMap_append, List.flatMap_cons, List.flatMap_nil, List.append_nil]

/-- What lies behind the call's first steps: the term's box, the cell of the result, the room that was made. -/
theorem made_world (W : World) (x : TV) (len : Nat) : ∃ W3, ((W.alloc (.cells #[.int .i64 x.k, .int .i64 x.N, .string x.s, .slice x.a x.len x.cap] 24)).alloc (.cells #[.int .i64 0, .int .i64 0, .string ⟨#[]⟩, .slice none 0 0] 24)).alloc (.cells (madeCells #[.int .i64 0, .int .i64 0, .string ⟨#[]⟩, .slice none 0 0] (len * 4)) 24) = W3 ∧
    Below W.heap.size W W3 ∧ W3.heap.size = W.heap.size + 3 ∧ BoxT W3 W.heap.size x ∧ W3.heap[W.heap.size + 1]? = some (.cells #[.int .i64 0, .int .i64 0, .string ⟨#[]⟩, .slice none 0 0] 24 (0, 0)) ∧ Row4 W3 (W.heap.size + 2) len := by
  refine ⟨_, rfl, (((Below.refl _ W).alloc (Nat.le_refl _) _).alloc (by simp) _).alloc (by simp; omega) _, by simp, ((BoxT.new W x).alloc _).alloc _, ?_, ?_⟩
  · have h := World.alloc_heap_new (W.alloc (.cells #[.int .i64 x.k, .int .i64 x.N, .string x.s, .slice x.a x.len x.cap] 24)) (.cells #[.int .i64 0, .int .i64 0, .string ⟨#[]⟩, .slice none 0 0] 24)
    rw [World.size_alloc] at h
    exact (Below.heap_alloc _ _ _ (by simp)).trans h
  · refine ⟨madeCells #[.int .i64 0, .int .i64 0, .string ⟨#[]⟩, .slice none 0 0] (len * 4), ?_, size_madeCells _ _⟩
    have h := World.alloc_heap_new ((W.alloc (.cells #[.int .i64 x.k, .int .i64 x.N, .string x.s, .slice x.a x.len x.cap] 24)).alloc (.cells #[.int .i64 0, .int .i64 0, .string ⟨#[]⟩, .slice none 0 0] 24)) (.cells (madeCells #[.int .i64 0, .int .i64 0, .string ⟨#[]⟩, .slice none 0 0] (len * 4)) 24)
    rw [World.size_alloc, World.size_alloc] at h
    exact h

/-- The end of replace at a compound. -/
theorem comp_end {D : Nat} {W wr : World} {s : ByteArray} {len : Nat} {c : List Nd} (hB : Below W.heap.size W wr) (hs : s.size ≤ 9223372036854775807) (hl : len ≤ 50) (hsz : W.heap.size + 3 ≤ wr.heap.size) (hr : Row4 wr (W.heap.size + 2) len) (hw : Written D (W.heap.size + 2) len wr c) :
    let x : TV := ⟨4, 0, s, some ⟨W.heap.size + 2, 0, none⟩, len, len⟩
    Below W.heap.size W (set4 wr (W.heap.size + 1) 0 x) ∧ HoldsT (D + 1) W.heap.size (set4 wr (W.heap.size + 1) 0 x) x.val ((4, 0, s.toList, len) :: c) := by
  intro x
  refine ⟨set4_below hB (by omega) 0 x, fun m hm => ?_⟩
  obtain ⟨M, rfl⟩ : ∃ M, m = M + 1 := ⟨m - 1, by omega⟩
  obtain ⟨ks, hkl, hks, hkc⟩ := hw M (by omega)
  refine ⟨((x, ks) : TV × List (Tm M)), rfl, ?_, ?_, ?_⟩
  · refine ⟨hkl.symm, ?_, hs, .inr ⟨W.heap.size + 2, 0, rfl, by rw [set4_size]; omega, fun j u hu => ?_⟩⟩
    · show len ≤ _
      omega
    · obtain ⟨k1, k2, k3⟩ := hks j u hu
      refine ⟨?_, ?_⟩
      · rw [Nat.zero_add]
        exact k1.kept (set4_other wr _ 0 x (by omega))
      · rw [set4_size]
        exact k2.from (fun q hq => set4_other wr _ 0 x (by omega)) k3.new
  · obtain ⟨arr, ha1, ha2⟩ := hr
    refine ⟨⟨.inr ⟨W.heap.size + 2, 0, rfl, by omega⟩, fun u hu => ?_⟩, ⟨.inr ⟨W.heap.size + 2, arr, by omega, rfl, rfl, (set4_other wr _ 0 x (by omega)).trans ha1, ha2⟩, fun u hu => ?_⟩⟩
    · obtain ⟨j, hj⟩ := List.mem_iff_getElem?.1 hu
      exact ((hks j u hj).2.2.mono (by omega)).new
    · obtain ⟨j, hj⟩ := List.mem_iff_getElem?.1 hu
      exact (((hks j u hj).2.2.kept (fun q hq _ => set4_other wr _ 0 x (by omega))).mono (by omega)).wh
  · rw [code_succ, hkc]; rfl

theorem ok_kids {n : Nat} {x : TV} {kids : List (Tm n)} (h : okT (n := n + 1) ((x, kids) : TV × List (Tm n)) = true) : wmB x.k x.N x.s x.len = true ∧ ∀ u ∈ kids, okT u = true := by
  rw [okT_succ, Bool.and_eq_true] at h
  exact ⟨h.1, List.all_eq_true.1 h.2⟩
theorem wm_cases {k N : Int} {s : ByteArray} {len : Nat} (h : wmB k N s len = true) : (k = 1 ∧ 0 ≤ N ∧ N ≤ 1099511627776 ∧ s.toList = [] ∧ len = 0) ∨ ((k = 2 ∨ k = 3) ∧ len = 0) ∨ (k = 4 ∧ N = 0 ∧ 1 ≤ len ∧ len ≤ 50) := by
  unfold wmB at h
  split at h
  · rename_i hk
    simp at h
    exact .inl ⟨hk, h.1.1.1, h.1.1.2, h.1.2, h.2⟩
  · split at h
    · rename_i hk
      simp at h
      exact .inr (.inl ⟨.inl hk, h.2⟩)
    · split at h
      · rename_i hk
        simp at h
        exact .inr (.inl ⟨.inr hk, h.2⟩)
      · split at h
        · rename_i hk
          simp at h
          exact .inr (.inr ⟨hk, h.1.1.1, by omega, by omega⟩)
        · cases h

end Go.Proofs.Ytmgcojhmopcamaa

