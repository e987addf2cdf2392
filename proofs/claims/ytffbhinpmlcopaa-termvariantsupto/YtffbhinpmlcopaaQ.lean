import Derived.Test.YtffbhinpmlcopaaP
/- The contracts of term.becoming and its closure: what a variable becomes by a list of binds. -/
namespace Go.Proofs.Ytffbhinpmlcopaa
open Go.RowKit Go.Shelf

/-- The binds by their codes. -/
def cb {n : Nat} (bs : List (Int × Tm n)) : List (Int × List Nd) := bs.map fun p => (p.1, code p.2)
/-- What a variable becomes. -/
def lookC (c : List (Int × List Nd)) (N : Int) : List Nd := match c.find? (fun p => p.1 == N) with | some p => p.2 | none => [varNd N]

theorem Rises.unique {n : Nat} {bs : List (Int × Tm n)} (h : Rises bs) {i j : Nat} {p q : Int × Tm n} (hi : bs[i]? = some p) (hj : bs[j]? = some q) (e : p.1 = q.1) : i = j := by
  by_cases h1 : i < j
  · have := h i j p q hi hj h1; omega
  · by_cases h2 : j < i
    · have := h j i q p hj hi h2; omega
    · omega
theorem lookC_some {n : Nat} {bs : List (Int × Tm n)} (h : Rises bs) {i : Nat} {p : Int × Tm n} (hi : bs[i]? = some p) : lookC (cb bs) p.1 = code p.2 := by
  unfold lookC cb
  rw [List.find?_map]
  cases hf : bs.find? ((fun q : Int × List Nd => q.1 == p.1) ∘ fun p => (p.1, code p.2)) with
  | none =>
    have := List.find?_eq_none.1 hf p (List.mem_of_getElem? hi)
    simp at this
  | some q =>
    have hq := List.find?_some hf
    simp at hq
    obtain ⟨j, hj⟩ := List.mem_iff_getElem?.1 (List.mem_of_find?_eq_some hf)
    have e := h.unique hj hi hq
    subst e
    rw [hi] at hj
    cases hj
    rfl
theorem lookC_none {n : Nat} {bs : List (Int × Tm n)} {N : Int} (h : ∀ p ∈ bs, p.1 ≠ N) : lookC (cb bs) N = [varNd N] := by
  unfold lookC cb
  rw [List.find?_map]
  have : bs.find? ((fun q : Int × List Nd => q.1 == N) ∘ fun p => (p.1, code p.2)) = none := List.find?_eq_none.2 fun p hp => by simpa using h p hp
  rw [this]; rfl

set_option maxHeartbeats 400000 in
theorem becoming_any (a : Option Addr) (len cap : Nat) (w : World) : Calls Try.prog 28 #[.slice a len cap] w fun e W' => e = .returned (.func (.func 47) #[] #[.pointer (some ⟨w.heap.size, 0, none⟩)]) ∧ W' = w.alloc (.cells #[.slice a len cap] 31) := by
  go_enter Try.func28, Try.ntmps28
  go_wp2
  go_ret
  exact ⟨rfl, rfl⟩

/-- One new block ahead of a callee that keeps what lay. -/
theorem below_one {W W1 : World} {o : Obj} (h : Below (W.alloc o).heap.size (W.alloc o) W1) : Below W.heap.size W W1 :=
  ((Below.refl _ W).alloc (Nat.le_refl _) _).trans (h.mono (by simp))

set_option maxRecDepth 100000 in
set_option maxHeartbeats 1000000 in
theorem becoming1_any {n : Nat} (bs : List (Int × Tm n)) (a : Option Addr) (len cap B : Nat) (N : Int) (W : World) (hbox : Boxed W B 31 (.slice a len cap)) (hl : IsL W.heap.size W a len bs) (hri : Rises bs) (hok : ∀ p ∈ bs, okT p.2 = true) :
    Calls Try.prog 47 #[.int .i64 N, .pointer (some ⟨B, 0, none⟩)] W fun e W' => ∃ v, e = .returned v ∧ Below W.heap.size W W' ∧ HoldsT (n + 1) W.heap.size W' v (lookC (cb bs) N) := by
  have hbox1 := hbox.alloc (.cells #[.int .i64 0, .int .i64 0, .string ⟨#[]⟩, .slice none 0 0] 24)
  have cB := hbox1.cell
  have hB1 : Below W.heap.size W (W.alloc (.cells #[.int .i64 0, .int .i64 0, .string ⟨#[]⟩, .slice none 0 0] 24)) := (Below.refl _ W).alloc (Nat.le_refl _) _
  have hlt := hbox.lt
  have hnew := World.alloc_heap_new W (.cells #[.int .i64 0, .int .i64 0, .string ⟨#[]⟩, .slice none 0 0] 24)
  have hf := find_any bs a len cap N (W.alloc (.cells #[.int .i64 0, .int .i64 0, .string ⟨#[]⟩, .slice none 0 0] 24)) ((hl.below hB1).mono hB1.size) hri
  go_enter Try.func47, Try.ntmps47
  have HL := hide hl
  have HRI := hide hri
  have HOK := hide hok
  have HNEW := hide hnew
  have HBOX := hide hbox1
  clear hl hri hok hnew hbox hbox1
  go_wp2_with fail
  refine hf.mono ?_
  clear hf
  rintro e W1 ⟨pos, f, rfl, hb1, h1, h2⟩
  have H1 := hide h1
  have H2 := hide h2
  clear h1 h2 cB
  have hbz : W1.heap[W.heap.size]? = some (.cells #[.int .i64 0, .int .i64 0, .string ⟨#[]⟩, .slice none 0 0] 24 (0, 0)) := (hb1.block W.heap.size (by simp)).trans (unhide HNEW)
  have HBZ := hide hbz
  clear hbz
  have hbo : Boxed W1 B 31 (.slice a len cap) := (hb1.block B (by simp; omega)).trans (unhide HBOX)
  have cB := hbo.cell
  clear hbo
  have hb01 := below_one hb1
  cases f with
  | true =>
    obtain ⟨p, hp, hpN⟩ := (unhide H1) rfl
    have hpl : pos < len := by have := (unhide HL).1; have := (List.getElem?_eq_some_iff.1 hp).1; omega
    obtain ⟨V, u, b, off, hu, rfl, hbk, hT, c0, c1, c2, c3, c4⟩ := bind_at (unhide HL) hb01 hpl
    rw [hu] at hp
    cases hp
    simp only at hpN
    have hcp := copy_any u W1 hT ((unhide HOK) _ (List.mem_of_getElem? hu))
    have hlk := lookC_some (unhide HRI) hu
    simp only at hlk
    rw [hpN] at hlk
    have HLK := hide hlk
    simp only [TV.val] at hcp
    have hj1 : (pos : Int) < len := by omega
    clear hT hu hlk hpN c0
    go_wp2_with fail
    refine hcp.mono ?_
    clear hcp
    rintro e W2 ⟨x, rfl, hb2, hv⟩
    obtain ⟨⟨z0, z1, z2, z3⟩, y0, y1, y2, y3⟩ := zbox_kept ((hb2.block W.heap.size (by have := hb1.size; simp at this; omega)).trans (unhide HBZ))
    have hs1 : W.heap.size + 1 ≤ W1.heap.size := by have := hb1.size; simpa using this
    have hfin : HoldsT (n + 1) W.heap.size (set4 W2 W.heap.size 0 x) x.val (lookC (cb bs) N) := by rw [unhide HLK]; exact (holds_set4 hv (by omega) 0 x).mono (Nat.le_refl _) (by omega)
    have hbf : Below W.heap.size W (set4 W2 W.heap.size 0 x) := set4_below (hb01.trans (hb2.mono hb01.size)) (Nat.le_refl _) 0 x
    have HF := hide hfin
    have HB := hide hbf
    clear hfin hbf hv hb2 hb1 hb01 hB1
    dsimp only [TV.val]
    go_wp2_with fail
    exact bodyPost_ret (v := x.val) (by simp [results, Try.results47, go_sem, TV.val, z0, z1, z2, z3]) rfl ⟨x.val, rfl, unhide HB, unhide HF⟩
  | false =>
    have HLK := hide (lookC_none ((unhide H2) rfl))
    have hcp := variable_any N W1
    simp only [TV.val, varV] at hcp
    go_wp2_with fail
    refine hcp.mono ?_
    clear hcp
    rintro e W2 ⟨rfl, hb2⟩
    obtain ⟨⟨z0, z1, z2, z3⟩, y0, y1, y2, y3⟩ := zbox_kept ((hb2.block W.heap.size (by have := hb1.size; simp at this; omega)).trans (unhide HBZ))
    have hfin : HoldsT (n + 1) W.heap.size (set4 W2 W.heap.size 0 (varV N)) (varV N).val (lookC (cb bs) N) := by
      rw [unhide HLK]
      have hh := holds_leaf (varV N) rfl rfl rfl (by simp [varV, ByteArray.size]) W.heap.size (set4 W2 W.heap.size 0 (varV N))
      rw [varV_nd] at hh
      exact hh.mono (by omega) (Nat.le_refl _)
    have hbf : Below W.heap.size W (set4 W2 W.heap.size 0 (varV N)) := set4_below (hb01.trans (hb2.mono hb01.size)) (Nat.le_refl _) 0 _
    have HF := hide hfin
    have HB := hide hbf
    clear hfin hbf hb2 hb1 hb01 hB1
    go_wp2_with fail
    exact bodyPost_ret (v := (varV N).val) (by simp [results, Try.results47, go_sem, TV.val, varV, z0, z1, z2, z3]) rfl ⟨(varV N).val, rfl, unhide HB, unhide HF⟩

/-- A list of binds says what a variable becomes. -/
theorem becoming_becomes {n : Nat} (bs : List (Int × Tm n)) (a : Option Addr) (len cap B : Nat) (w : World) (hbox : Boxed w B 31 (.slice a len cap)) (hl : IsL w.heap.size w a len bs) (hri : Rises bs) (hok : ∀ p ∈ bs, okT p.2 = true) :
    Becomes 47 #[.pointer (some ⟨B, 0, none⟩)] (lookC (cb bs)) (n + 1) w := fun N W _ _ hb =>
  becoming1_any bs a len cap B N W ((hb.block B hbox.lt).trans hbox) ((hl.below hb).mono hb.size) hri hok
end Go.Proofs.Ytffbhinpmlcopaa

