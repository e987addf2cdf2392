import Derived.Test.YtdjlekcapfeniaaB
import Derived.Lib.SmallJoins
import Derived.Deep.Slices
/- A term that can be read as data lies in memory as IsT says, at every number of storeys from the reading's fuel on. -/
namespace Go.Proofs.Ytdjlekcapfeniaa
open Go.RowKit Go.Joins Go.WideShapes

theorem Try.cells28 : Try.prog.cellsOf 24 = 4 := by kernel_rfl
theorem Try.cells3 : Try.prog.cellsOf 3 = 1 := by kernel_rfl
theorem Try.cells2 : Try.prog.cellsOf 2 = 1 := by kernel_rfl
theorem Try.cells9 : Try.prog.cellsOf 9 = 1 := by kernel_rfl
theorem Try.cells26 : Try.prog.cellsOf 22 = 1 := by kernel_rfl

theorem list4 {α : Type} {l : List α} (h : l.length = 4) : ∃ a b c d, l = [a, b, c, d] := by
  match l, h with
  | [a, b, c, d], _ => exact ⟨a, b, c, d, rfl⟩

theorem cells4 {w : World} {base : Nat} {a : Addr} {c0 c1 c2 c3 : Value} (h : w.cells? base a 4 = some [c0, c1, c2, c3]) : a.spot = none ∧ w.cell? ⟨a.block, a.off, none⟩ = some c0 ∧ w.cell? ⟨a.block, a.off + 1, none⟩ = some c1 ∧ w.cell? ⟨a.block, a.off + 2, none⟩ = some c2 ∧ w.cell? ⟨a.block, a.off + 3, none⟩ = some c3 := by
  unfold World.cells? at h
  split at h
  · obtain ⟨b, off, spot⟩ := a
    simp [List.range_succ, List.mapM_cons, Addr.add, Option.bind_eq_some_iff] at h
    obtain ⟨h0, h1, h2, h3⟩ := h
    have hs : spot = none := World.cell?_spot h0
    subst hs
    exact ⟨rfl, h0, h1, h2, h3⟩
  · cases h

theorem mapM_size {α β : Type} {f : α → Option β} : ∀ {l : List α} {r : List β}, l.mapM f = some r → r.length = l.length
  | [], r, h => by simp at h; subst h; rfl
  | a :: l, r, h => by
    simp [List.mapM_cons, Option.bind_eq_some_iff] at h
    obtain ⟨b, _, r', hr, rfl⟩ := h
    simp [mapM_size hr]
theorem cells_len {w : World} {base : Nat} {a : Addr} {n : Nat} {cs : List Value} (h : w.cells? base a n = some cs) : cs.length = n := by
  unfold World.cells? at h
  split at h
  · have := mapM_size h; simpa using this
  · cases h

theorem list_of {α : Type} {p : Nat → α → Prop} : ∀ {n : Nat}, (∀ i, i < n → ∃ x, p i x) → ∃ l : List α, l.length = n ∧ ∀ j u, l[j]? = some u → p j u
  | 0, _ => ⟨[], rfl, fun j u h => by simp at h⟩
  | n + 1, h => by
    obtain ⟨l, hl, hp⟩ := list_of (n := n) (fun i hi => h i (by omega))
    obtain ⟨x, hx⟩ := h n (by omega)
    refine ⟨l ++ [x], by simp [hl], fun j u hu => ?_⟩
    by_cases hj : j < n
    · rw [List.getElem?_append_left (by omega)] at hu; exact hp j u hu
    · rw [List.getElem?_append_right (by omega)] at hu
      have hj2 : j - l.length = 0 := by
        by_cases e : j - l.length = 0
        · exact e
        · rw [List.getElem?_eq_none (by simp; omega)] at hu; cases hu
      rw [hj2] at hu
      simp at hu
      subst hu
      obtain rfl : j = n := by omega
      exact hx
theorem add_none (b off n : Nat) : Addr.add ⟨b, off, none⟩ n = ⟨b, off + n, none⟩ := by
  unfold Addr.add; split
  · rename_i h; subst h; rfl
  · rfl
theorem cell_lt {w : World} {b o : Nat} {v : Value} (h : w.cell? ⟨b, o, none⟩ = some v) : b < w.heap.size := by
  unfold World.cell? at h
  simp only at h
  cases hb : w.heap[b]? with
  | none => rw [hb] at h; cases h
  | some ob => exact (Array.getElem?_eq_some_iff.1 hb).1

theorem isT_mk {n n₀ : Nat} {W : World} (x : TV) (kids : List (Tm n)) (h1 : x.len = kids.length) (h2 : x.len ≤ 9223372036854775807) (h3 : x.s.size ≤ 9223372036854775807)
    (h4 : kids = [] ∨ ∃ b off, x.a = some ⟨b, off, none⟩ ∧ b < n₀ ∧ ∀ j u, kids[j]? = some u → cellsAt W b (off + j * 4) u.tv ∧ IsT n₀ W u) : IsT n₀ W (n := n + 1) ((x, kids) : TV × List (Tm n)) := ⟨h1, h2, h3, h4⟩

/-- The cells of a term that can be read, and its Args. -/
theorem open_term {H : Type} {enc : TypeId × Value → H} {w : World} {spare : Nat → Bool} {held : Bool} : ∀ (k fuel : Nat), fuel ≤ k → ∀ (m : Nat), fuel ≤ m → ∀ (cs : List Value) (y : DataW H × List MemPlace),
    DataW.trod enc Try.prog w 0 spare held fuel 24 cs = some y → ∃ t : Tm m, cs = [.int .i64 t.tv.k, .int .i64 t.tv.N, .string t.tv.s, .slice t.tv.a t.tv.len t.tv.cap] ∧ IsT w.heap.size w t := by
  intro k
  induction k with
  | zero =>
    intro fuel hf m _ cs y h
    obtain rfl : fuel = 0 := by omega
    simp [DataW.trod] at h
  | succ k ih =>
    intro fuel hf m hm cs y h
    obtain ⟨xs, n, rfl, -, hl, hxl, hfs⟩ := DataW.trod_struct Try.underlying24 h
    rw [Try.cells28] at hl
    have hx4 : xs.length = 4 := hxl
    clear hxl
    obtain ⟨v0, v1, v2, v3, rfl⟩ := list4 hl
    have f0 : DataW.trod enc Try.prog w 0 spare held n 3 (List.take (Try.prog.cellsOf 3) (List.drop 0 [v0, v1, v2, v3])) = xs[0]? := hfs 0 _ rfl
    have f1 : DataW.trod enc Try.prog w 0 spare held n 2 (List.take (Try.prog.cellsOf 2) (List.drop 1 [v0, v1, v2, v3])) = xs[1]? := hfs 1 _ rfl
    have f2 : DataW.trod enc Try.prog w 0 spare held n 9 (List.take (Try.prog.cellsOf 9) (List.drop 2 [v0, v1, v2, v3])) = xs[2]? := hfs 2 _ rfl
    have f3 : DataW.trod enc Try.prog w 0 spare held n 22 (List.take (Try.prog.cellsOf 22) (List.drop 3 [v0, v1, v2, v3])) = xs[3]? := hfs 3 _ rfl
    rw [Try.cells3] at f0
    rw [Try.cells2] at f1
    rw [Try.cells9] at f2
    rw [Try.cells26] at f3
    simp only [List.drop_zero, List.drop_succ_cons, List.take_succ_cons, List.take_zero] at f0 f1 f2 f3
    clear hfs
    obtain ⟨x0, e0⟩ : ∃ x, xs[0]? = some x := ⟨xs[0]'(by omega), List.getElem?_eq_getElem (by omega)⟩
    obtain ⟨x1, e1⟩ : ∃ x, xs[1]? = some x := ⟨xs[1]'(by omega), List.getElem?_eq_getElem (by omega)⟩
    obtain ⟨x2, e2⟩ : ∃ x, xs[2]? = some x := ⟨xs[2]'(by omega), List.getElem?_eq_getElem (by omega)⟩
    obtain ⟨x3, e3⟩ : ∃ x, xs[3]? = some x := ⟨xs[3]'(by omega), List.getElem?_eq_getElem (by omega)⟩
    rw [e0] at f0
    rw [e1] at f1
    rw [e2] at f2
    rw [e3] at f3
    obtain ⟨tk, g0, -, -⟩ := DataW.trod_int Try.underlying3 f0
    obtain ⟨tN, g1, -, -⟩ := DataW.trod_int Try.underlying2 f1
    obtain ⟨ts, g2, -, hsm⟩ := DataW.trod_string Try.underlying9 f2
    simp only [List.cons.injEq, and_true] at g0 g1 g2
    subst g0 g1 g2
    unfold maxLen at hsm
    obtain ⟨m', rfl⟩ : ∃ m', m = m' + 1 := ⟨m - 1, by omega⟩
    rcases DataW.trod_slice Try.underlying22 f3 with ⟨g3, -⟩ | ⟨a, len, cap, elems, rest, n', hn', g3, -, hb, hlc, hmx, hlen, hel, -, -⟩
    · simp only [List.cons.injEq, and_true] at g3
      subst g3
      exact ⟨((⟨tk, tN, ts, none, 0, 0⟩, []) : TV × List (Tm m')), rfl, rfl, by simp [Tm.tv], by simp only [Tm.tv]; omega, .inl rfl⟩
    · simp only [List.cons.injEq, and_true] at g3
      subst g3
      unfold maxLen at hmx
      by_cases hl0 : len = 0
      · subst hl0
        exact ⟨((⟨tk, tN, ts, some a, 0, cap⟩, []) : TV × List (Tm m')), rfl, rfl, by simp [Tm.tv], by simp only [Tm.tv]; omega, .inl rfl⟩
      · have hel' : ∀ i, i < len → ∃ u : Tm m', w.cells? 0 (a.add (i * 4)) 4 = some [.int .i64 u.tv.k, .int .i64 u.tv.N, .string u.tv.s, .slice u.tv.a u.tv.len u.tv.cap] ∧ IsT w.heap.size w u := by
          intro i hi
          have h1 := hel i hi
          rw [List.getElem?_eq_getElem (by omega)] at h1
          obtain ⟨cs', h2, h3⟩ := Option.bind_eq_some_iff.1 h1
          obtain ⟨u, hu, hT⟩ := ih n' (by omega) m' (by omega) cs' _ h3
          subst hu
          rw [Try.cells28] at h2
          exact ⟨u, h2, hT⟩
        clear hel
        obtain ⟨b, off, spot⟩ := a
        have hspot : spot = none := by
          obtain ⟨u, h2, -⟩ := hel' 0 (by omega)
          obtain ⟨s1, -⟩ := cells4 h2
          simpa [Addr.add] using s1
        subst hspot
        have hkid : ∀ i, i < len → ∃ u : Tm m', b < w.heap.size ∧ cellsAt w b (off + i * 4) u.tv ∧ IsT w.heap.size w u := by
          intro i hi
          obtain ⟨u, h2, hT⟩ := hel' i hi
          rw [add_none] at h2
          obtain ⟨-, k0, k1, k2, k3⟩ := cells4 h2
          exact ⟨u, cell_lt k0, ⟨k0, k1, k2, k3⟩, hT⟩
        obtain ⟨kids, hkl, hks⟩ := list_of hkid
        obtain ⟨_, hb0, _⟩ := hkid 0 (by omega)
        clear hkid hel' ih
        have hl63 : len ≤ 9223372036854775807 := by omega
        have hs63 : ts.size ≤ 9223372036854775807 := by omega
        have hfin : IsT w.heap.size w (n := m' + 1) (((⟨tk, tN, ts, some ⟨b, off, none⟩, len, cap⟩ : TV), kids) : TV × List (Tm m')) := isT_mk _ kids hkl.symm hl63 hs63 (.inr ⟨b, off, rfl, hb0, fun j u hu => (hks j u hu).2⟩)
        exact ⟨_, rfl, hfin⟩

set_option maxRecDepth 100000 in
/-- An argument that is a term: from some number of storeys on it is one. -/
theorem open_arg {H : Type} {enc : TypeId × Value → H} {w : World} {r : Reach} {b0 : Nat} {spare : Nat → Bool} {held : Bool} {v : Value} {d : DataW H} {p : List MemPlace} (hv : Value.okWide Try.prog w r b0 24 v) (h : DataW.Trod enc Try.prog w 0 spare held 24 v d p) :
    ∃ N, ∀ m, N ≤ m → ∃ t : Tm m, v = t.tv.val ∧ IsT w.heap.size w t := by
  obtain ⟨cs, rfl, _⟩ := okWide_struct Try.underlying24 hv
  obtain ⟨fuel, hf⟩ := h
  refine ⟨fuel, fun m hm => ?_⟩
  obtain ⟨t, ht, hT⟩ := open_term fuel fuel (Nat.le_refl _) m hm _ _ hf
  refine ⟨t, ?_, hT⟩
  have : cs.toList = [.int .i64 t.tv.k, .int .i64 t.tv.N, .string t.tv.s, .slice t.tv.a t.tv.len t.tv.cap] := by simpa [Value.cells] using ht
  unfold TV.val
  rw [← this]
end Go.Proofs.Ytdjlekcapfeniaa

