import Derived.Test.YtdjlekcapfeniaaO
import Derived.Test.YtdjlekcapfeniaaPs
import Derived.Test.YtdjlekcapfeniaaRows
import Derived.Test.YtdjlekcapfeniaaJ
/- A list of binds that can be read as data lies in memory as IsL says, at every number of storeys from the reading's fuel on. -/
namespace Go.Proofs.Ytdjlekcapfeniaa
open Go.RowKit Go.Joins Go.WideShapes

theorem list5 {α : Type} {l : List α} (h : l.length = 5) : ∃ a b c d e, l = [a, b, c, d, e] := by
  match l, h with
  | [a, b, c, d, e], _ => exact ⟨a, b, c, d, e, rfl⟩
theorem cells5 {w : World} {base : Nat} {a : Addr} {c0 c1 c2 c3 c4 : Value} (h : w.cells? base a 5 = some [c0, c1, c2, c3, c4]) : a.spot = none ∧ w.cell? ⟨a.block, a.off, none⟩ = some c0 ∧ w.cell? ⟨a.block, a.off + 1, none⟩ = some c1 ∧ w.cell? ⟨a.block, a.off + 2, none⟩ = some c2 ∧ w.cell? ⟨a.block, a.off + 3, none⟩ = some c3 ∧ w.cell? ⟨a.block, a.off + 4, none⟩ = some c4 := by
  unfold World.cells? at h
  split at h
  · obtain ⟨b, off, spot⟩ := a
    simp [List.range_succ, List.mapM_cons, Addr.add, Option.bind_eq_some_iff] at h
    obtain ⟨h0, h1, h2, h3, h4⟩ := h
    have hs : spot = none := World.cell?_spot h0
    subst hs
    exact ⟨rfl, h0, h1, h2, h3, h4⟩
  · cases h

end Go.Proofs.Ytdjlekcapfeniaa

/- What a bound of the bulk gives: how long lists of binds are, and how many parts a term has. -/
namespace Go.Proofs.Ytdjlekcapfeniaa
open Go.RowKit Go.Joins Go.WideShapes

theorem bulk_one {H : Type} (d : DataW H) : 1 ≤ Rows.uptoBulk d := by
  cases d with
  | lit l => cases l <;> simp [Rows.uptoBulk]
  | nil => simp [Rows.uptoBulk]
  | ptr d => simp [Rows.uptoBulk]
  | slice elems spare => simp [Rows.uptoBulk]
  | agg parts => simp [Rows.uptoBulk]
  | iface t d => simp [Rows.uptoBulk]
  | map entries => simp [Rows.uptoBulk]
  | held h => simp [Rows.uptoBulk]
theorem bulk_len {H : Type} (l : List (DataW H)) : l.length ≤ Rows.uptoBulkAll l := by
  induction l with
  | nil => simp [Rows.uptoBulkAll]
  | cons x r ih => have := bulk_one x; simp only [Rows.uptoBulkAll, List.length_cons]; omega
theorem bulk_list {H : Type} {d : DataW H} {len : Nat} (h : len = 0 ∨ ∃ es sp, d = .slice es sp ∧ es.length = len) : len ≤ Rows.uptoBulk d := by
  rcases h with h | ⟨es, sp, rfl, h⟩
  · omega
  · have := bulk_len es
    simp only [Rows.uptoBulk]
    omega
theorem bulk_part {H : Type} {d : DataW H} {l : List (DataW H)} (h : d ∈ l) : Rows.uptoBulk d ≤ Rows.uptoBulkAll l := by
  induction l with
  | nil => cases h
  | cons x r ih =>
    simp only [Rows.uptoBulkAll]
    cases List.mem_cons.1 h with
    | inl e => subst e; omega
    | inr e => have := ih e; omega
theorem bulk_kids {H : Type} {n : Nat} : ∀ (kids : List (Tm n)) (ds : List (DataW H)), kids.length = ds.length → (∀ (i : Nat) (u : Tm n) (d : DataW H), kids[i]? = some u → ds[i]? = some d → (code u).length ≤ Rows.uptoBulk d) → (kids.flatMap code).length ≤ Rows.uptoBulkAll ds
  | [], ds, _, _ => by simp
  | u :: kids, [], h, _ => by simp at h
  | u :: kids, d :: ds, h, hk => by
    have h1 := hk 0 u d rfl rfl
    have h2 := bulk_kids kids ds (by simpa using h) (fun i u d hu hd => hk (i + 1) u d (by simpa using hu) (by simpa using hd))
    simp only [List.flatMap_cons, List.length_append, Rows.uptoBulkAll]
    omega

/-- The cells of a term that can be read, and how many parts it has. -/
theorem open_bulk {H : Type} {enc : TypeId × Value → H} {w : World} {spare : Nat → Bool} {held : Bool} : ∀ (k fuel : Nat), fuel ≤ k → ∀ (m : Nat), fuel ≤ m → ∀ (cs : List Value) (y : DataW H × List MemPlace),
    DataW.trod enc Try.prog w 0 spare held fuel 24 cs = some y → ∃ t : Tm m, cs = [.int .i64 t.tv.k, .int .i64 t.tv.N, .string t.tv.s, .slice t.tv.a t.tv.len t.tv.cap] ∧ IsT w.heap.size w t ∧ (code t).length ≤ Rows.uptoBulk y.1 := by
  intro k
  induction k with
  | zero =>
    intro fuel hf m _ cs y h
    obtain rfl : fuel = 0 := by omega
    simp [DataW.trod] at h
  | succ k ih =>
    intro fuel hf m hm cs y h
    obtain ⟨xs, n, rfl, rfl, hl, hxl, hfs⟩ := DataW.trod_struct Try.underlying24 h
    rw [Try.cells28] at hl
    have hx4 : xs.length = 4 := hxl
    clear hxl
    obtain ⟨v0, v1, v2, v3, rfl⟩ := list4 hl
    have f0 : DataW.trod enc Try.prog w 0 spare held n 3 (List.take (Try.prog.cellsOf 3) (List.drop 0 [v0, v1, v2, v3])) = xs[0]? := hfs 0 _ rfl
    have f1 : DataW.trod enc Try.prog w 0 spare held n 2 (List.take (Try.prog.cellsOf 2) (List.drop 1 [v0, v1, v2, v3])) = xs[1]? := hfs 1 _ rfl
    have f2 : DataW.trod enc Try.prog w 0 spare held n 9 (List.take (Try.prog.cellsOf 9) (List.drop 2 [v0, v1, v2, v3])) = xs[2]? := hfs 2 _ rfl
    have f3 : DataW.trod enc Try.prog w 0 spare held n 22 (List.take (Try.prog.cellsOf 22) (List.drop 3 [v0, v1, v2, v3])) = xs[3]? := hfs 3 _ rfl
    rw [Try.cells3] at f0
    rw [Try.cells2] at f1
    rw [Try.cells9] at f2
    rw [Try.cells26] at f3
    simp only [List.drop_zero, List.drop_succ_cons, List.take_succ_cons, List.take_zero] at f0 f1 f2 f3
    clear hfs
    obtain ⟨x0, x1, x2, x3, rfl⟩ := list4 hx4
    simp only [List.getElem?_cons_zero, List.getElem?_cons_succ] at f0 f1 f2 f3
    obtain ⟨tk, g0, -, -⟩ := DataW.trod_int Try.underlying3 f0
    obtain ⟨tN, g1, -, -⟩ := DataW.trod_int Try.underlying2 f1
    obtain ⟨ts, g2, -, hsm⟩ := DataW.trod_string Try.underlying9 f2
    simp only [List.cons.injEq, and_true] at g0 g1 g2
    subst g0 g1 g2
    unfold maxLen at hsm
    have hbulk : Rows.uptoBulk x3.1 ≤ Rows.uptoBulkAll ([x0, x1, x2, x3].map (·.1)) := bulk_part (by simp)
    have hb1 := bulk_one x3.1
    obtain ⟨m', rfl⟩ : ∃ m', m = m' + 1 := ⟨m - 1, by omega⟩
    rcases DataW.trod_slice Try.underlying22 f3 with ⟨g3, -⟩ | ⟨a, len, cap, elems, rest, n', hn', g3, hd3, hb, hlc, hmx, hlen, hel, -, -⟩
    · simp only [List.cons.injEq, and_true] at g3
      subst g3
      refine ⟨((⟨tk, tN, ts, none, 0, 0⟩, []) : TV × List (Tm m')), rfl, ⟨rfl, by simp [Tm.tv], by simp only [Tm.tv]; omega, .inl rfl⟩, ?_⟩
      rw [code_succ]
      simp only [Rows.uptoBulk, List.flatMap_nil, List.length_cons, List.length_nil]
      omega
    · simp only [List.cons.injEq, and_true] at g3
      subst g3
      unfold maxLen at hmx
      by_cases hl0 : len = 0
      · subst hl0
        refine ⟨((⟨tk, tN, ts, some a, 0, cap⟩, []) : TV × List (Tm m')), rfl, ⟨rfl, by simp [Tm.tv], by simp only [Tm.tv]; omega, .inl rfl⟩, ?_⟩
        rw [code_succ]
        simp only [Rows.uptoBulk, List.flatMap_nil, List.length_cons, List.length_nil]
        omega
      · have hel' : ∀ i, i < len → ∃ u : Tm m', w.cells? 0 (a.add (i * 4)) 4 = some [.int .i64 u.tv.k, .int .i64 u.tv.N, .string u.tv.s, .slice u.tv.a u.tv.len u.tv.cap] ∧ IsT w.heap.size w u ∧ ∀ d, (elems.map (·.1))[i]? = some d → (code u).length ≤ Rows.uptoBulk d := by
          intro i hi
          have h1 := hel i hi
          rw [List.getElem?_eq_getElem (by omega)] at h1
          obtain ⟨cs', h2, h3⟩ := Option.bind_eq_some_iff.1 h1
          obtain ⟨u, hu, hT, hc⟩ := ih n' (by omega) m' (by omega) cs' _ h3
          subst hu
          rw [Try.cells28] at h2
          refine ⟨u, h2, hT, fun d hd => ?_⟩
          rw [List.getElem?_map, List.getElem?_eq_getElem (by omega)] at hd
          simp at hd
          rw [← hd]
          exact hc
        clear hel
        obtain ⟨b, off, spot⟩ := a
        have hspot : spot = none := by
          obtain ⟨u, h2, -⟩ := hel' 0 (by omega)
          obtain ⟨s1, -⟩ := cells4 h2
          simpa [Addr.add] using s1
        subst hspot
        have hkid : ∀ i, i < len → ∃ u : Tm m', b < w.heap.size ∧ (cellsAt w b (off + i * 4) u.tv ∧ IsT w.heap.size w u) ∧ ∀ d, (elems.map (·.1))[i]? = some d → (code u).length ≤ Rows.uptoBulk d := by
          intro i hi
          obtain ⟨u, h2, hT, hc⟩ := hel' i hi
          rw [add_none] at h2
          obtain ⟨-, k0, k1, k2, k3⟩ := cells4 h2
          exact ⟨u, cell_lt k0, ⟨⟨k0, k1, k2, k3⟩, hT⟩, hc⟩
        obtain ⟨kids, hkl, hks⟩ := list_of hkid
        obtain ⟨_, hb0, _⟩ := hkid 0 (by omega)
        clear hkid hel' ih
        have hl63 : len ≤ 9223372036854775807 := by omega
        have hs63 : ts.size ≤ 9223372036854775807 := by omega
        have hfin : IsT w.heap.size w (n := m' + 1) (((⟨tk, tN, ts, some ⟨b, off, none⟩, len, cap⟩ : TV), kids) : TV × List (Tm m')) := isT_mk _ kids hkl.symm hl63 hs63 (.inr ⟨b, off, rfl, hb0, fun j u hu => (hks j u hu).2.1⟩)
        refine ⟨_, rfl, hfin, ?_⟩
        have hsum := bulk_kids kids (elems.map (·.1)) (by simp [hkl, hlen]) (fun i u d hu hd => (hks i u hu).2.2 d hd)
        rw [code_succ]
        have h3 : Rows.uptoBulkAll (elems.map (·.1)) + 1 ≤ Rows.uptoBulk x3.1 := by rw [hd3]; simp only [Rows.uptoBulk]; omega
        simp only [Rows.uptoBulk, List.length_cons]
        omega

set_option maxRecDepth 100000 in
/-- An argument that is a term: from some number of storeys on it is one, of no more parts than its bulk. -/
theorem open_arg_bulk {H : Type} {enc : TypeId × Value → H} {w : World} {r : Reach} {b0 : Nat} {spare : Nat → Bool} {held : Bool} {v : Value} {d : DataW H} {p : List MemPlace} (hv : Value.okWide Try.prog w r b0 24 v) (h : DataW.Trod enc Try.prog w 0 spare held 24 v d p) :
    ∃ N, ∀ m, N ≤ m → ∃ t : Tm m, v = t.tv.val ∧ IsT w.heap.size w t ∧ (code t).length ≤ Rows.uptoBulk d := by
  obtain ⟨cs, rfl, _⟩ := okWide_struct Try.underlying24 hv
  obtain ⟨fuel, hf⟩ := h
  refine ⟨fuel, fun m hm => ?_⟩
  obtain ⟨t, ht, hT, hc⟩ := open_bulk fuel fuel (Nat.le_refl _) m hm _ _ hf
  refine ⟨t, ?_, hT, hc⟩
  have : cs.toList = [.int .i64 t.tv.k, .int .i64 t.tv.N, .string t.tv.s, .slice t.tv.a t.tv.len t.tv.cap] := by simpa [Value.cells] using ht
  unfold TV.val
  rw [← this]
end Go.Proofs.Ytdjlekcapfeniaa

