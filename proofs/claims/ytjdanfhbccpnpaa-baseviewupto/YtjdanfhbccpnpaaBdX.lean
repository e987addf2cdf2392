import Derived.Test.YtjdanfhbccpnpaaO
import Derived.ChangeSlices
import Derived.OpenShut
/- Opening a list of terms and a list of numbers. -/
namespace Go.Proofs.Ytjdanfhbccpnpaa
open Go.ChangeShapes Go.WideShapes Go.ChangeAt Go.RowKit Go.Joins

/-- Terms in a row in memory. -/
def RowT (n₀ : Nat) (W : World) (a : Option Addr) (len : Nat) {n : Nat} (kids : List (Tm n)) : Prop :=
  len = kids.length ∧ len ≤ 9223372036854775807 ∧ (kids = [] ∨ ∃ b off, a = some ⟨b, off, none⟩ ∧ b < n₀ ∧ ∀ j u, kids[j]? = some u → cellsAt W b (off + j * 4) u.tv ∧ IsT n₀ W u)
/-- Numbers in a row in memory. -/
def RowI (n₀ : Nat) (W : World) (a : Option Addr) (len : Nat) (ns : List Int) : Prop :=
  len = ns.length ∧ len ≤ 9223372036854775807 ∧ (∀ N ∈ ns, -9223372036854775808 ≤ N ∧ N ≤ 9223372036854775807) ∧ (ns = [] ∨ ∃ b off, a = some ⟨b, off, none⟩ ∧ b < n₀ ∧ ∀ (j : Nat) (N : Int), ns[j]? = some N → W.cell? ⟨b, off + j, none⟩ = some (.int .i64 N))
set_option maxRecDepth 100000 in
theorem open_terms {H : Type} {enc : TypeId × Value → H} {w : World} {r : Reach} {b0 : Nat} {spare : Nat → Bool} {held : Bool} {v : Value} {d : DataW H} {p : List MemPlace} (hv : Value.okWide Try.prog w r b0 22 v) (h : DataW.Trod enc Try.prog w 0 spare held 22 v d p) :
    ∃ a len cap, v = .slice a len cap ∧ len ≤ Rows.uptoBulk d ∧ ∀ m, Rows.uptoBulk d ≤ m → m ≤ 2199023255552 → ∃ kids : List (Tm m), RowT w.heap.size w a len kids ∧ ∀ u ∈ kids, (code u).length ≤ Rows.uptoBulk d ∧ ∀ x ∈ parts u, Nw x := by
  obtain ⟨a, len, cap, rfl⟩ := okWide_slice Try.underlying22 hv
  obtain ⟨fuel, hf⟩ := h
  have hf' : DataW.trod enc Try.prog w 0 spare held fuel 22 [.slice a len cap] = some (d, p) := by simpa [Value.cells] using hf
  refine ⟨a, len, cap, rfl, ?_⟩
  rcases DataW.trod_slice Try.underlying22 hf' with ⟨g3, hd3⟩ | ⟨a', len', cap', elems, rest, n', hn', g3, hd3, hb, hlc, hmx, hlen, hel, -, -⟩
  · simp only [List.cons.injEq, and_true, Value.slice.injEq] at g3
    obtain ⟨rfl, rfl, rfl⟩ := g3
    exact ⟨Nat.zero_le _, fun m _ _ => ⟨[], ⟨rfl, by omega, .inl rfl⟩, (fun u hu => by cases hu)⟩⟩
  · simp only [List.cons.injEq, and_true, Value.slice.injEq] at g3
    obtain ⟨rfl, rfl, rfl⟩ := g3
    unfold maxLen at hmx
    have hd3' : d = DataW.slice (elems.map (·.1)) (rest.map (·.1)) := (Prod.ext_iff.1 hd3).1
    have hbl : ∀ x ∈ elems.map (·.1), Rows.uptoBulk x ≤ Rows.uptoBulk d := fun x hx => by
      have := bulk_part hx
      rw [hd3']
      simp only [Rows.uptoBulk]
      omega
    have hll : len ≤ Rows.uptoBulk d := by
      have := bulk_len (elems.map (·.1))
      rw [List.length_map, hlen] at this
      rw [hd3']
      simp only [Rows.uptoBulk]
      omega
    refine ⟨hll, fun m hm hlim => ?_⟩
    by_cases hl0 : len = 0
    · subst hl0
      exact ⟨[], ⟨rfl, by omega, .inl rfl⟩, (fun u hu => by cases hu)⟩
    · have hel' : ∀ i, i < len → ∃ u : Tm m, w.cells? 0 (a'.add (i * 4)) 4 = some [.int .i64 u.tv.k, .int .i64 u.tv.N, .string u.tv.s, .slice u.tv.a u.tv.len u.tv.cap] ∧ IsT w.heap.size w u ∧ (∀ x ∈ parts u, Nw x) ∧ (code u).length ≤ Rows.uptoBulk d := by
        intro i hi
        have h1 := hel i hi
        rw [List.getElem?_eq_getElem (by omega)] at h1
        obtain ⟨cs', h2, h3⟩ := Option.bind_eq_some_iff.1 h1
        obtain ⟨u0, hu, hU, hc, hnw⟩ := open_nums n' n' (Nat.le_refl _) n' (Nat.le_refl _) cs' _ h3
        have hc' := Nat.le_trans hc (hbl _ (List.mem_map.2 ⟨_, List.getElem_mem _, rfl⟩))
        have hp' : (parts u0).length ≤ Rows.uptoBulk d := by simpa [code] using hc'
        obtain ⟨u, e1, hT, e3⟩ := lower n' u0 hU m (by omega) hlim
        rw [← e1] at hu
        subst hu
        rw [Try.cells28] at h2
        exact ⟨u, h2, hT, by rw [e3]; exact hnw, by simpa [code, e3] using hp'⟩
      clear hel
      obtain ⟨b, off, spot⟩ := a'
      have hspot : spot = none := by
        obtain ⟨u, h2, -⟩ := hel' 0 (by omega)
        obtain ⟨s1, -⟩ := cells4 h2
        simpa [Addr.add] using s1
      subst hspot
      have hkid : ∀ i, i < len → ∃ u : Tm m, b < w.heap.size ∧ (cellsAt w b (off + i * 4) u.tv ∧ IsT w.heap.size w u) ∧ (∀ x ∈ parts u, Nw x) ∧ (code u).length ≤ Rows.uptoBulk d := by
        intro i hi
        obtain ⟨u, h2, hT, hnw, hc⟩ := hel' i hi
        rw [add_none] at h2
        obtain ⟨-, k0, k1, k2, k3⟩ := cells4 h2
        exact ⟨u, cell_lt k0, ⟨⟨k0, k1, k2, k3⟩, hT⟩, hnw, hc⟩
      obtain ⟨kids, hkl, hks⟩ := list_of hkid
      obtain ⟨_, hb0, _⟩ := hkid 0 (by omega)
      refine ⟨kids, ⟨hkl.symm, by omega, .inr ⟨b, off, rfl, hb0, fun j u hu => (hks j u hu).2.1⟩⟩, fun u hu => ?_⟩
      obtain ⟨i, hi⟩ := List.getElem?_of_mem hu
      exact ⟨(hks i u hi).2.2.2, (hks i u hi).2.2.1⟩
set_option maxRecDepth 100000 in
theorem open_ints_row {H : Type} {enc : TypeId × Value → H} {w : World} {r : Reach} {b0 : Nat} {spare : Nat → Bool} {held : Bool} {v : Value} {d : DataW H} {p : List MemPlace} (hv : Value.okWide Try.prog w r b0 25 v) (h : DataW.Trod enc Try.prog w 0 spare held 25 v d p) :
    ∃ a len cap ns, v = .slice a len cap ∧ len ≤ Rows.uptoBulk d ∧ RowI w.heap.size w a len ns := by
  obtain ⟨a, len, cap, rfl⟩ := okWide_slice Try.underlying25 hv
  obtain ⟨fuel, hf⟩ := h
  have hf' : DataW.trod enc Try.prog w 0 spare held fuel 25 [.slice a len cap] = some (d, p) := by simpa [Value.cells] using hf
  refine ⟨a, len, cap, ?_⟩
  rcases DataW.trod_slice Try.underlying25 hf' with ⟨g3, hd3⟩ | ⟨a', len', cap', elems, rest, n', hn', g3, hd3, hb, hlc, hmx, hlen, hel, -, -⟩
  · simp only [List.cons.injEq, and_true, Value.slice.injEq] at g3
    obtain ⟨rfl, rfl, rfl⟩ := g3
    exact ⟨[], rfl, Nat.zero_le _, rfl, by omega, (fun N hN => by cases hN), .inl rfl⟩
  · simp only [List.cons.injEq, and_true, Value.slice.injEq] at g3
    obtain ⟨rfl, rfl, rfl⟩ := g3
    unfold maxLen at hmx
    have hd3' : d = DataW.slice (elems.map (·.1)) (rest.map (·.1)) := (Prod.ext_iff.1 hd3).1
    have hll : len ≤ Rows.uptoBulk d := by
      have := bulk_len (elems.map (·.1))
      rw [List.length_map, hlen] at this
      rw [hd3']
      simp only [Rows.uptoBulk]
      omega
    by_cases hl0 : len = 0
    · subst hl0
      exact ⟨[], rfl, hll, rfl, by omega, (fun N hN => by cases hN), .inl rfl⟩
    · have hel' : ∀ i, i < len → ∃ N : Int, w.cell? (a'.add i) = some (.int .i64 N) ∧ -9223372036854775808 ≤ N ∧ N ≤ 9223372036854775807 := by
        intro i hi
        have h1 := hel i hi
        rw [List.getElem?_eq_getElem (by omega)] at h1
        obtain ⟨cs', h2, h3⟩ := Option.bind_eq_some_iff.1 h1
        obtain ⟨N, g0, -, hwf⟩ := DataW.trod_int Try.underlying3 h3
        subst g0
        rw [Try.cells3, Nat.mul_one] at h2
        simp only [Lit.wf, Bool.and_eq_true, decide_eq_true_eq] at hwf
        refine ⟨N, ?_, hwf⟩
        unfold World.cells? at h2
        split at h2
        · simpa [List.range_succ, List.mapM_cons, Addr.add, Option.bind_eq_some_iff] using h2
        · cases h2
      obtain ⟨b, off, spot⟩ := a'
      have hspot : spot = none := by
        obtain ⟨N, h2, -⟩ := hel' 0 (by omega)
        simpa [Addr.add] using World.cell?_spot h2
      subst hspot
      have hkid : ∀ i, i < len → ∃ N : Int, w.cell? ⟨b, off + i, none⟩ = some (.int .i64 N) ∧ -9223372036854775808 ≤ N ∧ N ≤ 9223372036854775807 := by
        intro i hi
        obtain ⟨N, h2, h3⟩ := hel' i hi
        rw [add_none] at h2
        exact ⟨N, h2, h3⟩
      obtain ⟨ns, hkl, hks⟩ := list_of hkid
      obtain ⟨_, hb0, _⟩ := hkid 0 (by omega)
      refine ⟨ns, rfl, hll, hkl.symm, by omega, fun N hN => ?_, .inr ⟨b, off, rfl, cell_lt hb0, fun j N hj => (hks j N hj).1⟩⟩
      obtain ⟨i, hi⟩ := List.getElem?_of_mem hN
      exact (hks i N hi).2
end Go.Proofs.Ytjdanfhbccpnpaa

