import Derived.Test.YtojefplapklbmaaGreatDoorObs
import Derived.Test.YtojefplapklbmaaGreatDoorMrx
/- Binds that can be read as data, with how long their terms are. -/
namespace Go.Proofs.YtojefplapklbmaaGreatDoor
open Go.RowKit Go.Joins Go.WideShapes

/-- A bind that can be read: its five cells. -/
theorem open_bindL {H : Type} {enc : TypeId × Value → H} {w : World} {spare : Nat → Bool} {held : Bool} {fuel m : Nat} {cs : List Value} {y : DataW H × List MemPlace}
    (h : DataW.trod enc Tryz.prog w 0 spare held fuel 82 cs = some y) (hm : Rows.uptoBulk y.1 ≤ m) (hlim : m ≤ 2199023255552) : ∃ (V : Int) (t : Tm m), cs = [.int .i64 V, .int .i64 t.tv.k, .int .i64 t.tv.N, .string t.tv.s, .slice t.tv.a t.tv.len t.tv.cap] ∧ IsT w.heap.size w t ∧ (code t).length ≤ m := by
  obtain ⟨xs, n, rfl, rfl, hl, hxl, hfs⟩ := DataW.trod_struct Tryz.underlying82 h
  rw [Tryz.cells61] at hl
  have hx2 : xs.length = 2 := hxl
  clear hxl
  obtain ⟨v0, v1, v2, v3, v4, rfl⟩ := list5 hl
  have f0 : DataW.trod enc Tryz.prog w 0 spare held n 2 (List.take (Tryz.prog.cellsOf 2) (List.drop 0 [v0, v1, v2, v3, v4])) = xs[0]? := hfs 0 _ rfl
  have f1 : DataW.trod enc Tryz.prog w 0 spare held n 24 (List.take (Tryz.prog.cellsOf 24) (List.drop 1 [v0, v1, v2, v3, v4])) = xs[1]? := hfs 1 _ rfl
  rw [Tryz.cells2] at f0
  rw [Tryz.cells28] at f1
  simp only [List.drop_zero, List.drop_succ_cons, List.take_succ_cons, List.take_zero] at f0 f1
  clear hfs
  obtain ⟨x0, x1, rfl⟩ : ∃ x0 x1, xs = [x0, x1] := by
    match xs, hx2 with
    | [a, b], _ => exact ⟨a, b, rfl⟩
  simp only [List.getElem?_cons_zero, List.getElem?_cons_succ] at f0 f1
  have hbulk : Rows.uptoBulk x1.1 ≤ Rows.uptoBulkAll ([x0, x1].map (·.1)) := bulk_part (by simp)
  have hm' : Rows.uptoBulk x1.1 ≤ m := by
    simp only [Rows.uptoBulk] at hm
    omega
  obtain ⟨V, g0, -, -⟩ := DataW.trod_int Tryz.underlying2 f0
  obtain ⟨t0, g1, hU, hc, hnw⟩ := open_nums n n (Nat.le_refl _) n (Nat.le_refl _) _ _ f1
  have hc' : (parts t0).length ≤ Rows.uptoBulk x1.1 := by simpa [code] using hc
  obtain ⟨t, e1, e2, e3⟩ := lower n t0 hU m (by omega) hlim
  simp only [List.cons.injEq, and_true] at g0
  subst g0
  rw [g1]
  exact ⟨V, t, by rw [e1], e2, by rw [parts_code, e3]; omega⟩

set_option maxRecDepth 100000 in
/-- An argument that is a list of binds: from its bulk on it is one. -/
theorem open_bindsL {H : Type} {enc : TypeId × Value → H} {w : World} {r : Reach} {b0 : Nat} {spare : Nat → Bool} {held : Bool} {v : Value} {d : DataW H} {p : List MemPlace} (hv : Value.okWide Tryz.prog w r b0 32 v) (h : DataW.Trod enc Tryz.prog w 0 spare held 32 v d p) :
    ∃ a len cap, v = .slice a len cap ∧ (len = 0 ∨ ∃ es sp, d = .slice es sp ∧ es.length = len) ∧ ∀ m, Rows.uptoBulk d ≤ m → m ≤ 2199023255552 → ∃ bs : List (Int × Tm m), IsL w.heap.size w a len bs ∧ ∀ q ∈ bs, (code q.2).length ≤ m := by
  obtain ⟨a, len, cap, rfl⟩ := okWide_slice Tryz.underlying32 hv
  obtain ⟨fuel, hf⟩ := h
  refine ⟨a, len, cap, rfl, ?_⟩
  have hf' : DataW.trod enc Tryz.prog w 0 spare held fuel 32 [.slice a len cap] = some (d, p) := by simpa [Value.cells] using hf
  rcases DataW.trod_slice Tryz.underlying32 hf' with ⟨g3, -⟩ | ⟨a', len', cap', elems, rest, n', hn', g3, hd, hb, hlc, hmx, hlen, hel, -, -⟩
  · simp only [List.cons.injEq, and_true, Value.slice.injEq] at g3
    obtain ⟨rfl, rfl, rfl⟩ := g3
    exact ⟨.inl rfl, fun m _ _ => ⟨[], ⟨rfl, by omega, .inl rfl⟩, fun q hq => by cases hq⟩⟩
  · simp only [List.cons.injEq, and_true, Value.slice.injEq] at g3
    obtain ⟨rfl, rfl, rfl⟩ := g3
    have hd1 := (Prod.ext_iff.1 hd).1
    simp only at hd1
    refine ⟨.inr ⟨_, _, hd1, by simpa using hlen⟩, fun m hm hlim => ?_⟩
    have hbig : len ≤ 9223372036854775807 := by unfold maxLen at hmx; omega
    by_cases hl0 : len = 0
    · subst hl0
      exact ⟨[], ⟨rfl, by omega, .inl rfl⟩, fun q hq => by cases hq⟩
    have hel' : ∀ i, i < len → ∃ q : Int × Tm m, w.cells? 0 (a'.add (i * 5)) 5 = some [.int .i64 q.1, .int .i64 q.2.tv.k, .int .i64 q.2.tv.N, .string q.2.tv.s, .slice q.2.tv.a q.2.tv.len q.2.tv.cap] ∧ IsT w.heap.size w q.2 ∧ (code q.2).length ≤ m := by
      intro i hi
      have h1 := hel i hi
      rw [List.getElem?_eq_getElem (by omega)] at h1
      obtain ⟨cs', h2, h3⟩ := Option.bind_eq_some_iff.1 h1
      have hme : Rows.uptoBulk (elems[i]'(by omega)).1 ≤ Rows.uptoBulkAll (elems.map (·.1)) := bulk_part (List.mem_map.2 ⟨_, List.getElem_mem _, rfl⟩)
      have hmm : Rows.uptoBulk (elems[i]'(by omega)).1 ≤ m := by
        rw [hd1] at hm
        simp only [Rows.uptoBulk] at hm
        omega
      obtain ⟨V, t, hu, hT, hn⟩ := open_bindL h3 hmm hlim
      subst hu
      rw [Tryz.cells61] at h2
      exact ⟨(V, t), h2, hT, hn⟩
    clear hel
    obtain ⟨b, off, spot⟩ := a'
    have hspot : spot = none := by
      obtain ⟨u, h2, -⟩ := hel' 0 (by omega)
      obtain ⟨s1, -⟩ := cells5 h2
      simpa [Addr.add] using s1
    subst hspot
    have hkid : ∀ i, i < len → ∃ q : Int × Tm m, b < w.heap.size ∧ w.cell? ⟨b, off + i * 5, none⟩ = some (.int .i64 q.1) ∧ cellsAt w b (off + i * 5 + 1) q.2.tv ∧ IsT w.heap.size w q.2 ∧ (code q.2).length ≤ m := by
      intro i hi
      obtain ⟨q, h2, hT, hn⟩ := hel' i hi
      rw [add_none] at h2
      obtain ⟨-, k0, k1, k2, k3, k4⟩ := cells5 h2
      exact ⟨q, cell_lt k0, k0, ⟨k1, k2, k3, k4⟩, hT, hn⟩
    obtain ⟨bs, hbl, hbs⟩ := list_of hkid
    obtain ⟨_, hb0, _⟩ := hkid 0 (by omega)
    exact ⟨bs, ⟨hbl.symm, hbig, .inr ⟨b, off, rfl, hb0, fun j q hq => ⟨(hbs j q hq).2.1, (hbs j q hq).2.2.1, (hbs j q hq).2.2.2.1⟩⟩⟩, fun q hq => by
      obtain ⟨j, hj⟩ := List.mem_iff_getElem?.1 hq
      exact (hbs j q hj).2.2.2.2⟩
end Go.Proofs.YtojefplapklbmaaGreatDoor

