import Derived.Test.YtcnoipaoljjelaaGreatDoorMcK
import Derived.ProofKit
import Derived.OpenShut
import Derived.JoinedCond
import Derived.Deep.DeepHandedRow
import Derived.Lib.LaidTab
/- Code that can be read as data lies in memory as IsI and IsE say. -/
namespace Go.Proofs.YtcnoipaoljjelaaGreatDoor
open Go.ChangeShapes Go.WideShapes Go.ChangeAt Go.RowKit

theorem rowOf {α : Type} {p : Nat → α → Prop} : ∀ {n : Nat}, (∀ i, i < n → ∃ x, p i x) → ∃ l : List α, l.length = n ∧ ∀ j u, l[j]? = some u → p j u
  | 0, _ => ⟨[], rfl, fun j u h => by simp at h⟩
  | n + 1, h => by
    obtain ⟨l, hl, hp⟩ := rowOf (n := n) (fun i hi => h i (by omega))
    obtain ⟨x, hx⟩ := h n (by omega)
    refine ⟨l ++ [x], by simp [hl], fun j u hu => ?_⟩
    by_cases hj : j < n
    · rw [List.getElem?_append_left (by omega)] at hu; exact hp j u hu
    · rw [List.getElem?_append_right (by omega)] at hu
      have hj2 : j - l.length = 0 := by
        by_cases e : j - l.length = 0
        · exact e
        · rw [List.getElem?_eq_none (by simp; omega)] at hu; cases hu
      rw [hj2] at hu
      simp at hu
      have : j = n := by omega
      subst this; subst hu; exact hx
theorem Tryz.cellsCon : Tryz.prog.cellsOf 35 = 3 := by kernel_rfl
theorem Tryz.cellsIns : Tryz.prog.cellsOf 37 = 6 := by kernel_rfl
theorem Tryz.cellsEnt : Tryz.prog.cellsOf 39 = 3 := by kernel_rfl
theorem Tryz.cellsCode : Tryz.prog.cellsOf 25 = 3 := by kernel_rfl
theorem Tryz.cellsS : Tryz.prog.cellsOf 9 = 1 := by kernel_rfl
theorem Tryz.cellsI : Tryz.prog.cellsOf 3 = 1 := by kernel_rfl
theorem Tryz.cellsL : Tryz.prog.cellsOf 2 = 1 := by kernel_rfl
theorem Tryz.cellsRI : Tryz.prog.cellsOf 22 = 1 := by kernel_rfl
theorem Tryz.cellsRE : Tryz.prog.cellsOf 23 = 1 := by kernel_rfl
theorem list3 {α : Type} {l : List α} (h : l.length = 3) : ∃ a b c, l = [a, b, c] := by
  match l, h with
  | [a, b, c], _ => exact ⟨a, b, c, rfl⟩
theorem list6 {α : Type} {l : List α} (h : l.length = 6) : ∃ a b c d e f, l = [a, b, c, d, e, f] := by
  match l, h with
  | [a, b, c, d, e, f], _ => exact ⟨a, b, c, d, e, f, rfl⟩
theorem cells3 {w : World} {base : Nat} {a : Addr} {c0 c1 c2 : Value} (h : w.cells? base a 3 = some [c0, c1, c2]) : a.spot = none ∧ w.cell? ⟨a.block, a.off, none⟩ = some c0 ∧ w.cell? ⟨a.block, a.off + 1, none⟩ = some c1 ∧ w.cell? ⟨a.block, a.off + 2, none⟩ = some c2 := by
  unfold World.cells? at h
  split at h
  · obtain ⟨b, off, spot⟩ := a
    simp [List.range_succ, List.mapM_cons, Addr.add, Option.bind_eq_some_iff] at h
    obtain ⟨h0, h1, h2⟩ := h
    have hs : spot = none := World.cell?_spot h0
    subst hs
    exact ⟨rfl, h0, h1, h2⟩
  · cases h
theorem cells6 {w : World} {base : Nat} {a : Addr} {c0 c1 c2 c3 c4 c5 : Value} (h : w.cells? base a 6 = some [c0, c1, c2, c3, c4, c5]) : a.spot = none ∧ w.cell? ⟨a.block, a.off, none⟩ = some c0 ∧ w.cell? ⟨a.block, a.off + 1, none⟩ = some c1 ∧ w.cell? ⟨a.block, a.off + 2, none⟩ = some c2 ∧ w.cell? ⟨a.block, a.off + 3, none⟩ = some c3 ∧ w.cell? ⟨a.block, a.off + 4, none⟩ = some c4 ∧ w.cell? ⟨a.block, a.off + 5, none⟩ = some c5 := by
  unfold World.cells? at h
  split at h
  · obtain ⟨b, off, spot⟩ := a
    simp [List.range_succ, List.mapM_cons, Addr.add, Option.bind_eq_some_iff] at h
    obtain ⟨h0, h1, h2, h3, h4, h5⟩ := h
    have hs : spot = none := World.cell?_spot h0
    subst hs
    exact ⟨rfl, h0, h1, h2, h3, h4, h5⟩
  · cases h
theorem wf_bounds {n : Int} (h : (Lit.int .i64 n).wf = true) : -9223372036854775808 ≤ n ∧ n ≤ 9223372036854775807 := by
  simp only [Lit.wf, Bool.and_eq_true, decide_eq_true_eq] at h
  exact h
section
variable {H : Type} {enc : TypeId × Value → H} {w : World} {spare : Nat → Bool} {held : Bool} {fuel : Nat} {cs : List Value} {y : DataW H × List MemPlace}
theorem open_con (h : DataW.trod enc Tryz.prog w 0 spare held fuel 35 cs = some y) : ∃ x : KV, cs = [.int .i64 x.k, .string x.s, .int .i64 x.n] := by
  obtain ⟨xs, n, rfl, -, hl, hxl, hfs⟩ := DataW.trod_struct Tryz.underlying35 h
  rw [Tryz.cellsCon] at hl
  have hx3 : xs.length = 3 := hxl
  clear hxl
  obtain ⟨v0, v1, v2, rfl⟩ := list3 hl
  have f0 : DataW.trod enc Tryz.prog w 0 spare held n 3 (List.take (Tryz.prog.cellsOf 3) (List.drop 0 [v0, v1, v2])) = xs[0]? := hfs 0 _ rfl
  have f1 : DataW.trod enc Tryz.prog w 0 spare held n 9 (List.take (Tryz.prog.cellsOf 9) (List.drop 1 [v0, v1, v2])) = xs[1]? := hfs 1 _ rfl
  have f2 : DataW.trod enc Tryz.prog w 0 spare held n 2 (List.take (Tryz.prog.cellsOf 2) (List.drop 2 [v0, v1, v2])) = xs[2]? := hfs 2 _ rfl
  rw [Tryz.cellsI] at f0
  rw [Tryz.cellsS] at f1
  rw [Tryz.cellsL] at f2
  simp only [List.drop_zero, List.drop_succ_cons, List.take_succ_cons, List.take_zero] at f0 f1 f2
  rw [List.getElem?_eq_getElem (by omega)] at f0 f1 f2
  obtain ⟨k, g0, -, -⟩ := DataW.trod_int Tryz.underlying3 f0
  obtain ⟨s, g1, -, -⟩ := DataW.trod_string Tryz.underlying9 f1
  obtain ⟨t, g2, -, -⟩ := DataW.trod_int Tryz.underlying2 f2
  simp only [List.cons.injEq, and_true] at g0 g1 g2
  subst g0 g1 g2
  exact ⟨⟨k, s, t⟩, rfl⟩
theorem open_instr (h : DataW.trod enc Tryz.prog w 0 spare held fuel 37 cs = some y) : ∃ x : IV, cs = [.int .i64 x.op, .int .i64 x.a, .int .i64 x.b, .int .i64 x.c.k, .string x.c.s, .int .i64 x.c.n] := by
  obtain ⟨xs, n, rfl, -, hl, hxl, hfs⟩ := DataW.trod_struct Tryz.underlying37 h
  rw [Tryz.cellsIns] at hl
  have hx4 : xs.length = 4 := hxl
  clear hxl
  obtain ⟨v0, v1, v2, v3, v4, v5, rfl⟩ := list6 hl
  have f0 : DataW.trod enc Tryz.prog w 0 spare held n 3 (List.take (Tryz.prog.cellsOf 3) (List.drop 0 [v0, v1, v2, v3, v4, v5])) = xs[0]? := hfs 0 _ rfl
  have f1 : DataW.trod enc Tryz.prog w 0 spare held n 3 (List.take (Tryz.prog.cellsOf 3) (List.drop 1 [v0, v1, v2, v3, v4, v5])) = xs[1]? := hfs 1 _ rfl
  have f2 : DataW.trod enc Tryz.prog w 0 spare held n 3 (List.take (Tryz.prog.cellsOf 3) (List.drop 2 [v0, v1, v2, v3, v4, v5])) = xs[2]? := hfs 2 _ rfl
  have f3 : DataW.trod enc Tryz.prog w 0 spare held n 35 (List.take (Tryz.prog.cellsOf 35) (List.drop 3 [v0, v1, v2, v3, v4, v5])) = xs[3]? := hfs 3 _ rfl
  rw [Tryz.cellsI] at f0 f1 f2
  rw [Tryz.cellsCon] at f3
  simp only [List.drop_zero, List.drop_succ_cons, List.take_succ_cons, List.take_zero] at f0 f1 f2 f3
  rw [List.getElem?_eq_getElem (by omega)] at f0 f1 f2 f3
  obtain ⟨o, g0, -, -⟩ := DataW.trod_int Tryz.underlying3 f0
  obtain ⟨a, g1, -, -⟩ := DataW.trod_int Tryz.underlying3 f1
  obtain ⟨b, g2, -, -⟩ := DataW.trod_int Tryz.underlying3 f2
  obtain ⟨c, g3⟩ := open_con f3
  simp only [List.cons.injEq, and_true] at g0 g1 g2 g3
  obtain ⟨rfl, rfl, rfl⟩ := g3
  subst g0 g1 g2
  exact ⟨⟨o, a, b, c⟩, rfl⟩
theorem open_entry (h : DataW.trod enc Tryz.prog w 0 spare held fuel 39 cs = some y) : ∃ x : EV, cs = [.string x.s, .int .i64 x.n, .int .i64 x.at'] ∧ KeyO (x.s, x.n) := by
  obtain ⟨xs, n, rfl, -, hl, hxl, hfs⟩ := DataW.trod_struct Tryz.underlying39 h
  rw [Tryz.cellsEnt] at hl
  have hx3 : xs.length = 3 := hxl
  clear hxl
  obtain ⟨v0, v1, v2, rfl⟩ := list3 hl
  have f0 : DataW.trod enc Tryz.prog w 0 spare held n 9 (List.take (Tryz.prog.cellsOf 9) (List.drop 0 [v0, v1, v2])) = xs[0]? := hfs 0 _ rfl
  have f1 : DataW.trod enc Tryz.prog w 0 spare held n 3 (List.take (Tryz.prog.cellsOf 3) (List.drop 1 [v0, v1, v2])) = xs[1]? := hfs 1 _ rfl
  have f2 : DataW.trod enc Tryz.prog w 0 spare held n 3 (List.take (Tryz.prog.cellsOf 3) (List.drop 2 [v0, v1, v2])) = xs[2]? := hfs 2 _ rfl
  rw [Tryz.cellsS] at f0
  rw [Tryz.cellsI] at f1 f2
  simp only [List.drop_zero, List.drop_succ_cons, List.take_succ_cons, List.take_zero] at f0 f1 f2
  rw [List.getElem?_eq_getElem (by omega)] at f0 f1 f2
  obtain ⟨s, g0, -, hs⟩ := DataW.trod_string Tryz.underlying9 f0
  obtain ⟨p, g1, -, hp⟩ := DataW.trod_int Tryz.underlying3 f1
  obtain ⟨t, g2, -, -⟩ := DataW.trod_int Tryz.underlying3 f2
  simp only [List.cons.injEq, and_true] at g0 g1 g2
  subst g0 g1 g2
  exact ⟨⟨s, p, t⟩, rfl, hs, wf_bounds hp⟩
theorem addr_add (b off k : Nat) : (⟨b, off, none⟩ : Addr).add k = ⟨b, off + k, none⟩ := by simp [Addr.add]
theorem open_instrs {v : Value} (h : DataW.trod enc Tryz.prog w 0 spare held fuel 22 [v] = some y) : ∃ a len cap I, v = .slice a len cap ∧ IsI w a len I := by
  rcases DataW.trod_slice Tryz.underlying22 h with ⟨g3, -⟩ | ⟨a', len', cap', elems, rest, n', hn', g3, hd, hb, hlc, hmx, hlen, hel, -, -⟩
  · simp only [List.cons.injEq, and_true] at g3
    subst g3
    exact ⟨none, 0, 0, [], rfl, rfl, by omega, .inl rfl⟩
  · simp only [List.cons.injEq, and_true] at g3
    subst g3
    have hbig : len' ≤ 9223372036854775807 := by unfold maxLen at hmx; omega
    refine ⟨some a', len', cap', ?_⟩
    by_cases hl0 : len' = 0
    · subst hl0
      exact ⟨[], rfl, rfl, by omega, .inl rfl⟩
    have hel' : ∀ i, i < len' → ∃ x : IV, w.cells? 0 (a'.add (i * 6)) 6 = some [.int .i64 x.op, .int .i64 x.a, .int .i64 x.b, .int .i64 x.c.k, .string x.c.s, .int .i64 x.c.n] := by
      intro i hi
      have h1 := hel i hi
      rw [List.getElem?_eq_getElem (by omega)] at h1
      obtain ⟨cs', h2, h3⟩ := Option.bind_eq_some_iff.1 h1
      obtain ⟨x, hu⟩ := open_instr h3
      subst hu
      rw [Tryz.cellsIns] at h2
      exact ⟨x, h2⟩
    obtain ⟨b, off, spot⟩ := a'
    have hspot : spot = none := by
      obtain ⟨u, h2⟩ := hel' 0 (by omega)
      obtain ⟨s1, -⟩ := cells6 h2
      simpa [Addr.add] using s1
    subst hspot
    have hkid : ∀ i, i < len' → ∃ x : IV, w.cell? ⟨b, off + i * 6, none⟩ = some (.int .i64 x.op) ∧ w.cell? ⟨b, off + i * 6 + 1, none⟩ = some (.int .i64 x.a) ∧ w.cell? ⟨b, off + i * 6 + 2, none⟩ = some (.int .i64 x.b) ∧ w.cell? ⟨b, off + i * 6 + 3, none⟩ = some (.int .i64 x.c.k) ∧ w.cell? ⟨b, off + i * 6 + 4, none⟩ = some (.string x.c.s) ∧ w.cell? ⟨b, off + i * 6 + 5, none⟩ = some (.int .i64 x.c.n) := by
      intro i hi
      obtain ⟨x, h2⟩ := hel' i hi
      rw [addr_add] at h2
      obtain ⟨-, k⟩ := cells6 h2
      exact ⟨x, k⟩
    obtain ⟨I, hbl, hbs⟩ := rowOf hkid
    obtain ⟨_, hb0, _⟩ := hkid 0 (by omega)
    exact ⟨I, rfl, hbl.symm, hbig, .inr ⟨b, off, rfl, cell_lt hb0, hbs⟩⟩
theorem open_entries {v : Value} (h : DataW.trod enc Tryz.prog w 0 spare held fuel 23 [v] = some y) : ∃ a len cap E, v = .slice a len cap ∧ IsE w a len E := by
  rcases DataW.trod_slice Tryz.underlying23 h with ⟨g3, -⟩ | ⟨a', len', cap', elems, rest, n', hn', g3, hd, hb, hlc, hmx, hlen, hel, -, -⟩
  · simp only [List.cons.injEq, and_true] at g3
    subst g3
    exact ⟨none, 0, 0, [], rfl, rfl, by omega, (fun e he => by cases he), .inl rfl⟩
  · simp only [List.cons.injEq, and_true] at g3
    subst g3
    have hbig : len' ≤ 9223372036854775807 := by unfold maxLen at hmx; omega
    refine ⟨some a', len', cap', ?_⟩
    by_cases hl0 : len' = 0
    · subst hl0
      exact ⟨[], rfl, rfl, by omega, (fun e he => by cases he), .inl rfl⟩
    have hel' : ∀ i, i < len' → ∃ x : EV, w.cells? 0 (a'.add (i * 3)) 3 = some [.string x.s, .int .i64 x.n, .int .i64 x.at'] ∧ KeyO (x.s, x.n) := by
      intro i hi
      have h1 := hel i hi
      rw [List.getElem?_eq_getElem (by omega)] at h1
      obtain ⟨cs', h2, h3⟩ := Option.bind_eq_some_iff.1 h1
      obtain ⟨x, hu, hk⟩ := open_entry h3
      subst hu
      rw [Tryz.cellsEnt] at h2
      exact ⟨x, h2, hk⟩
    obtain ⟨b, off, spot⟩ := a'
    have hspot : spot = none := by
      obtain ⟨u, h2, -⟩ := hel' 0 (by omega)
      obtain ⟨s1, -⟩ := cells3 h2
      simpa [Addr.add] using s1
    subst hspot
    have hkid : ∀ i, i < len' → ∃ x : EV, (w.cell? ⟨b, off + i * 3, none⟩ = some (.string x.s) ∧ w.cell? ⟨b, off + i * 3 + 1, none⟩ = some (.int .i64 x.n) ∧ w.cell? ⟨b, off + i * 3 + 2, none⟩ = some (.int .i64 x.at')) ∧ KeyO (x.s, x.n) := by
      intro i hi
      obtain ⟨x, h2, hk⟩ := hel' i hi
      rw [addr_add] at h2
      obtain ⟨-, k⟩ := cells3 h2
      exact ⟨x, k, hk⟩
    obtain ⟨E, hbl, hbs⟩ := rowOf hkid
    obtain ⟨_, ⟨hb0, _⟩, _⟩ := hkid 0 (by omega)
    refine ⟨E, rfl, hbl.symm, hbig, fun e he => ?_, .inr ⟨b, off, rfl, cell_lt hb0, fun j x hx => (hbs j x hx).1⟩⟩
    obtain ⟨i, hi⟩ := List.getElem?_of_mem he
    exact (hbs i e hi).2
end
set_option maxRecDepth 100000 in
theorem open_code {H : Type} {enc : TypeId × Value → H} {w : World} {r : Reach} {b0 : Nat} {spare : Nat → Bool} {held : Bool} {v : Value} {d : DataW H} {p : List MemPlace} (hv : Value.okWide Tryz.prog w r b0 25 v) (h : DataW.Trod enc Tryz.prog w 0 spare held 25 v d p) :
    ∃ a len cap I a' len' cap' E q, v = .agg #[.slice a len cap, .slice a' len' cap', .int .i64 q] ∧ IsI w a len I ∧ IsE w a' len' E := by
  obtain ⟨cs, rfl, _⟩ := okWide_struct Tryz.underlying25 hv
  obtain ⟨fuel, hf⟩ := h
  obtain ⟨xs, n, rfl, hd, hl, hxl, hfs⟩ := DataW.trod_struct Tryz.underlying25 hf
  rw [Tryz.cellsCode] at hl
  have hx3 : xs.length = 3 := hxl
  clear hxl
  obtain ⟨v0, v1, v2, hcs⟩ := list3 hl
  rw [hcs] at hfs
  have f0 : DataW.trod enc Tryz.prog w 0 spare held n 22 (List.take (Tryz.prog.cellsOf 22) (List.drop 0 [v0, v1, v2])) = xs[0]? := hfs 0 _ rfl
  have f1 : DataW.trod enc Tryz.prog w 0 spare held n 23 (List.take (Tryz.prog.cellsOf 23) (List.drop 1 [v0, v1, v2])) = xs[1]? := hfs 1 _ rfl
  have f2 : DataW.trod enc Tryz.prog w 0 spare held n 3 (List.take (Tryz.prog.cellsOf 3) (List.drop 2 [v0, v1, v2])) = xs[2]? := hfs 2 _ rfl
  rw [Tryz.cellsRI] at f0
  rw [Tryz.cellsRE] at f1
  rw [Tryz.cellsI] at f2
  simp only [List.drop_zero, List.drop_succ_cons, List.take_succ_cons, List.take_zero] at f0 f1 f2
  rw [List.getElem?_eq_getElem (by omega)] at f0 f1 f2
  obtain ⟨a, len, cap, I, rfl, hI⟩ := open_instrs f0
  obtain ⟨a', len', cap', E, rfl, hE⟩ := open_entries f1
  obtain ⟨q, g2, -, -⟩ := DataW.trod_int Tryz.underlying3 f2
  simp only [List.cons.injEq, and_true] at g2
  subst g2
  refine ⟨a, len, cap, I, a', len', cap', E, q, ?_, hI, hE⟩
  have : cs.toList = [.slice a len cap, .slice a' len' cap', .int .i64 q] := by simpa [Value.cells] using hcs
  rw [← this]
end Go.Proofs.YtcnoipaoljjelaaGreatDoor

