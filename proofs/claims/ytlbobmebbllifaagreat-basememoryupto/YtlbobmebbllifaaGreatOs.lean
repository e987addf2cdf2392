import Derived.Test.YtlbobmebbllifaaGreatRows
import Derived.Test.YtlbobmebbllifaaGreatJ
import Derived.Lib.SmallJoins
import Derived.Deep.Slices
import Derived.Test.YtlbobmebbllifaaGreatBcKs
/- A term that can be read as data, and is of a bulk that is small, lies in memory as IsT says, at every number of storeys from the bulk on. -/
namespace Go.Proofs.YtlbobmebbllifaaGreat
open Go.RowKit Go.Joins Go.WideShapes
theorem Tryz.cells28 : Tryz.prog.cellsOf 24 = 4 := by kernel_rfl
theorem Tryz.cells3 : Tryz.prog.cellsOf 3 = 1 := by kernel_rfl
theorem Tryz.cells2 : Tryz.prog.cellsOf 2 = 1 := by kernel_rfl
theorem Tryz.cells9 : Tryz.prog.cellsOf 9 = 1 := by kernel_rfl
theorem Tryz.cells26 : Tryz.prog.cellsOf 22 = 1 := by kernel_rfl
theorem list4 {α : Type} {l : List α} (h : l.length = 4) : ∃ a b c d, l = [a, b, c, d] := by
 match l, h with
 | [a, b, c, d], _ => exact ⟨a, b, c, d, rfl⟩
theorem cells4 {w : World} {base : Nat} {a : Addr} {c0 c1 c2 c3 : Value} (h : w.cells? base a 4 = some [c0, c1, c2, c3]) : a.spot = none ∧ w.cell? ⟨a.block, a.off, none⟩ = some c0 ∧ w.cell? ⟨a.block, a.off + 1, none⟩ = some c1 ∧ w.cell? ⟨a.block, a.off + 2, none⟩ = some c2 ∧ w.cell? ⟨a.block, a.off + 3, none⟩ = some c3 := by
 unfold World.cells? at h
 split at h
 ·obtain ⟨b, off, spot⟩ := a
  simp [List.range_succ, List.mapM_cons, Addr.add, Option.bind_eq_some_iff] at h
  obtain ⟨h0, h1, h2, h3⟩ := h
  have hs : spot = none := World.cell?_spot h0
  subst hs
  exact ⟨rfl, h0, h1, h2, h3⟩
 ·cases h
theorem list_of {α : Type} {p : Nat → α → Prop} : ∀ {n : Nat}, (∀ i, i < n → ∃ x, p i x) → ∃ l : List α, l.length = n ∧ ∀ j u, l[j]? = some u → p j u
 | 0, _ => ⟨[], rfl, fun j u h => by simp at h⟩
 | n + 1, h => by
  obtain ⟨l, hl, hp⟩ := list_of (n := n) (fun i hi => h i (by omega))
  obtain ⟨x, hx⟩ := h n (by omega)
  refine ⟨l ++ [x], by simp [hl], fun j u hu => ?_⟩
  by_cases hj : j < n
  ·rw [List.getElem?_append_left (by omega)] at hu; exact hp j u hu
  ·rw [List.getElem?_append_right (by omega)] at hu
   have hj2 : j - l.length = 0 := by
    by_cases e : j - l.length = 0
    ·exact e
    ·rw [List.getElem?_eq_none (by simp; omega)] at hu; cases hu
   rw [hj2] at hu
   simp at hu
   subst hu
   obtain rfl : j = n := by omega
   exact hx
theorem add_none (b off n : Nat) : Addr.add ⟨b, off, none⟩ n = ⟨b, off + n, none⟩ := by
 unfold Addr.add; split
 ·rename_i h; subst h; rfl
 ·rfl
theorem cell_lt {w : World} {b o : Nat} {v : Value} (h : w.cell? ⟨b, o, none⟩ = some v) : b < w.heap.size := by
 unfold World.cell? at h
 simp only at h
 cases hb : w.heap[b]? with
 | none => rw [hb] at h; cases h
 | some ob => exact (Array.getElem?_eq_some_iff.1 hb).1
def IsU (n₀ : Nat) (W : World) : {n : Nat} → Tm n → Prop
 | 0, t => Empty.elim t
 | _ + 1, t => t.tv.len = t.kids.length ∧ (t.tv.len ≤ 9223372036854775807 ∧ t.tv.len ≤ t.tv.cap) ∧ t.tv.s.size ≤ 9223372036854775807 ∧ (t.kids = [] ∨ ∃ b off, t.tv.a = some ⟨b, off, none⟩ ∧ b < n₀ ∧
   ∀ j u, t.kids[j]? = some u → cellsAt W b (off + j * 4) u.tv ∧ IsU n₀ W u)
theorem isU_mk {n n₀ : Nat} {W : World} (x : TV) (kids : List (Tm n)) (h1 : x.len = kids.length) (h2 : x.len ≤ 9223372036854775807 ∧ x.len ≤ x.cap) (h3 : x.s.size ≤ 9223372036854775807)
  (h4 : kids = [] ∨ ∃ b off, x.a = some ⟨b, off, none⟩ ∧ b < n₀ ∧ ∀ j u, kids[j]? = some u → cellsAt W b (off + j * 4) u.tv ∧ IsU n₀ W u) : IsU n₀ W (n := n + 1) ((x, kids) : TV × List (Tm n)) := ⟨h1, h2, h3, h4⟩
theorem lower_list {n₀ n m : Nat} {W : World} : ∀ (kids : List (Tm n)), (∀ u ∈ kids, ∃ t' : Tm m, t'.tv = u.tv ∧ IsT n₀ W t' ∧ parts t' = parts u) →
  ∃ kids' : List (Tm m), kids'.length = kids.length ∧ (∀ (j : Nat) (u' : Tm m), kids'[j]? = some u' → ∃ u : Tm n, kids[j]? = some u ∧ u'.tv = u.tv ∧ IsT n₀ W u') ∧ kids'.flatMap parts = kids.flatMap parts
 | [], _ => ⟨[], rfl, fun j u' h => by simp at h, rfl⟩
 | u :: kids, h => by
  obtain ⟨t', e1, e2, e3⟩ := h u (by simp)
  obtain ⟨ks, k1, k2, k3⟩ := lower_list kids (fun z hz => h z (by simp [hz]))
  refine ⟨t' :: ks, by simp [k1], fun j u' hu => ?_, by simp [e3, k3]⟩
  cases j with
  | zero => simp at hu; subst hu; exact ⟨u, rfl, e1, e2⟩
  | succ j =>
   obtain ⟨z, z1, z2⟩ := k2 j u' (by simpa using hu)
   exact ⟨z, by simpa using z1, z2⟩
theorem part_len {n : Nat} {kids : List (Tm n)} {u : Tm n} (h : u ∈ kids) : (parts u).length ≤ (kids.flatMap parts).length := by
 induction kids with
 | nil => cases h
 | cons z kids ih =>
  simp only [List.flatMap_cons, List.length_append]
  rcases List.mem_cons.1 h with rfl | h
  ·omega
  ·have := ih h
   omega
theorem lower {n₀ : Nat} {W : World} : ∀ (n : Nat) (t : Tm n), IsU n₀ W t → ∀ m, (parts t).length ≤ m → m ≤ 2199023255552 → ∃ t' : Tm m, t'.tv = t.tv ∧ IsT n₀ W t' ∧ parts t' = parts t := by
 intro n
 induction n with
 | zero => intro t; exact Empty.elim t
 | succ n ih =>
  intro t ht m hm hlim
  obtain ⟨x, kids⟩ := t
  obtain ⟨h1, h2, h3, h4⟩ := ht
  have hp : parts (n := n + 1) ((x, kids) : TV × List (Tm n)) = x :: kids.flatMap parts := rfl
  rw [hp] at hm ⊢
  simp only [List.length_cons] at hm
  obtain ⟨m, rfl⟩ : ∃ k, m = k + 1 := ⟨m - 1, by omega⟩
  have hu : ∀ u ∈ kids, IsU n₀ W u := fun u hu => by
   rcases h4 with h4 | ⟨b, off, _, _, hk⟩
   ·have h4' : kids = [] := h4
    rw [h4'] at hu; cases hu
   ·obtain ⟨j, hj⟩ := List.mem_iff_getElem?.1 hu
    exact (hk j u hj).2
  obtain ⟨ks, k1, k2, k3⟩ := lower_list (m := m) (n₀ := n₀) (W := W) kids (fun u hu' => ih u (hu u hu') m (by have := part_len hu'; omega) (by omega))
  refine ⟨((x, ks) : TV × List (Tm m)), rfl, ⟨?_, ⟨h2.1, h2.2, hlim⟩, h3, ?_⟩, ?_⟩
  ·show x.len = ks.length
   rw [k1]; exact h1
  ·rcases h4 with h4 | ⟨b, off, ha, hb, hk⟩
   ·refine .inl ?_
    have h4' : kids = [] := h4
    show ks = []
    rw [h4'] at k1
    exact List.length_eq_zero_iff.1 k1
   ·refine .inr ⟨b, off, ha, hb, fun j u' hu' => ?_⟩
    obtain ⟨u, q1, q2, q3⟩ := k2 j u' hu'
    exact ⟨by rw [q2]; exact (hk j u q1).1, q3⟩
  ·show x :: ks.flatMap parts = _
   rw [k3]
theorem bulk_one {H : Type} (d : DataW H) : 1 ≤ Rows.uptoBulk d := by
 cases d with
 | lit l => cases l <;> simp [Rows.uptoBulk]
 | nil => simp [Rows.uptoBulk]
 | ptr d => simp [Rows.uptoBulk]
 | slice elems spare => simp [Rows.uptoBulk]
 | agg parts => simp [Rows.uptoBulk]
 | iface t d => simp [Rows.uptoBulk]
 | map entries => simp [Rows.uptoBulk]
 | held h => simp [Rows.uptoBulk]
theorem bulk_len {H : Type} (l : List (DataW H)) : l.length ≤ Rows.uptoBulkAll l := by
 induction l with
 | nil => simp [Rows.uptoBulkAll]
 | cons x r ih => have := bulk_one x; simp only [Rows.uptoBulkAll, List.length_cons]; omega
theorem bulk_part {H : Type} {d : DataW H} {l : List (DataW H)} (h : d ∈ l) : Rows.uptoBulk d ≤ Rows.uptoBulkAll l := by
 induction l with
 | nil => cases h
 | cons x r ih =>
  simp only [Rows.uptoBulkAll]
  cases List.mem_cons.1 h with
  | inl e => subst e; omega
  | inr e => have := ih e; omega
theorem bulk_kids {H : Type} {n : Nat} : ∀ (kids : List (Tm n)) (ds : List (DataW H)), kids.length = ds.length → (∀ (i : Nat) (u : Tm n) (d : DataW H), kids[i]? = some u → ds[i]? = some d → (code u).length ≤ Rows.uptoBulk d) → (kids.flatMap code).length ≤ Rows.uptoBulkAll ds
 | [], ds, _, _ => by simp
 | u :: kids, [], h, _ => by simp at h
 | u :: kids, d :: ds, h, hk => by
  have h1 := hk 0 u d rfl rfl
  have h2 := bulk_kids kids ds (by simpa using h) (fun i u d hu hd => hk (i + 1) u d (by simpa using hu) (by simpa using hd))
  simp only [List.flatMap_cons, List.length_append, Rows.uptoBulkAll]
  omega
def Nw (x : TV) : Prop := -9223372036854775808 ≤ x.N ∧ x.N ≤ 9223372036854775807
theorem nums_kids {m : Nat} {x : TV} {kids : List (Tm m)} (h0 : Nw x) (h : ∀ u ∈ kids, ∀ y ∈ parts u, Nw y) : ∀ y ∈ parts (n := m + 1) ((x, kids) : TV × List (Tm m)), Nw y := fun y hy => by
 have hy' : y ∈ x :: kids.flatMap parts := hy
 rcases List.mem_cons.1 hy' with e | e
 ·rw [e]; exact h0
 ·obtain ⟨u, hu, e⟩ := List.mem_flatMap.1 e
  exact h u hu y e
theorem nw_wf {k N : Int} {s : ByteArray} {a : Option Addr} {l c : Nat} (h : (Lit.int .i64 N).wf = true) : Nw ⟨k, N, s, a, l, c⟩ := by
 simp only [Lit.wf, Bool.and_eq_true, decide_eq_true_eq] at h
 exact h
theorem open_nums {H : Type} {enc : TypeId × Value → H} {w : World} {spare : Nat → Bool} {held : Bool} : ∀ (k fuel : Nat), fuel ≤ k → ∀ (m : Nat), fuel ≤ m → ∀ (cs : List Value) (y : DataW H × List MemPlace),
  DataW.trod enc Tryz.prog w 0 spare held fuel 24 cs = some y → ∃ t : Tm m, cs = [.int .i64 t.tv.k, .int .i64 t.tv.N, .string t.tv.s, .slice t.tv.a t.tv.len t.tv.cap] ∧ IsU w.heap.size w t ∧ (code t).length ≤ Rows.uptoBulk y.1 ∧ ∀ x ∈ parts t, Nw x := by
 intro k
 induction k with
 | zero =>
  intro fuel hf m _ cs y h
  obtain rfl : fuel = 0 := by omega
  simp [DataW.trod] at h
 | succ k ih =>
  intro fuel hf m hm cs y h
  obtain ⟨xs, n, rfl, rfl, hl, hxl, hfs⟩ := DataW.trod_struct Tryz.underlying24 h
  rw [Tryz.cells28] at hl
  have hx4 : xs.length = 4 := hxl
  clear hxl
  obtain ⟨v0, v1, v2, v3, rfl⟩ := list4 hl
  have f0 : DataW.trod enc Tryz.prog w 0 spare held n 3 (List.take (Tryz.prog.cellsOf 3) (List.drop 0 [v0, v1, v2, v3])) = xs[0]? := hfs 0 _ rfl
  have f1 : DataW.trod enc Tryz.prog w 0 spare held n 2 (List.take (Tryz.prog.cellsOf 2) (List.drop 1 [v0, v1, v2, v3])) = xs[1]? := hfs 1 _ rfl
  have f2 : DataW.trod enc Tryz.prog w 0 spare held n 9 (List.take (Tryz.prog.cellsOf 9) (List.drop 2 [v0, v1, v2, v3])) = xs[2]? := hfs 2 _ rfl
  have f3 : DataW.trod enc Tryz.prog w 0 spare held n 22 (List.take (Tryz.prog.cellsOf 22) (List.drop 3 [v0, v1, v2, v3])) = xs[3]? := hfs 3 _ rfl
  rw [Tryz.cells3] at f0
  rw [Tryz.cells2] at f1
  rw [Tryz.cells9] at f2
  rw [Tryz.cells26] at f3
  simp only [List.drop_zero, List.drop_succ_cons, List.take_succ_cons, List.take_zero] at f0 f1 f2 f3
  clear hfs
  obtain ⟨x0, x1, x2, x3, rfl⟩ := list4 hx4
  simp only [List.getElem?_cons_zero, List.getElem?_cons_succ] at f0 f1 f2 f3
  obtain ⟨tk, g0, -, -⟩ := DataW.trod_int Tryz.underlying3 f0
  obtain ⟨tN, g1, -, hwf⟩ := DataW.trod_int Tryz.underlying2 f1
  obtain ⟨ts, g2, -, hsm⟩ := DataW.trod_string Tryz.underlying9 f2
  simp only [List.cons.injEq, and_true] at g0 g1 g2
  subst g0 g1 g2
  unfold maxLen at hsm
  have hbulk : Rows.uptoBulk x3.1 ≤ Rows.uptoBulkAll ([x0, x1, x2, x3].map (·.1)) := bulk_part (by simp)
  have hb1 := bulk_one x3.1
  obtain ⟨m', rfl⟩ : ∃ m', m = m' + 1 := ⟨m - 1, by omega⟩
  rcases DataW.trod_slice Tryz.underlying22 f3 with ⟨g3, -⟩ | ⟨a, len, cap, elems, rest, n', hn', g3, hd3, hb, hlc, hmx, hlen, hel, -, -⟩
  ·simp only [List.cons.injEq, and_true] at g3
   subst g3
   refine ⟨((⟨tk, tN, ts, none, 0, 0⟩, []) : TV × List (Tm m')), rfl, ⟨rfl, ⟨by simp [Tm.tv], by simp [Tm.tv]⟩, by simp only [Tm.tv]; omega, .inl rfl⟩, ?_, nums_kids (nw_wf hwf) (fun u hu => by cases hu)⟩
   rw [code_succ]
   simp only [Rows.uptoBulk, List.flatMap_nil, List.length_cons, List.length_nil]
   omega
  ·simp only [List.cons.injEq, and_true] at g3
   subst g3
   unfold maxLen at hmx
   by_cases hl0 : len = 0
   ·subst hl0
    refine ⟨((⟨tk, tN, ts, some a, 0, cap⟩, []) : TV × List (Tm m')), rfl, ⟨rfl, ⟨by simp [Tm.tv], by simp [Tm.tv]⟩, by simp only [Tm.tv]; omega, .inl rfl⟩, ?_, nums_kids (nw_wf hwf) (fun u hu => by cases hu)⟩
    rw [code_succ]
    simp only [Rows.uptoBulk, List.flatMap_nil, List.length_cons, List.length_nil]
    omega
   ·have hel' : ∀ i, i < len → ∃ u : Tm m', w.cells? 0 (a.add (i * 4)) 4 = some [.int .i64 u.tv.k, .int .i64 u.tv.N, .string u.tv.s, .slice u.tv.a u.tv.len u.tv.cap] ∧ IsU w.heap.size w u ∧ (∀ x ∈ parts u, Nw x) ∧ ∀ d, (elems.map (·.1))[i]? = some d → (code u).length ≤ Rows.uptoBulk d := by
     intro i hi
     have h1 := hel i hi
     rw [List.getElem?_eq_getElem (by omega)] at h1
     obtain ⟨cs', h2, h3⟩ := Option.bind_eq_some_iff.1 h1
     obtain ⟨u, hu, hT, hc, hnw⟩ := ih n' (by omega) m' (by omega) cs' _ h3
     subst hu
     rw [Tryz.cells28] at h2
     refine ⟨u, h2, hT, hnw, fun d hd => ?_⟩
     rw [List.getElem?_map, List.getElem?_eq_getElem (by omega)] at hd
     simp at hd
     rw [← hd]
     exact hc
    clear hel
    obtain ⟨b, off, spot⟩ := a
    have hspot : spot = none := by
     obtain ⟨u, h2, -⟩ := hel' 0 (by omega)
     obtain ⟨s1, -⟩ := cells4 h2
     simpa [Addr.add] using s1
    subst hspot
    have hkid : ∀ i, i < len → ∃ u : Tm m', b < w.heap.size ∧ (cellsAt w b (off + i * 4) u.tv ∧ IsU w.heap.size w u) ∧ (∀ x ∈ parts u, Nw x) ∧ ∀ d, (elems.map (·.1))[i]? = some d → (code u).length ≤ Rows.uptoBulk d := by
     intro i hi
     obtain ⟨u, h2, hT, hnw, hc⟩ := hel' i hi
     rw [add_none] at h2
     obtain ⟨-, k0, k1, k2, k3⟩ := cells4 h2
     exact ⟨u, cell_lt k0, ⟨⟨k0, k1, k2, k3⟩, hT⟩, hnw, hc⟩
    obtain ⟨kids, hkl, hks⟩ := list_of hkid
    obtain ⟨_, hb0, _⟩ := hkid 0 (by omega)
    clear hkid hel' ih
    have hl63 : len ≤ 9223372036854775807 ∧ len ≤ cap := ⟨by omega, hlc⟩
    have hs63 : ts.size ≤ 9223372036854775807 := by omega
    have hfin : IsU w.heap.size w (n := m' + 1) (((⟨tk, tN, ts, some ⟨b, off, none⟩, len, cap⟩ : TV), kids) : TV × List (Tm m')) := isU_mk _ kids hkl.symm hl63 hs63 (.inr ⟨b, off, rfl, hb0, fun j u hu => (hks j u hu).2.1⟩)
    refine ⟨_, rfl, hfin, ?_, nums_kids (nw_wf hwf) (fun u hu => by obtain ⟨i, hi⟩ := List.getElem?_of_mem hu; exact (hks i u hi).2.2.1)⟩
    have hsum := bulk_kids kids (elems.map (·.1)) (by simp [hkl, hlen]) (fun i u d hu hd => (hks i u hu).2.2.2 d hd)
    rw [code_succ]
    have h3 : Rows.uptoBulkAll (elems.map (·.1)) + 1 ≤ Rows.uptoBulk x3.1 := by rw [hd3]; simp only [Rows.uptoBulk]; omega
    simp only [Rows.uptoBulk, List.length_cons]
    omega
set_option maxRecDepth 100000 in
theorem open_arg_nums {H : Type} {enc : TypeId × Value → H} {w : World} {r : Reach} {b0 : Nat} {spare : Nat → Bool} {held : Bool} {v : Value} {d : DataW H} {p : List MemPlace} (hv : Value.okWide Tryz.prog w r b0 24 v) (h : DataW.Trod enc Tryz.prog w 0 spare held 24 v d p) :
  ∀ m, Rows.uptoBulk d ≤ m → m ≤ 2199023255552 → ∃ t : Tm m, v = t.tv.val ∧ IsT w.heap.size w t ∧ (code t).length ≤ Rows.uptoBulk d ∧ ∀ x ∈ parts t, Nw x := by
 obtain ⟨cs, rfl, _⟩ := okWide_struct Tryz.underlying24 hv
 obtain ⟨fuel, hf⟩ := h
 intro m hm hlim
 obtain ⟨t0, ht, hU, hc, hnw⟩ := open_nums fuel fuel (Nat.le_refl _) fuel (Nat.le_refl _) _ _ hf
 have hc' : (parts t0).length ≤ Rows.uptoBulk d := by simpa [code] using hc
 obtain ⟨t, e1, e2, e3⟩ := lower fuel t0 hU m (by omega) hlim
 refine ⟨t, ?_, e2, by simpa [code, e3] using hc', by rw [e3]; exact hnw⟩
 have : cs.toList = [.int .i64 t0.tv.k, .int .i64 t0.tv.N, .string t0.tv.s, .slice t0.tv.a t0.tv.len t0.tv.cap] := by simpa [Value.cells] using ht
 rw [← e1] at this
 unfold TV.val
 rw [← this]
/- The contract of hornkeep.spoilt at terms: a whole block is written over. -/
open Go.Shelf
structure Spoils (S : Nat → Prop) (A B : World) : Prop where
 os : B.os = A.os
 tape : B.tape = A.tape
 output : B.output = A.output
 size : A.heap.size ≤ B.heap.size
 other : ∀ k, k < A.heap.size → ¬ S k → B.heap[k]? = A.heap[k]?
 mark : ∀ k cap, S k → Row4 A k cap → B.heap[k]? = A.heap[k]? ∨ MkT B k cap cap
 kind : ∀ k, k < A.heap.size → (∀ cap, ¬ Row4 A k cap) → B.heap[k]? = A.heap[k]?
theorem MkT.keep {A B : World} {k cap j : Nat} (h : MkT A k cap j) (hb : B.heap[k]? = A.heap[k]?) : MkT B k cap j := ⟨h.row.kept hb, fun i hi => (h.at4 i hi).kept hb⟩
theorem Row4.cap {W : World} {b c d : Nat} (h : Row4 W b c) (k : Row4 W b d) : c = d := by
 obtain ⟨a1, h1, h2⟩ := h
 obtain ⟨a2, k1, k2⟩ := k
 rw [h1] at k1
 simp at k1
 subst k1
 omega
theorem Spoils.trans {S : Nat → Prop} {A B C : World} (h : Spoils S A B) (k : Spoils S B C) : Spoils S A C := by
 refine ⟨k.os.trans h.os, k.tape.trans h.tape, k.output.trans h.output, Nat.le_trans h.size k.size, fun i hi hn => (k.other i (Nat.lt_of_lt_of_le hi h.size) hn).trans (h.other i hi hn), fun i cap hs hr => ?_, fun i hi hn => (k.kind i (Nat.lt_of_lt_of_le hi h.size) (fun cap hr => hn cap (hr.kept (h.kind i hi hn).symm))).trans (h.kind i hi hn)⟩
 rcases h.mark i cap hs hr with h1 | h1
 ·rcases k.mark i cap hs (hr.kept h1) with k1 | k1
  ·exact .inl (k1.trans h1)
  ·exact .inr k1
 ·rcases k.mark i cap hs h1.row with k1 | k1
  ·exact .inr (h1.keep k1)
  ·exact .inr k1
theorem Spoils.of_below {S : Nat → Prop} {A B : World} (h : Below A.heap.size A B) : Spoils S A B :=
 ⟨h.os, h.tape, h.output, h.size, fun k hk _ => h.block k hk, fun k _ _ hr => .inl (h.block k hr.lt), fun k hk _ => h.block k hk⟩
def markT (n : Nat) : Tm (n + 1) := (markV, [])
/- The contract of hornkeep.spoilt at terms. -/
def m4 : List Value := [.int .i64 9, .int .i64 (-77), .string ⟨#[115, 112, 111, 105, 108, 116]⟩, .slice none 0 0]
def m12 : List Value := m4 ++ m4 ++ m4
theorem m12_at (q r : Nat) (hq : q < 3) (hr : r < 4) : m12[q * 4 + r]? = m4[r]? := by
 have h1 : q = 0 ∨ q = 1 ∨ q = 2 := by omega
 have h2 : r = 0 ∨ r = 1 ∨ r = 2 ∨ r = 3 := by omega
 rcases h1 with rfl | rfl | rfl <;> rcases h2 with rfl | rfl | rfl | rfl <;> rfl
theorem over_at {cur : List Value} {len : Nat} (o : Nat) (h : len * 4 + 12 ≤ cur.length) (ho : o < len * 4 ∨ len * 4 + 12 ≤ o) : (cur.take (len * 4) ++ m12 ++ cur.drop (len * 4 + m12.length))[o]? = cur[o]? := by
 have hm : m12.length = 12 := rfl
 have ht : (cur.take (len * 4)).length = len * 4 := by simp; omega
 rcases ho with ho | ho
 ·rw [List.append_assoc, List.getElem?_append_left (by omega), List.getElem?_take, if_pos ho]
 ·rw [List.getElem?_append_right (by rw [List.length_append, ht, hm]; omega), List.length_append, ht, hm, List.getElem?_drop]
  congr 1
  omega
theorem over_in {cur : List Value} {len : Nat} (q r : Nat) (h : len * 4 + 12 ≤ cur.length) (hq : q < 3) (hr : r < 4) : (cur.take (len * 4) ++ m12 ++ cur.drop (len * 4 + m12.length))[(len + q) * 4 + r]? = m4[r]? := by
 have hm : m12.length = 12 := rfl
 have ht : (cur.take (len * 4)).length = len * 4 := by simp; omega
 rw [List.append_assoc, List.getElem?_append_right (by omega), ht, List.getElem?_append_left (by omega), show (len + q) * 4 + r - len * 4 = q * 4 + r by omega]
 exact m12_at q r hq hr
theorem MkT.over {w : World} {b cap len : Nat} {cur : Array Value} (h : MkT w b cap cap) (hg : w.heap[b]? = some (Obj.cells cur 24 (0, 0))) (hz : cur.size = cap * 4) (hl : len + 3 ≤ cap) :
  MkT (w.setRow b (cur.toList.take (len * 4) ++ m12 ++ cur.toList.drop (len * 4 + m12.length)).toArray) b cap cap := by
 have hlen : cur.toList.length = cap * 4 := by simpa using hz
 have hm : m12.length = 12 := rfl
 refine ⟨⟨_, setRow_heap w b cur _ _ _ hg, by simp [hm]; omega⟩, fun i hi => ?_⟩
 have hc : ∀ o, w.cell? ⟨b, o, none⟩ = cur.toList[o]? := fun o => by simp [World.cell?, hg]
 have key : ∀ r v, r < 4 → w.cell? ⟨b, i * 4 + r, none⟩ = some v → m4[r]? = some v → (w.setRow b (cur.toList.take (len * 4) ++ m12 ++ cur.toList.drop (len * 4 + m12.length)).toArray).cell? ⟨b, i * 4 + r, none⟩ = some v := fun r v hr hv hm4 => by
  rw [cell_setRow_same w b _ cur _ _ _ hg, List.getElem?_toArray]
  by_cases h1 : i < len
  ·rw [over_at _ (by omega) (by omega), ← hc]; exact hv
  ·by_cases h2 : len + 3 ≤ i
   ·rw [over_at _ (by omega) (by omega), ← hc]; exact hv
   ·obtain ⟨q, rfl⟩ : ∃ q, i = len + q := ⟨i - len, by omega⟩
    rw [over_in q r (by omega) (by omega) hr]; exact hm4
 obtain ⟨c0, c1, c2, c3⟩ := h.at4 i hi
 exact ⟨key 0 _ (by omega) c0 rfl, key 1 _ (by omega) c1 rfl, key 2 _ (by omega) c2 rfl, key 3 _ (by omega) c3 rfl⟩
theorem wpList_app_run {P : Program} (w : World) {ops : Array Oper} {rest : List Oper} {o : Oper} {a : Act} {Q : Exit → Act → World → Prop} (hgd : o.guard = none) (s x : Operand) (t u : TypeId)
  (ho : o.op = .call { callee := .builtin .append, args := #[s, x], argTypes := #[t, u] }) {v' : Value} {w' : World} (hr : (Builtin.append_ #[t, u] o.type #[a.eval s, a.eval x]).run P w = .ok v' w') (h : wpList P ops Q rest (a.put o.dst v') w') :
  wpList P ops Q (o :: rest) a w := by
 refine wpList_plain hgd fun K hK => ?_
 unfold Oper.wp execOp
 simp only [ho, resolve, invoke, builtin, Sem.run_bind, Sem.run_pure, Result.andThen_ok, List.map_toArray, List.map_cons, List.map_nil, hr]
 exact hK _ _ h
theorem m12_new (W : World) : ∀ j u, m12[j]? = some u → (W.alloc (.cells #[.int .i64 9, .int .i64 (-77), .string ⟨#[115, 112, 111, 105, 108, 116]⟩, .slice none 0 0, .int .i64 9, .int .i64 (-77), .string ⟨#[115, 112, 111, 105, 108, 116]⟩, .slice none 0 0, .int .i64 9, .int .i64 (-77), .string ⟨#[115, 112, 111, 105, 108, 116]⟩, .slice none 0 0] 24)).cell? ((⟨W.heap.size, 0, none⟩ : Addr).add j) = some u := by
 intro j u hj
 rw [addr_add, Nat.zero_add]
 have hl := (List.getElem?_eq_some_iff.1 hj).1
 have hm : m12.length = 12 := rfl
 rw [hm] at hl
 have : j = 0 ∨ j = 1 ∨ j = 2 ∨ j = 3 ∨ j = 4 ∨ j = 5 ∨ j = 6 ∨ j = 7 ∨ j = 8 ∨ j = 9 ∨ j = 10 ∨ j = 11 := by omega
 rcases this with rfl | rfl | rfl | rfl | rfl | rfl | rfl | rfl | rfl | rfl | rfl | rfl <;> (simp [m12, m4] at hj; subst hj; simp)
theorem m12_one : ∀ u ∈ m12, u.oneCell' = true := by
 intro u hu
 simp [m12, m4] at hu
 rcases hu with rfl | rfl | rfl | rfl | rfl | rfl | rfl | rfl | rfl | rfl | rfl | rfl <;> rfl
structure SpL (w : World) (b cap j : Nat) (W : World) : Prop where
 os : W.os = w.os
 tape : W.tape = w.tape
 output : W.output = w.output
 size : w.heap.size + 1 ≤ W.heap.size
 other : ∀ k, k < w.heap.size → k ≠ b → W.heap[k]? = w.heap[k]?
 box : BoxT W w.heap.size markV
 mks : MkT W b cap j
theorem SpL.next {w W : World} {b cap j : Nat} (h : SpL w b cap j W) (hb : b < w.heap.size) (hj : j < cap) : SpL w b cap (j + 1) (set4 W b (j * 4) markV) :=
 ⟨h.os, h.tape, h.output, by rw [set4_size]; exact h.size, fun k hk hn => (set4_other W b _ _ hn).trans (h.other k hk hn), (set4_other W b _ _ (by omega)).trans h.box, h.mks.next hj⟩
structure Spoilt (w : World) (b cap : Nat) (W : World) : Prop where
 os : W.os = w.os
 tape : W.tape = w.tape
 output : W.output = w.output
 size : w.heap.size ≤ W.heap.size
 other : ∀ k, k < w.heap.size → k ≠ b → W.heap[k]? = w.heap[k]?
 mks : MkT W b cap cap
theorem Tryz.info_term : (Tryz.prog.info? 24).map (fun i => (i.zero, i.size, i.bytes)) = some (some (.agg #[.int .i64 0, .int .i64 0, .string ⟨#[]⟩, .slice none 0 0]), 4, 56) := by kernel_rfl
set_option maxRecDepth 100000 in
set_option maxHeartbeats 1000000 in
theorem spoiltT_row (b len cap : Nat) (w : World) (hr : Row4 w b cap) (hlc : len ≤ cap) (hcap : cap ≤ 100000000 ∨ len + 3 ≤ cap ∧ cap ≤ 9223372036854775807) :
  Calls Tryz.prog 34 #[.slice (some ⟨b, 0, none⟩) len cap, .agg #[.int .i64 9, .int .i64 (-77), .string ⟨#[115, 112, 111, 105, 108, 116]⟩, .slice none 0 0]] w fun e W' => e = .returned (.tuple #[]) ∧ Spoilt w b cap W' := by
 obtain ⟨i0, hi, hz0, hz1, hz2⟩ := info_parts Tryz.info_term
 have hblt := hr.lt
 have hB1 := (Below.refl _ w).alloc (Nat.le_refl _) (.cells #[.int .i64 9, .int .i64 (-77), .string ⟨#[115, 112, 111, 105, 108, 116]⟩, .slice none 0 0] 24)
 have hS : SpL w b cap 0 (w.alloc (.cells #[.int .i64 9, .int .i64 (-77), .string ⟨#[115, 112, 111, 105, 108, 116]⟩, .slice none 0 0] 24)) :=
  ⟨hB1.os, hB1.tape, hB1.output, by simp, fun k hk _ => hB1.block k hk, BoxT.new w markV, ⟨hr.kept (hB1.block b hblt), fun i hi => by omega⟩⟩
 have HS := hide hS
 have HI := hide hi
 have HZ0 := hide hz0
 have HZ1 := hide hz1
 have HZ2 := hide hz2
 clear hS hB1 hr hi hz0 hz1 hz2
 go_enter Tryz.func34, Tryz.ntmps34
 go_wp2_with fail
 go_loopw [12] (fun i wr => ∃ j : Nat, j ≤ cap ∧ i = .int .i64 j ∧ SpL w b cap j wr) (fun i _ => cap - (intOf i).toNat)
 case atStart => exact ⟨0, Nat.zero_le _, rfl, unhide HS⟩
 case round =>
  obtain ⟨j, hj, rfl, hs⟩ := hrel
  have c0 := hs.box.c0
  have c1 := hs.box.c1
  have c2 := hs.box.c2
  have c3 := hs.box.c3
  simp only [markV] at c0 c1 c2 c3
  by_cases hlt : j < cap
  ·have hn := hs.next hblt hlt
   obtain ⟨⟨_, z0⟩, y0⟩ := hs.mks.row.cell (o := j * 4) (by omega)
   obtain ⟨⟨_, z1⟩, y1⟩ := hs.mks.row.cell (o := j * 4 + 1) (by omega)
   obtain ⟨⟨_, z2⟩, y2⟩ := hs.mks.row.cell (o := j * 4 + 2) (by omega)
   obtain ⟨⟨_, z3⟩, y3⟩ := hs.mks.row.cell (o := j * 4 + 3) (by omega)
   have HN := hide hn
   have hj1 : (j : Int) < cap := by omega
   clear hn hs
   go_wp2_with fail
   go_roundw
   case rel => exact ⟨j + 1, by omega, by go_num, unhide HN⟩
   case measure => simp [intOf]; omega
  ·obtain rfl : j = cap := by omega
   have hj1 : ¬ (j : Int) < j := by omega
   have hbA : Below wr.heap.size wr (wr.alloc (.cells #[.int .i64 9, .int .i64 (-77), .string ⟨#[115, 112, 111, 105, 108, 116]⟩, .slice none 0 0, .int .i64 9, .int .i64 (-77), .string ⟨#[115, 112, 111, 105, 108, 116]⟩, .slice none 0 0, .int .i64 9, .int .i64 (-77), .string ⟨#[115, 112, 111, 105, 108, 116]⟩, .slice none 0 0] 24)) := (Below.refl _ wr).alloc (Nat.le_refl _) _
   have hnew := m12_new wr
   generalize hWA : wr.alloc (.cells #[.int .i64 9, .int .i64 (-77), .string ⟨#[115, 112, 111, 105, 108, 116]⟩, .slice none 0 0, .int .i64 9, .int .i64 (-77), .string ⟨#[115, 112, 111, 105, 108, 116]⟩, .slice none 0 0, .int .i64 9, .int .i64 (-77), .string ⟨#[115, 112, 111, 105, 108, 116]⟩, .slice none 0 0] 24) = WA at hbA hnew
   have hmA : MkT WA b j j := hs.mks.keep (hbA.block b hs.mks.row.lt)
   obtain ⟨cur, hg, hz⟩ := hmA.row
   have hfr : ∃ v' W', (Builtin.append_ #[22, 22] 22 #[.slice (some ⟨b, 0, none⟩) len j, .slice (some ⟨wr.heap.size, 0, none⟩) 3 3]).run Tryz.prog WA = .ok v' W' ∧ Spoilt w b j W' := by
    by_cases hroom : len + 3 ≤ j
    ·have hrun := run_append_room (P := Tryz.prog) WA 22 22 24 i0 Tryz.underlying22 (unhide HI) b len j cur hg ⟨wr.heap.size, 0, none⟩ 3 3 m12 (by rw [unhide HZ1]; rfl) hnew m12_one hroom (by rw [unhide HZ1, hz]; have : m12.length = 12 := rfl; omega)
     rw [unhide HZ1] at hrun
     refine ⟨_, _, hrun, hbA.os.trans hs.os, hbA.tape.trans hs.tape, hbA.output.trans hs.output, ?_, fun k hk hn => ?_, hmA.over hg hz hroom⟩
     ·rw [setRow_size]
      have := hbA.size
      have := hs.size
      omega
     ·rw [setRow_other _ _ _ _ hn]
      exact (hbA.block k (by have := hs.size; omega)).trans (hs.other k hk hn)
    ·have hc : ∀ o, WA.cell? ⟨b, o, none⟩ = cur.toList[o]? := fun o => by simp [World.cell?, hg]
     have hrun := run_append_grow (P := Tryz.prog) WA 22 22 24 i0 _ Tryz.underlying22 (unhide HI) (unhide HZ0) ⟨b, 0, none⟩ len j (cur.toList.take (len * 4)) (by rw [unhide HZ1]; simp; omega) (fun q u hq => by
      rw [addr_add, Nat.zero_add, hc]
      rw [List.getElem?_take] at hq
      split at hq
      ·exact hq
      ·cases hq) ⟨wr.heap.size, 0, none⟩ 3 3 m12 (by rw [unhide HZ1]; rfl) hnew (by omega) (by omega) (growslice_fits (by omega) (by rw [unhide HZ2]; omega))
     have hbG := (hbA.drew.alloc (show wr.heap.size ≤ WA.drew.heap.size from hbA.size) (.cells ((cur.toList.take (len * 4)).toArray ++ m12.toArray ++ Builtin.zeroCells (Value.agg #[.int .i64 0, .int .i64 0, .string ⟨#[]⟩, .slice none 0 0]).cells (grownCap WA (len + 3) j 24 - (len + 3))) 24))
     exact ⟨_, _, hrun, hbG.os.trans hs.os, hbG.tape.trans hs.tape, hbG.output.trans hs.output, by have := hbG.size; have := hs.size; omega, fun k hk hn => (hbG.block k (by have := hs.size; omega)).trans (hs.other k hk hn), hs.mks.keep (hbG.block b hs.mks.row.lt)⟩
   obtain ⟨v', W', hrun, hfin⟩ := hfr
   have HR := hide hrun
   have HF := hide hfin
   have HWA := hide hWA
   clear hrun hfin hWA hbA hnew hmA hg hs
   go_wp2_with (at_builtin; go_must (rw [unhide HWA]; refine wpList_app_run _ rfl _ _ 22 22 rfl (unhide HR) ?_))
   exact bodyPost_end (v := .tuple #[]) (by simp [results, Tryz.results34, go_sem]) rfl ⟨rfl, unhide HF⟩
end Go.Proofs.YtlbobmebbllifaaGreat
