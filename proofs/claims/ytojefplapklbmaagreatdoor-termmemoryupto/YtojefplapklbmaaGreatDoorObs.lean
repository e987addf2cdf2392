import Derived.Test.YtojefplapklbmaaGreatDoorXs
import Derived.Test.YtojefplapklbmaaGreatDoorPs
import Derived.Test.YtojefplapklbmaaGreatDoorCp
import Derived.Test.YtojefplapklbmaaGreatDoorNss
import Derived.Maps.RangeWalk
import Derived.Maps.OwnSet
import Derived.Maps.Views
/- A list of binds that can be read as data lies in memory as IsL says, at every number of storeys from its bulk to the limit. -/
namespace Go.Proofs.YtojefplapklbmaaGreatDoor
open Go.RowKit Go.Joins Go.WideShapes

theorem Tryz.cells61 : Tryz.prog.cellsOf 82 = 5 := by kernel_rfl

theorem list5 {α : Type} {l : List α} (h : l.length = 5) : ∃ a b c d e, l = [a, b, c, d, e] := by
  match l, h with
  | [a, b, c, d, e], _ => exact ⟨a, b, c, d, e, rfl⟩
theorem cells5 {w : World} {base : Nat} {a : Addr} {c0 c1 c2 c3 c4 : Value} (h : w.cells? base a 5 = some [c0, c1, c2, c3, c4]) : a.spot = none ∧ w.cell? ⟨a.block, a.off, none⟩ = some c0 ∧ w.cell? ⟨a.block, a.off + 1, none⟩ = some c1 ∧ w.cell? ⟨a.block, a.off + 2, none⟩ = some c2 ∧ w.cell? ⟨a.block, a.off + 3, none⟩ = some c3 ∧ w.cell? ⟨a.block, a.off + 4, none⟩ = some c4 := by
  unfold World.cells? at h
  split at h
  · obtain ⟨b, off, spot⟩ := a
    simp [List.range_succ, List.mapM_cons, Addr.add, Option.bind_eq_some_iff] at h
    obtain ⟨h0, h1, h2, h3, h4⟩ := h
    have hs : spot = none := World.cell?_spot h0
    subst hs
    exact ⟨rfl, h0, h1, h2, h3, h4⟩
  · cases h

/-- A bind that can be read: its five cells. -/
theorem open_bind {H : Type} {enc : TypeId × Value → H} {w : World} {spare : Nat → Bool} {held : Bool} {fuel m : Nat} {cs : List Value} {y : DataW H × List MemPlace}
    (h : DataW.trod enc Tryz.prog w 0 spare held fuel 82 cs = some y) (hm : Rows.uptoBulk y.1 ≤ m) (hlim : m ≤ 2199023255552) : ∃ (V : Int) (t : Tm m), cs = [.int .i64 V, .int .i64 t.tv.k, .int .i64 t.tv.N, .string t.tv.s, .slice t.tv.a t.tv.len t.tv.cap] ∧ IsT w.heap.size w t ∧ ∀ x ∈ parts t, Nw x := by
  obtain ⟨xs, n, rfl, rfl, hl, hxl, hfs⟩ := DataW.trod_struct Tryz.underlying82 h
  rw [Tryz.cells61] at hl
  have hx2 : xs.length = 2 := hxl
  clear hxl
  obtain ⟨v0, v1, v2, v3, v4, rfl⟩ := list5 hl
  have f0 : DataW.trod enc Tryz.prog w 0 spare held n 2 (List.take (Tryz.prog.cellsOf 2) (List.drop 0 [v0, v1, v2, v3, v4])) = xs[0]? := hfs 0 _ rfl
  have f1 : DataW.trod enc Tryz.prog w 0 spare held n 24 (List.take (Tryz.prog.cellsOf 24) (List.drop 1 [v0, v1, v2, v3, v4])) = xs[1]? := hfs 1 _ rfl
  rw [Tryz.cells2] at f0
  rw [Tryz.cells28] at f1
  simp only [List.drop_zero, List.drop_succ_cons, List.take_succ_cons, List.take_zero] at f0 f1
  clear hfs
  obtain ⟨x0, x1, rfl⟩ : ∃ x0 x1, xs = [x0, x1] := by
    match xs, hx2 with
    | [a, b], _ => exact ⟨a, b, rfl⟩
  simp only [List.getElem?_cons_zero, List.getElem?_cons_succ] at f0 f1
  have hbulk : Rows.uptoBulk x1.1 ≤ Rows.uptoBulkAll ([x0, x1].map (·.1)) := bulk_part (by simp)
  have hm' : Rows.uptoBulk x1.1 ≤ m := by
    simp only [Rows.uptoBulk] at hm
    omega
  obtain ⟨V, g0, -, -⟩ := DataW.trod_int Tryz.underlying2 f0
  obtain ⟨t0, g1, hU, hc, hnw⟩ := open_nums n n (Nat.le_refl _) n (Nat.le_refl _) _ _ f1
  have hc' : (parts t0).length ≤ Rows.uptoBulk x1.1 := by simpa [code] using hc
  obtain ⟨t, e1, e2, e3⟩ := lower n t0 hU m (by omega) hlim
  simp only [List.cons.injEq, and_true] at g0
  subst g0
  rw [g1]
  exact ⟨V, t, by rw [e1], e2, by rw [e3]; exact hnw⟩

set_option maxRecDepth 100000 in
/-- An argument that is a list of binds: from its bulk on it is one. -/
theorem open_binds {H : Type} {enc : TypeId × Value → H} {w : World} {r : Reach} {b0 : Nat} {spare : Nat → Bool} {held : Bool} {v : Value} {d : DataW H} {p : List MemPlace} (hv : Value.okWide Tryz.prog w r b0 32 v) (h : DataW.Trod enc Tryz.prog w 0 spare held 32 v d p) :
    ∃ a len cap, v = .slice a len cap ∧ (len = 0 ∨ ∃ es sp, d = .slice es sp ∧ es.length = len) ∧ ∀ m, Rows.uptoBulk d ≤ m → m ≤ 2199023255552 → ∃ bs : List (Int × Tm m), IsL w.heap.size w a len bs ∧ ∀ q ∈ bs, ∀ x ∈ parts q.2, Nw x := by
  obtain ⟨a, len, cap, rfl⟩ := okWide_slice Tryz.underlying32 hv
  obtain ⟨fuel, hf⟩ := h
  refine ⟨a, len, cap, rfl, ?_⟩
  have hf' : DataW.trod enc Tryz.prog w 0 spare held fuel 32 [.slice a len cap] = some (d, p) := by simpa [Value.cells] using hf
  rcases DataW.trod_slice Tryz.underlying32 hf' with ⟨g3, -⟩ | ⟨a', len', cap', elems, rest, n', hn', g3, hd, hb, hlc, hmx, hlen, hel, -, -⟩
  · simp only [List.cons.injEq, and_true, Value.slice.injEq] at g3
    obtain ⟨rfl, rfl, rfl⟩ := g3
    exact ⟨.inl rfl, fun m _ _ => ⟨[], ⟨rfl, by omega, .inl rfl⟩, fun q hq => by cases hq⟩⟩
  · simp only [List.cons.injEq, and_true, Value.slice.injEq] at g3
    obtain ⟨rfl, rfl, rfl⟩ := g3
    have hd1 := (Prod.ext_iff.1 hd).1
    simp only at hd1
    refine ⟨.inr ⟨_, _, hd1, by simpa using hlen⟩, fun m hm hlim => ?_⟩
    have hbig : len ≤ 9223372036854775807 := by unfold maxLen at hmx; omega
    by_cases hl0 : len = 0
    · subst hl0
      exact ⟨[], ⟨rfl, by omega, .inl rfl⟩, fun q hq => by cases hq⟩
    have hel' : ∀ i, i < len → ∃ q : Int × Tm m, w.cells? 0 (a'.add (i * 5)) 5 = some [.int .i64 q.1, .int .i64 q.2.tv.k, .int .i64 q.2.tv.N, .string q.2.tv.s, .slice q.2.tv.a q.2.tv.len q.2.tv.cap] ∧ IsT w.heap.size w q.2 ∧ ∀ x ∈ parts q.2, Nw x := by
      intro i hi
      have h1 := hel i hi
      rw [List.getElem?_eq_getElem (by omega)] at h1
      obtain ⟨cs', h2, h3⟩ := Option.bind_eq_some_iff.1 h1
      have hme : Rows.uptoBulk (elems[i]'(by omega)).1 ≤ Rows.uptoBulkAll (elems.map (·.1)) := bulk_part (List.mem_map.2 ⟨_, List.getElem_mem _, rfl⟩)
      have hmm : Rows.uptoBulk (elems[i]'(by omega)).1 ≤ m := by
        rw [hd1] at hm
        simp only [Rows.uptoBulk] at hm
        omega
      obtain ⟨V, t, hu, hT, hn⟩ := open_bind h3 hmm hlim
      subst hu
      rw [Tryz.cells61] at h2
      exact ⟨(V, t), h2, hT, hn⟩
    clear hel
    obtain ⟨b, off, spot⟩ := a'
    have hspot : spot = none := by
      obtain ⟨u, h2, -⟩ := hel' 0 (by omega)
      obtain ⟨s1, -⟩ := cells5 h2
      simpa [Addr.add] using s1
    subst hspot
    have hkid : ∀ i, i < len → ∃ q : Int × Tm m, b < w.heap.size ∧ w.cell? ⟨b, off + i * 5, none⟩ = some (.int .i64 q.1) ∧ cellsAt w b (off + i * 5 + 1) q.2.tv ∧ IsT w.heap.size w q.2 ∧ ∀ x ∈ parts q.2, Nw x := by
      intro i hi
      obtain ⟨q, h2, hT, hn⟩ := hel' i hi
      rw [add_none] at h2
      obtain ⟨-, k0, k1, k2, k3, k4⟩ := cells5 h2
      exact ⟨q, cell_lt k0, k0, ⟨k1, k2, k3, k4⟩, hT, hn⟩
    obtain ⟨bs, hbl, hbs⟩ := list_of hkid
    obtain ⟨_, hb0, _⟩ := hkid 0 (by omega)
    exact ⟨bs, ⟨hbl.symm, hbig, .inr ⟨b, off, rfl, hb0, fun j q hq => ⟨(hbs j q hq).2.1, (hbs j q hq).2.2.1, (hbs j q hq).2.2.2.1⟩⟩⟩, fun q hq => by
      obtain ⟨j, hj⟩ := List.mem_iff_getElem?.1 hq
      exact (hbs j q hj).2.2.2.2⟩
end Go.Proofs.YtojefplapklbmaaGreatDoor

/- A map of terms that the call made (Met): its keys and the codes of what they stand for; what a world keeps but for the map's block. -/
namespace Go.Proofs.YtojefplapklbmaaGreatDoor
open Go.RowKit Go.Shelf Go.Maps

/-- How a term reads as a map's element: as itself. -/
def termElem (v : Value) : Option (DataW TV × List MemPlace) :=
  match v with
  | .agg cs => match cs.toList with
    | [.int .i64 k, .int .i64 N, .string s, .slice a len cap] => some (.held ⟨k, N, s, a, len, cap⟩, [])
    | _ => none
  | _ => none
theorem termElem_mk (x : TV) : termElem x.val = some (.held x, []) := by simp [termElem, TV.val]
theorem termElem_inv {v : Value} {z : DataW TV × List MemPlace} (h : termElem v = some z) : ∃ x : TV, v = x.val ∧ z = (.held x, []) := by
  unfold termElem at h
  split at h
  · split at h
    · rename_i cs _ k N s a len cap hcs
      simp only [Option.some.injEq] at h
      refine ⟨⟨k, N, s, a, len, cap⟩, ?_, h.symm⟩
      simp only [TV.val, Value.agg.injEq]
      rw [← Array.toList_inj, hcs]
    · cases h
  · cases h
def zeroV : TV := ⟨0, 0, ⟨#[]⟩, none, 0, 0⟩
theorem Tryz.zero28 (w : World) : (zeroValue 24).run Tryz.prog w = .ok zeroV.val w := by kernel_rfl
theorem once_le {β : Type} {c : List (Int × β)} (h : Once c) (hk : ∀ q ∈ c, 0 ≤ q.1 ∧ q.1 ≤ 1099511627776) : c.length ≤ 1099511627777 := by
  have h1 := nodup_le 1099511627777 (c.map fun q => q.1.toNat) (by
    rw [List.Nodup, List.pairwise_map]
    exact List.Pairwise.imp_of_mem (fun {p q} hp hq hne e => hne (by have := hk p hp; have := hk q hq; omega)) h) (fun x hx => by
    obtain ⟨q, hq, rfl⟩ := List.mem_map.1 hx
    have := hk q hq
    omega)
  simpa using h1

/-- A map from variables to terms: keys and codes, in the order of their coming. -/
structure Met (D n₀ : Nat) (W : World) (b : Nat) (c : List (Int × List Nd)) : Prop where
  once : Once c
  key : ∀ q ∈ c, 0 ≤ q.1 ∧ q.1 ≤ 1099511627776
  map : ∃ E : DataW TV, W.ownsMap Tryz.prog 2 termElem b c.length E ∧ (∀ N, Maps.has E (.int .i64 N) = true ↔ ∃ q ∈ c, q.1 = N) ∧ ∀ q ∈ c, ∃ x : TV, (∀ z, E.atKey (.int .i64 q.1) z = .held x) ∧ HoldsS D (· < n₀) W x.val q.2
theorem Met.lt {D n₀ : Nat} {W : World} {b : Nat} {c : List (Int × List Nd)} (h : Met D n₀ W b c) : b < W.heap.size := by
  obtain ⟨E, h1, _⟩ := h.map
  exact h1.lt
theorem Met.made (D n₀ : Nat) (W : World) : Met D n₀ (W.alloc (.map #[] 0)) W.heap.size [] :=
  ⟨List.Pairwise.nil, (fun q hq => by cases hq), .map [], World.ownsMap_made W Tryz.prog 2 termElem, (fun N => by simp [Maps.has]), (fun q hq => by cases hq)⟩

theorem Met.below {D n₀ : Nat} {W W' : World} {b : Nat} {c : List (Int × List Nd)} (h : Met D n₀ W b c) (hb : Below W.heap.size W W') : Met D n₀ W' b c := by
  obtain ⟨E, h1, h2, h3⟩ := h.map
  refine ⟨h.once, h.key, E, h1.kept (row := none) ⟨hb.os, hb.tape, hb.output, hb.size, fun k hk _ => hb.block k hk⟩ (by simp), h2, fun q hq => ?_⟩
  obtain ⟨x, k1, k2⟩ := h3 q hq
  exact ⟨x, k1, k2.below hb⟩
theorem HoldsS.grown {D n₀ : Nat} {A B : World} {b : Nat} {v : Value} {c : List Nd} (h : HoldsS D (· < n₀) A v c) (hg : A.grownBy B (some b)) (hb : n₀ ≤ b) : HoldsS D (· < n₀) B v c :=
  h.fromS (fun k hk hlt => hg.block k hlt (by simp; omega)) hg.size

theorem find_key {β : Type} {c : List (Int × β)} {N : Int} (h : ∃ q ∈ c, q.1 = N) : ∃ q, c.find? (fun q => decide (q.1 = N)) = some q ∧ q ∈ c ∧ q.1 = N := by
  cases hf : c.find? (fun q => decide (q.1 = N)) with
  | none =>
    rw [List.find?_eq_none] at hf
    obtain ⟨q, hq, e⟩ := h
    exact (hf q hq (by simp [e])).elim
  | some q => exact ⟨q, rfl, List.mem_of_find?_eq_some hf, by simpa using List.find?_some hf⟩
theorem find_no {β : Type} {c : List (Int × β)} {N : Int} (h : ¬ ∃ q ∈ c, q.1 = N) : c.find? (fun q => decide (q.1 = N)) = none := by
  rw [List.find?_eq_none]
  intro q hq e
  exact h ⟨q, hq, by simpa using e⟩

/-- What is asked of the map: there. -/
theorem Met.look {D n₀ : Nat} {W : World} {b : Nat} {c : List (Int × List Nd)} (h : Met D n₀ W b c) {N : Int} (h0 : 0 ≤ N) (h1 : N ≤ 1099511627776) (hq : ∃ q ∈ c, q.1 = N) :
    ∃ (x : TV) (q : Int × List Nd), c.find? (fun q => decide (q.1 = N)) = some q ∧ (Instr.lookup 104 (.map (some b)) (.int .i64 N) true).run Tryz.prog W = .ok (.tuple #[x.val, .bool true]) W ∧ HoldsS D (· < n₀) W x.val q.2 := by
  obtain ⟨E, e1, e2, e3⟩ := h.map
  obtain ⟨v, ps, hrun, hv⟩ := e1.look_ok Tryz.keyed2 Tryz.underlying104 (Tryz.zero28 W) (termElem_mk zeroV) (key_i64 h0 h1)
  obtain ⟨q, k1, k2, rfl⟩ := find_key hq
  obtain ⟨x, j1, j2⟩ := e3 q k2
  rw [(e2 q.1).2 hq] at hrun
  obtain ⟨y, rfl, hy⟩ := termElem_inv hv
  rw [j1] at hy
  simp only [Prod.mk.injEq, DataW.held.injEq] at hy
  obtain ⟨rfl, _⟩ := hy
  exact ⟨x, q, k1, hrun, j2⟩
/-- What is asked of the map: not there. -/
theorem Met.miss {D n₀ : Nat} {W : World} {b : Nat} {c : List (Int × List Nd)} (h : Met D n₀ W b c) {N : Int} (h0 : 0 ≤ N) (h1 : N ≤ 1099511627776) (hq : ¬ ∃ q ∈ c, q.1 = N) :
    (Instr.lookup 104 (.map (some b)) (.int .i64 N) true).run Tryz.prog W = .ok (.tuple #[zeroV.val, .bool false]) W := by
  obtain ⟨E, e1, e2, e3⟩ := h.map
  obtain ⟨v, ps, hrun, hv⟩ := e1.look_ok Tryz.keyed2 Tryz.underlying104 (Tryz.zero28 W) (termElem_mk zeroV) (key_i64 h0 h1)
  have hf : Maps.has E (.int .i64 N) = false := by
    cases hh : Maps.has E (.int .i64 N) with
    | false => rfl
    | true => exact (hq ((e2 N).1 hh)).elim
  rw [hf] at hrun
  rw [atKey_of_not_has hf] at hv
  obtain ⟨y, rfl, hy⟩ := termElem_inv hv
  simp only [Prod.mk.injEq, DataW.held.injEq] at hy
  obtain ⟨rfl, _⟩ := hy
  exact hrun
/-- A key that is new. -/
theorem Met.put {D n₀ : Nat} {W : World} {b : Nat} {c : List (Int × List Nd)} (h : Met D n₀ W b c) (hb : n₀ ≤ b) {N : Int} (h0 : 0 ≤ N) (h1 : N ≤ 1099511627776) (hq : ¬ ∃ q ∈ c, q.1 = N) {x : TV} {ct : List Nd} (hx : HoldsS D (· < n₀) W x.val ct) :
    ∃ W', (Instr.mapUpdate 104 (.map (some b)) (.int .i64 N) x.val).run Tryz.prog W = .ok () W' ∧ Met D n₀ W' b (c ++ [(N, ct)]) ∧ W.grownBy W' (some b) := by
  have hle := once_le h.once h.key
  obtain ⟨E, e1, e2, e3⟩ := h.map
  have hm := e1.isMap
  obtain ⟨W', hrun, f1, f2⟩ := e1.update Tryz.keyed2 Tryz.underlying104 (by unfold maxLen; omega) (key_i64 h0 h1) (termElem_mk x)
  have hkl : WideAt.IsKeyLit (.int .i64 N) := Tryz.keyed2.key (key_i64 h0 h1)
  refine ⟨W', hrun, ⟨?_, ?_, _, (by simpa using f1), ?_, ?_⟩, f2⟩
  · unfold Once
    rw [List.pairwise_append]
    refine ⟨h.once, by simp, fun p hp r hr => ?_⟩
    simp at hr; subst hr
    exact fun e => hq ⟨p, hp, e⟩
  · intro q hq'
    rcases List.mem_append.1 hq' with hq' | hq'
    · exact h.key q hq'
    · simp at hq'; subst hq'; exact ⟨h0, h1⟩
  · intro M
    by_cases e : M = N
    · subst e
      rw [has_put_same hm hkl]
      simp
    · rw [has_put_other (by simpa using e), e2 M]
      constructor
      · rintro ⟨q, k1, k2⟩; exact ⟨q, List.mem_append_left _ k1, k2⟩
      · rintro ⟨q, k1, k2⟩
        rcases List.mem_append.1 k1 with k1 | k1
        · exact ⟨q, k1, k2⟩
        · simp at k1; subst k1; exact (e k2.symm).elim
  · intro q hq'
    rcases List.mem_append.1 hq' with hq' | hq'
    · obtain ⟨y, k1, k2⟩ := e3 q hq'
      refine ⟨y, fun z => ?_, k2.grown f2 hb⟩
      rw [atKey_put_other (by simpa using fun e => hq ⟨q, hq', e⟩)]
      exact k1 z
    · simp at hq'; subst hq'
      exact ⟨x, fun z => atKey_put_same hm hkl _ _, hx.grown f2 hb⟩
end Go.Proofs.YtojefplapklbmaaGreatDoor

/- The contract of term.matches: what it answers, and what it puts into the map (matT). -/
namespace Go.Proofs.YtojefplapklbmaaGreatDoor
open Go.RowKit Go.Shelf Go.Maps

def matV (N : Int) (ct : List Nd) (c : List (Int × List Nd)) : Bool × List (Int × List Nd) :=
  match c.find? (fun q => decide (q.1 = N)) with
  | some q => (decide (q.2 = ct), c)
  | none => (true, c ++ [(N, ct)])
def matL {α : Type} (f : α → α → List (Int × List Nd) → Bool × List (Int × List Nd)) : List α → List α → List (Int × List Nd) → Bool × List (Int × List Nd)
  | p :: ps, t :: ts, c => if (f p t c).1 then matL f ps ts (f p t c).2 else (false, (f p t c).2)
  | _, _, c => (true, c)
/-- p is matched with t: whether it can be, and what the variables met stand for. -/
def matT : {n : Nat} → Tm n → Tm n → List (Int × List Nd) → Bool × List (Int × List Nd)
  | 0, _, _, c => (true, c)
  | _ + 1, p, t, c => if p.tv.k = 1 then matV p.tv.N (code t) c else if stop p.tv t.tv then matL matT p.kids t.kids c else (false, c)

theorem matL_stop {α : Type} {f : α → α → List (Int × List Nd) → Bool × List (Int × List Nd)} : ∀ (a b : List α) (j : Nat) (u v : α) (c c1 c2 : List (Int × List Nd)), a[j]? = some u → b[j]? = some v → matL f (a.take j) (b.take j) c = (true, c1) → f u v c1 = (false, c2) → matL f a b c = (false, c2) := by
  intro a
  induction a with
  | nil => intro b j u v c c1 c2 h; simp at h
  | cons x a ih =>
    intro b j u v c c1 c2 hu hv h hf
    cases b with
    | nil => simp at hv
    | cons y b =>
      cases j with
      | zero =>
        simp at hu hv; subst hu; subst hv
        simp [matL] at h; subst h
        simp [matL, hf]
      | succ j =>
        simp only [List.take_succ_cons, matL] at h ⊢
        simp only [List.getElem?_cons_succ] at hu hv
        split at h
        · rename_i h1
          rw [if_pos h1]
          exact ih b j u v _ c1 c2 hu hv h hf
        · simp at h
theorem matL_next {α : Type} {f : α → α → List (Int × List Nd) → Bool × List (Int × List Nd)} : ∀ (a b : List α) (j : Nat) (u v : α) (c c1 c2 : List (Int × List Nd)), a[j]? = some u → b[j]? = some v → matL f (a.take j) (b.take j) c = (true, c1) → f u v c1 = (true, c2) → matL f (a.take (j + 1)) (b.take (j + 1)) c = (true, c2) := by
  intro a
  induction a with
  | nil => intro b j u v c c1 c2 h; simp at h
  | cons x a ih =>
    intro b j u v c c1 c2 hu hv h hf
    cases b with
    | nil => simp at hv
    | cons y b =>
      cases j with
      | zero =>
        simp at hu hv; subst hu; subst hv
        simp [matL] at h; subst h
        simp [matL, hf]
      | succ j =>
        simp only [List.take_succ_cons, matL] at h ⊢
        simp only [List.getElem?_cons_succ] at hu hv
        split at h
        · rename_i h1
          rw [if_pos h1]
          have := ih b j u v _ c1 c2 hu hv h hf
          simpa using this
        · simp at h
theorem IsT.lim {n₀ : Nat} {W : World} : ∀ {n : Nat} {t : Tm n}, IsT n₀ W t → n ≤ 2199023255552
  | 0, t, _ => Empty.elim t
  | _ + 1, _, h => h.2.1.2.2

theorem two_new (w : World) (x y : TV) : ∃ W2, (w.alloc (.cells #[.int .i64 x.k, .int .i64 x.N, .string x.s, .slice x.a x.len x.cap] 24)).alloc (.cells #[.int .i64 y.k, .int .i64 y.N, .string y.s, .slice y.a y.len y.cap] 24) = W2 ∧ Below w.heap.size w W2 ∧ BoxT W2 w.heap.size x ∧ BoxT W2 (w.heap.size + 1) y ∧ W2.heap.size = w.heap.size + 2 := by
  refine ⟨_, rfl, ((Below.refl _ w).alloc (Nat.le_refl _) _).alloc (by simp) _, (BoxT.new w x).alloc _, ?_, by simp⟩
  have := BoxT.new (w.alloc (.cells #[.int .i64 x.k, .int .i64 x.N, .string x.s, .slice x.a x.len x.cap] 24)) y
  rw [World.size_alloc] at this
  exact this

set_option maxRecDepth 100000 in
set_option maxHeartbeats 1000000 in
/-- A variable that was met. -/
theorem matches_old {D n₀ : Nat} {n : Nat} (hDl : D ≤ 2199023255552) (N : Int) (s : ByteArray) (a : Option Addr) (len cap : Nat) (t : Tm n) (W : World) (b : Nat) (c : List (Int × List Nd)) (q : Int × List Nd) (hD : n ≤ D) (hm : Met D n₀ W b c) (hT : IsT n₀ W t) (hn : n₀ ≤ W.heap.size) (h0 : 0 ≤ N) (h1 : N ≤ 1099511627776)
    (hq : ∃ q ∈ c, q.1 = N) (hf : c.find? (fun q => decide (q.1 = N)) = some q) :
    Calls Tryz.prog 70 #[.agg #[.int .i64 1, .int .i64 N, .string s, .slice a len cap], t.tv.val, .map (some b)] W fun e W' => e = .returned (.bool (decide (q.2 = code t))) ∧ Below W.heap.size W W' := by
  obtain ⟨W2, hW2, hB2, hbp, hbt, hs2⟩ := two_new W ⟨1, N, s, a, len, cap⟩ t.tv
  have hm2 := hm.below hB2
  obtain ⟨x, q', hf', hrun, hx⟩ := hm2.look h0 h1 hq
  rw [hf] at hf'
  obtain rfl : q = q' := by simpa using hf'
  obtain ⟨u, hu, huT, huS, huc⟩ := hx _ (Nat.le_refl _) hDl
  have ht2 : IsT W2.heap.size W2 t := (hT.below (hB2.mono hn)).mono (by omega)
  obtain ⟨v, hv, hvT, hvS, hvc⟩ := holdsS_of (S := fun _ => True) ht2 (ht2.blk.mono fun _ _ => trivial) D hD hDl
  have hxu := TV.val_inj hu
  subst hxu
  have hB3 : Below W2.heap.size W2 (W2.alloc (.cells #[.int .i64 u.tv.k, .int .i64 u.tv.N, .string u.tv.s, .slice u.tv.a u.tv.len u.tv.cap] 24)) := (Below.refl _ W2).alloc (Nat.le_refl _) _
  have hord := order_any D u v _ ((huT.below hB3).mono hB3.size) ((hvT.below hB3).mono hB3.size)
  rw [← hv] at hord
  have hres : decide (ordT u v = 0) = decide (q.2 = code t) := by
    rw [decide_eq_decide, ord_zero, sameT_code huT.wl hvT.wl, decide_eq_true_eq, huc, hvc]
  have hbt3 : BoxT (W2.alloc (.cells #[.int .i64 u.tv.k, .int .i64 u.tv.N, .string u.tv.s, .slice u.tv.a u.tv.len u.tv.cap] 24)) (W.heap.size + 1) t.tv := (hB3.block _ hbt.lt).trans hbt
  rw [← hres]
  have p0 := hbp.c0
  have p1 := hbp.c1
  have y0 := hbt3.c0
  have y1 := hbt3.c1
  have y2 := hbt3.c2
  have y3 := hbt3.c3
  simp only at p0 p1
  clear hm hm2 hT hq hf hf' hx huT huS huc ht2 hvT hvS hvc hv hres hbt hbp hbt3 hu h0 h1
  have HB2 := hide hB2
  have HB3 := hide hB3
  clear hB2 hB3
  simp only [TV.val] at hrun hord ⊢
  go_enter Tryz.func70, Tryz.ntmps70
  go_wp2_with fail
  refine hord.mono ?_
  rintro e W4 ⟨rfl, hb4⟩
  clear hord
  have hbf : Below W.heap.size W W4 := (unhide HB2).trans (((unhide HB3).trans (hb4.mono (unhide HB3).size)).mono (unhide HB2).size)
  have HBF := hide hbf
  clear hbf hb4
  go_wp2_with fail
  go_ret
  exact ⟨by congr 2, unhide HBF⟩

set_option maxRecDepth 100000 in
set_option maxHeartbeats 1000000 in
/-- A variable that is new. -/
theorem matches_new {D n₀ : Nat} {n : Nat} (N : Int) (s : ByteArray) (a : Option Addr) (len cap : Nat) (t : Tm n) (W : World) (b : Nat) (c : List (Int × List Nd)) (hD : n ≤ D) (hm : Met D n₀ W b c) (hT : IsT n₀ W t) (hnb : n₀ ≤ b) (h0 : 0 ≤ N) (h1 : N ≤ 1099511627776)
    (hq : ¬ ∃ q ∈ c, q.1 = N) :
    Calls Tryz.prog 70 #[.agg #[.int .i64 1, .int .i64 N, .string s, .slice a len cap], t.tv.val, .map (some b)] W fun e W' => e = .returned (.bool true) ∧ W.grownBy W' (some b) ∧ Met D n₀ W' b (c ++ [(N, code t)]) := by
  have hn : n₀ ≤ W.heap.size := by have := hm.lt; omega
  obtain ⟨W2, hW2, hB2, hbp, hbt, hs2⟩ := two_new W ⟨1, N, s, a, len, cap⟩ t.tv
  have hm2 := hm.below hB2
  have hrun := hm2.miss h0 h1 hq
  have hB3 : Below W2.heap.size W2 (W2.alloc (.cells #[.int .i64 zeroV.k, .int .i64 zeroV.N, .string zeroV.s, .slice zeroV.a zeroV.len zeroV.cap] 24)) := (Below.refl _ W2).alloc (Nat.le_refl _) _
  have hBa := hB2.trans (hB3.mono hB2.size)
  have ht3 := ((hT.below (hBa.mono hn)).mono (Nat.le_trans hn hBa.size))
  have htS : BlkT (· < n₀) t := hT.blk
  have hx := (holdsS_of ht3 htS).mono hD (fun _ h => h)
  obtain ⟨W4, hup, hm4, hg4⟩ := (hm2.below hB3).put hnb h0 h1 hq hx
  have hbt3 : BoxT (W2.alloc (.cells #[.int .i64 zeroV.k, .int .i64 zeroV.N, .string zeroV.s, .slice zeroV.a zeroV.len zeroV.cap] 24)) (W.heap.size + 1) t.tv := (hB3.block _ hbt.lt).trans hbt
  have hbp3 : BoxT (W2.alloc (.cells #[.int .i64 zeroV.k, .int .i64 zeroV.N, .string zeroV.s, .slice zeroV.a zeroV.len zeroV.cap] 24)) W.heap.size ⟨1, N, s, a, len, cap⟩ := (hB3.block _ hbp.lt).trans hbp
  have hgf : W.grownBy W4 (some b) := grown_trans (below_grown b hBa) (hg4)
  have p0 := hbp.c0
  have p1 := hbp.c1
  have p3 := hbp3.c1
  have y0 := hbt3.c0
  have y1 := hbt3.c1
  have y2 := hbt3.c2
  have y3 := hbt3.c3
  have HF := hide (And.intro hgf hm4)
  simp only [zeroV] at p0 p1 p3 y0 y1 y2 y3 hrun hup
  clear hm hm2 hT hq ht3 htS hx hm4 hg4 hgf hBa hB2 hB3 hbt hbp hbt3 hbp3 h0 h1
  simp only [TV.val] at hrun hup ⊢
  go_enter Tryz.func70, Tryz.ntmps70
  go_wp2_with fail
  go_ret
  exact ⟨rfl, unhide HF⟩

theorem wm_var {N : Int} {s : ByteArray} {len : Nat} (h : wmB 1 N s len = true) : 0 ≤ N ∧ N ≤ 1099511627776 := by
  simp [wmB] at h
  omega

set_option maxRecDepth 100000 in
set_option maxHeartbeats 1000000 in
theorem matches_any {D n₀ : Nat} (hDl : D ≤ 2199023255552) : ∀ (n : Nat) (p t : Tm n) (w : World) (b : Nat) (c : List (Int × List Nd)), n ≤ D → Met D n₀ w b c → IsT n₀ w p → IsT n₀ w t → n₀ ≤ b → okT p = true →
    Calls Tryz.prog 70 #[p.tv.val, t.tv.val, .map (some b)] w fun e W' => e = .returned (.bool (matT p t c).1) ∧ w.grownBy W' (some b) ∧ Met D n₀ W' b (matT p t c).2 := by
  intro n
  induction n with
  | zero => intro p; exact Empty.elim p
  | succ n ih =>
    intro p t w b c hD hm hp ht hnb hok
    have hn : n₀ ≤ w.heap.size := by have := hm.lt; omega
    by_cases hk : p.tv.k = 1
    · have hmt : matT p t c = matV p.tv.N (code t) c := by
        obtain ⟨x, kids⟩ := p
        simp only [matT]; rw [if_pos hk]
      rw [hmt]
      obtain ⟨⟨k, N, s, a, len, cap⟩, kids⟩ := p
      simp only [Tm.tv] at hk
      subst hk
      obtain ⟨hwm, _⟩ := ok_kids hok
      obtain ⟨h0, h1⟩ := wm_var hwm
      simp only [Tm.tv, TV.val]
      unfold matV
      by_cases hq : ∃ q ∈ c, q.1 = N
      · obtain ⟨q, hf, _, _⟩ := find_key hq
        rw [hf]
        refine (matches_old hDl N s a len cap t w b c q hD hm ht hn h0 h1 hq hf).mono fun e W' h => ?_
        exact ⟨h.1, below_grown b h.2, hm.below h.2⟩
      · rw [find_no hq]
        exact matches_new N s a len cap t w b c hD hm ht hnb h0 h1 hq
    · obtain ⟨R, hR⟩ : ∃ R, matT p t c = R := ⟨_, rfl⟩
      have hR1 : stop p.tv t.tv = true → R = matL matT p.kids t.kids c := fun h => by
        rw [← hR]
        obtain ⟨x, kids⟩ := p
        simp only [matT]; rw [if_neg hk, if_pos h]
      have hR0 : ¬ stop p.tv t.tv = true → R = (false, c) := fun h => by
        rw [← hR]
        obtain ⟨x, kids⟩ := p
        simp only [matT]; rw [if_neg hk, if_neg h]
      rw [hR]
      clear hR
      obtain ⟨⟨k, kN, s, a, len, cap⟩, kids⟩ := p
      obtain ⟨⟨k', kN', s', a', len', cap'⟩, kids'⟩ := t
      obtain ⟨-, hkok⟩ := ok_kids hok
      obtain ⟨hlen, hmax, hsm, hkids⟩ := hp
      obtain ⟨hlen', hmax', hsm', hkids'⟩ := ht
      simp only [Tm.tv, Tm.kids] at hk hlen hmax hsm hkids hlen' hmax' hsm' hkids' hR1 hR0
      have HI := hide ih
      have HKO := hide hkok
      clear ih hok hkok
      have hk1 : (k == 1) = false := by rw [beq_eq_false_iff_ne]; exact hk
      have htop : Calls Tryz.prog 91 #[.agg #[.int .i64 k, .int .i64 kN, .string s, .slice a len cap], .agg #[.int .i64 k', .int .i64 kN', .string s', .slice a' len' cap']] ((w.alloc (.cells #[.int .i64 k, .int .i64 kN, .string s, .slice a len cap] 24)).alloc (.cells #[.int .i64 k', .int .i64 kN', .string s', .slice a' len' cap'] 24))
          fun e W1 => e = .returned (.int .i64 (otop ⟨k, kN, s, a, len, cap⟩ ⟨k', kN', s', a', len', cap'⟩)) ∧ (Below w.heap.size w W1 ∧ w.heap.size + 2 ≤ W1.heap.size) ∧ W1.cell? ⟨w.heap.size, 3, none⟩ = some (.slice a len cap) ∧ W1.cell? ⟨w.heap.size + 1, 3, none⟩ = some (.slice a' len' cap') :=
        (otop_any ⟨k, kN, s, a, len, cap⟩ ⟨k', kN', s', a', len', cap'⟩ _).mono fun e W1 h =>
          ⟨h.1, two_boxes h.2⟩
      simp only [TV.val, Tm.tv]
      have hz := @otop_zero ⟨k, kN, s, a, len, cap⟩ ⟨k', kN', s', a', len', cap'⟩
      have hll : otop ⟨k, kN, s, a, len, cap⟩ ⟨k', kN', s', a', len', cap'⟩ = 0 → len = len' := by
        intro h
        have := hz.1 h
        simp [stop] at this
        omega
      have hblt := hm.lt
      generalize otop ⟨k, kN, s, a, len, cap⟩ ⟨k', kN', s', a', len', cap'⟩ = o at *
      by_cases ho : o = 0
      · obtain rfl := hR1 (hz.1 ho)
        clear hR1 hR0
        have hlq := hll ho
        have hl1 : len ≤ kids.length := by omega
        have hl2 : kids.length ≤ len := by omega
        have hl3 : len ≤ kids'.length := by omega
        have hl4 : kids'.length ≤ len := by omega
        have hl5 : (len : Int) ≤ len' := by omega
        clear hll hlq hlen hlen' hz hk
        have ho' : (o != 0) = false := by simp [ho]
        clear ho
        have HM := hide hm
        clear hm
        go_enter Tryz.func70, Tryz.ntmps70
        go_wp2_with (go_at_call 91; refine htop.mono ?_; clear htop; rintro e W1 ⟨rfl, ⟨hb1, hzz⟩, hcc, hcd⟩)
        go_loopw [36] (fun i wr => ∃ (j : Nat) (cj : List (Int × List Nd)), j ≤ len ∧ i = .int .i64 j ∧ W1.grownBy wr (some b) ∧ Met D n₀ wr b cj ∧ matL matT (kids.take j) (kids'.take j) c = (true, cj)) (fun i _ => len - (intOf i).toNat)
        case atStart => exact ⟨0, c, Nat.zero_le _, rfl, ⟨rfl, rfl, rfl, Nat.le_refl _, fun _ _ _ => rfl⟩, (unhide HM).below hb1, by simp [matL]⟩
        case round =>
          obtain ⟨j, cj, hj, rfl, hg, hmj, hml⟩ := hrel
          have hgw : w.grownBy wr (some b) := grown_trans (below_grown b hb1) hg
          have hbw : Below n₀ w wr := grown_below hgw hnb hn
          have HMJ := hide hmj
          have HML := hide hml
          clear hmj hml
          by_cases hlt : j < len
          · obtain ⟨u, bk, off, hu, rfl, ⟨c0, c1, c2, c3⟩, hT, hbk⟩ := kid_below hkids hbw hlt hl1
            obtain ⟨v, bk', off', hv, rfl, ⟨d0, d1, d2, d3⟩, hT', hbk'⟩ := kid_below hkids' hbw hlt hl3
            have hne1 : w.heap.size ≠ b := by omega
            have hne2 : w.heap.size + 1 ≠ b := by omega
            have hne3 : bk ≠ b := by omega
            have hne4 : bk' ≠ b := by omega
            replace hcc := (gcell hg w.heap.size 3 (by omega) hne1).trans hcc
            replace hcd := (gcell hg (w.heap.size + 1) 3 (by omega) hne2).trans hcd
            have hj1 : (j : Int) < len := by omega
            have hj2 : (j : Int) < len' := by omega
            have hdr : Below wr.heap.size wr wr.drew := (Below.refl _ wr).drew
            have hsz : n₀ ≤ wr.heap.size := by have := hgw.size; omega
            have ihu : Calls Tryz.prog 70 #[.agg #[.int .i64 u.tv.k, .int .i64 u.tv.N, .string u.tv.s, .slice u.tv.a u.tv.len u.tv.cap], .agg #[.int .i64 v.tv.k, .int .i64 v.tv.N, .string v.tv.s, .slice v.tv.a v.tv.len v.tv.cap], .map (some b)] wr.drew fun e W2 => e = .returned (.bool (matT u v cj).1) ∧ wr.grownBy W2 (some b) ∧ Met D n₀ W2 b (matT u v cj).2 :=
              ((unhide HI) u v wr.drew b cj (by omega) ((unhide HMJ).below hdr) (hT.below (hdr.mono hsz)) (hT'.below (hdr.mono hsz)) hnb ((unhide HKO) u (List.mem_of_getElem? hu))).mono fun e W2 h => ⟨h.1, grown_trans (below_grown b hdr) h.2.1, h.2.2⟩
            have hy1 : w.heap.size < wr.heap.size := by have := hg.size; omega
            have hy2 : w.heap.size + 1 < wr.heap.size := by have := hg.size; omega
            have hy3 : bk < wr.heap.size := by omega
            have hy4 : bk' < wr.heap.size := by omega
            obtain ⟨⟨r, c2'⟩, hr⟩ : ∃ m, matT u v cj = m := ⟨_, rfl⟩
            rw [hr] at ihu
            simp only at ihu
            cases r with
            | true =>
              have hnext := matL_next kids kids' j u v c cj c2' hu hv (unhide HML) hr
              have HN := hide hnext
              clear hkids hkids' hT hT' hu hv hnext hr hdr
              go_wp2_with fail
              go_region_held3 (fun w' => w'.cell? ⟨w.heap.size, 3, none⟩ = some (.slice (some ⟨bk, off, none⟩) len cap) ∧ w'.cell? ⟨w.heap.size + 1, 3, none⟩ = some (.slice (some ⟨bk', off', none⟩) len' cap')
                ∧ w'.cell? ⟨bk, off + j * 4, none⟩ = some (.int .i64 u.tv.k) ∧ w'.cell? ⟨bk, off + j * 4 + 1, none⟩ = some (.int .i64 u.tv.N) ∧ w'.cell? ⟨bk, off + j * 4 + 2, none⟩ = some (.string u.tv.s) ∧ w'.cell? ⟨bk, off + j * 4 + 3, none⟩ = some (.slice u.tv.a u.tv.len u.tv.cap)
                ∧ w'.cell? ⟨bk', off' + j * 4, none⟩ = some (.int .i64 v.tv.k) ∧ w'.cell? ⟨bk', off' + j * 4 + 1, none⟩ = some (.int .i64 v.tv.N) ∧ w'.cell? ⟨bk', off' + j * 4 + 2, none⟩ = some (.string v.tv.s) ∧ w'.cell? ⟨bk', off' + j * 4 + 3, none⟩ = some (.slice v.tv.a v.tv.len v.tv.cap)) (go_keep)
                (first | (go_at_call 70; refine ihu.mono ?_; clear ihu; rintro e W2 ⟨rfl, hg2, hm2⟩; have hbc := gcell hg2))
              have HM2 := hide hm2
              clear hm2 hbc
              go_wp2_with fail
              go_roundw
              case rel => exact ⟨j + 1, c2', by omega, by go_num, grown_trans hg hg2, unhide HM2, unhide HN⟩
              case measure => simp [intOf]; omega
            | false =>
              have hstop := matL_stop kids kids' j u v c cj c2' hu hv (unhide HML) hr
              have HST := hide hstop
              clear hkids hkids' hT hT' hu hv hstop hr hdr
              go_wp2_with fail
              go_region_held3 (fun w' => w'.cell? ⟨w.heap.size, 3, none⟩ = some (.slice (some ⟨bk, off, none⟩) len cap) ∧ w'.cell? ⟨w.heap.size + 1, 3, none⟩ = some (.slice (some ⟨bk', off', none⟩) len' cap')
                ∧ w'.cell? ⟨bk, off + j * 4, none⟩ = some (.int .i64 u.tv.k) ∧ w'.cell? ⟨bk, off + j * 4 + 1, none⟩ = some (.int .i64 u.tv.N) ∧ w'.cell? ⟨bk, off + j * 4 + 2, none⟩ = some (.string u.tv.s) ∧ w'.cell? ⟨bk, off + j * 4 + 3, none⟩ = some (.slice u.tv.a u.tv.len u.tv.cap)
                ∧ w'.cell? ⟨bk', off' + j * 4, none⟩ = some (.int .i64 v.tv.k) ∧ w'.cell? ⟨bk', off' + j * 4 + 1, none⟩ = some (.int .i64 v.tv.N) ∧ w'.cell? ⟨bk', off' + j * 4 + 2, none⟩ = some (.string v.tv.s) ∧ w'.cell? ⟨bk', off' + j * 4 + 3, none⟩ = some (.slice v.tv.a v.tv.len v.tv.cap)) (go_keep)
                (first | (go_at_call 70; refine ihu.mono ?_; clear ihu; rintro e W2 ⟨rfl, hg2, hm2⟩; have hbc := gcell hg2))
              have HM2 := hide hm2
              clear hm2 hbc
              go_wp2_with fail
              go_ret
              rw [unhide HST]
              exact ⟨rfl, grown_trans hgw hg2, unhide HM2⟩
          · have ht : kids.take j = kids := List.take_of_length_le (by omega)
            have ht' : kids'.take j = kids' := List.take_of_length_le (by omega)
            have hml := unhide HML
            rw [ht, ht'] at hml
            have HST := hide hml
            clear ht ht' hml hkids hkids'
            go_wp2_with fail
            go_ret
            rw [unhide HST]
            exact ⟨rfl, hgw, unhide HMJ⟩
      · have ho' : (o != 0) = true := by simp [ho]
        obtain rfl := hR0 (fun h => ho (hz.2 h))
        clear hR1 hR0
        have HM := hide hm
        clear hkids hkids' ho hlen hlen' hll hz hm hk
        go_enter Tryz.func70, Tryz.ntmps70
        go_wp2_with (go_at_call 91; refine htop.mono ?_; clear htop; rintro e W1 ⟨rfl, ⟨hb1, _⟩, _⟩)
        go_ret
        exact ⟨rfl, below_grown b hb1, (unhide HM).below hb1⟩
end Go.Proofs.YtojefplapklbmaaGreatDoor

