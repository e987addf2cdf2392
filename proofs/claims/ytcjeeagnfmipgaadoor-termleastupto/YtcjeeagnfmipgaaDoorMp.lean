import Derived.Test.YtcjeeagnfmipgaaDoorCms
import Derived.Test.YtcjeeagnfmipgaaDoorMn
import Derived.Maps.RangeWalk
import Derived.Maps.OwnSet
import Derived.Maps.Views
/- A map of terms that the call made (Met): its keys and the codes of what they stand for; what a world keeps but for the map's block. -/
namespace Go.Proofs.YtcjeeagnfmipgaaDoor
open Go.RowKit Go.Shelf Go.Maps

/-- How a term reads as a map's element: as itself. -/
def termElem (v : Value) : Option (DataW TV × List MemPlace) :=
  match v with
  | .agg cs => match cs.toList with
    | [.int .i64 k, .int .i64 N, .string s, .slice a len cap] => some (.held ⟨k, N, s, a, len, cap⟩, [])
    | _ => none
  | _ => none
theorem termElem_mk (x : TV) : termElem x.val = some (.held x, []) := by simp [termElem, TV.val]
theorem termElem_inv {v : Value} {z : DataW TV × List MemPlace} (h : termElem v = some z) : ∃ x : TV, v = x.val ∧ z = (.held x, []) := by
  unfold termElem at h
  split at h
  · split at h
    · rename_i cs _ k N s a len cap hcs
      simp only [Option.some.injEq] at h
      refine ⟨⟨k, N, s, a, len, cap⟩, ?_, h.symm⟩
      simp only [TV.val, Value.agg.injEq]
      rw [← Array.toList_inj, hcs]
    · cases h
  · cases h
def zeroV : TV := ⟨0, 0, ⟨#[]⟩, none, 0, 0⟩
theorem Tryd.zero28 (w : World) : (zeroValue 24).run Tryd.prog w = .ok zeroV.val w := by kernel_rfl
theorem once_le {β : Type} {c : List (Int × β)} (h : Once c) (hk : ∀ q ∈ c, 0 ≤ q.1 ∧ q.1 ≤ 1099511627776) : c.length ≤ 1099511627777 := by
  have h1 := nodup_le 1099511627777 (c.map fun q => q.1.toNat) (by
    rw [List.Nodup, List.pairwise_map]
    exact List.Pairwise.imp_of_mem (fun {p q} hp hq hne e => hne (by have := hk p hp; have := hk q hq; omega)) h) (fun x hx => by
    obtain ⟨q, hq, rfl⟩ := List.mem_map.1 hx
    have := hk q hq
    omega)
  simpa using h1

/-- A map from variables to terms: keys and codes, in the order of their coming. -/
structure Met (D n₀ : Nat) (W : World) (b : Nat) (c : List (Int × List Nd)) : Prop where
  once : Once c
  key : ∀ q ∈ c, 0 ≤ q.1 ∧ q.1 ≤ 1099511627776
  map : ∃ E : DataW TV, W.ownsMap Tryd.prog 2 termElem b c.length E ∧ (∀ N, Maps.has E (.int .i64 N) = true ↔ ∃ q ∈ c, q.1 = N) ∧ ∀ q ∈ c, ∃ x : TV, (∀ z, E.atKey (.int .i64 q.1) z = .held x) ∧ HoldsS D (· < n₀) W x.val q.2
theorem Met.lt {D n₀ : Nat} {W : World} {b : Nat} {c : List (Int × List Nd)} (h : Met D n₀ W b c) : b < W.heap.size := by
  obtain ⟨E, h1, _⟩ := h.map
  exact h1.lt
theorem Met.made (D n₀ : Nat) (W : World) : Met D n₀ (W.alloc (.map #[] 0)) W.heap.size [] :=
  ⟨List.Pairwise.nil, (fun q hq => by cases hq), .map [], World.ownsMap_made W Tryd.prog 2 termElem, (fun N => by simp [Maps.has]), (fun q hq => by cases hq)⟩

theorem Met.below {D n₀ : Nat} {W W' : World} {b : Nat} {c : List (Int × List Nd)} (h : Met D n₀ W b c) (hb : Below W.heap.size W W') : Met D n₀ W' b c := by
  obtain ⟨E, h1, h2, h3⟩ := h.map
  refine ⟨h.once, h.key, E, h1.kept (row := none) ⟨hb.os, hb.tape, hb.output, hb.size, fun k hk _ => hb.block k hk⟩ (by simp), h2, fun q hq => ?_⟩
  obtain ⟨x, k1, k2⟩ := h3 q hq
  exact ⟨x, k1, k2.below hb⟩
theorem HoldsS.grown {D n₀ : Nat} {A B : World} {b : Nat} {v : Value} {c : List Nd} (h : HoldsS D (· < n₀) A v c) (hg : A.grownBy B (some b)) (hb : n₀ ≤ b) : HoldsS D (· < n₀) B v c :=
  h.fromS (fun k hk hlt => hg.block k hlt (by simp; omega)) hg.size

theorem find_key {β : Type} {c : List (Int × β)} {N : Int} (h : ∃ q ∈ c, q.1 = N) : ∃ q, c.find? (fun q => decide (q.1 = N)) = some q ∧ q ∈ c ∧ q.1 = N := by
  cases hf : c.find? (fun q => decide (q.1 = N)) with
  | none =>
    rw [List.find?_eq_none] at hf
    obtain ⟨q, hq, e⟩ := h
    exact (hf q hq (by simp [e])).elim
  | some q => exact ⟨q, rfl, List.mem_of_find?_eq_some hf, by simpa using List.find?_some hf⟩
theorem find_no {β : Type} {c : List (Int × β)} {N : Int} (h : ¬ ∃ q ∈ c, q.1 = N) : c.find? (fun q => decide (q.1 = N)) = none := by
  rw [List.find?_eq_none]
  intro q hq e
  exact h ⟨q, hq, by simpa using e⟩

/-- What is asked of the map: there. -/
theorem Met.look {D n₀ : Nat} {W : World} {b : Nat} {c : List (Int × List Nd)} (h : Met D n₀ W b c) {N : Int} (h0 : 0 ≤ N) (h1 : N ≤ 1099511627776) (hq : ∃ q ∈ c, q.1 = N) :
    ∃ (x : TV) (q : Int × List Nd), c.find? (fun q => decide (q.1 = N)) = some q ∧ (Instr.lookup 43 (.map (some b)) (.int .i64 N) true).run Tryd.prog W = .ok (.tuple #[x.val, .bool true]) W ∧ HoldsS D (· < n₀) W x.val q.2 := by
  obtain ⟨E, e1, e2, e3⟩ := h.map
  obtain ⟨v, ps, hrun, hv⟩ := e1.look_ok Tryd.keyed2 Tryd.underlying43 (Tryd.zero28 W) (termElem_mk zeroV) (key_i64 h0 h1)
  obtain ⟨q, k1, k2, rfl⟩ := find_key hq
  obtain ⟨x, j1, j2⟩ := e3 q k2
  rw [(e2 q.1).2 hq] at hrun
  obtain ⟨y, rfl, hy⟩ := termElem_inv hv
  rw [j1] at hy
  simp only [Prod.mk.injEq, DataW.held.injEq] at hy
  obtain ⟨rfl, _⟩ := hy
  exact ⟨x, q, k1, hrun, j2⟩
/-- What is asked of the map: not there. -/
theorem Met.miss {D n₀ : Nat} {W : World} {b : Nat} {c : List (Int × List Nd)} (h : Met D n₀ W b c) {N : Int} (h0 : 0 ≤ N) (h1 : N ≤ 1099511627776) (hq : ¬ ∃ q ∈ c, q.1 = N) :
    (Instr.lookup 43 (.map (some b)) (.int .i64 N) true).run Tryd.prog W = .ok (.tuple #[zeroV.val, .bool false]) W := by
  obtain ⟨E, e1, e2, e3⟩ := h.map
  obtain ⟨v, ps, hrun, hv⟩ := e1.look_ok Tryd.keyed2 Tryd.underlying43 (Tryd.zero28 W) (termElem_mk zeroV) (key_i64 h0 h1)
  have hf : Maps.has E (.int .i64 N) = false := by
    cases hh : Maps.has E (.int .i64 N) with
    | false => rfl
    | true => exact (hq ((e2 N).1 hh)).elim
  rw [hf] at hrun
  rw [atKey_of_not_has hf] at hv
  obtain ⟨y, rfl, hy⟩ := termElem_inv hv
  simp only [Prod.mk.injEq, DataW.held.injEq] at hy
  obtain ⟨rfl, _⟩ := hy
  exact hrun
/-- A key that is new. -/
theorem Met.put {D n₀ : Nat} {W : World} {b : Nat} {c : List (Int × List Nd)} (h : Met D n₀ W b c) (hb : n₀ ≤ b) {N : Int} (h0 : 0 ≤ N) (h1 : N ≤ 1099511627776) (hq : ¬ ∃ q ∈ c, q.1 = N) {x : TV} {ct : List Nd} (hx : HoldsS D (· < n₀) W x.val ct) :
    ∃ W', (Instr.mapUpdate 43 (.map (some b)) (.int .i64 N) x.val).run Tryd.prog W = .ok () W' ∧ Met D n₀ W' b (c ++ [(N, ct)]) ∧ W.grownBy W' (some b) := by
  have hle := once_le h.once h.key
  obtain ⟨E, e1, e2, e3⟩ := h.map
  have hm := e1.isMap
  obtain ⟨W', hrun, f1, f2⟩ := e1.update Tryd.keyed2 Tryd.underlying43 (by unfold maxLen; omega) (key_i64 h0 h1) (termElem_mk x)
  have hkl : WideAt.IsKeyLit (.int .i64 N) := Tryd.keyed2.key (key_i64 h0 h1)
  refine ⟨W', hrun, ⟨?_, ?_, _, (by simpa using f1), ?_, ?_⟩, f2⟩
  · unfold Once
    rw [List.pairwise_append]
    refine ⟨h.once, by simp, fun p hp r hr => ?_⟩
    simp at hr; subst hr
    exact fun e => hq ⟨p, hp, e⟩
  · intro q hq'
    rcases List.mem_append.1 hq' with hq' | hq'
    · exact h.key q hq'
    · simp at hq'; subst hq'; exact ⟨h0, h1⟩
  · intro M
    by_cases e : M = N
    · subst e
      rw [has_put_same hm hkl]
      simp
    · rw [has_put_other (by simpa using e), e2 M]
      constructor
      · rintro ⟨q, k1, k2⟩; exact ⟨q, List.mem_append_left _ k1, k2⟩
      · rintro ⟨q, k1, k2⟩
        rcases List.mem_append.1 k1 with k1 | k1
        · exact ⟨q, k1, k2⟩
        · simp at k1; subst k1; exact (e k2.symm).elim
  · intro q hq'
    rcases List.mem_append.1 hq' with hq' | hq'
    · obtain ⟨y, k1, k2⟩ := e3 q hq'
      refine ⟨y, fun z => ?_, k2.grown f2 hb⟩
      rw [atKey_put_other (by simpa using fun e => hq ⟨q, hq', e⟩)]
      exact k1 z
    · simp at hq'; subst hq'
      exact ⟨x, fun z => atKey_put_same hm hkl _ _, hx.grown f2 hb⟩
end Go.Proofs.YtcjeeagnfmipgaaDoor

