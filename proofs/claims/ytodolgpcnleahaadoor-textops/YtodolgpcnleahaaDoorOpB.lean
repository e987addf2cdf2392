import Derived.Test.YtodolgpcnleahaaDoorOpA
import Derived.Maps.RangeWalk
import Derived.Maps.OwnSet
import Derived.Maps.Views
import Derived.StringKeys
/- A map from names to priorities that the call made (OpT): its names and priorities, in the order of their coming. -/
namespace Go.Proofs.YtodolgpcnleahaaDoor
open Go.RowKit Go.Shelf Go.Maps

/-- How priorities read as a map's element: as themselves. -/
def prioElem (v : Value) : Option (DataW PV × List MemPlace) :=
  match v with
  | .agg cs => match cs.toList with
    | [.int .i64 a, .int .i64 b, .int .i64 c] => some (.held ⟨a, b, c⟩, [])
    | _ => none
  | _ => none
theorem prioElem_mk (x : PV) : prioElem x.val = some (.held x, []) := by simp [prioElem, PV.val]
theorem prioElem_inv {v : Value} {z : DataW PV × List MemPlace} (h : prioElem v = some z) : ∃ x : PV, v = x.val ∧ z = (.held x, []) := by
  unfold prioElem at h
  split at h
  · split at h
    · rename_i cs _ a b c hcs
      simp only [Option.some.injEq] at h
      refine ⟨⟨a, b, c⟩, ?_, h.symm⟩
      simp only [PV.val, Value.agg.injEq]
      rw [← Array.toList_inj, hcs]
    · cases h
  · cases h
def zeroP : PV := ⟨0, 0, 0⟩
theorem Tryd.zeroPrio (w : World) : (zeroValue 48).run Tryd.prog w = .ok zeroP.val w := by kernel_rfl
theorem Tryd.under9 : Tryd.prog.underlying 9 = some .string := by kernel_rfl
theorem Tryd.underOps : Tryd.prog.underlying 35 = some (.map 9 48) := by kernel_rfl
theorem Tryd.keyed9 : Keyed Tryd.prog 9 := string_keyed Tryd.under9
theorem key_s {s : ByteArray} (hs : s.size ≤ 100) : keyOf Tryd.prog 9 (.string s) = some (.string s.data.toList) := WideMaps.keyOf_string_mk Tryd.under9 (by unfold maxLen; omega)

abbrev Names := List (List UInt8 × PV)
/-- A map from names to priorities: in the order of their coming. -/
structure OpT (W : World) (b : Nat) (c : Names) : Prop where
  len : c.length ≤ 200
  map : ∃ E : DataW PV, W.ownsMap Tryd.prog 9 prioElem b c.length E ∧ (∀ s, Maps.has E (.string s) = true ↔ ∃ q ∈ c, q.1 = s) ∧ ∀ q ∈ c, ∀ z, E.atKey (.string q.1) z = .held q.2
theorem OpT.lt {W : World} {b : Nat} {c : Names} (h : OpT W b c) : b < W.heap.size := by
  obtain ⟨E, h1, _⟩ := h.map
  exact h1.lt
theorem OpT.made (W : World) : OpT (W.alloc (.map #[] 0)) W.heap.size [] :=
  ⟨by simp, .map [], World.ownsMap_made W Tryd.prog 9 prioElem, (fun N => by simp [Maps.has]), (fun q hq => by cases hq)⟩
theorem OpT.grown {W W' : World} {b : Nat} {c : Names} {row : Option Nat} (h : OpT W b c) (hb : W.grownBy W' row) (hne : some b ≠ row) : OpT W' b c := by
  obtain ⟨E, h1, h2, h3⟩ := h.map
  exact ⟨h.len, E, h1.kept hb hne, h2, h3⟩
theorem OpT.below {W W' : World} {b : Nat} {c : Names} (h : OpT W b c) (hb : Below W.heap.size W W') : OpT W' b c :=
  h.grown (row := none) ⟨hb.os, hb.tape, hb.output, hb.size, fun k hk _ => hb.block k hk⟩ (by simp)
/-- What is asked of the map: there. -/
theorem OpT.look {W : World} {b : Nat} {c : Names} (h : OpT W b c) {s : ByteArray} (hs : s.size ≤ 100) {q : List UInt8 × PV} (hq : q ∈ c) (e : q.1 = s.data.toList) :
    (Instr.lookup 35 (.map (some b)) (.string s) true).run Tryd.prog W = .ok (.tuple #[q.2.val, .bool true]) W := by
  obtain ⟨E, e1, e2, e3⟩ := h.map
  obtain ⟨v, ps, hrun, hv⟩ := e1.look_ok Tryd.keyed9 Tryd.underOps (Tryd.zeroPrio W) (prioElem_mk zeroP) (key_s hs)
  rw [← e] at hrun hv
  rw [(e2 q.1).2 ⟨q, hq, rfl⟩] at hrun
  obtain ⟨y, rfl, hy⟩ := prioElem_inv hv
  rw [e3 q hq] at hy
  simp only [Prod.mk.injEq, DataW.held.injEq] at hy
  rw [hy.1]
  exact hrun
/-- What is asked of the map: not there. -/
theorem OpT.miss {W : World} {b : Nat} {c : Names} (h : OpT W b c) {s : ByteArray} (hs : s.size ≤ 100) (hq : ¬ ∃ q ∈ c, q.1 = s.data.toList) :
    (Instr.lookup 35 (.map (some b)) (.string s) true).run Tryd.prog W = .ok (.tuple #[zeroP.val, .bool false]) W := by
  obtain ⟨E, e1, e2, e3⟩ := h.map
  obtain ⟨v, ps, hrun, hv⟩ := e1.look_ok Tryd.keyed9 Tryd.underOps (Tryd.zeroPrio W) (prioElem_mk zeroP) (key_s hs)
  have hf : Maps.has E (.string s.data.toList) = false := by
    cases hh : Maps.has E (.string s.data.toList) with
    | false => rfl
    | true => exact (hq ((e2 _).1 hh)).elim
  rw [hf] at hrun
  rw [atKey_of_not_has hf] at hv
  obtain ⟨y, rfl, hy⟩ := prioElem_inv hv
  simp only [Prod.mk.injEq, DataW.held.injEq] at hy
  obtain ⟨rfl, _⟩ := hy
  exact hrun
/-- A name that is new. -/
theorem OpT.put {W : World} {b : Nat} {c : Names} (h : OpT W b c) (hl : c.length < 200) {s : ByteArray} (hs : s.size ≤ 100) (hq : ¬ ∃ q ∈ c, q.1 = s.data.toList) (x : PV) :
    ∃ W', (Instr.mapUpdate 35 (.map (some b)) (.string s) x.val).run Tryd.prog W = .ok () W' ∧ OpT W' b (c ++ [(s.data.toList, x)]) ∧ W.grownBy W' (some b) := by
  obtain ⟨E, e1, e2, e3⟩ := h.map
  have hm := e1.isMap
  obtain ⟨W', hrun, f1, f2⟩ := e1.update Tryd.keyed9 Tryd.underOps (by unfold maxLen; omega) (key_s hs) (prioElem_mk x)
  have hkl : WideAt.IsKeyLit (.string s.data.toList) := Tryd.keyed9.key (key_s hs)
  refine ⟨W', hrun, ⟨by simp; omega, _, (by simpa using f1), ?_, ?_⟩, f2⟩
  · intro M
    by_cases e : M = s.data.toList
    · subst e
      rw [has_put_same hm hkl]
      simp
    · rw [has_put_other (by simpa using e), e2 M]
      constructor
      · rintro ⟨q, k1, k2⟩; exact ⟨q, List.mem_append_left _ k1, k2⟩
      · rintro ⟨q, k1, k2⟩
        rcases List.mem_append.1 k1 with k1 | k1
        · exact ⟨q, k1, k2⟩
        · simp at k1; subst k1; exact (e k2.symm).elim
  · intro q hq' z
    rcases List.mem_append.1 hq' with hq' | hq'
    · rw [atKey_put_other (by simpa using fun e => hq ⟨q, hq', e⟩)]
      exact e3 q hq' z
    · simp at hq'; subst hq'
      exact atKey_put_same hm hkl _ _
end Go.Proofs.YtodolgpcnleahaaDoor

