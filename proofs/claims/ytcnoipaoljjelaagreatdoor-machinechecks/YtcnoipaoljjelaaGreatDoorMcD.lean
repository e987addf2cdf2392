import Derived.Test.YtcnoipaoljjelaaGreatDoorMcA
import Derived.Maps.RangeWalk
import Derived.Maps.OwnSet
import Derived.Maps.Views
import Derived.StringKeys
import Derived.DeepKeys4
import Derived.ChangeKeys
/- The predicates that code's entries have: a map that the call made; entries that are right. -/
namespace Go.Proofs.YtcnoipaoljjelaaGreatDoor
open Go.RowKit Go.Shelf Go.Maps

/-- How a number reads as a map's element: as itself. -/
def cntElem (v : Value) : Option (DataW Int × List MemPlace) :=
  match v with
  | .int .i64 n => some (.held n, [])
  | _ => none
theorem cntElem_inv {v : Value} {z : DataW Int × List MemPlace} (h : cntElem v = some z) : ∃ n, v = .int .i64 n ∧ z = (.held n, []) := by
  unfold cntElem at h
  split at h
  · cases h; exact ⟨_, rfl, rfl⟩
  · cases h
theorem Tryz.laidOutB : laidOutB Tryz.prog = true := by kernel_rfl
set_option maxRecDepth 100000 in
theorem Tryz.keyedMP : Keyed Tryz.prog 47 := Keyed.of_law (deep_law_laid Tryz.laidOutB (m := 2) (by omega) (of_decide_eq_true (by kernel_rfl)) (by kernel_rfl) (by rw [Tryz.underlying47]))
theorem lits_str (d : Nat) (s : ByteArray) (hs : s.size ≤ maxLen) : Tryz.prog.keyLits (d + 1) 9 [.string s] = some [.string s.data.toList] := by
  unfold Program.keyLits
  rw [Tryz.underlying9]
  simp [hs]
theorem lits_int (d : Nat) (n : Int) (h0 : -9223372036854775808 ≤ n) (h1 : n ≤ 9223372036854775807) : Tryz.prog.keyLits (d + 1) 3 [.int .i64 n] = some [.int .i64 n] := by
  have hw : (Lit.int .i64 n).wf = true := by simp [Lit.wf, IntKind.min, IntKind.max, IntKind.signed, IntKind.bits]; omega
  unfold Program.keyLits
  rw [Tryz.underlying3]
  simp [hw]
theorem cells_of : Tryz.prog.cellsOf 9 = 1 ∧ Tryz.prog.cellsOf 3 = 1 := ⟨by kernel_rfl, by kernel_rfl⟩
/-- The key of a predicate. -/
def predI (s : ByteArray) (n : Int) : Lit := .string (keyBytes [.string s.data.toList, .int .i64 n])
set_option maxRecDepth 100000 in
theorem pred_keyM (s : ByteArray) n (hs : s.size ≤ maxLen) (hn : -9223372036854775808 ≤ n ∧ n ≤ 9223372036854775807) : keyOf Tryz.prog 47 (.agg #[.string s, .int .i64 n]) = some (predI s n) := by
  have hk : Tryz.prog.keyType 47 = true := by kernel_rfl
  have hc : Tryz.prog.cellsOf 47 = 2 := by kernel_rfl
  obtain ⟨h9, h3⟩ := cells_of
  have hf : Value.formed Tryz.prog 47 (.agg #[.string s, .int .i64 n]) = true := by simp [Value.formed, Tryz.underlying47, hc]
  obtain ⟨m, hm⟩ : ∃ m, Tryz.prog.types.size = m + 1 := ⟨Tryz.prog.types.size - 1, by have : 0 < Tryz.prog.types.size := of_decide_eq_true (by kernel_rfl); omega⟩
  unfold keyOf
  rw [Tryz.underlying47]
  simp only [hk, hf, Bool.and_self, if_true, hm]
  unfold Program.keyLits
  simp only [Tryz.underlying47]
  have l1 := lits_str m s hs
  have l2 := lits_int m n (by omega) (by omega)
  rw [if_pos ⟨by rw [hc]; rfl, by decide +kernel⟩]
  simp only [List.mapM_cons, List.mapM_nil, h9, h3, Value.cells, List.drop_zero, List.drop_succ_cons, List.take_succ_cons, List.take_zero]
  rw [l1, l2]
  rfl
theorem i64_wf {N : Int} (h : -9223372036854775808 ≤ N ∧ N ≤ 9223372036854775807) : (Lit.int .i64 N).wf = true := by
  simp [Lit.wf, IntKind.min, IntKind.max, IntKind.signed, IntKind.bits]; omega
/-- What a key can be made of. -/
def KeyO (q : ByteArray × Int) : Prop := q.1.size ≤ maxLen ∧ -9223372036854775808 ≤ q.2 ∧ q.2 ≤ 9223372036854775807
theorem predI_inj {q r : ByteArray × Int} (hq : KeyO q) (hr : KeyO r) : predI q.1 q.2 = predI r.1 r.2 ↔ q.1.toList = r.1.toList ∧ q.2 = r.2 := by
  have e1 : q.1.data.toList = q.1.toList := (ByteArray.toList_eq q.1).symm
  have e2 : r.1.data.toList = r.1.toList := (ByteArray.toList_eq r.1).symm
  unfold predI
  constructor
  · intro h
    simp only [Lit.string.injEq] at h
    have h' := keyBytes_inj (l := [.string q.1.data.toList, .int .i64 q.2]) (l' := [.string r.1.data.toList, .int .i64 r.2]) ⟨trivial, rfl, trivial⟩
      (fun a ha => by simp at ha; rcases ha with rfl | rfl; (show q.1.data.toList.length ≤ maxLen; exact hq.1); exact i64_wf hq.2)
      (fun a ha => by simp at ha; rcases ha with rfl | rfl; (show r.1.data.toList.length ≤ maxLen; exact hr.1); exact i64_wf hr.2) h
    simp only [List.cons.injEq, Lit.string.injEq, Lit.int.injEq, true_and, and_true] at h'
    rw [← e1, ← e2]
    exact h'
  · rintro ⟨h1, h2⟩
    rw [e1, e2, h1, h2]
/-- A map of the predicates met, each once. -/
def Mt (W : World) (b : Nat) (L : List (ByteArray × Int)) : Prop :=
  ∃ E : DataW Int, W.ownsMap Tryz.prog 47 cntElem b L.length E ∧ (∀ kl, Maps.has E kl = true ↔ ∃ q ∈ L, predI q.1 q.2 = kl) ∧ ∀ q ∈ L, ∀ z, E.atKey (predI q.1 q.2) z = .held 1
theorem Mt.lt {W : World} {b : Nat} {L : List (ByteArray × Int)} (h : Mt W b L) : b < W.heap.size := by obtain ⟨E, h1, _⟩ := h; exact h1.lt
theorem Mt.made (W : World) : Mt (W.alloc (.map #[] 0)) W.heap.size [] := ⟨.map [], World.ownsMap_made W Tryz.prog 47 cntElem, (fun kl => by simp [Maps.has]), (fun q hq => by cases hq)⟩
theorem Mt.below {W W' : World} {b : Nat} {L : List (ByteArray × Int)} (h : Mt W b L) (hb : Below W.heap.size W W') : Mt W' b L := by
  obtain ⟨E, ⟨es, clock, e1, e2⟩, h2⟩ := h
  have hlt : b < W.heap.size := (Array.getElem?_eq_some_iff.1 e1).1
  exact ⟨E, ⟨es, clock, (hb.block b hlt).trans e1, e2⟩, h2⟩
theorem Tryz.zeroInt (w : World) : (zeroValue 3).run Tryz.prog w = .ok (.int .i64 0) w := by kernel_rfl
theorem Mt.look {W : World} {b : Nat} {L : List (ByteArray × Int)} (h : Mt W b L) (s : ByteArray) (n : Int) (hk : KeyO (s, n)) (yes : Bool) (hy : yes = true ↔ ∃ q ∈ L, predI q.1 q.2 = predI s n) :
    (Instr.lookup 45 (.map (some b)) (.agg #[.string s, .int .i64 n]) false).run Tryz.prog W = .ok (.int .i64 (if yes = true then 1 else 0)) W := by
  obtain ⟨E, h1, h2, h3⟩ := h
  obtain ⟨v, ps, hrun, hv⟩ := h1.lookup Tryz.keyedMP Tryz.underlying45 (Tryz.zeroInt W) (zd := .held 0) (zp := []) rfl (pred_keyM s n hk.1 hk.2)
  obtain ⟨m, rfl, hp⟩ := cntElem_inv hv
  rw [hrun]
  cases yes with
  | false =>
    have hf : Maps.has E (predI s n) = false := by
      cases hh : Maps.has E (predI s n) with
      | false => rfl
      | true => exact absurd (hy.2 ((h2 _).1 hh)) (by simp)
    rw [atKey_of_not_has hf] at hp
    simp at hp
    rw [← hp.1]
    rfl
  | true =>
    obtain ⟨q, hq, e⟩ := hy.1 rfl
    rw [← e, h3 q hq] at hp
    simp at hp
    rw [← hp.1]
    rfl
theorem Mt.put {W : World} {b : Nat} {L : List (ByteArray × Int)} (h : Mt W b L) (hl : L.length < maxLen) (s : ByteArray) (n : Int) (hk : KeyO (s, n)) (hno : ¬ ∃ q ∈ L, predI q.1 q.2 = predI s n) :
    ∃ W', (Instr.mapUpdate 45 (.map (some b)) (.agg #[.string s, .int .i64 n]) (.int .i64 1)).run Tryz.prog W = .ok () W' ∧ Mt W' b (L ++ [(s, n)]) ∧ W.grownBy W' (some b) := by
  obtain ⟨E, h1, h2, h3⟩ := h
  have hm := h1.isMap
  have hkey := pred_keyM s n hk.1 hk.2
  have hkl : WideAt.IsKeyLit (predI s n) := Tryz.keyedMP.key hkey
  obtain ⟨W', hrun, f1, f2⟩ := h1.update Tryz.keyedMP Tryz.underlying45 hl (val := .int .i64 1) (d := .held 1) (ps := []) hkey rfl
  refine ⟨W', hrun, ⟨_, (by simpa using f1), fun kl => ?_, fun q hq z => ?_⟩, f2⟩
  · by_cases e : kl = predI s n
    · subst e
      rw [has_put_same hm hkl]
      exact ⟨fun _ => ⟨(s, n), by simp, rfl⟩, fun _ => rfl⟩
    · rw [has_put_other e, h2 kl]
      constructor
      · rintro ⟨q, k1, k2⟩; exact ⟨q, List.mem_append_left _ k1, k2⟩
      · rintro ⟨q, k1, k2⟩
        rcases List.mem_append.1 k1 with k1 | k1
        · exact ⟨q, k1, k2⟩
        · simp at k1; subst k1; exact (e k2.symm).elim
  · rcases List.mem_append.1 hq with hq | hq
    · rw [atKey_put_other (fun e => hno ⟨q, hq, e⟩)]
      exact h3 q hq z
    · simp at hq; subst hq
      exact atKey_put_same hm hkl _ _
end Go.Proofs.YtcnoipaoljjelaaGreatDoor

