import Derived.Test.YtjdanfhbccpnpaaBcC
import Derived.StringKeys
import Derived.DeepKeys4
/- Maps of pointers that the call made; keys of base's maps. -/
namespace Go.Proofs.Ytjdanfhbccpnpaa
open Go.RowKit Go.Shelf Go.Maps

/-- How a pointer reads as a map's element: as itself. -/
def ptrElem (v : Value) : Option (DataW (Option Addr) × List MemPlace) :=
  match v with
  | .pointer p => some (.held p, [])
  | _ => none
theorem ptrElem_inv {v : Value} {z : DataW (Option Addr) × List MemPlace} (h : ptrElem v = some z) : ∃ p, v = .pointer p ∧ z = (.held p, []) := by
  unfold ptrElem at h
  split at h
  · cases h; exact ⟨_, rfl, rfl⟩
  · cases h
/-- A map of pointers, by what each key leads to. -/
def PM (k : TypeId) (W : World) (b n : Nat) (g : Lit → Option Addr) : Prop :=
  ∃ E : DataW (Option Addr), W.ownsMap Try.prog k ptrElem b n E ∧ ∀ kl, Maps.has E kl = (g kl).isSome ∧ ∀ a, g kl = some a → ∀ z, E.atKey kl z = .held (some a)
theorem PM.lt {k : TypeId} {W : World} {b n : Nat} {g : Lit → Option Addr} (h : PM k W b n g) : b < W.heap.size := by obtain ⟨E, h1, _⟩ := h; exact h1.lt
theorem PM.made (k : TypeId) (W : World) : PM k (W.alloc (.map #[] 0)) W.heap.size 0 (fun _ => none) := ⟨.map [], World.ownsMap_made W Try.prog k ptrElem, fun kl => ⟨by simp [Maps.has], fun a h => by cases h⟩⟩
theorem PM.kept {k : TypeId} {A W : World} {b n : Nat} {g : Lit → Option Addr} (h : PM k A b n g) (hb : W.heap[b]? = A.heap[b]?) : PM k W b n g := by
  obtain ⟨E, ⟨es, clock, e1, e2⟩, h2⟩ := h
  exact ⟨E, ⟨es, clock, hb.trans e1, e2⟩, h2⟩
theorem PM.look {t k e : TypeId} {W : World} {b n : Nat} {g : Lit → Option Addr} (h : PM k W b n g) (K : Keyed Try.prog k) (ht : Try.prog.underlying t = some (.map k e)) (hz : (zeroValue e).run Try.prog W = .ok (.pointer none) W) {key : Value} {kl : Lit} (hkey : keyOf Try.prog k key = some kl) :
    (Instr.lookup t (.map (some b)) key true).run Try.prog W = .ok (.tuple #[.pointer (g kl), .bool (g kl).isSome]) W := by
  obtain ⟨E, h1, h2⟩ := h
  obtain ⟨v, ps, hrun, hv⟩ := h1.look_ok K ht hz (zd := .held none) (zp := []) rfl hkey
  obtain ⟨p, rfl, hp⟩ := ptrElem_inv hv
  rw [(h2 kl).1] at hrun
  cases hg : g kl with
  | none =>
    have hf : Maps.has E kl = false := by rw [(h2 kl).1, hg]; rfl
    rw [atKey_of_not_has hf] at hp
    simp at hp
    rw [hrun, ← hp.1, hg]
  | some a =>
    rw [(h2 kl).2 a hg] at hp
    simp at hp
    rw [hrun, ← hp.1, hg]
theorem PM.look1 {t k e : TypeId} {W : World} {b n : Nat} {g : Lit → Option Addr} (h : PM k W b n g) (K : Keyed Try.prog k) (ht : Try.prog.underlying t = some (.map k e)) (hz : (zeroValue e).run Try.prog W = .ok (.pointer none) W) {key : Value} {kl : Lit} (hkey : keyOf Try.prog k key = some kl) :
    (Instr.lookup t (.map (some b)) key false).run Try.prog W = .ok (.pointer (g kl)) W := by
  obtain ⟨E, h1, h2⟩ := h
  obtain ⟨v, ps, hrun, hv⟩ := h1.lookup K ht hz (zd := .held none) (zp := []) rfl hkey
  obtain ⟨p, rfl, hp⟩ := ptrElem_inv hv
  cases hg : g kl with
  | none =>
    have hf : Maps.has E kl = false := by rw [(h2 kl).1, hg]; rfl
    rw [atKey_of_not_has hf] at hp
    simp at hp
    rw [hrun, ← hp.1]
  | some a =>
    rw [(h2 kl).2 a hg] at hp
    simp at hp
    rw [hrun, ← hp.1]
open Classical in
noncomputable def updL (g : Lit → Option Addr) (kl : Lit) (a : Addr) : Lit → Option Addr := fun x => if x = kl then some a else g x
theorem PM.put {t k e : TypeId} {W : World} {b n : Nat} {g : Lit → Option Addr} (h : PM k W b n g) (K : Keyed Try.prog k) (ht : Try.prog.underlying t = some (.map k e)) (hn : n < maxLen) {key : Value} {kl : Lit} (hkey : keyOf Try.prog k key = some kl) (a : Addr) :
    ∃ W', (Instr.mapUpdate t (.map (some b)) key (.pointer (some a))).run Try.prog W = .ok () W' ∧ PM k W' b (n + 1) (updL g kl a) ∧ W.grownBy W' (some b) := by
  obtain ⟨E, h1, h2⟩ := h
  have hm := h1.isMap
  have hkl : WideAt.IsKeyLit kl := K.key hkey
  obtain ⟨W', hrun, f1, f2⟩ := h1.update K ht hn (val := .pointer (some a)) (d := .held (some a)) (ps := []) hkey rfl
  refine ⟨W', hrun, ⟨_, f1, fun x => ?_⟩, f2⟩
  unfold updL
  by_cases e : x = kl
  · subst e
    rw [if_pos rfl, has_put_same hm hkl]
    exact ⟨rfl, fun a' h z => by cases h; exact atKey_put_same hm hkl _ _⟩
  · rw [if_neg e, has_put_other e]
    refine ⟨(h2 x).1, fun a' h z => ?_⟩
    rw [atKey_put_other e]
    exact (h2 x).2 a' h z

theorem Try.keyed3 : Keyed Try.prog 3 := int_keyed Try.underlying3
theorem Try.laidOutB : laidOutB Try.prog = true := by kernel_rfl
theorem Try.keyedPred : Keyed Try.prog 74 := Keyed.of_law (deep_law_laid Try.laidOutB (m := 2) (by omega) (of_decide_eq_true (by kernel_rfl)) (by kernel_rfl) (by rw [Try.underlying74]))
theorem Try.keyedKey : Keyed Try.prog 81 := Keyed.of_law (deep_law_laid Try.laidOutB (m := 2) (by omega) (of_decide_eq_true (by kernel_rfl)) (by kernel_rfl) (by rw [Try.underlying81]))
def predL (s : ByteArray) (n : Nat) : Lit := .string (keyBytes [.string s.data.toList, .int .i64 (n : Int)])
def keyL (k N : Int) (s : ByteArray) (n : Nat) : Lit := .string (keyBytes [.int .i64 k, .int .i64 N, .string s.data.toList, .int .i64 (n : Int)])
theorem lits_str (d : Nat) (s : ByteArray) (hs : s.size ≤ maxLen) : Try.prog.keyLits (d + 1) 9 [.string s] = some [.string s.data.toList] := by
  unfold Program.keyLits
  rw [Try.underlying9]
  simp [hs]
theorem lits_int (d : Nat) (n : Int) (h0 : -9223372036854775808 ≤ n) (h1 : n ≤ 9223372036854775807) : Try.prog.keyLits (d + 1) 3 [.int .i64 n] = some [.int .i64 n] ∧ Try.prog.keyLits (d + 1) 2 [.int .i64 n] = some [.int .i64 n] := by
  have hw : (Lit.int .i64 n).wf = true := by simp [Lit.wf, IntKind.min, IntKind.max, IntKind.signed, IntKind.bits]; omega
  refine ⟨?_, ?_⟩
  · unfold Program.keyLits
    rw [Try.underlying3]
    simp [hw]
  · unfold Program.keyLits
    rw [Try.underlying2]
    simp [hw]
theorem cells_of : Try.prog.cellsOf 9 = 1 ∧ Try.prog.cellsOf 3 = 1 ∧ Try.prog.cellsOf 2 = 1 := ⟨by kernel_rfl, by kernel_rfl, by kernel_rfl⟩
theorem pred_key (s : ByteArray) (n : Nat) (hs : s.size ≤ maxLen) (hn : n ≤ 9223372036854775807) : keyOf Try.prog 74 (predV s n) = some (predL s n) := by
  have hk : Try.prog.keyType 74 = true := by kernel_rfl
  have hc : Try.prog.cellsOf 74 = 2 := by kernel_rfl
  obtain ⟨h9, h3, h2⟩ := cells_of
  have hf : Value.formed Try.prog 74 (.agg #[.string s, .int .i64 (n : Int)]) = true := by simp [Value.formed, Try.underlying74, hc]
  obtain ⟨m, hm⟩ : ∃ m, Try.prog.types.size = m + 1 := ⟨Try.prog.types.size - 1, by have : 0 < Try.prog.types.size := of_decide_eq_true (by kernel_rfl); omega⟩
  unfold keyOf
  rw [Try.underlying74]
  simp only [predV, hk, hf, Bool.and_self, if_true, hm]
  unfold Program.keyLits
  simp only [Try.underlying74]
  have l1 := lits_str m s hs
  have l2 := (lits_int m (n : Int) (by omega) (by omega)).1
  rw [if_pos ⟨by rw [hc]; rfl, by decide +kernel⟩]
  simp only [List.mapM_cons, List.mapM_nil, h9, h3, Value.cells, List.drop_zero, List.drop_succ_cons, List.take_succ_cons, List.take_zero]
  rw [l1, l2]
  rfl
theorem key_key (k N : Int) (s : ByteArray) (n : Nat) (hs : s.size ≤ maxLen) (hn : n ≤ 9223372036854775807) (hk0 : -9223372036854775808 ≤ k) (hk1 : k ≤ 9223372036854775807) (hN0 : -9223372036854775808 ≤ N) (hN1 : N ≤ 9223372036854775807) : keyOf Try.prog 81 (keyV k N s n) = some (keyL k N s n) := by
  have hk : Try.prog.keyType 81 = true := by kernel_rfl
  have hc : Try.prog.cellsOf 81 = 4 := by kernel_rfl
  obtain ⟨h9, h3, h2⟩ := cells_of
  have hf : Value.formed Try.prog 81 (.agg #[.int .i64 k, .int .i64 N, .string s, .int .i64 (n : Int)]) = true := by simp [Value.formed, Try.underlying81, hc]
  obtain ⟨m, hm⟩ : ∃ m, Try.prog.types.size = m + 1 := ⟨Try.prog.types.size - 1, by have : 0 < Try.prog.types.size := of_decide_eq_true (by kernel_rfl); omega⟩
  unfold keyOf
  rw [Try.underlying81]
  simp only [keyV, hk, hf, Bool.and_self, if_true, hm]
  unfold Program.keyLits
  simp only [Try.underlying81]
  have l1 := lits_str m s hs
  have l2 := (lits_int m (n : Int) (by omega) (by omega)).1
  have l3 := (lits_int m k hk0 hk1).1
  have l4 := (lits_int m N hN0 hN1).2
  rw [if_pos ⟨by rw [hc]; rfl, by decide +kernel⟩]
  simp only [List.mapM_cons, List.mapM_nil, h9, h3, h2, Value.cells, List.drop_zero, List.drop_succ_cons, List.take_succ_cons, List.take_zero]
  rw [l1, l2, l3, l4]
  rfl
end Go.Proofs.Ytjdanfhbccpnpaa

