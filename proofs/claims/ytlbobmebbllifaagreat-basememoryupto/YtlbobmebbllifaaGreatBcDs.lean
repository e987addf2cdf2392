import Derived.Test.YtlbobmebbllifaaGreatBcAs
import Derived.StringKeys
import Derived.DeepKeys4
import Derived.BigRegion
/- Maps of pointers that the call made; keys of base's maps. -/
namespace Go.Proofs.YtlbobmebbllifaaGreat
open Go.RowKit Go.Shelf Go.Maps
def ptrElem (v : Value) : Option (DataW (Option Addr) × List MemPlace) :=
 match v with
 | .pointer p => some (.held p, [])
 | _ => none
theorem ptrElem_inv {v : Value} {z : DataW (Option Addr) × List MemPlace} (h : ptrElem v = some z) : ∃ p, v = .pointer p ∧ z = (.held p, []) := by
 unfold ptrElem at h
 split at h
 ·cases h; exact ⟨_, rfl, rfl⟩
 ·cases h
def PM (k : TypeId) (W : World) (b n : Nat) (g : Lit → Option Addr) : Prop :=
 ∃ E : DataW (Option Addr), W.ownsMap Tryz.prog k ptrElem b n E ∧ ∀ kl, Maps.has E kl = (g kl).isSome ∧ ∀ a, g kl = some a → ∀ z, E.atKey kl z = .held (some a)
theorem PM.lt {k : TypeId} {W : World} {b n : Nat} {g : Lit → Option Addr} (h : PM k W b n g) : b < W.heap.size := by obtain ⟨E, h1, _⟩ := h; exact h1.lt
theorem PM.made (k : TypeId) (W : World) : PM k (W.alloc (.map #[] 0)) W.heap.size 0 (fun _ => none) := ⟨.map [], World.ownsMap_made W Tryz.prog k ptrElem, fun kl => ⟨by simp [Maps.has], fun a h => by cases h⟩⟩
theorem PM.kept {k : TypeId} {A W : World} {b n : Nat} {g : Lit → Option Addr} (h : PM k A b n g) (hb : W.heap[b]? = A.heap[b]?) : PM k W b n g := by
 obtain ⟨E, ⟨es, clock, e1, e2⟩, h2⟩ := h
 exact ⟨E, ⟨es, clock, hb.trans e1, e2⟩, h2⟩
theorem PM.look {t k e : TypeId} {W : World} {b n : Nat} {g : Lit → Option Addr} (h : PM k W b n g) (K : Keyed Tryz.prog k) (ht : Tryz.prog.underlying t = some (.map k e)) (hz : (zeroValue e).run Tryz.prog W = .ok (.pointer none) W) {key : Value} {kl : Lit} (hkey : keyOf Tryz.prog k key = some kl) :
  (Instr.lookup t (.map (some b)) key true).run Tryz.prog W = .ok (.tuple #[.pointer (g kl), .bool (g kl).isSome]) W := by
 obtain ⟨E, h1, h2⟩ := h
 obtain ⟨v, ps, hrun, hv⟩ := h1.look_ok K ht hz (zd := .held none) (zp := []) rfl hkey
 obtain ⟨p, rfl, hp⟩ := ptrElem_inv hv
 rw [(h2 kl).1] at hrun
 cases hg : g kl with
 | none =>
  have hf : Maps.has E kl = false := by rw [(h2 kl).1, hg]; rfl
  rw [atKey_of_not_has hf] at hp
  simp at hp
  rw [hrun, ← hp.1, hg]
 | some a =>
  rw [(h2 kl).2 a hg] at hp
  simp at hp
  rw [hrun, ← hp.1, hg]
theorem PM.look1 {t k e : TypeId} {W : World} {b n : Nat} {g : Lit → Option Addr} (h : PM k W b n g) (K : Keyed Tryz.prog k) (ht : Tryz.prog.underlying t = some (.map k e)) (hz : (zeroValue e).run Tryz.prog W = .ok (.pointer none) W) {key : Value} {kl : Lit} (hkey : keyOf Tryz.prog k key = some kl) :
  (Instr.lookup t (.map (some b)) key false).run Tryz.prog W = .ok (.pointer (g kl)) W := by
 obtain ⟨E, h1, h2⟩ := h
 obtain ⟨v, ps, hrun, hv⟩ := h1.lookup K ht hz (zd := .held none) (zp := []) rfl hkey
 obtain ⟨p, rfl, hp⟩ := ptrElem_inv hv
 cases hg : g kl with
 | none =>
  have hf : Maps.has E kl = false := by rw [(h2 kl).1, hg]; rfl
  rw [atKey_of_not_has hf] at hp
  simp at hp
  rw [hrun, ← hp.1]
 | some a =>
  rw [(h2 kl).2 a hg] at hp
  simp at hp
  rw [hrun, ← hp.1]
open Classical in
noncomputable def updL (g : Lit → Option Addr) (kl : Lit) (a : Addr) : Lit → Option Addr := fun x => if x = kl then some a else g x
theorem PM.put {t k e : TypeId} {W : World} {b n : Nat} {g : Lit → Option Addr} (h : PM k W b n g) (K : Keyed Tryz.prog k) (ht : Tryz.prog.underlying t = some (.map k e)) (hn : n < maxLen) {key : Value} {kl : Lit} (hkey : keyOf Tryz.prog k key = some kl) (a : Addr) :
  ∃ W', (Instr.mapUpdate t (.map (some b)) key (.pointer (some a))).run Tryz.prog W = .ok () W' ∧ PM k W' b (n + 1) (updL g kl a) ∧ W.grownBy W' (some b) := by
 obtain ⟨E, h1, h2⟩ := h
 have hm := h1.isMap
 have hkl : WideAt.IsKeyLit kl := K.key hkey
 obtain ⟨W', hrun, f1, f2⟩ := h1.update K ht hn (val := .pointer (some a)) (d := .held (some a)) (ps := []) hkey rfl
 refine ⟨W', hrun, ⟨_, f1, fun x => ?_⟩, f2⟩
 unfold updL
 by_cases e : x = kl
 ·subst e
  rw [if_pos rfl, has_put_same hm hkl]
  exact ⟨rfl, fun a' h z => by cases h; exact atKey_put_same hm hkl _ _⟩
 ·rw [if_neg e, has_put_other e]
  refine ⟨(h2 x).1, fun a' h z => ?_⟩
  rw [atKey_put_other e]
  exact (h2 x).2 a' h z
theorem Tryz.keyed3 : Keyed Tryz.prog 3 := int_keyed Tryz.underlying3
theorem Tryz.laidOutB : laidOutB Tryz.prog = true := by kernel_rfl
theorem Tryz.keyedPred : Keyed Tryz.prog 80 := Keyed.of_law (deep_law_laid Tryz.laidOutB (m := 2) (by omega) (of_decide_eq_true (by kernel_rfl)) (by kernel_rfl) (by rw [Tryz.underlying80]))
theorem Tryz.keyedKey : Keyed Tryz.prog 89 := Keyed.of_law (deep_law_laid Tryz.laidOutB (m := 2) (by omega) (of_decide_eq_true (by kernel_rfl)) (by kernel_rfl) (by rw [Tryz.underlying89]))
def predL (s : ByteArray) (n : Nat) : Lit := .string (keyBytes [.string s.data.toList, .int .i64 (n : Int)])
def keyL (k N : Int) (s : ByteArray) (n : Nat) : Lit := .string (keyBytes [.int .i64 k, .int .i64 N, .string s.data.toList, .int .i64 (n : Int)])
theorem lits_str (d : Nat) (s : ByteArray) (hs : s.size ≤ maxLen) : Tryz.prog.keyLits (d + 1) 9 [.string s] = some [.string s.data.toList] := by
 unfold Program.keyLits
 rw [Tryz.underlying9]
 simp [hs]
theorem lits_int (d : Nat) (n : Int) (h0 : -9223372036854775808 ≤ n) (h1 : n ≤ 9223372036854775807) : Tryz.prog.keyLits (d + 1) 3 [.int .i64 n] = some [.int .i64 n] ∧ Tryz.prog.keyLits (d + 1) 2 [.int .i64 n] = some [.int .i64 n] := by
 have hw : (Lit.int .i64 n).wf = true := by simp [Lit.wf, IntKind.min, IntKind.max, IntKind.signed, IntKind.bits]; omega
 refine ⟨?_, ?_⟩
 ·unfold Program.keyLits
  rw [Tryz.underlying3]
  simp [hw]
 ·unfold Program.keyLits
  rw [Tryz.underlying2]
  simp [hw]
theorem cells_of : Tryz.prog.cellsOf 9 = 1 ∧ Tryz.prog.cellsOf 3 = 1 ∧ Tryz.prog.cellsOf 2 = 1 := ⟨by kernel_rfl, by kernel_rfl, by kernel_rfl⟩
theorem pred_key (s : ByteArray) (n : Nat) (hs : s.size ≤ maxLen) (hn : n ≤ 9223372036854775807) : keyOf Tryz.prog 80 (predV s n) = some (predL s n) := by
 have hk : Tryz.prog.keyType 80 = true := by kernel_rfl
 have hc : Tryz.prog.cellsOf 80 = 2 := by kernel_rfl
 obtain ⟨h9, h3, h2⟩ := cells_of
 have hf : Value.formed Tryz.prog 80 (.agg #[.string s, .int .i64 (n : Int)]) = true := by simp [Value.formed, Tryz.underlying80, hc]
 obtain ⟨m, hm⟩ : ∃ m, Tryz.prog.types.size = m + 1 := ⟨Tryz.prog.types.size - 1, by have : 0 < Tryz.prog.types.size := of_decide_eq_true (by kernel_rfl); omega⟩
 unfold keyOf
 rw [Tryz.underlying80]
 simp only [predV, hk, hf, Bool.and_self, if_true, hm]
 unfold Program.keyLits
 simp only [Tryz.underlying80]
 have l1 := lits_str m s hs
 have l2 := (lits_int m (n : Int) (by omega) (by omega)).1
 rw [if_pos ⟨by rw [hc]; rfl, by decide +kernel⟩]
 simp only [List.mapM_cons, List.mapM_nil, h9, h3, Value.cells, List.drop_zero, List.drop_succ_cons, List.take_succ_cons, List.take_zero]
 rw [l1, l2]
 rfl
theorem key_key (k N : Int) (s : ByteArray) (n : Nat) (hs : s.size ≤ maxLen) (hn : n ≤ 9223372036854775807) (hk0 : -9223372036854775808 ≤ k) (hk1 : k ≤ 9223372036854775807) (hN0 : -9223372036854775808 ≤ N) (hN1 : N ≤ 9223372036854775807) : keyOf Tryz.prog 89 (keyV k N s n) = some (keyL k N s n) := by
 have hk : Tryz.prog.keyType 89 = true := by kernel_rfl
 have hc : Tryz.prog.cellsOf 89 = 4 := by kernel_rfl
 obtain ⟨h9, h3, h2⟩ := cells_of
 have hf : Value.formed Tryz.prog 89 (.agg #[.int .i64 k, .int .i64 N, .string s, .int .i64 (n : Int)]) = true := by simp [Value.formed, Tryz.underlying89, hc]
 obtain ⟨m, hm⟩ : ∃ m, Tryz.prog.types.size = m + 1 := ⟨Tryz.prog.types.size - 1, by have : 0 < Tryz.prog.types.size := of_decide_eq_true (by kernel_rfl); omega⟩
 unfold keyOf
 rw [Tryz.underlying89]
 simp only [keyV, hk, hf, Bool.and_self, if_true, hm]
 unfold Program.keyLits
 simp only [Tryz.underlying89]
 have l1 := lits_str m s hs
 have l2 := (lits_int m (n : Int) (by omega) (by omega)).1
 have l3 := (lits_int m k hk0 hk1).1
 have l4 := (lits_int m N hN0 hN1).2
 rw [if_pos ⟨by rw [hc]; rfl, by decide +kernel⟩]
 simp only [List.mapM_cons, List.mapM_nil, h9, h3, h2, Value.cells, List.drop_zero, List.drop_succ_cons, List.take_succ_cons, List.take_zero]
 rw [l1, l2, l3, l4]
 rfl
/- base.New; a base's own block; familyOf. -/
set_option maxHeartbeats 2000000
set_option maxRecDepth 100000
theorem Tryz.zeroPtr61 (w : World) : (zeroValue 67).run Tryz.prog w = .ok (.pointer none) w := by kernel_rfl
theorem Tryz.zeroPtr64 (w : World) : (zeroValue 77).run Tryz.prog w = .ok (.pointer none) w := by kernel_rfl
theorem Tryz.zeroPtr71 (w : World) : (zeroValue 104).run Tryz.prog w = .ok (.pointer none) w := by kernel_rfl
def BsBlk (W : World) (b : Nat) (laid : Int) (me mf : Nat) : Prop := W.heap[b]? = some (.cells #[.int .i64 laid, .map (some me), .map (some mf)] 57 (0, 0))
theorem BsBlk.lt {W : World} {b : Nat} {laid : Int} {me mf : Nat} (h : BsBlk W b laid me mf) : b < W.heap.size := (Array.getElem?_eq_some_iff.1 h).1
theorem BsBlk.cs {W : World} {b : Nat} {laid : Int} {me mf : Nat} (h : BsBlk W b laid me mf) : W.cell? ⟨b, 0, none⟩ = some (.int .i64 laid) ∧ W.cell? ⟨b, 1, none⟩ = some (.map (some me)) ∧ W.cell? ⟨b, 2, none⟩ = some (.map (some mf)) ∧ W.frozen? ⟨b, 0, none⟩ = false := by
 have h' : W.heap[b]? = _ := h
 refine ⟨?_, ?_, ?_, ?_⟩ <;> simp [World.cell?, World.frozen?, h']
theorem new_any (w : World) : Calls Tryz.prog 5 #[] w fun e W' => e = .returned (.pointer (some ⟨w.heap.size + 2, 0, none⟩)) ∧ BsBlk W' (w.heap.size + 2) 0 w.heap.size (w.heap.size + 1) ∧ PM 3 W' w.heap.size 0 (fun _ => none) ∧ PM 80 W' (w.heap.size + 1) 0 (fun _ => none) ∧ Below w.heap.size w W' ∧ W'.heap.size = w.heap.size + 3 := by
 have hmm := @run_makeMap Tryz.prog
 have h1 : PM 3 (((w.alloc (.map #[] 0)).alloc (.map #[] 0)).alloc (.cells #[.int .i64 0, .map (some w.heap.size), .map (some (w.heap.size + 1))] 57)) w.heap.size 0 (fun _ => none) := ((PM.made 3 w).kept (Below.heap_alloc _ _ _ (by simp))).kept (Below.heap_alloc _ _ _ (by simp; omega))
 have h2 : PM 80 (((w.alloc (.map #[] 0)).alloc (.map #[] 0)).alloc (.cells #[.int .i64 0, .map (some w.heap.size), .map (some (w.heap.size + 1))] 57)) (w.heap.size + 1) 0 (fun _ => none) := by
  have h := PM.made 80 (w.alloc (.map #[] 0))
  rw [World.size_alloc] at h
  exact h.kept (Below.heap_alloc _ _ _ (by simp))
 have h3 : BsBlk (((w.alloc (.map #[] 0)).alloc (.map #[] 0)).alloc (.cells #[.int .i64 0, .map (some w.heap.size), .map (some (w.heap.size + 1))] 57)) (w.heap.size + 2) 0 w.heap.size (w.heap.size + 1) := by
  have h := World.alloc_heap_new ((w.alloc (.map #[] 0)).alloc (.map #[] 0)) (.cells #[.int .i64 0, .map (some w.heap.size), .map (some (w.heap.size + 1))] 57)
  rw [World.size_alloc, World.size_alloc] at h
  exact h
 have HK := hide (And.intro h3 (And.intro h1 h2))
 clear h1 h2 h3
 go_enter Tryz.func5, Tryz.ntmps5
 go_wp2_with fail
 all_goals go_ret
 all_goals exact ⟨rfl, HK.out.1, HK.out.2.1, HK.out.2.2, (((Below.refl _ w).alloc (Nat.le_refl _) _).alloc (by simp) _).alloc (by simp; omega) _, by simp⟩
def FamNew (W : World) (fb km : Nat) : Prop := W.heap[fb]? = some (.cells #[.pointer none, .map (some km)] 106 (0, 0)) ∧ PM 89 W km 0 (fun _ => none)
theorem familyOf_new (b me mf : Nat) (laid : Int) (cnt : Nat) (g : Lit → Option Addr) (s : ByteArray) (n : Nat) (w : World) (hb : BsBlk w b laid me mf) (hm : PM 80 w mf cnt g) (hcnt : cnt < maxLen) (hs : s.size ≤ maxLen) (hn : n ≤ 9223372036854775807) (hg : g (predL s n) = none) :
  Calls Tryz.prog 30 #[.pointer (some ⟨b, 0, none⟩), predV s n] w fun e W' => ∃ fb km, e = .returned (.pointer (some ⟨fb, 0, none⟩)) ∧ w.heap.size ≤ fb ∧ w.heap.size ≤ km ∧ fb ≠ km ∧ FamNew W' fb km ∧ PM 80 W' mf (cnt + 1) (updL g (predL s n) ⟨fb, 0, none⟩) ∧ GrB (fun k => k = mf) w.heap.size w W' := by
 have hmm := @run_makeMap Tryz.prog
 have hkey := pred_key s n hs hn
 have hb1 : Below w.heap.size w (w.alloc (.cells #[.string s, .int .i64 (n : Int)] 80)).drew := ((Below.refl _ w).alloc (Nat.le_refl _) _).drew
 have hm1 := hm.kept (hb1.block mf hm.lt)
 have hB1 : BsBlk (w.alloc (.cells #[.string s, .int .i64 (n : Int)] 80)).drew b laid me mf := (hb1.block b hb.lt).trans hb
 have hlk := hm1.look Tryz.keyedPred Tryz.underlying55 (Tryz.zeroPtr64 _) hkey
 rw [hg] at hlk
 obtain ⟨c0, c1, c2, -⟩ := hB1.cs
 have c2' : (w.alloc (.cells #[.string s, .int .i64 (n : Int)] 80)).cell? ⟨b, 2, none⟩ = some (.map (some mf)) := c2
 simp only [predV] at hlk hkey ⊢
 have hnew : (w.alloc (.cells #[.string s, .int .i64 (n : Int)] 80)).drew.heap[w.heap.size]? = _ := World.alloc_heap_new w (.cells #[.string s, .int .i64 (n : Int)] 80)
 have hlt1 := hb.lt
 have hlt2 := hm.lt
 obtain ⟨V1, hV1⟩ : ∃ V1, (w.alloc (.cells #[.string s, .int .i64 (n : Int)] 80)).drew = V1 := ⟨_, rfl⟩
 have hsz : V1.heap.size = w.heap.size + 1 := by rw [← hV1]; show (w.alloc (.cells #[.string s, .int .i64 (n : Int)] 80)).heap.size = _; simp
 have HV1 := hide hV1
 rw [hV1] at hb1 hm1 hB1 hnew
 clear hV1
 have hb3 : Below V1.heap.size V1 ((V1.alloc (.map #[] 0)).alloc (.cells #[.pointer none, .map (some V1.heap.size)] 106)).drew := (((Below.refl _ V1).alloc (Nat.le_refl _) _).alloc (by simp) _).drew
 have hm3 := hm1.kept (hb3.block mf hm1.lt)
 have hB3 : BsBlk ((V1.alloc (.map #[] 0)).alloc (.cells #[.pointer none, .map (some V1.heap.size)] 106)).drew b laid me mf := (hb3.block b hB1.lt).trans hB1
 have hn3 := (hb3.block w.heap.size (by omega)).trans hnew
 have hf3 : ((V1.alloc (.map #[] 0)).alloc (.cells #[.pointer none, .map (some V1.heap.size)] 106)).drew.heap[V1.heap.size + 1]? = some (.cells #[.pointer none, .map (some V1.heap.size)] 106 (0, 0)) := by
  have h := World.alloc_heap_new (V1.alloc (.map #[] 0)) (.cells #[.pointer none, .map (some V1.heap.size)] 106)
  rw [World.size_alloc] at h
  exact h
 have hk3 : PM 89 ((V1.alloc (.map #[] 0)).alloc (.cells #[.pointer none, .map (some V1.heap.size)] 106)).drew V1.heap.size 0 (fun _ => none) := (PM.made 89 V1).kept (Below.heap_alloc _ _ _ (by simp))
 obtain ⟨W', hup, hpm, hgr⟩ := hm3.put Tryz.keyedPred Tryz.underlying55 hcnt hkey ⟨V1.heap.size + 1, 0, none⟩
 obtain ⟨_, _, d2, _⟩ := hB3.cs
 have d2' : ((V1.alloc (.map #[] 0)).alloc (.cells #[.pointer none, .map (some V1.heap.size)] 106)).cell? ⟨b, 2, none⟩ = some (.map (some mf)) := d2
 have n0 : ((V1.alloc (.map #[] 0)).alloc (.cells #[.pointer none, .map (some V1.heap.size)] 106)).cell? ⟨w.heap.size, 0, none⟩ = some (.string s) := by
  have : ((V1.alloc (.map #[] 0)).alloc (.cells #[.pointer none, .map (some V1.heap.size)] 106)).heap[w.heap.size]? = _ := hn3
  simp [World.cell?, this]
 have n1 : ((V1.alloc (.map #[] 0)).alloc (.cells #[.pointer none, .map (some V1.heap.size)] 106)).cell? ⟨w.heap.size, 1, none⟩ = some (.int .i64 (n : Int)) := by
  have : ((V1.alloc (.map #[] 0)).alloc (.cells #[.pointer none, .map (some V1.heap.size)] 106)).heap[w.heap.size]? = _ := hn3
  simp [World.cell?, this]
 have hsz3 : (((V1.alloc (.map #[] 0)).alloc (.cells #[.pointer none, .map (some V1.heap.size)] 106)).drew).heap.size = V1.heap.size + 2 := by
  show ((V1.alloc (.map #[] 0)).alloc (.cells #[.pointer none, .map (some V1.heap.size)] 106)).heap.size = _
  simp
 have hfin : FamNew W' (V1.heap.size + 1) V1.heap.size := ⟨(hgr.block _ (by omega) (by simp; omega)).trans hf3, hk3.kept (hgr.block _ (by omega) (by simp; omega))⟩
 have hgf : GrB (fun k => k = mf) w.heap.size w W' := ⟨(hgr.os.trans hb3.os).trans hb1.os, (hgr.tape.trans hb3.tape).trans hb1.tape, (hgr.output.trans hb3.output).trans hb1.output, by have := hgr.size; omega, fun k hk hx => (hgr.block k (by omega) (by simpa using hx)).trans ((hb3.block k (by omega)).trans (hb1.block k hk))⟩
 have HF := hide (And.intro hfin (And.intro hpm (And.intro hgf hsz)))
 clear hb hm hb1 hm1 hB1 hkey hnew hcnt hg hs hn hb3 hm3 hB3 hn3 hf3 hk3 hpm hgr hfin hgf hsz3 d2 c0 c1 c2 hlt1 hlt2 hsz
 go_enter Tryz.func30, Tryz.ntmps30
 go_wp2_with fail
 go_region
 clear hlk c2'
 rw [unhide HV1]
 clear HV1
 go_wp2_with fail
 go_region
 all_goals
  clear hup d2' n0 n1 hmm
  go_wp2_with fail
  all_goals go_ret
  all_goals exact ⟨_, _, rfl, by have := HF.out.2.2.2; omega, by have := HF.out.2.2.2; omega, by omega, HF.out.1, HF.out.2.1, HF.out.2.2.1⟩
end Go.Proofs.YtlbobmebbllifaaGreat
