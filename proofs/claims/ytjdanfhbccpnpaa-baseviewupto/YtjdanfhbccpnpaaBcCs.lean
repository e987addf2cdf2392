import Derived.Test.YtjdanfhbccpnpaaBcAs
import Derived.Test.YtjdanfhbccpnpaaMns
import Derived.Deep.RegionHeld3
import Derived.StringKeys
import Derived.DeepKeys4
/- Trees in memory; base's after, earlier, idAt, with of no tree, letThrough of no key, New. -/
namespace Go.Proofs.Ytjdanfhbccpnpaa
open Go.RowKit Go.Shelf Go.Maps

/-- A tree of so many storeys at most: a node's block, its entry's block and place, its height, left and right. -/
def Tr : Nat → Type
  | 0 => Unit
  | n + 1 => Option (Nat × Nat × Int × Int × Tr n × Tr n)
def nodeT {n : Nat} (tb eb : Nat) (pl h : Int) (l r : Tr n) : Tr (n + 1) := (some (tb, eb, pl, h, l, r) : Option (Nat × Nat × Int × Int × Tr n × Tr n))
/-- A tree lies in memory, at a pointer. -/
def TrIs (W : World) : {n : Nat} → Tr n → Option Addr → Prop
  | 0, _, p => p = none
  | n + 1, t, p => match (t : Option (Nat × Nat × Int × Int × Tr n × Tr n)) with
    | none => p = none
    | some (tb, eb, pl, h, l, r) => p = some ⟨tb, 0, none⟩ ∧ ∃ lp rp, W.heap[tb]? = some (.cells #[.pointer (some ⟨eb, 0, none⟩), .pointer lp, .pointer rp, .int .i64 h] 117 (0, 0)) ∧ W.cell? ⟨eb, 0, none⟩ = some (.int .i64 pl) ∧ TrIs W l lp ∧ TrIs W r rp
/-- The first entry behind a place. -/
def afterT : {n : Nat} → Tr n → Int → Option Nat → Option Nat
  | 0, _, _, f => f
  | n + 1, t, p, f => match (t : Option (Nat × Nat × Int × Int × Tr n × Tr n)) with
    | none => f
    | some (_, eb, pl, _, l, r) => if p < pl then afterT l p (some eb) else afterT r p f
def ptrE (f : Option Nat) : Value := .pointer (f.map fun b => ⟨b, 0, none⟩)
/-- How many nodes a tree has. -/
def nodesT : {n : Nat} → Tr n → Nat
  | 0, _ => 0
  | n + 1, t => match (t : Option (Nat × Nat × Int × Int × Tr n × Tr n)) with
    | none => 0
    | some (_, _, _, _, l, r) => nodesT l + nodesT r + 1
def ptrOf : Value → Option Addr
  | .pointer p => p
  | _ => none
/-- The same, read off memory. -/
def nodesAt (W : World) : Nat → Option Addr → Nat
  | 0, _ => 0
  | _ + 1, none => 0
  | k + 1, some a => match W.heap[a.block]? with
    | some (.cells arr _ _) => nodesAt W k (ptrOf (arr.getD 1 undef)) + nodesAt W k (ptrOf (arr.getD 2 undef)) + 1
    | _ => 0
theorem nodesAt_is {W : World} : ∀ {n : Nat} {t : Tr n} {p : Option Addr}, TrIs W t p → ∀ k, n ≤ k → nodesAt W k p = nodesT t := by
  intro n
  induction n with
  | zero =>
    intro t p h k _
    obtain rfl : p = none := h
    cases k <;> rfl
  | succ n ih =>
    intro t p h k hk
    obtain ⟨k, rfl⟩ : ∃ j, k = j + 1 := ⟨k - 1, by omega⟩
    match t, h with
    | none, h =>
      obtain rfl : p = none := h
      rfl
    | some (tb, eb, pl, ht, l, r), h =>
      obtain ⟨rfl, lp, rp, hb, _, hl, hr⟩ := h
      show (match W.heap[tb]? with | some (.cells arr _ _) => nodesAt W k (ptrOf (arr.getD 1 undef)) + nodesAt W k (ptrOf (arr.getD 2 undef)) + 1 | _ => 0) = nodesT l + nodesT r + 1
      rw [hb]
      show nodesAt W k lp + nodesAt W k rp + 1 = _
      rw [ih hl k (by omega), ih hr k (by omega)]
set_option maxRecDepth 100000 in
set_option maxHeartbeats 1000000 in
theorem after_any {n : Nat} (t : Tr n) (p : Option Addr) (pl : Int) (w : World) (ht : TrIs w t p) : Calls Try.prog 44 #[.pointer p, .int .i64 pl] w fun e W' => e = .returned (ptrE (afterT t pl none)) ∧ Below w.heap.size w W' := by
  generalize hR : afterT t pl none = R
  go_enter Try.func44, Try.ntmps44
  go_wp2_with fail
  go_loopw [0, 5] (fun q f wr => ∃ (m : Nat) (s : Tr m) (qp : Option Addr) (fe : Option Nat), m ≤ n ∧ q = .pointer qp ∧ f = ptrE fe ∧ TrIs w s qp ∧ afterT s pl fe = R ∧ Below w.heap.size w wr ∧ ∀ k o, wr.cell? ⟨k, o, none⟩ = w.cell? ⟨k, o, none⟩) (fun q _ _ => nodesAt w n (ptrOf q))
  case atStart => exact ⟨n, t, p, none, Nat.le_refl _, rfl, rfl, ht, hR, Below.refl _ _, fun _ _ => rfl⟩
  case round =>
    obtain ⟨m, s, qp, fe, hm, rfl, rfl, hs, hr, hb, hcell⟩ := hrel
    match m, s, hs, hr with
    | 0, s, hs, hr =>
      obtain rfl : qp = none := hs
      obtain rfl : fe = R := hr
      clear ht hR
      simp only [ptrE]
      go_wp2_with fail
      all_goals go_ret
      all_goals exact ⟨rfl, hb⟩
    | m + 1, none, hs, hr =>
      obtain rfl : qp = none := hs
      obtain rfl : fe = R := hr
      clear ht hR
      simp only [ptrE]
      go_wp2_with fail
      all_goals go_ret
      all_goals exact ⟨rfl, hb⟩
    | m + 1, some (tb, eb, ep, eh, l, r), hs, hr =>
      have hnode := nodesAt_is (t := nodeT tb eb ep eh l r) hs n (by omega)
      obtain ⟨rfl, lp, rp, hblk, hep, hl, hrr⟩ := hs
      have hnl := nodesAt_is hl n (by omega)
      have hnr := nodesAt_is hrr n (by omega)
      have hns : nodesT (nodeT tb eb ep eh l r) = nodesT l + nodesT r + 1 := rfl
      have hr : (if pl < ep then afterT l pl (some eb) else afterT r pl fe) = R := hr
      have c0 : wr.cell? ⟨tb, 0, none⟩ = some (.pointer (some ⟨eb, 0, none⟩)) := by rw [hcell]; simp [World.cell?, hblk]
      have c1 : wr.cell? ⟨tb, 1, none⟩ = some (.pointer lp) := by rw [hcell]; simp [World.cell?, hblk]
      have c2 : wr.cell? ⟨tb, 2, none⟩ = some (.pointer rp) := by rw [hcell]; simp [World.cell?, hblk]
      have e0 : wr.cell? ⟨eb, 0, none⟩ = some (.int .i64 ep) := by rw [hcell]; exact hep
      by_cases hlt : pl < ep
      · rw [if_pos hlt] at hr
        have HK := hide (And.intro hl (And.intro hr (And.intro hb (And.intro hcell (And.intro hnode (And.intro hnl hns))))))
        have hlt' : ep > pl := hlt
        clear hl hr hb hcell hnode hnl hns hnr hrr ht hR hblk hep
        go_wp2_with fail
        go_region
        all_goals
          go_wp2_with fail
          go_roundw
          case rel => exact ⟨m, l, lp, some eb, by omega, rfl, rfl, HK.out.1, HK.out.2.1, HK.out.2.2.1.drew, HK.out.2.2.2.1⟩
          case measure =>
            obtain ⟨_, _, _, _, k1, k2, k3⟩ := HK.out
            show nodesAt w n lp < nodesAt w n (some ⟨tb, 0, none⟩)
            omega
      · rw [if_neg hlt] at hr
        have HK := hide (And.intro hrr (And.intro hr (And.intro hb (And.intro hcell (And.intro hnode (And.intro hnr hns))))))
        clear hl hr hb hcell hnode hnl hns hnr hrr ht hR hblk hep
        go_wp2_with fail
        go_roundw
        case rel => exact ⟨m, r, rp, fe, by omega, rfl, rfl, HK.out.1, HK.out.2.1, HK.out.2.2.1, HK.out.2.2.2.1⟩
        case measure =>
          obtain ⟨_, _, _, _, k1, k2, k3⟩ := HK.out
          show nodesAt w n rp < nodesAt w n (some ⟨tb, 0, none⟩)
          omega
set_option maxRecDepth 100000 in
set_option maxHeartbeats 1000000 in
theorem with_nil (e : Option Addr) (w : World) : Calls Try.prog 38 #[.pointer none, .pointer e] w fun e' W' => e' = .returned (.pointer (some ⟨w.heap.size, 0, none⟩)) ∧ W' = w.alloc (.cells #[.pointer e, .pointer none, .pointer none, .int .i64 1] 117) := by
  have hg := grown_any none e none 0 0 w (.inl ⟨rfl, rfl⟩) (.inl ⟨rfl, rfl⟩) (by omega) (by omega)
  go_enter Try.func38, Try.ntmps38
  go_wp2_with fail
  refine hg.mono ?_
  rintro e1 W1 ⟨rfl, rfl⟩
  clear hg
  go_wp2_with fail
  all_goals go_ret
  all_goals exact ⟨rfl, rfl⟩
set_option maxHeartbeats 1000000 in
theorem earlier_left (x : Option Nat) (w : World) : Calls Try.prog 43 #[ptrE x, ptrE none] w fun e W' => e = .returned (ptrE x) ∧ Below w.heap.size w W' := by
  cases x with
  | none =>
    simp only [ptrE, Option.map_none]
    go_enter Try.func43, Try.ntmps43
    go_wp2_with fail
    go_region
    all_goals
      go_wp2_with fail
      all_goals go_ret
      all_goals exact ⟨rfl, (Below.refl _ _).drew⟩
  | some b =>
    simp only [ptrE, Option.map_some, Option.map_none]
    go_enter Try.func43, Try.ntmps43
    go_wp2_with fail
    go_region
    all_goals
      go_wp2_with fail
      all_goals go_ret
      all_goals exact ⟨rfl, (Below.refl _ _).drew⟩
set_option maxHeartbeats 1000000 in
theorem idAt_any (p : Int) (w : World) (h0 : -9223372036854775808 < p) (h1 : p ≤ 9223372036854775807) : Calls Try.prog 31 #[.int .i64 p] w fun e W' => e = .returned (.int .i64 (max p (-p))) ∧ W' = w := by
  go_enter Try.func31, Try.ntmps31
  go_wp2_with fail
  all_goals go_ret
  all_goals exact ⟨rfl, rfl⟩
end Go.Proofs.Ytjdanfhbccpnpaa

/- Maps of pointers that the call made; keys of base's maps. -/
namespace Go.Proofs.Ytjdanfhbccpnpaa
open Go.RowKit Go.Shelf Go.Maps

/-- How a pointer reads as a map's element: as itself. -/
def ptrElem (v : Value) : Option (DataW (Option Addr) × List MemPlace) :=
  match v with
  | .pointer p => some (.held p, [])
  | _ => none
theorem ptrElem_inv {v : Value} {z : DataW (Option Addr) × List MemPlace} (h : ptrElem v = some z) : ∃ p, v = .pointer p ∧ z = (.held p, []) := by
  unfold ptrElem at h
  split at h
  · cases h; exact ⟨_, rfl, rfl⟩
  · cases h
/-- A map of pointers, by what each key leads to. -/
def PM (k : TypeId) (W : World) (b n : Nat) (g : Lit → Option Addr) : Prop :=
  ∃ E : DataW (Option Addr), W.ownsMap Try.prog k ptrElem b n E ∧ ∀ kl, Maps.has E kl = (g kl).isSome ∧ ∀ a, g kl = some a → ∀ z, E.atKey kl z = .held (some a)
theorem PM.lt {k : TypeId} {W : World} {b n : Nat} {g : Lit → Option Addr} (h : PM k W b n g) : b < W.heap.size := by obtain ⟨E, h1, _⟩ := h; exact h1.lt
theorem PM.made (k : TypeId) (W : World) : PM k (W.alloc (.map #[] 0)) W.heap.size 0 (fun _ => none) := ⟨.map [], World.ownsMap_made W Try.prog k ptrElem, fun kl => ⟨by simp [Maps.has], fun a h => by cases h⟩⟩
theorem PM.kept {k : TypeId} {A W : World} {b n : Nat} {g : Lit → Option Addr} (h : PM k A b n g) (hb : W.heap[b]? = A.heap[b]?) : PM k W b n g := by
  obtain ⟨E, ⟨es, clock, e1, e2⟩, h2⟩ := h
  exact ⟨E, ⟨es, clock, hb.trans e1, e2⟩, h2⟩
theorem PM.look {t k e : TypeId} {W : World} {b n : Nat} {g : Lit → Option Addr} (h : PM k W b n g) (K : Keyed Try.prog k) (ht : Try.prog.underlying t = some (.map k e)) (hz : (zeroValue e).run Try.prog W = .ok (.pointer none) W) {key : Value} {kl : Lit} (hkey : keyOf Try.prog k key = some kl) :
    (Instr.lookup t (.map (some b)) key true).run Try.prog W = .ok (.tuple #[.pointer (g kl), .bool (g kl).isSome]) W := by
  obtain ⟨E, h1, h2⟩ := h
  obtain ⟨v, ps, hrun, hv⟩ := h1.look_ok K ht hz (zd := .held none) (zp := []) rfl hkey
  obtain ⟨p, rfl, hp⟩ := ptrElem_inv hv
  rw [(h2 kl).1] at hrun
  cases hg : g kl with
  | none =>
    have hf : Maps.has E kl = false := by rw [(h2 kl).1, hg]; rfl
    rw [atKey_of_not_has hf] at hp
    simp at hp
    rw [hrun, ← hp.1, hg]
  | some a =>
    rw [(h2 kl).2 a hg] at hp
    simp at hp
    rw [hrun, ← hp.1, hg]
theorem PM.look1 {t k e : TypeId} {W : World} {b n : Nat} {g : Lit → Option Addr} (h : PM k W b n g) (K : Keyed Try.prog k) (ht : Try.prog.underlying t = some (.map k e)) (hz : (zeroValue e).run Try.prog W = .ok (.pointer none) W) {key : Value} {kl : Lit} (hkey : keyOf Try.prog k key = some kl) :
    (Instr.lookup t (.map (some b)) key false).run Try.prog W = .ok (.pointer (g kl)) W := by
  obtain ⟨E, h1, h2⟩ := h
  obtain ⟨v, ps, hrun, hv⟩ := h1.lookup K ht hz (zd := .held none) (zp := []) rfl hkey
  obtain ⟨p, rfl, hp⟩ := ptrElem_inv hv
  cases hg : g kl with
  | none =>
    have hf : Maps.has E kl = false := by rw [(h2 kl).1, hg]; rfl
    rw [atKey_of_not_has hf] at hp
    simp at hp
    rw [hrun, ← hp.1]
  | some a =>
    rw [(h2 kl).2 a hg] at hp
    simp at hp
    rw [hrun, ← hp.1]
open Classical in
noncomputable def updL (g : Lit → Option Addr) (kl : Lit) (a : Addr) : Lit → Option Addr := fun x => if x = kl then some a else g x
theorem PM.put {t k e : TypeId} {W : World} {b n : Nat} {g : Lit → Option Addr} (h : PM k W b n g) (K : Keyed Try.prog k) (ht : Try.prog.underlying t = some (.map k e)) (hn : n < maxLen) {key : Value} {kl : Lit} (hkey : keyOf Try.prog k key = some kl) (a : Addr) :
    ∃ W', (Instr.mapUpdate t (.map (some b)) key (.pointer (some a))).run Try.prog W = .ok () W' ∧ PM k W' b (n + 1) (updL g kl a) ∧ W.grownBy W' (some b) := by
  obtain ⟨E, h1, h2⟩ := h
  have hm := h1.isMap
  have hkl : WideAt.IsKeyLit kl := K.key hkey
  obtain ⟨W', hrun, f1, f2⟩ := h1.update K ht hn (val := .pointer (some a)) (d := .held (some a)) (ps := []) hkey rfl
  refine ⟨W', hrun, ⟨_, f1, fun x => ?_⟩, f2⟩
  unfold updL
  by_cases e : x = kl
  · subst e
    rw [if_pos rfl, has_put_same hm hkl]
    exact ⟨rfl, fun a' h z => by cases h; exact atKey_put_same hm hkl _ _⟩
  · rw [if_neg e, has_put_other e]
    refine ⟨(h2 x).1, fun a' h z => ?_⟩
    rw [atKey_put_other e]
    exact (h2 x).2 a' h z

theorem Try.keyed3 : Keyed Try.prog 3 := int_keyed Try.underlying3
theorem Try.laidOutB : laidOutB Try.prog = true := by kernel_rfl
theorem Try.keyedPred : Keyed Try.prog 74 := Keyed.of_law (deep_law_laid Try.laidOutB (m := 2) (by omega) (of_decide_eq_true (by kernel_rfl)) (by kernel_rfl) (by rw [Try.underlying74]))
theorem Try.keyedKey : Keyed Try.prog 81 := Keyed.of_law (deep_law_laid Try.laidOutB (m := 2) (by omega) (of_decide_eq_true (by kernel_rfl)) (by kernel_rfl) (by rw [Try.underlying81]))
def predL (s : ByteArray) (n : Nat) : Lit := .string (keyBytes [.string s.data.toList, .int .i64 (n : Int)])
def keyL (k N : Int) (s : ByteArray) (n : Nat) : Lit := .string (keyBytes [.int .i64 k, .int .i64 N, .string s.data.toList, .int .i64 (n : Int)])
theorem lits_str (d : Nat) (s : ByteArray) (hs : s.size ≤ maxLen) : Try.prog.keyLits (d + 1) 9 [.string s] = some [.string s.data.toList] := by
  unfold Program.keyLits
  rw [Try.underlying9]
  simp [hs]
theorem lits_int (d : Nat) (n : Int) (h0 : -9223372036854775808 ≤ n) (h1 : n ≤ 9223372036854775807) : Try.prog.keyLits (d + 1) 3 [.int .i64 n] = some [.int .i64 n] ∧ Try.prog.keyLits (d + 1) 2 [.int .i64 n] = some [.int .i64 n] := by
  have hw : (Lit.int .i64 n).wf = true := by simp [Lit.wf, IntKind.min, IntKind.max, IntKind.signed, IntKind.bits]; omega
  refine ⟨?_, ?_⟩
  · unfold Program.keyLits
    rw [Try.underlying3]
    simp [hw]
  · unfold Program.keyLits
    rw [Try.underlying2]
    simp [hw]
theorem cells_of : Try.prog.cellsOf 9 = 1 ∧ Try.prog.cellsOf 3 = 1 ∧ Try.prog.cellsOf 2 = 1 := ⟨by kernel_rfl, by kernel_rfl, by kernel_rfl⟩
theorem pred_key (s : ByteArray) (n : Nat) (hs : s.size ≤ maxLen) (hn : n ≤ 9223372036854775807) : keyOf Try.prog 74 (predV s n) = some (predL s n) := by
  have hk : Try.prog.keyType 74 = true := by kernel_rfl
  have hc : Try.prog.cellsOf 74 = 2 := by kernel_rfl
  obtain ⟨h9, h3, h2⟩ := cells_of
  have hf : Value.formed Try.prog 74 (.agg #[.string s, .int .i64 (n : Int)]) = true := by simp [Value.formed, Try.underlying74, hc]
  obtain ⟨m, hm⟩ : ∃ m, Try.prog.types.size = m + 1 := ⟨Try.prog.types.size - 1, by have : 0 < Try.prog.types.size := of_decide_eq_true (by kernel_rfl); omega⟩
  unfold keyOf
  rw [Try.underlying74]
  simp only [predV, hk, hf, Bool.and_self, if_true, hm]
  unfold Program.keyLits
  simp only [Try.underlying74]
  have l1 := lits_str m s hs
  have l2 := (lits_int m (n : Int) (by omega) (by omega)).1
  rw [if_pos ⟨by rw [hc]; rfl, by decide +kernel⟩]
  simp only [List.mapM_cons, List.mapM_nil, h9, h3, Value.cells, List.drop_zero, List.drop_succ_cons, List.take_succ_cons, List.take_zero]
  rw [l1, l2]
  rfl
theorem key_key (k N : Int) (s : ByteArray) (n : Nat) (hs : s.size ≤ maxLen) (hn : n ≤ 9223372036854775807) (hk0 : -9223372036854775808 ≤ k) (hk1 : k ≤ 9223372036854775807) (hN0 : -9223372036854775808 ≤ N) (hN1 : N ≤ 9223372036854775807) : keyOf Try.prog 81 (keyV k N s n) = some (keyL k N s n) := by
  have hk : Try.prog.keyType 81 = true := by kernel_rfl
  have hc : Try.prog.cellsOf 81 = 4 := by kernel_rfl
  obtain ⟨h9, h3, h2⟩ := cells_of
  have hf : Value.formed Try.prog 81 (.agg #[.int .i64 k, .int .i64 N, .string s, .int .i64 (n : Int)]) = true := by simp [Value.formed, Try.underlying81, hc]
  obtain ⟨m, hm⟩ : ∃ m, Try.prog.types.size = m + 1 := ⟨Try.prog.types.size - 1, by have : 0 < Try.prog.types.size := of_decide_eq_true (by kernel_rfl); omega⟩
  unfold keyOf
  rw [Try.underlying81]
  simp only [keyV, hk, hf, Bool.and_self, if_true, hm]
  unfold Program.keyLits
  simp only [Try.underlying81]
  have l1 := lits_str m s hs
  have l2 := (lits_int m (n : Int) (by omega) (by omega)).1
  have l3 := (lits_int m k hk0 hk1).1
  have l4 := (lits_int m N hN0 hN1).2
  rw [if_pos ⟨by rw [hc]; rfl, by decide +kernel⟩]
  simp only [List.mapM_cons, List.mapM_nil, h9, h3, h2, Value.cells, List.drop_zero, List.drop_succ_cons, List.take_succ_cons, List.take_zero]
  rw [l1, l2, l3, l4]
  rfl
end Go.Proofs.Ytjdanfhbccpnpaa

