import Derived.Test.YtjdanfhbccpnpaaBcB
import Derived.Test.YtjdanfhbccpnpaaMn
import Derived.Deep.RegionHeld3
/- Trees in memory; base's after, earlier, idAt, with of no tree, letThrough of no key, New. -/
namespace Go.Proofs.Ytjdanfhbccpnpaa
open Go.RowKit Go.Shelf Go.Maps

/-- A tree of so many storeys at most: a node's block, its entry's block and place, its height, left and right. -/
def Tr : Nat → Type
  | 0 => Unit
  | n + 1 => Option (Nat × Nat × Int × Int × Tr n × Tr n)
def nodeT {n : Nat} (tb eb : Nat) (pl h : Int) (l r : Tr n) : Tr (n + 1) := (some (tb, eb, pl, h, l, r) : Option (Nat × Nat × Int × Int × Tr n × Tr n))
/-- A tree lies in memory, at a pointer. -/
def TrIs (W : World) : {n : Nat} → Tr n → Option Addr → Prop
  | 0, _, p => p = none
  | n + 1, t, p => match (t : Option (Nat × Nat × Int × Int × Tr n × Tr n)) with
    | none => p = none
    | some (tb, eb, pl, h, l, r) => p = some ⟨tb, 0, none⟩ ∧ ∃ lp rp, W.heap[tb]? = some (.cells #[.pointer (some ⟨eb, 0, none⟩), .pointer lp, .pointer rp, .int .i64 h] 117 (0, 0)) ∧ W.cell? ⟨eb, 0, none⟩ = some (.int .i64 pl) ∧ TrIs W l lp ∧ TrIs W r rp
/-- The first entry behind a place. -/
def afterT : {n : Nat} → Tr n → Int → Option Nat → Option Nat
  | 0, _, _, f => f
  | n + 1, t, p, f => match (t : Option (Nat × Nat × Int × Int × Tr n × Tr n)) with
    | none => f
    | some (_, eb, pl, _, l, r) => if p < pl then afterT l p (some eb) else afterT r p f
def ptrE (f : Option Nat) : Value := .pointer (f.map fun b => ⟨b, 0, none⟩)
/-- How many nodes a tree has. -/
def nodesT : {n : Nat} → Tr n → Nat
  | 0, _ => 0
  | n + 1, t => match (t : Option (Nat × Nat × Int × Int × Tr n × Tr n)) with
    | none => 0
    | some (_, _, _, _, l, r) => nodesT l + nodesT r + 1
def ptrOf : Value → Option Addr
  | .pointer p => p
  | _ => none
/-- The same, read off memory. -/
def nodesAt (W : World) : Nat → Option Addr → Nat
  | 0, _ => 0
  | _ + 1, none => 0
  | k + 1, some a => match W.heap[a.block]? with
    | some (.cells arr _ _) => nodesAt W k (ptrOf (arr.getD 1 undef)) + nodesAt W k (ptrOf (arr.getD 2 undef)) + 1
    | _ => 0
theorem nodesAt_is {W : World} : ∀ {n : Nat} {t : Tr n} {p : Option Addr}, TrIs W t p → ∀ k, n ≤ k → nodesAt W k p = nodesT t := by
  intro n
  induction n with
  | zero =>
    intro t p h k _
    obtain rfl : p = none := h
    cases k <;> rfl
  | succ n ih =>
    intro t p h k hk
    obtain ⟨k, rfl⟩ : ∃ j, k = j + 1 := ⟨k - 1, by omega⟩
    match t, h with
    | none, h =>
      obtain rfl : p = none := h
      rfl
    | some (tb, eb, pl, ht, l, r), h =>
      obtain ⟨rfl, lp, rp, hb, _, hl, hr⟩ := h
      show (match W.heap[tb]? with | some (.cells arr _ _) => nodesAt W k (ptrOf (arr.getD 1 undef)) + nodesAt W k (ptrOf (arr.getD 2 undef)) + 1 | _ => 0) = nodesT l + nodesT r + 1
      rw [hb]
      show nodesAt W k lp + nodesAt W k rp + 1 = _
      rw [ih hl k (by omega), ih hr k (by omega)]
set_option maxRecDepth 100000 in
set_option maxHeartbeats 1000000 in
theorem after_any {n : Nat} (t : Tr n) (p : Option Addr) (pl : Int) (w : World) (ht : TrIs w t p) : Calls Try.prog 44 #[.pointer p, .int .i64 pl] w fun e W' => e = .returned (ptrE (afterT t pl none)) ∧ Below w.heap.size w W' := by
  generalize hR : afterT t pl none = R
  go_enter Try.func44, Try.ntmps44
  go_wp2_with fail
  go_loopw [0, 5] (fun q f wr => ∃ (m : Nat) (s : Tr m) (qp : Option Addr) (fe : Option Nat), m ≤ n ∧ q = .pointer qp ∧ f = ptrE fe ∧ TrIs w s qp ∧ afterT s pl fe = R ∧ Below w.heap.size w wr ∧ ∀ k o, wr.cell? ⟨k, o, none⟩ = w.cell? ⟨k, o, none⟩) (fun q _ _ => nodesAt w n (ptrOf q))
  case atStart => exact ⟨n, t, p, none, Nat.le_refl _, rfl, rfl, ht, hR, Below.refl _ _, fun _ _ => rfl⟩
  case round =>
    obtain ⟨m, s, qp, fe, hm, rfl, rfl, hs, hr, hb, hcell⟩ := hrel
    match m, s, hs, hr with
    | 0, s, hs, hr =>
      obtain rfl : qp = none := hs
      obtain rfl : fe = R := hr
      clear ht hR
      simp only [ptrE]
      go_wp2_with fail
      all_goals go_ret
      all_goals exact ⟨rfl, hb⟩
    | m + 1, none, hs, hr =>
      obtain rfl : qp = none := hs
      obtain rfl : fe = R := hr
      clear ht hR
      simp only [ptrE]
      go_wp2_with fail
      all_goals go_ret
      all_goals exact ⟨rfl, hb⟩
    | m + 1, some (tb, eb, ep, eh, l, r), hs, hr =>
      have hnode := nodesAt_is (t := nodeT tb eb ep eh l r) hs n (by omega)
      obtain ⟨rfl, lp, rp, hblk, hep, hl, hrr⟩ := hs
      have hnl := nodesAt_is hl n (by omega)
      have hnr := nodesAt_is hrr n (by omega)
      have hns : nodesT (nodeT tb eb ep eh l r) = nodesT l + nodesT r + 1 := rfl
      have hr : (if pl < ep then afterT l pl (some eb) else afterT r pl fe) = R := hr
      have c0 : wr.cell? ⟨tb, 0, none⟩ = some (.pointer (some ⟨eb, 0, none⟩)) := by rw [hcell]; simp [World.cell?, hblk]
      have c1 : wr.cell? ⟨tb, 1, none⟩ = some (.pointer lp) := by rw [hcell]; simp [World.cell?, hblk]
      have c2 : wr.cell? ⟨tb, 2, none⟩ = some (.pointer rp) := by rw [hcell]; simp [World.cell?, hblk]
      have e0 : wr.cell? ⟨eb, 0, none⟩ = some (.int .i64 ep) := by rw [hcell]; exact hep
      by_cases hlt : pl < ep
      · rw [if_pos hlt] at hr
        have HK := hide (And.intro hl (And.intro hr (And.intro hb (And.intro hcell (And.intro hnode (And.intro hnl hns))))))
        have hlt' : ep > pl := hlt
        clear hl hr hb hcell hnode hnl hns hnr hrr ht hR hblk hep
        go_wp2_with fail
        go_region
        all_goals
          go_wp2_with fail
          go_roundw
          case rel => exact ⟨m, l, lp, some eb, by omega, rfl, rfl, HK.out.1, HK.out.2.1, HK.out.2.2.1.drew, HK.out.2.2.2.1⟩
          case measure =>
            obtain ⟨_, _, _, _, k1, k2, k3⟩ := HK.out
            show nodesAt w n lp < nodesAt w n (some ⟨tb, 0, none⟩)
            omega
      · rw [if_neg hlt] at hr
        have HK := hide (And.intro hrr (And.intro hr (And.intro hb (And.intro hcell (And.intro hnode (And.intro hnr hns))))))
        clear hl hr hb hcell hnode hnl hns hnr hrr ht hR hblk hep
        go_wp2_with fail
        go_roundw
        case rel => exact ⟨m, r, rp, fe, by omega, rfl, rfl, HK.out.1, HK.out.2.1, HK.out.2.2.1, HK.out.2.2.2.1⟩
        case measure =>
          obtain ⟨_, _, _, _, k1, k2, k3⟩ := HK.out
          show nodesAt w n rp < nodesAt w n (some ⟨tb, 0, none⟩)
          omega
set_option maxRecDepth 100000 in
set_option maxHeartbeats 1000000 in
theorem with_nil (e : Option Addr) (w : World) : Calls Try.prog 38 #[.pointer none, .pointer e] w fun e' W' => e' = .returned (.pointer (some ⟨w.heap.size, 0, none⟩)) ∧ W' = w.alloc (.cells #[.pointer e, .pointer none, .pointer none, .int .i64 1] 117) := by
  have hg := grown_any none e none 0 0 w (.inl ⟨rfl, rfl⟩) (.inl ⟨rfl, rfl⟩) (by omega) (by omega)
  go_enter Try.func38, Try.ntmps38
  go_wp2_with fail
  refine hg.mono ?_
  rintro e1 W1 ⟨rfl, rfl⟩
  clear hg
  go_wp2_with fail
  all_goals go_ret
  all_goals exact ⟨rfl, rfl⟩
set_option maxHeartbeats 1000000 in
theorem earlier_left (x : Option Nat) (w : World) : Calls Try.prog 43 #[ptrE x, ptrE none] w fun e W' => e = .returned (ptrE x) ∧ Below w.heap.size w W' := by
  cases x with
  | none =>
    simp only [ptrE, Option.map_none]
    go_enter Try.func43, Try.ntmps43
    go_wp2_with fail
    go_region
    all_goals
      go_wp2_with fail
      all_goals go_ret
      all_goals exact ⟨rfl, (Below.refl _ _).drew⟩
  | some b =>
    simp only [ptrE, Option.map_some, Option.map_none]
    go_enter Try.func43, Try.ntmps43
    go_wp2_with fail
    go_region
    all_goals
      go_wp2_with fail
      all_goals go_ret
      all_goals exact ⟨rfl, (Below.refl _ _).drew⟩
set_option maxHeartbeats 1000000 in
theorem idAt_any (p : Int) (w : World) (h0 : -9223372036854775808 < p) (h1 : p ≤ 9223372036854775807) : Calls Try.prog 31 #[.int .i64 p] w fun e W' => e = .returned (.int .i64 (max p (-p))) ∧ W' = w := by
  go_enter Try.func31, Try.ntmps31
  go_wp2_with fail
  all_goals go_ret
  all_goals exact ⟨rfl, rfl⟩
end Go.Proofs.Ytjdanfhbccpnpaa

