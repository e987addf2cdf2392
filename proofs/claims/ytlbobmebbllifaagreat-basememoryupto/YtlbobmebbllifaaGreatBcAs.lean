import Derived.Test.YtlbobmebbllifaaGreatBbG
import Derived.Test.YtlbobmebbllifaaGreatBbDs
import Derived.Deep.RegionHeld3
/- term.Copy, as base calls it. -/
namespace Go.Proofs.YtlbobmebbllifaaGreat
open Go.RowKit Go.Shelf
theorem copyOf_any {n : Nat} (t : Tm n) (W : World) (hT : IsT W.heap.size W t) (hok : okT t = true) : Calls Tryz.prog 56 #[t.tv.val] W fun e W' => ∃ x : TV, e = .returned x.val ∧ Below W.heap.size W W' ∧ HoldsL (n + 1) (W.heap.size ≤ ·) W' x.val (code t) :=
 (copy_any t W hT hok).mono fun e W' h => by
  obtain ⟨x, h1, h2, h3⟩ := h
  exact ⟨x, h1, h2, h3.holdsL⟩
/- base.predicateOf, keyOf, tall, grown, idAt. -/
set_option maxHeartbeats 1000000
set_option maxRecDepth 100000
def predV (s : ByteArray) (n : Nat) : Value := .agg #[.string s, .int .i64 (n : Int)]
def keyV (k N : Int) (s : ByteArray) (n : Nat) : Value := .agg #[.int .i64 k, .int .i64 N, .string s, .int .i64 (n : Int)]
theorem predicateOf_any (x : TV) (w : World) : Calls Tryz.prog 31 #[x.val] w fun e W' => e = .returned (predV x.s x.len) ∧ Below w.heap.size w W' := by
 obtain ⟨k, N, s, a, len, cap⟩ := x
 simp only [TV.val, predV]
 go_enter Tryz.func31, Tryz.ntmps31
 go_wp2_with fail
 exact bodyPost_ret (v := predV s len) (by simp [results, Tryz.results31, go_sem, predV]) rfl ⟨rfl, ((Below.refl _ w).alloc (Nat.le_refl _) _).alloc (by simp) _⟩
def keyOfT {n : Nat} (t : Tm (n + 1)) : Int × Int × ByteArray × Nat :=
 match t.kids with
 | [] => (0, 0, ⟨#[]⟩, 0)
 | u :: _ => if u.tv.k = 1 then (0, 0, ⟨#[]⟩, 0) else (u.tv.k, u.tv.N, u.tv.s, u.tv.len)
def keyOfV {n : Nat} (t : Tm (n + 1)) : Value := keyV (keyOfT t).1 (keyOfT t).2.1 (keyOfT t).2.2.1 (keyOfT t).2.2.2
theorem keyOf_none (k N : Int) (s : ByteArray) (a : Option Addr) (cap : Nat) (w : World) : Calls Tryz.prog 37 #[(⟨k, N, s, a, 0, cap⟩ : TV).val] w fun e W' => e = .returned (keyV 0 0 ⟨#[]⟩ 0) ∧ Below w.heap.size w W' := by
 simp only [TV.val]
 go_enter Tryz.func37, Tryz.ntmps37
 go_wp2_with fail
 exact bodyPost_ret (v := keyV 0 0 ⟨#[]⟩ 0) (by simp [results, Tryz.results37, go_sem, keyV]) rfl ⟨rfl, ((Below.refl _ w).alloc (Nat.le_refl _) _).alloc (by simp) _⟩
theorem keyOf_var (k N : Int) (s : ByteArray) (b off len cap : Nat) (u : TV) (w : World) (hl : 1 ≤ len) (hb : b < w.heap.size) (hu : cellsAt w b off u) (hk : u.k = 1) : Calls Tryz.prog 37 #[(⟨k, N, s, some ⟨b, off, none⟩, len, cap⟩ : TV).val] w fun e W' => e = .returned (keyV 0 0 ⟨#[]⟩ 0) ∧ Below w.heap.size w W' := by
 have hb2 : Below w.heap.size w ((w.alloc (.cells #[.int .i64 k, .int .i64 N, .string s, .slice (some ⟨b, off, none⟩) len cap] 24)).alloc (.cells #[.int .i64 0, .int .i64 0, .string ⟨#[]⟩, .int .i64 0] 89)) := ((Below.refl _ w).alloc (Nat.le_refl _) _).alloc (by simp) _
 obtain ⟨u0, u1, u2, u3⟩ := hu.kept (hb2.block b hb)
 rw [hk] at u0
 have hl0 : ((len : Int) == 0) = false := by simp; omega
 have hl1 : (0 : Int) < len := by omega
 clear hu u1 u2 u3 hk hb hb2
 simp only [TV.val]
 go_enter Tryz.func37, Tryz.ntmps37
 go_wp2_with fail
 exact bodyPost_ret (v := keyV 0 0 ⟨#[]⟩ 0) (by simp [results, Tryz.results37, go_sem, keyV]) rfl ⟨rfl, ((Below.refl _ w).alloc (Nat.le_refl _) _).alloc (by simp) _⟩
theorem keyOf_some (k N : Int) (s : ByteArray) (b off len cap : Nat) (u : TV) (w : World) (hl : 1 ≤ len) (hb : b < w.heap.size) (hu : cellsAt w b off u) (hk : ¬ u.k = 1) : Calls Tryz.prog 37 #[(⟨k, N, s, some ⟨b, off, none⟩, len, cap⟩ : TV).val] w fun e W' => e = .returned (keyV u.k u.N u.s u.len) ∧ Below w.heap.size w W' := by
 have hb2 : Below w.heap.size w ((w.alloc (.cells #[.int .i64 k, .int .i64 N, .string s, .slice (some ⟨b, off, none⟩) len cap] 24)).alloc (.cells #[.int .i64 0, .int .i64 0, .string ⟨#[]⟩, .int .i64 0] 89)) := ((Below.refl _ w).alloc (Nat.le_refl _) _).alloc (by simp) _
 obtain ⟨u0, u1, u2, u3⟩ := hu.kept (hb2.block b hb)
 have hk' : (u.k == 1) = false := by simpa using hk
 have hl0 : ((len : Int) == 0) = false := by simp; omega
 have hl1 : (0 : Int) < len := by omega
 clear hu hk hb hb2
 simp only [TV.val]
 go_enter Tryz.func37, Tryz.ntmps37
 go_wp2_with fail
 exact bodyPost_ret (v := keyV u.k u.N u.s u.len) (by simp [results, Tryz.results37, go_sem, keyV]) rfl ⟨rfl, (((Below.refl _ w).alloc (Nat.le_refl _) _).alloc (by simp) _).alloc (by simp; omega) _⟩
theorem keyOf_any {n : Nat} (t : Tm (n + 1)) (w : World) (hT : IsT w.heap.size w t) : Calls Tryz.prog 37 #[t.tv.val] w fun e W' => e = .returned (keyOfV t) ∧ Below w.heap.size w W' := by
 obtain ⟨⟨k, N, s, a, len, cap⟩, kids⟩ := t
 obtain ⟨h1, h2, h3, h4⟩ := hT
 simp only [Tm.tv, Tm.kids] at h1 h2 h3 h4
 cases kids with
 | nil =>
  obtain rfl : len = 0 := h1
  exact keyOf_none k N s a cap w
 | cons u r =>
  rcases h4 with h4 | ⟨b, off, rfl, hb, hk⟩
  ·cases h4
  ·obtain ⟨cu, _⟩ := hk 0 u rfl
   have cu' : cellsAt w b (off + 0 * 4) u.tv := cu
   rw [Nat.zero_mul, Nat.add_zero] at cu'
   have hl : 1 ≤ len := by simp at h1; omega
   by_cases hk1 : u.tv.k = 1
   ·have e : keyOfV (n := n) ((⟨k, N, s, some ⟨b, off, none⟩, len, cap⟩, u :: r) : TV × List (Tm n)) = keyV 0 0 ⟨#[]⟩ 0 := by
     unfold keyOfV keyOfT
     simp [Tm.kids, hk1]
    rw [e]
    exact keyOf_var k N s b off len cap u.tv w hl hb cu' hk1
   ·have e : keyOfV (n := n) ((⟨k, N, s, some ⟨b, off, none⟩, len, cap⟩, u :: r) : TV × List (Tm n)) = keyV u.tv.k u.tv.N u.tv.s u.tv.len := by
     unfold keyOfV keyOfT
     simp [Tm.kids, hk1]
    rw [e]
    exact keyOf_some k N s b off len cap u.tv w hl hb cu' hk1
theorem tall_nil (w : World) : Calls Tryz.prog 87 #[.pointer none] w fun e W' => e = .returned (.int .i64 0) ∧ W' = w := by
 go_enter Tryz.func87, Tryz.ntmps87
 go_wp2
 all_goals go_ret
 all_goals exact ⟨rfl, rfl⟩
theorem tall_at (b : Nat) (h : Int) (w : World) (hc : w.cell? ⟨b, 3, none⟩ = some (.int .i64 h)) : Calls Tryz.prog 87 #[.pointer (some ⟨b, 0, none⟩)] w fun e W' => e = .returned (.int .i64 h) ∧ W' = w := by
 go_enter Tryz.func87, Tryz.ntmps87
 go_wp2
 all_goals go_ret
 all_goals exact ⟨rfl, rfl⟩
def Tall (w : World) (p : Option Addr) (h : Int) : Prop := (p = none ∧ h = 0) ∨ ∃ b, p = some ⟨b, 0, none⟩ ∧ w.cell? ⟨b, 3, none⟩ = some (.int .i64 h)
theorem tall_any {p : Option Addr} {h : Int} {w : World} (ht : Tall w p h) : Calls Tryz.prog 87 #[.pointer p] w fun e W' => e = .returned (.int .i64 h) ∧ W' = w := by
 rcases ht with ⟨rfl, rfl⟩ | ⟨b, rfl, hc⟩
 ·exact tall_nil w
 ·exact tall_at b h w hc
theorem grown_any (l e r : Option Addr) (hl hr : Int) (w : World) (h1 : Tall w l hl) (h2 : Tall w r hr) (b1 : 0 ≤ hl ∧ hl < 4611686018427387904) (b2 : 0 ≤ hr ∧ hr < 4611686018427387904) :
  Calls Tryz.prog 65 #[.pointer l, .pointer e, .pointer r] w fun e' W' => e' = .returned (.pointer (some ⟨w.heap.size, 0, none⟩)) ∧ W' = w.alloc (.cells #[.pointer e, .pointer l, .pointer r, .int .i64 (max hl hr + 1)] 131) := by
 have t1 := tall_any h1
 have t2 := tall_any h2
 have hw : wrap64 (max hl hr + 1) = max hl hr + 1 := by unfold wrap64; omega
 clear h1 h2
 go_enter Tryz.func65, Tryz.ntmps65
 go_wp2_with fail
 refine t1.mono ?_
 rintro e1 W1 ⟨rfl, rfl⟩
 clear t1
 go_wp2_with fail
 refine t2.mono ?_
 rintro e2 W2 ⟨rfl, rfl⟩
 clear t2
 go_wp2_with fail
 all_goals go_ret
 all_goals exact ⟨rfl, rfl⟩
/- Trees in memory; base's after, earlier, idAt, with of no tree, letThrough of no key, New. -/
set_option maxHeartbeats 1000000
set_option maxRecDepth 100000
open Go.Maps
def Tr : Nat → Type
 | 0 => Unit
 | n + 1 => Option (Nat × Nat × Int × Int × Tr n × Tr n)
def nodeT {n : Nat} (tb eb : Nat) (pl h : Int) (l r : Tr n) : Tr (n + 1) := (some (tb, eb, pl, h, l, r) : Option (Nat × Nat × Int × Int × Tr n × Tr n))
def TrIs (W : World) : {n : Nat} → Tr n → Option Addr → Prop
 | 0, _, p => p = none
 | n + 1, t, p => match (t : Option (Nat × Nat × Int × Int × Tr n × Tr n)) with
  | none => p = none
  | some (tb, eb, pl, h, l, r) => p = some ⟨tb, 0, none⟩ ∧ ∃ lp rp, W.heap[tb]? = some (.cells #[.pointer (some ⟨eb, 0, none⟩), .pointer lp, .pointer rp, .int .i64 h] 131 (0, 0)) ∧ W.cell? ⟨eb, 0, none⟩ = some (.int .i64 pl) ∧ TrIs W l lp ∧ TrIs W r rp
def afterT : {n : Nat} → Tr n → Int → Option Nat → Option Nat
 | 0, _, _, f => f
 | n + 1, t, p, f => match (t : Option (Nat × Nat × Int × Int × Tr n × Tr n)) with
  | none => f
  | some (_, eb, pl, _, l, r) => if p < pl then afterT l p (some eb) else afterT r p f
def ptrE (f : Option Nat) : Value := .pointer (f.map fun b => ⟨b, 0, none⟩)
def nodesT : {n : Nat} → Tr n → Nat
 | 0, _ => 0
 | n + 1, t => match (t : Option (Nat × Nat × Int × Int × Tr n × Tr n)) with
  | none => 0
  | some (_, _, _, _, l, r) => nodesT l + nodesT r + 1
def ptrOf : Value → Option Addr
 | .pointer p => p
 | _ => none
def nodesAt (W : World) : Nat → Option Addr → Nat
 | 0, _ => 0
 | _ + 1, none => 0
 | k + 1, some a => match W.heap[a.block]? with
  | some (.cells arr _ _) => nodesAt W k (ptrOf (arr.getD 1 undef)) + nodesAt W k (ptrOf (arr.getD 2 undef)) + 1
  | _ => 0
theorem nodesAt_is {W : World} : ∀ {n : Nat} {t : Tr n} {p : Option Addr}, TrIs W t p → ∀ k, n ≤ k → nodesAt W k p = nodesT t := by
 intro n
 induction n with
 | zero =>
  intro t p h k _
  obtain rfl : p = none := h
  cases k <;> rfl
 | succ n ih =>
  intro t p h k hk
  obtain ⟨k, rfl⟩ : ∃ j, k = j + 1 := ⟨k - 1, by omega⟩
  match t, h with
  | none, h =>
   obtain rfl : p = none := h
   rfl
  | some (tb, eb, pl, ht, l, r), h =>
   obtain ⟨rfl, lp, rp, hb, _, hl, hr⟩ := h
   show (match W.heap[tb]? with | some (.cells arr _ _) => nodesAt W k (ptrOf (arr.getD 1 undef)) + nodesAt W k (ptrOf (arr.getD 2 undef)) + 1 | _ => 0) = nodesT l + nodesT r + 1
   rw [hb]
   show nodesAt W k lp + nodesAt W k rp + 1 = _
   rw [ih hl k (by omega), ih hr k (by omega)]
theorem after_any {n : Nat} (t : Tr n) (p : Option Addr) (pl : Int) (w : World) (ht : TrIs w t p) : Calls Tryz.prog 55 #[.pointer p, .int .i64 pl] w fun e W' => e = .returned (ptrE (afterT t pl none)) ∧ Below w.heap.size w W' := by
 generalize hR : afterT t pl none = R
 go_enter Tryz.func55, Tryz.ntmps55
 go_wp2_with fail
 go_loopw [0, 5] (fun q f wr => ∃ (m : Nat) (s : Tr m) (qp : Option Addr) (fe : Option Nat), m ≤ n ∧ q = .pointer qp ∧ f = ptrE fe ∧ TrIs w s qp ∧ afterT s pl fe = R ∧ Below w.heap.size w wr ∧ ∀ k o, wr.cell? ⟨k, o, none⟩ = w.cell? ⟨k, o, none⟩) (fun q _ _ => nodesAt w n (ptrOf q))
 case atStart => exact ⟨n, t, p, none, Nat.le_refl _, rfl, rfl, ht, hR, Below.refl _ _, fun _ _ => rfl⟩
 case round =>
  obtain ⟨m, s, qp, fe, hm, rfl, rfl, hs, hr, hb, hcell⟩ := hrel
  match m, s, hs, hr with
  | 0, s, hs, hr =>
   obtain rfl : qp = none := hs
   obtain rfl : fe = R := hr
   clear ht hR
   simp only [ptrE]
   go_wp2_with fail
   all_goals go_ret
   all_goals exact ⟨rfl, hb⟩
  | m + 1, none, hs, hr =>
   obtain rfl : qp = none := hs
   obtain rfl : fe = R := hr
   clear ht hR
   simp only [ptrE]
   go_wp2_with fail
   all_goals go_ret
   all_goals exact ⟨rfl, hb⟩
  | m + 1, some (tb, eb, ep, eh, l, r), hs, hr =>
   have hnode := nodesAt_is (t := nodeT tb eb ep eh l r) hs n (by omega)
   obtain ⟨rfl, lp, rp, hblk, hep, hl, hrr⟩ := hs
   have hnl := nodesAt_is hl n (by omega)
   have hnr := nodesAt_is hrr n (by omega)
   have hns : nodesT (nodeT tb eb ep eh l r) = nodesT l + nodesT r + 1 := rfl
   have hr : (if pl < ep then afterT l pl (some eb) else afterT r pl fe) = R := hr
   have c0 : wr.cell? ⟨tb, 0, none⟩ = some (.pointer (some ⟨eb, 0, none⟩)) := by rw [hcell]; simp [World.cell?, hblk]
   have c1 : wr.cell? ⟨tb, 1, none⟩ = some (.pointer lp) := by rw [hcell]; simp [World.cell?, hblk]
   have c2 : wr.cell? ⟨tb, 2, none⟩ = some (.pointer rp) := by rw [hcell]; simp [World.cell?, hblk]
   have e0 : wr.cell? ⟨eb, 0, none⟩ = some (.int .i64 ep) := by rw [hcell]; exact hep
   by_cases hlt : pl < ep
   ·rw [if_pos hlt] at hr
    have HK := hide (And.intro hl (And.intro hr (And.intro hb (And.intro hcell (And.intro hnode (And.intro hnl hns))))))
    have hlt' : ep > pl := hlt
    clear hl hr hb hcell hnode hnl hns hnr hrr ht hR hblk hep
    go_wp2_with fail
    go_region
    all_goals
     go_wp2_with fail
     go_roundw
     case rel => exact ⟨m, l, lp, some eb, by omega, rfl, rfl, HK.out.1, HK.out.2.1, HK.out.2.2.1.drew, HK.out.2.2.2.1⟩
     case measure =>
      obtain ⟨_, _, _, _, k1, k2, k3⟩ := HK.out
      show nodesAt w n lp < nodesAt w n (some ⟨tb, 0, none⟩)
      omega
   ·rw [if_neg hlt] at hr
    have HK := hide (And.intro hrr (And.intro hr (And.intro hb (And.intro hcell (And.intro hnode (And.intro hnr hns))))))
    clear hl hr hb hcell hnode hnl hns hnr hrr ht hR hblk hep
    go_wp2_with fail
    go_roundw
    case rel => exact ⟨m, r, rp, fe, by omega, rfl, rfl, HK.out.1, HK.out.2.1, HK.out.2.2.1, HK.out.2.2.2.1⟩
    case measure =>
     obtain ⟨_, _, _, _, k1, k2, k3⟩ := HK.out
     show nodesAt w n rp < nodesAt w n (some ⟨tb, 0, none⟩)
     omega
theorem with_nil (e : Option Addr) (w : World) : Calls Tryz.prog 48 #[.pointer none, .pointer e] w fun e' W' => e' = .returned (.pointer (some ⟨w.heap.size, 0, none⟩)) ∧ W' = w.alloc (.cells #[.pointer e, .pointer none, .pointer none, .int .i64 1] 131) := by
 have hg := grown_any none e none 0 0 w (.inl ⟨rfl, rfl⟩) (.inl ⟨rfl, rfl⟩) (by omega) (by omega)
 go_enter Tryz.func48, Tryz.ntmps48
 go_wp2_with fail
 refine hg.mono ?_
 rintro e1 W1 ⟨rfl, rfl⟩
 clear hg
 go_wp2_with fail
 all_goals go_ret
 all_goals exact ⟨rfl, rfl⟩
theorem earlier_left (x : Option Nat) (w : World) : Calls Tryz.prog 54 #[ptrE x, ptrE none] w fun e W' => e = .returned (ptrE x) ∧ Below w.heap.size w W' := by
 cases x with
 | none =>
  simp only [ptrE, Option.map_none]
  go_enter Tryz.func54, Tryz.ntmps54
  go_wp2_with fail
  go_region
  all_goals
   go_wp2_with fail
   all_goals go_ret
   all_goals exact ⟨rfl, (Below.refl _ _).drew⟩
 | some b =>
  simp only [ptrE, Option.map_some, Option.map_none]
  go_enter Tryz.func54, Tryz.ntmps54
  go_wp2_with fail
  go_region
  all_goals
   go_wp2_with fail
   all_goals go_ret
   all_goals exact ⟨rfl, (Below.refl _ _).drew⟩
theorem idAt_any (p : Int) (w : World) (h0 : -9223372036854775808 < p) (h1 : p ≤ 9223372036854775807) : Calls Tryz.prog 39 #[.int .i64 p] w fun e W' => e = .returned (.int .i64 (max p (-p))) ∧ W' = w := by
 go_enter Tryz.func39, Tryz.ntmps39
 go_wp2_with fail
 all_goals go_ret
 all_goals exact ⟨rfl, rfl⟩
end Go.Proofs.YtlbobmebbllifaaGreat
