import Derived.Test.YtlbobmebbllifaaGreatQs
import Derived.Deep.QuietTactic
import Derived.BigQuiet
/- The contracts of term.isRising and term.checkBinds. -/
namespace Go.Proofs.YtlbobmebbllifaaGreat
open Go.RowKit Go.Shelf
def Subst {n : Nat} (bs : List (Int × Tm n)) : Prop := (∀ p ∈ bs, 0 ≤ p.1 ∧ p.1 ≤ 1099511627776) ∧ Rises bs
def RiseSays {n : Nat} (bs : List (Int × Tm n)) (e : Ending) : Prop := ∃ f : Bool, e = .returned (.bool f) ∧ (f = true ↔ Subst bs)
theorem rise_no {n : Nat} {bs : List (Int × Tm n)} (h : ¬ Subst bs) : RiseSays bs (.returned (.bool false)) := ⟨false, rfl, (fun h => by cases h), fun k => (h k).elim⟩
theorem rise_yes {n : Nat} {bs : List (Int × Tm n)} (h : Subst bs) : RiseSays bs (.returned (.bool true)) := ⟨true, rfl, fun _ => h, fun _ => rfl⟩
theorem subst_take_succ {n : Nat} {bs : List (Int × Tm n)} {j : Nat} {p : Int × Tm n} (hp : bs[j]? = some p) (h : Subst (bs.take j)) (h0 : 0 ≤ p.1) (h1 : p.1 ≤ 1099511627776) (hl : ∀ q, 0 < j → bs[j - 1]? = some q → q.1 < p.1) : Subst (bs.take (j + 1)) := by
 obtain ⟨hj, rfl⟩ := List.getElem?_eq_some_iff.1 hp
 have ht : bs.take (j + 1) = bs.take j ++ [bs[j]] := List.take_succ_eq_append_getElem hj
 have hlen : (bs.take j).length = j := by simp; omega
 refine ⟨fun q hq => ?_, fun i k q z hi hk hik => ?_⟩
 ·rw [ht, List.mem_append] at hq
  rcases hq with hq | hq
  ·exact h.1 q hq
  ·simp at hq; subst hq; exact ⟨h0, h1⟩
 ·rw [ht] at hi hk
  by_cases hkj : k < j
  ·rw [List.getElem?_append_left (by omega)] at hi hk
   exact h.2 i k q z hi hk hik
  ·rw [List.getElem?_append_right (by omega), hlen] at hk
   have hk0 : k - j = 0 := by
    by_cases e : k - j = 0
    ·exact e
    ·rw [List.getElem?_eq_none (by simp; omega)] at hk; cases hk
   rw [hk0] at hk
   simp at hk
   subst hk
   have hij : i < j := by omega
   rw [List.getElem?_append_left (by omega)] at hi
   rw [List.getElem?_take] at hi
   simp only [hij, if_true] at hi
   have hj1 : bs[j - 1]? = some (bs[j - 1]'(by omega)) := List.getElem?_eq_getElem (by omega)
   have hlast := hl _ (by omega) hj1
   by_cases e : i = j - 1
   ·subst e; rw [hj1] at hi; cases hi; exact hlast
   ·have hh := h.2 i (j - 1) q (bs[j - 1]'(by omega)) (by rw [List.getElem?_take]; simp only [hij, if_true]; exact hi) (by rw [List.getElem?_take]; simp only [show j - 1 < j by omega, if_true]; exact hj1) (by omega)
    omega
set_option maxRecDepth 100000 in
set_option maxHeartbeats 1000000 in
theorem isRising_any {n : Nat} (bs : List (Int × Tm n)) (a : Option Addr) (len cap : Nat) (w : World) (hl : IsL w.heap.size w a len bs) :
  Calls Tryz.prog 80 #[.slice a len cap] w fun e W' => RiseSays bs e ∧ Below w.heap.size w W' := by
 have h2 := hl.2.1
 have h1 := hl.1
 have hl1 : len ≤ bs.length := by omega
 have hl2 : bs.length ≤ len := by omega
 clear h1
 have HL := hide hl
 clear hl
 go_enter Tryz.func80, Tryz.ntmps80
 go_wp2_with fail
 go_loopw [7] (fun i wr => ∃ j : Nat, j ≤ len ∧ i = .int .i64 j ∧ Below w.heap.size w wr ∧ Subst (bs.take j)) (fun i _ => len - (intOf i).toNat)
 case atStart => exact ⟨0, Nat.zero_le _, rfl, Below.refl _ _, by simp [Subst, Rises]⟩
 case round =>
  obtain ⟨j, hj, rfl, hb, hs⟩ := hrel
  have HS := hide hs
  clear hs
  by_cases hlt : j < len
  ·obtain ⟨V, u, b, off, hu, rfl, hbk, hT, c0, c1, c2, c3, c4⟩ := bind_at (unhide HL) hb hlt
   have HU := hide hu
   clear hT hu
   have hj1 : (j : Int) < len := by omega
   by_cases hV0 : 0 ≤ V
   ·by_cases hV1 : V ≤ 1099511627776
    ·by_cases hj0 : j = 0
     ·have hg : decide (0 < j) = false := by simp; omega
      have HJ0 := hide hj0
      clear hj0
      go_wp2
      go_quiet (fail)
      go_wp2
      go_roundw
      case rel => exact ⟨j + 1, by omega, by go_num, below_drewN (hb.alloc hb.size _) _, subst_take_succ (unhide HU) (unhide HS) hV0 hV1 (fun q h => by have := unhide HJ0; omega)⟩
      case measure => simp [intOf]; omega
     ·obtain ⟨i, hij⟩ : ∃ i, j = i + 1 := ⟨j - 1, by omega⟩
      obtain ⟨V', u', b', off', hu', ha', hbk', hT', d0, _⟩ := bind_at (unhide HL) hb (j := i) (by omega)
      simp at ha'
      obtain ⟨rfl, rfl⟩ := ha'
      have hjp : decide (0 < j) = true := by simp; omega
      have hjm : ((j : Int) - 1) = (i : Int) := by omega
      have hil : (i : Int) < len := by omega
      have hib : (i : Int) ≤ 9223372036854775807 := by omega
      have hjb : (j : Int) ≤ 9223372036854775807 := by omega
      have HIJ := hide hij
      clear hij hj0
      have HU' := hide hu'
      have d0' : (wr.alloc (.cells #[.int .i64 V, .int .i64 u.tv.k, .int .i64 u.tv.N, .string u.tv.s, .slice u.tv.a u.tv.len u.tv.cap] 148)).cell? ⟨b, off + i * 5, none⟩ = some (.int .i64 V') := cell_kept d0 (World.grownBy_alloc _ _ none) (fun r e => by cases e)
      clear hu' hT'
      by_cases hVV : V ≤ V'
      ·have hvv : decide (V ≤ V') = true := by simp [hVV]
       go_wp2
       go_quiet (fail)
       go_wp2
       go_ret
       refine ⟨rise_no fun h => ?_, below_drewN (hb.alloc hb.size _) _⟩
       have := h.2 i j (V', u') (V, u) (unhide HU') (unhide HU) (by have := unhide HIJ; omega)
       simp at this; omega
      ·have hvv : decide (V ≤ V') = false := by simp; omega
       go_wp2
       go_quiet (fail)
       go_wp2
       go_roundw
       case rel => exact ⟨j + 1, by omega, by go_num, below_drewN (hb.alloc hb.size _) _, subst_take_succ (unhide HU) (unhide HS) hV0 hV1 (fun q _ hq => by rw [show j - 1 = i by have := unhide HIJ; omega, unhide HU'] at hq; cases hq; simp; omega)⟩
       case measure => simp [intOf]; omega
    ·go_wp2
     go_ret
     refine ⟨rise_no fun h => ?_, hb.alloc hb.size _⟩
     have := h.1 (V, u) (List.mem_of_getElem? (unhide HU))
     simp at this; omega
   ·go_wp2
    go_ret
    refine ⟨rise_no fun h => ?_, hb.alloc hb.size _⟩
    have := h.1 (V, u) (List.mem_of_getElem? (unhide HU))
    simp at this; omega
  ·have ht : bs.take j = bs := List.take_of_length_le (by omega)
   have HT := hide ht
   clear ht
   go_wp2_with fail
   go_ret
   exact ⟨rise_yes (by have h := unhide HS; rw [unhide HT] at h; exact h), hb⟩
/- The contract of term.checkBinds. -/
structure BL (n : Nat) where
 a : Option Addr
 len : Nat
 cap : Nat
 bs : List (Int × Tm n)
def okB {n : Nat} (L : BL n) : Prop := ∀ p ∈ L.bs, okT p.2 = true
def BindSays {n : Nat} (Ls : List (BL n)) (e : Ending) : Prop := ∃ r : Int, e = .returned (.int .i64 r) ∧ ((¬ ∀ L ∈ Ls, okB L) → r = 2) ∧ ((∀ L ∈ Ls, okB L) → (¬ ∀ L ∈ Ls, Subst L.bs) → r = 1) ∧ ((∀ L ∈ Ls, okB L) → (∀ L ∈ Ls, Subst L.bs) → r = 0)
theorem says_two {n : Nat} {Ls : List (BL n)} (h : ¬ ∀ L ∈ Ls, okB L) : BindSays Ls (.returned (.int .i64 2)) := ⟨2, rfl, fun _ => rfl, fun k => (h k).elim, fun k => (h k).elim⟩
theorem says_one {n : Nat} {Ls : List (BL n)} (h : ∀ L ∈ Ls, okB L) (h' : ¬ ∀ L ∈ Ls, Subst L.bs) : BindSays Ls (.returned (.int .i64 1)) := ⟨1, rfl, fun k => (k h).elim, fun _ _ => rfl, fun _ k => (h' k).elim⟩
theorem says_zero {n : Nat} {Ls : List (BL n)} (h : ∀ L ∈ Ls, okB L) (h' : ∀ L ∈ Ls, Subst L.bs) : BindSays Ls (.returned (.int .i64 0)) := ⟨0, rfl, fun k => (k h).elim, fun _ k => (k h').elim, fun _ _ => rfl⟩
def Fst {α : Type} (p : α → Prop) (l : List α) (j : Nat) : Prop := ∀ i x, l[i]? = some x → i < j → p x
theorem Fst.next {α : Type} {p : α → Prop} {l : List α} {j : Nat} {x : α} (h : Fst p l j) (hx : l[j]? = some x) (hp : p x) : Fst p l (j + 1) := fun i y hy hi => by
 by_cases e : i = j
 ·subst e; rw [hx] at hy; cases hy; exact hp
 ·exact h i y hy (by omega)
theorem Fst.all {α : Type} {p : α → Prop} {l : List α} {j : Nat} (h : Fst p l j) (hj : l.length ≤ j) : ∀ x ∈ l, p x := fun x hx => by
 obtain ⟨i, hi⟩ := List.mem_iff_getElem?.1 hx
 exact h i x hi (by have := (List.getElem?_eq_some_iff.1 hi).1; omega)
set_option maxRecDepth 100000 in
set_option maxHeartbeats 2000000 in
theorem checkBinds_any {n : Nat} (Ls : List (BL n)) (B off cp m : Nat) (w : World) (hm : m = Ls.length) (hm2 : m ≤ 100)
  (hLs : ∀ i L, Ls[i]? = some L → w.cell? ⟨B, off + i, none⟩ = some (.slice L.a L.len L.cap) ∧ IsL w.heap.size w L.a L.len L.bs) (hB : B < w.heap.size) :
  Calls Tryz.prog 57 #[.slice (some ⟨B, off, none⟩) m cp] w fun e W' => BindSays Ls e ∧ Below w.heap.size w W' := by
 have hm1 : m ≤ Ls.length := by omega
 have hm3 : Ls.length ≤ m := by omega
 have HLs := hide hLs
 clear hm hLs
 go_enter Tryz.func57, Tryz.ntmps57
 go_wp2_with fail
 go_loopw [12] (fun i wr => ∃ j : Nat, j ≤ m ∧ i = .int .i64 j ∧ Below w.heap.size w wr ∧ Fst okB Ls j) (fun i _ => m - (intOf i).toNat)
 case atStart => exact ⟨0, Nat.zero_le _, rfl, Below.refl _ _, fun i x _ h => by omega⟩
 case round =>
  obtain ⟨j, hj, rfl, hb, hs⟩ := hrel
  have HS := hide hs
  clear hs
  by_cases hlt : j < m
  ·obtain ⟨⟨La, Ll, Lc, Lb⟩, hL⟩ : ∃ L, Ls[j]? = some L := ⟨Ls[j]'(by omega), List.getElem?_eq_getElem (by omega)⟩
   obtain ⟨hc, hil⟩ := (unhide HLs) j _ hL
   simp only at hc hil
   replace hc := (hb.cell (p := ⟨B, off + j, none⟩) hB).trans hc
   have hl60 := hil.2.1
   have hl1 : Ll ≤ Lb.length := by have := hil.1; omega
   have hl2 : Lb.length ≤ Ll := by have := hil.1; omega
   have HIL := hide hil
   have HLJ := hide hL
   clear hil hL
   have hj1 : (j : Int) < m := by omega
   go_wp2_with fail
   clear hc
   go_loopw [18] (fun i wr => ∃ k : Nat, k ≤ Ll ∧ i = .int .i64 k ∧ Below w.heap.size w wr ∧ Fst (fun p : Int × Tm n => okT p.2 = true) Lb k) (fun i _ => Ll - (intOf i).toNat)
   case atStart => exact ⟨0, Nat.zero_le _, rfl, hb, fun i x _ h => by omega⟩
   case round =>
    obtain ⟨k, hk, rfl, hb2, hs2⟩ := hrel
    have HS2 := hide hs2
    clear hs2
    by_cases hlt2 : k < Ll
    ·obtain ⟨V, u, b, off', hu, rfl, hbk, hT, c0, c1, c2, c3, c4⟩ := bind_at (unhide HIL) hb2 hlt2
     have hk1 : (k : Int) < Ll := by omega
     have hbu := (Below.refl _ wr).alloc (Nat.le_refl _) (.cells #[.int .i64 V, .int .i64 u.tv.k, .int .i64 u.tv.N, .string u.tv.s, .slice u.tv.a u.tv.len u.tv.cap] 148)
     have hck : Calls Tryz.prog 35 #[.agg #[.int .i64 u.tv.k, .int .i64 u.tv.N, .string u.tv.s, .slice u.tv.a u.tv.len u.tv.cap]] (wr.alloc (.cells #[.int .i64 V, .int .i64 u.tv.k, .int .i64 u.tv.N, .string u.tv.s, .slice u.tv.a u.tv.len u.tv.cap] 148)) fun e W2 => e = .returned (.int .i64 (chk u)) ∧ Below wr.heap.size wr W2 :=
      (check_any u _ ((hT.below hbu).mono hbu.size)).mono fun e W2 h => ⟨h.1, hbu.trans (h.2.mono hbu.size)⟩
     have HU := hide hu
     have hcz := @chk_zero _ u
     have hcn := @chk_no _ u
     clear hT hu hbu
     generalize hd : chk u = d at *
     clear hd
     cases ho : okT u with
     | true =>
      have hd0 : d = 0 := hcz.2 ho
      have hd' : (d != 0) = false := by simp [hd0]
      have HOU := hide ho
      clear hd0 hcz hcn ho
      go_wp2_with (go_at_call 35; refine hck.mono ?_; clear hck; rintro e W2 ⟨rfl, hb3⟩)
      go_roundw
      case rel => exact ⟨k + 1, by omega, by go_num, hb2.trans (hb3.mono hb2.size), (unhide HS2).next (unhide HU) (unhide HOU)⟩
      case measure => simp [intOf]; omega
     | false =>
      have hd2 : d = 2 := hcn ho
      have HOU := hide ho
      clear hcz hcn ho
      subst hd2
      go_wp2_with (go_at_call 35; refine hck.mono ?_; clear hck; rintro e W2 ⟨rfl, hb3⟩)
      go_ret
      refine ⟨says_two fun h => ?_, hb2.trans (hb3.mono hb2.size)⟩
      have := h _ (List.mem_of_getElem? (unhide HLJ)) _ (List.mem_of_getElem? (unhide HU))
      rw [unhide HOU] at this
      cases this
    ·go_wp2_with fail
     go_roundw
     case rel => exact ⟨j + 1, by omega, by go_num, hb2, (unhide HS).next (unhide HLJ) (fun p hp => (unhide HS2).all (by omega) p hp)⟩
     case measure => simp [intOf]; omega
  ·have hall := (unhide HS).all (by omega)
   have HALL := hide hall
   clear hall
   go_wp2_with fail
   go_loopw [32] (fun i wr => ∃ j : Nat, j ≤ m ∧ i = .int .i64 j ∧ Below w.heap.size w wr ∧ Fst (fun L : BL n => Subst L.bs) Ls j) (fun i _ => m - (intOf i).toNat)
   case atStart => exact ⟨0, Nat.zero_le _, rfl, hb, fun i x _ h => by omega⟩
   case round =>
    obtain ⟨k, hk, rfl, hb2, hs2⟩ := hrel
    have HS2 := hide hs2
    clear hs2
    by_cases hlt2 : k < m
    ·obtain ⟨⟨La, Ll, Lc, Lb⟩, hL⟩ : ∃ L, Ls[k]? = some L := ⟨Ls[k]'(by omega), List.getElem?_eq_getElem (by omega)⟩
     obtain ⟨hc, hil⟩ := (unhide HLs) k _ hL
     simp only at hc hil
     replace hc := (hb2.cell (p := ⟨B, off + k, none⟩) hB).trans hc
     have hri := isRising_any Lb La Ll Lc wr ((hil.below hb2).mono hb2.size)
     have HLJ := hide hL
     clear hil hL
     have hk1 : (k : Int) < m := by omega
     go_wp2_with fail
     refine hri.mono ?_
     clear hri
     rintro e W2 ⟨⟨f, rfl, hf⟩, hb3⟩
     have HF := hide hf
     clear hf
     cases f with
     | true =>
      go_wp2_with fail
      go_roundw
      case rel => exact ⟨k + 1, by omega, by go_num, hb2.trans (hb3.mono hb2.size), (unhide HS2).next (unhide HLJ) ((unhide HF).1 (by simp))⟩
      case measure => simp [intOf]; omega
     | false =>
      go_wp2_with fail
      go_ret
      refine ⟨says_one (unhide HALL) fun h => ?_, hb2.trans (hb3.mono hb2.size)⟩
      have := (unhide HF).2 (h _ (List.mem_of_getElem? (unhide HLJ)))
      simp at this
    ·have hall2 := (unhide HS2).all (by omega)
     have HALL2 := hide hall2
     clear hall2
     go_wp2_with fail
     go_ret
     exact ⟨says_zero (unhide HALL) (unhide HALL2), hb2⟩
end Go.Proofs.YtlbobmebbllifaaGreat
