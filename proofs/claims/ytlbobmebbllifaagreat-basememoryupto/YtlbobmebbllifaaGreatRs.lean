import Derived.Test.YtlbobmebbllifaaGreatQs
import Derived.Deep.QuietTactic
import Derived.BigQuiet
import Derived.Deep.RegionWith
import Derived.Deep.DeepMust
import Derived.Test.YtlbobmebbllifaaGreatGs
import Derived.Test.YtlbobmebbllifaaGreatBbRs
import Derived.Test.YtlbobmebbllifaaGreatLr
/- The contracts of term.isRising and term.checkBinds. -/
namespace Go.Proofs.YtlbobmebbllifaaGreat
open Go.RowKit Go.Shelf
def Subst {n : Nat} (bs : List (Int × Tm n)) : Prop := (∀ p ∈ bs, 0 ≤ p.1 ∧ p.1 ≤ 1099511627776) ∧ Rises bs
def RiseSays {n : Nat} (bs : List (Int × Tm n)) (e : Ending) : Prop := ∃ f : Bool, e = .returned (.bool f) ∧ (f = true ↔ Subst bs)
theorem rise_no {n : Nat} {bs : List (Int × Tm n)} (h : ¬ Subst bs) : RiseSays bs (.returned (.bool false)) := ⟨false, rfl, (fun h => by cases h), fun k => (h k).elim⟩
theorem rise_yes {n : Nat} {bs : List (Int × Tm n)} (h : Subst bs) : RiseSays bs (.returned (.bool true)) := ⟨true, rfl, fun _ => h, fun _ => rfl⟩
theorem subst_take_succ {n : Nat} {bs : List (Int × Tm n)} {j : Nat} {p : Int × Tm n} (hp : bs[j]? = some p) (h : Subst (bs.take j)) (h0 : 0 ≤ p.1) (h1 : p.1 ≤ 1099511627776) (hl : ∀ q, 0 < j → bs[j - 1]? = some q → q.1 < p.1) : Subst (bs.take (j + 1)) := by
 obtain ⟨hj, rfl⟩ := List.getElem?_eq_some_iff.1 hp
 have ht : bs.take (j + 1) = bs.take j ++ [bs[j]] := List.take_succ_eq_append_getElem hj
 have hlen : (bs.take j).length = j := by simp; omega
 refine ⟨fun q hq => ?_, fun i k q z hi hk hik => ?_⟩
 · rw [ht, List.mem_append] at hq
  rcases hq with hq | hq
  · exact h.1 q hq
  · simp at hq; subst hq; exact ⟨h0, h1⟩
 · rw [ht] at hi hk
  by_cases hkj : k < j
  · rw [List.getElem?_append_left (by omega)] at hi hk
   exact h.2 i k q z hi hk hik
  · rw [List.getElem?_append_right (by omega), hlen] at hk
   have hk0 : k - j = 0 := by
    by_cases e : k - j = 0
    · exact e
    · rw [List.getElem?_eq_none (by simp; omega)] at hk; cases hk
   rw [hk0] at hk
   simp at hk
   subst hk
   have hij : i < j := by omega
   rw [List.getElem?_append_left (by omega)] at hi
   rw [List.getElem?_take] at hi
   simp only [hij, if_true] at hi
   have hj1 : bs[j - 1]? = some (bs[j - 1]'(by omega)) := List.getElem?_eq_getElem (by omega)
   have hlast := hl _ (by omega) hj1
   by_cases e : i = j - 1
   · subst e; rw [hj1] at hi; cases hi; exact hlast
   · have hh := h.2 i (j - 1) q (bs[j - 1]'(by omega)) (by rw [List.getElem?_take]; simp only [hij, if_true]; exact hi) (by rw [List.getElem?_take]; simp only [show j - 1 < j by omega, if_true]; exact hj1) (by omega)
    omega
set_option maxRecDepth 100000 in
set_option maxHeartbeats 1000000 in
theorem isRising_any {n : Nat} (bs : List (Int × Tm n)) (a : Option Addr) (len cap : Nat) (w : World) (hl : IsL w.heap.size w a len bs) :
  Calls Tryz.prog 80 #[.slice a len cap] w fun e W' => RiseSays bs e ∧ Below w.heap.size w W' := by
 have h2 := hl.2.1
 have h1 := hl.1
 have hl1 : len ≤ bs.length := by omega
 have hl2 : bs.length ≤ len := by omega
 clear h1
 have HL := hide hl
 clear hl
 go_enter Tryz.func80, Tryz.ntmps80
 go_wp2_with fail
 go_loopw [7] (fun i wr => ∃ j : Nat, j ≤ len ∧ i = .int .i64 j ∧ Below w.heap.size w wr ∧ Subst (bs.take j)) (fun i _ => len - (intOf i).toNat)
 case atStart => exact ⟨0, Nat.zero_le _, rfl, Below.refl _ _, by simp [Subst, Rises]⟩
 case round =>
  obtain ⟨j, hj, rfl, hb, hs⟩ := hrel
  have HS := hide hs
  clear hs
  by_cases hlt : j < len
  · obtain ⟨V, u, b, off, hu, rfl, hbk, hT, c0, c1, c2, c3, c4⟩ := bind_at (unhide HL) hb hlt
   have HU := hide hu
   clear hT hu
   have hj1 : (j : Int) < len := by omega
   by_cases hV0 : 0 ≤ V
   · by_cases hV1 : V ≤ 1099511627776
    · by_cases hj0 : j = 0
     · have hg : decide (0 < j) = false := by simp; omega
      have HJ0 := hide hj0
      clear hj0
      go_wp2
      go_quiet (fail)
      go_wp2
      go_roundw
      case rel => exact ⟨j + 1, by omega, by go_num, below_drewN (hb.alloc hb.size _) _, subst_take_succ (unhide HU) (unhide HS) hV0 hV1 (fun q h => by have := unhide HJ0; omega)⟩
      case measure => simp [intOf]; omega
     · obtain ⟨i, hij⟩ : ∃ i, j = i + 1 := ⟨j - 1, by omega⟩
      obtain ⟨V', u', b', off', hu', ha', hbk', hT', d0, _⟩ := bind_at (unhide HL) hb (j := i) (by omega)
      simp at ha'
      obtain ⟨rfl, rfl⟩ := ha'
      have hjp : decide (0 < j) = true := by simp; omega
      have hjm : ((j : Int) - 1) = (i : Int) := by omega
      have hil : (i : Int) < len := by omega
      have hib : (i : Int) ≤ 9223372036854775807 := by omega
      have hjb : (j : Int) ≤ 9223372036854775807 := by omega
      have HIJ := hide hij
      clear hij hj0
      have HU' := hide hu'
      have d0' : (wr.alloc (.cells #[.int .i64 V, .int .i64 u.tv.k, .int .i64 u.tv.N, .string u.tv.s, .slice u.tv.a u.tv.len u.tv.cap] 148)).cell? ⟨b, off + i * 5, none⟩ = some (.int .i64 V') := cell_kept d0 (World.grownBy_alloc _ _ none) (fun r e => by cases e)
      clear hu' hT'
      by_cases hVV : V ≤ V'
      · have hvv : decide (V ≤ V') = true := by simp [hVV]
       go_wp2
       go_quiet (fail)
       go_wp2
       go_ret
       refine ⟨rise_no fun h => ?_, below_drewN (hb.alloc hb.size _) _⟩
       have := h.2 i j (V', u') (V, u) (unhide HU') (unhide HU) (by have := unhide HIJ; omega)
       simp at this; omega
      · have hvv : decide (V ≤ V') = false := by simp; omega
       go_wp2
       go_quiet (fail)
       go_wp2
       go_roundw
       case rel => exact ⟨j + 1, by omega, by go_num, below_drewN (hb.alloc hb.size _) _, subst_take_succ (unhide HU) (unhide HS) hV0 hV1 (fun q _ hq => by rw [show j - 1 = i by have := unhide HIJ; omega, unhide HU'] at hq; cases hq; simp; omega)⟩
       case measure => simp [intOf]; omega
    · go_wp2
     go_ret
     refine ⟨rise_no fun h => ?_, hb.alloc hb.size _⟩
     have := h.1 (V, u) (List.mem_of_getElem? (unhide HU))
     simp at this; omega
   · go_wp2
    go_ret
    refine ⟨rise_no fun h => ?_, hb.alloc hb.size _⟩
    have := h.1 (V, u) (List.mem_of_getElem? (unhide HU))
    simp at this; omega
  · have ht : bs.take j = bs := List.take_of_length_le (by omega)
   have HT := hide ht
   clear ht
   go_wp2_with fail
   go_ret
   exact ⟨rise_yes (by have h := unhide HS; rw [unhide HT] at h; exact h), hb⟩
/- The contract of term.checkBinds. -/
structure BL (n : Nat) where
 a : Option Addr
 len : Nat
 cap : Nat
 bs : List (Int × Tm n)
def okB {n : Nat} (L : BL n) : Prop := ∀ p ∈ L.bs, okT p.2 = true
def BindSays {n : Nat} (Ls : List (BL n)) (e : Ending) : Prop := ∃ r : Int, e = .returned (.int .i64 r) ∧ ((¬ ∀ L ∈ Ls, okB L) → r = 2) ∧ ((∀ L ∈ Ls, okB L) → (¬ ∀ L ∈ Ls, Subst L.bs) → r = 1) ∧ ((∀ L ∈ Ls, okB L) → (∀ L ∈ Ls, Subst L.bs) → r = 0)
theorem says_two {n : Nat} {Ls : List (BL n)} (h : ¬ ∀ L ∈ Ls, okB L) : BindSays Ls (.returned (.int .i64 2)) := ⟨2, rfl, fun _ => rfl, fun k => (h k).elim, fun k => (h k).elim⟩
theorem says_one {n : Nat} {Ls : List (BL n)} (h : ∀ L ∈ Ls, okB L) (h' : ¬ ∀ L ∈ Ls, Subst L.bs) : BindSays Ls (.returned (.int .i64 1)) := ⟨1, rfl, fun k => (k h).elim, fun _ _ => rfl, fun _ k => (h' k).elim⟩
theorem says_zero {n : Nat} {Ls : List (BL n)} (h : ∀ L ∈ Ls, okB L) (h' : ∀ L ∈ Ls, Subst L.bs) : BindSays Ls (.returned (.int .i64 0)) := ⟨0, rfl, fun k => (k h).elim, fun _ k => (k h').elim, fun _ _ => rfl⟩
def Fst {α : Type} (p : α → Prop) (l : List α) (j : Nat) : Prop := ∀ i x, l[i]? = some x → i < j → p x
theorem Fst.next {α : Type} {p : α → Prop} {l : List α} {j : Nat} {x : α} (h : Fst p l j) (hx : l[j]? = some x) (hp : p x) : Fst p l (j + 1) := fun i y hy hi => by
 by_cases e : i = j
 · subst e; rw [hx] at hy; cases hy; exact hp
 · exact h i y hy (by omega)
theorem Fst.all {α : Type} {p : α → Prop} {l : List α} {j : Nat} (h : Fst p l j) (hj : l.length ≤ j) : ∀ x ∈ l, p x := fun x hx => by
 obtain ⟨i, hi⟩ := List.mem_iff_getElem?.1 hx
 exact h i x hi (by have := (List.getElem?_eq_some_iff.1 hi).1; omega)
set_option maxRecDepth 100000 in
set_option maxHeartbeats 2000000 in
theorem checkBinds_any {n : Nat} (Ls : List (BL n)) (B off cp m : Nat) (w : World) (hm : m = Ls.length) (hm2 : m ≤ 100)
  (hLs : ∀ i L, Ls[i]? = some L → w.cell? ⟨B, off + i, none⟩ = some (.slice L.a L.len L.cap) ∧ IsL w.heap.size w L.a L.len L.bs) (hB : B < w.heap.size) :
  Calls Tryz.prog 57 #[.slice (some ⟨B, off, none⟩) m cp] w fun e W' => BindSays Ls e ∧ Below w.heap.size w W' := by
 have hm1 : m ≤ Ls.length := by omega
 have hm3 : Ls.length ≤ m := by omega
 have HLs := hide hLs
 clear hm hLs
 go_enter Tryz.func57, Tryz.ntmps57
 go_wp2_with fail
 go_loopw [12] (fun i wr => ∃ j : Nat, j ≤ m ∧ i = .int .i64 j ∧ Below w.heap.size w wr ∧ Fst okB Ls j) (fun i _ => m - (intOf i).toNat)
 case atStart => exact ⟨0, Nat.zero_le _, rfl, Below.refl _ _, fun i x _ h => by omega⟩
 case round =>
  obtain ⟨j, hj, rfl, hb, hs⟩ := hrel
  have HS := hide hs
  clear hs
  by_cases hlt : j < m
  · obtain ⟨⟨La, Ll, Lc, Lb⟩, hL⟩ : ∃ L, Ls[j]? = some L := ⟨Ls[j]'(by omega), List.getElem?_eq_getElem (by omega)⟩
   obtain ⟨hc, hil⟩ := (unhide HLs) j _ hL
   simp only at hc hil
   replace hc := (hb.cell (p := ⟨B, off + j, none⟩) hB).trans hc
   have hl60 := hil.2.1
   have hl1 : Ll ≤ Lb.length := by have := hil.1; omega
   have hl2 : Lb.length ≤ Ll := by have := hil.1; omega
   have HIL := hide hil
   have HLJ := hide hL
   clear hil hL
   have hj1 : (j : Int) < m := by omega
   go_wp2_with fail
   clear hc
   go_loopw [18] (fun i wr => ∃ k : Nat, k ≤ Ll ∧ i = .int .i64 k ∧ Below w.heap.size w wr ∧ Fst (fun p : Int × Tm n => okT p.2 = true) Lb k) (fun i _ => Ll - (intOf i).toNat)
   case atStart => exact ⟨0, Nat.zero_le _, rfl, hb, fun i x _ h => by omega⟩
   case round =>
    obtain ⟨k, hk, rfl, hb2, hs2⟩ := hrel
    have HS2 := hide hs2
    clear hs2
    by_cases hlt2 : k < Ll
    · obtain ⟨V, u, b, off', hu, rfl, hbk, hT, c0, c1, c2, c3, c4⟩ := bind_at (unhide HIL) hb2 hlt2
     have hk1 : (k : Int) < Ll := by omega
     have hbu := (Below.refl _ wr).alloc (Nat.le_refl _) (.cells #[.int .i64 V, .int .i64 u.tv.k, .int .i64 u.tv.N, .string u.tv.s, .slice u.tv.a u.tv.len u.tv.cap] 148)
     have hck : Calls Tryz.prog 35 #[.agg #[.int .i64 u.tv.k, .int .i64 u.tv.N, .string u.tv.s, .slice u.tv.a u.tv.len u.tv.cap]] (wr.alloc (.cells #[.int .i64 V, .int .i64 u.tv.k, .int .i64 u.tv.N, .string u.tv.s, .slice u.tv.a u.tv.len u.tv.cap] 148)) fun e W2 => e = .returned (.int .i64 (chk u)) ∧ Below wr.heap.size wr W2 :=
      (check_any u _ ((hT.below hbu).mono hbu.size)).mono fun e W2 h => ⟨h.1, hbu.trans (h.2.mono hbu.size)⟩
     have HU := hide hu
     have hcz := @chk_zero _ u
     have hcn := @chk_no _ u
     clear hT hu hbu
     generalize hd : chk u = d at *
     clear hd
     cases ho : okT u with
     | true =>
      have hd0 : d = 0 := hcz.2 ho
      have hd' : (d != 0) = false := by simp [hd0]
      have HOU := hide ho
      clear hd0 hcz hcn ho
      go_wp2_with (go_at_call 35; refine hck.mono ?_; clear hck; rintro e W2 ⟨rfl, hb3⟩)
      go_roundw
      case rel => exact ⟨k + 1, by omega, by go_num, hb2.trans (hb3.mono hb2.size), (unhide HS2).next (unhide HU) (unhide HOU)⟩
      case measure => simp [intOf]; omega
     | false =>
      have hd2 : d = 2 := hcn ho
      have HOU := hide ho
      clear hcz hcn ho
      subst hd2
      go_wp2_with (go_at_call 35; refine hck.mono ?_; clear hck; rintro e W2 ⟨rfl, hb3⟩)
      go_ret
      refine ⟨says_two fun h => ?_, hb2.trans (hb3.mono hb2.size)⟩
      have := h _ (List.mem_of_getElem? (unhide HLJ)) _ (List.mem_of_getElem? (unhide HU))
      rw [unhide HOU] at this
      cases this
    · go_wp2_with fail
     go_roundw
     case rel => exact ⟨j + 1, by omega, by go_num, hb2, (unhide HS).next (unhide HLJ) (fun p hp => (unhide HS2).all (by omega) p hp)⟩
     case measure => simp [intOf]; omega
  · have hall := (unhide HS).all (by omega)
   have HALL := hide hall
   clear hall
   go_wp2_with fail
   go_loopw [32] (fun i wr => ∃ j : Nat, j ≤ m ∧ i = .int .i64 j ∧ Below w.heap.size w wr ∧ Fst (fun L : BL n => Subst L.bs) Ls j) (fun i _ => m - (intOf i).toNat)
   case atStart => exact ⟨0, Nat.zero_le _, rfl, hb, fun i x _ h => by omega⟩
   case round =>
    obtain ⟨k, hk, rfl, hb2, hs2⟩ := hrel
    have HS2 := hide hs2
    clear hs2
    by_cases hlt2 : k < m
    · obtain ⟨⟨La, Ll, Lc, Lb⟩, hL⟩ : ∃ L, Ls[k]? = some L := ⟨Ls[k]'(by omega), List.getElem?_eq_getElem (by omega)⟩
     obtain ⟨hc, hil⟩ := (unhide HLs) k _ hL
     simp only at hc hil
     replace hc := (hb2.cell (p := ⟨B, off + k, none⟩) hB).trans hc
     have hri := isRising_any Lb La Ll Lc wr ((hil.below hb2).mono hb2.size)
     have HLJ := hide hL
     clear hil hL
     have hk1 : (k : Int) < m := by omega
     go_wp2_with fail
     refine hri.mono ?_
     clear hri
     rintro e W2 ⟨⟨f, rfl, hf⟩, hb3⟩
     have HF := hide hf
     clear hf
     cases f with
     | true =>
      go_wp2_with fail
      go_roundw
      case rel => exact ⟨k + 1, by omega, by go_num, hb2.trans (hb3.mono hb2.size), (unhide HS2).next (unhide HLJ) ((unhide HF).1 (by simp))⟩
      case measure => simp [intOf]; omega
     | false =>
      go_wp2_with fail
      go_ret
      refine ⟨says_one (unhide HALL) fun h => ?_, hb2.trans (hb3.mono hb2.size)⟩
      have := (unhide HF).2 (h _ (List.mem_of_getElem? (unhide HLJ)))
      simp at this
    · have hall2 := (unhide HS2).all (by omega)
     have HALL2 := hide hall2
     clear hall2
     go_wp2_with fail
     go_ret
     exact ⟨says_zero (unhide HALL) (unhide HALL2), hb2⟩
/- The contract of term.Apply. -/
set_option maxHeartbeats 1000000
set_option maxRecDepth 100000
theorem replace_binds {n : Nat} (t : Tm n) (bs : List (Int × Tm n)) (a : Option Addr) (len cap B : Nat) (w : World) (hT : IsT w.heap.size w t) (hok : okT t = true) (hl : IsL w.heap.size w a len bs) (hri : Rises bs) (hokb : ∀ p ∈ bs, okT p.2 = true) (W : World) (hb : Below w.heap.size w W) (hbox : Boxed W B 120 (.slice a len cap)) :
  Calls Tryz.prog 58 #[t.tv.val, .func (.func 82) #[] #[.pointer (some ⟨B, 0, none⟩)]] W fun e W' => ∃ v, e = .returned v ∧ Below W.heap.size W W' ∧ HoldsT (n + (n + 1)) W.heap.size W' v ((code t).flatMap (subN (lookC (cb bs)))) :=
 replace_any 82 #[.pointer (some ⟨B, 0, none⟩)] (lookC (cb bs)) (n + 1) W (by omega) (enters_of Tryz.func82 (by kernel_rfl) rfl)
  (becoming_becomes bs a len cap B W hbox ((hl.below hb).mono hb.size) hri hokb) n t W (Below.refl _ _) ((hT.below hb).mono hb.size) hok
theorem checkOne {n : Nat} (bs : List (Int × Tm n)) (a : Option Addr) (len cap : Nat) (W : World) (hl : IsL W.heap.size W a len bs) :
  Calls Tryz.prog 57 #[.slice (some ⟨W.heap.size, 0, none⟩) 1 1] (W.alloc (.cells #[.slice a len cap] 120)) fun e W' => BindSays [⟨a, len, cap, bs⟩] e ∧ Below W.heap.size W W' := by
 have hb : Below W.heap.size W (W.alloc (.cells #[.slice a len cap] 120)) := (Below.refl _ W).alloc (Nat.le_refl _) _
 refine (checkBinds_any [⟨a, len, cap, bs⟩] W.heap.size 0 1 1 _ rfl (by omega) (fun i L hL => ?_) (by simp)).mono fun e W' h => ⟨h.1, hb.trans (h.2.mono hb.size)⟩
 match i, hL with
 | 0, hL =>
  simp at hL; subst hL
  exact ⟨by simp, (hl.below hb).mono hb.size⟩
 | i + 1, hL => simp at hL
theorem says_one_ok {n : Nat} {L : BL n} {e : Ending} (h : BindSays [L] e) (h1 : okB L) (h2 : Subst L.bs) : e = .returned (.int .i64 0) := by
 obtain ⟨r, rfl, _, _, h0⟩ := h
 rw [h0 (by simpa using h1) (by simpa using h2)]
structure Head (w W : World) (x : TV) : Prop where
 below : Below w.heap.size w W
 ba : BoxT W w.heap.size x
 bz : W.heap[w.heap.size + 1]? = some (.cells #[.int .i64 0, .int .i64 0, .string ⟨#[]⟩, .slice none 0 0] 24 (0, 0))
theorem Head.lt {w W : World} {x : TV} (h : Head w W x) : w.heap.size + 1 < W.heap.size := (Array.getElem?_eq_some_iff.1 h.bz).1
theorem Head.next {w W W' : World} {x : TV} (h : Head w W x) (hb : Below W.heap.size W W') : Head w W' x :=
 ⟨h.below.trans (hb.mono h.below.size), (hb.block _ h.ba.lt).trans h.ba, (hb.block _ h.lt).trans h.bz⟩
theorem Head.new (w : World) (x : TV) : Head w ((w.alloc (.cells #[.int .i64 x.k, .int .i64 x.N, .string x.s, .slice x.a x.len x.cap] 24)).alloc (.cells #[.int .i64 0, .int .i64 0, .string ⟨#[]⟩, .slice none 0 0] 24)) x := by
 have h := World.alloc_heap_new (w.alloc (.cells #[.int .i64 x.k, .int .i64 x.N, .string x.s, .slice x.a x.len x.cap] 24)) (.cells #[.int .i64 0, .int .i64 0, .string ⟨#[]⟩, .slice none 0 0] 24)
 rw [World.size_alloc] at h
 exact ⟨((Below.refl _ w).alloc (Nat.le_refl _) _).alloc (by simp) _, (BoxT.new w x).alloc _, h⟩
theorem apply_ok {n : Nat} (t : Tm n) (bs : List (Int × Tm n)) (a : Option Addr) (len cap : Nat) (w : World) (hT : IsT w.heap.size w t) (hl : IsL w.heap.size w a len bs) (hok : okT t = true) (hokb : ∀ p ∈ bs, okT p.2 = true) (hsub : Subst bs) :
  Calls Tryz.prog 42 #[t.tv.val, .slice a len cap] w fun e W' => ∃ x : TV, e = .returned (.tuple #[x.val, .int .i64 0]) ∧ Below w.heap.size w W' ∧ HoldsT (n + (n + 1)) w.heap.size W' x.val ((code t).flatMap (subN (lookC (cb bs)))) := by
 have hB1 : Below w.heap.size w ((w.alloc (.cells #[.int .i64 t.tv.k, .int .i64 t.tv.N, .string t.tv.s, .slice t.tv.a t.tv.len t.tv.cap] 24)).alloc (.cells #[.int .i64 0, .int .i64 0, .string ⟨#[]⟩, .slice none 0 0] 24)) := ((Below.refl _ w).alloc (Nat.le_refl _) _).alloc (by simp) _
 have hck := check_any t _ ((hT.below hB1).mono hB1.size)
 rw [chk_yes hok] at hck
 have hH := Head.new w t.tv
 simp only [TV.val] at hck ⊢
 have hrep := replace_binds t bs a len cap
 have HT := hide hT
 have HL := hide hl
 have HOK := hide hok
 have HOKB := hide hokb
 have HSUB := hide hsub
 have HREP := hide hrep
 clear hT hl hok hokb hsub hrep
 go_enter Tryz.func42, Tryz.ntmps42
 go_wp2_with fail
 refine hck.mono ?_
 clear hck
 rintro e W1 ⟨rfl, hb1⟩
 replace hH := hH.next hb1
 clear hb1 hB1
 go_wp2_with fail
 refine (checkOne bs a len cap W1 (((unhide HL).below hH.below).mono hH.below.size)).mono ?_
 rintro e W2 ⟨hsay, hb2⟩
 obtain rfl := says_one_ok hsay (unhide HOKB) (unhide HSUB)
 replace hH := hH.next hb2
 clear hb2 hsay
 have c0 := hH.ba.c0
 have c1 := hH.ba.c1
 have c2 := hH.ba.c2
 have c3 := hH.ba.c3
 have hbA : Below W2.heap.size W2 (W2.alloc (.cells #[.slice a len cap] 120)).drew := ((Below.refl _ W2).alloc (Nat.le_refl _) _).drew
 have hbx : Boxed (W2.alloc (.cells #[.slice a len cap] 120)).drew W2.heap.size 120 (.slice a len cap) := Boxed.new W2 120 (.slice a len cap)
 have hr2 : Calls Tryz.prog 58 #[.agg #[.int .i64 t.tv.k, .int .i64 t.tv.N, .string t.tv.s, .slice t.tv.a t.tv.len t.tv.cap], .func (.func 82) #[] #[.pointer (some ⟨W2.heap.size, 0, none⟩)]] (W2.alloc (.cells #[.slice a len cap] 120)).drew fun e W3 => ∃ x : TV, e = .returned x.val ∧ (Head w W3 t.tv ∧ HoldsT (n + (n + 1)) (w.heap.size + 2) W3 x.val ((code t).flatMap (subN (lookC (cb bs))))) ∧
   (W3.cell? ⟨w.heap.size + 1, 0, none⟩ = some (.int .i64 0) ∧ W3.cell? ⟨w.heap.size + 1, 1, none⟩ = some (.int .i64 0) ∧ W3.cell? ⟨w.heap.size + 1, 2, none⟩ = some (.string ⟨#[]⟩) ∧ W3.cell? ⟨w.heap.size + 1, 3, none⟩ = some (.slice none 0 0)) ∧ (W3.frozen? ⟨w.heap.size + 1, 0, none⟩ = false ∧ W3.frozen? ⟨w.heap.size + 1, 1, none⟩ = false ∧ W3.frozen? ⟨w.heap.size + 1, 2, none⟩ = false ∧ W3.frozen? ⟨w.heap.size + 1, 3, none⟩ = false) := by
  refine ((unhide HREP) W2.heap.size w (unhide HT) (unhide HOK) (unhide HL) (unhide HSUB).2 (unhide HOKB) _ (hH.below.trans (hbA.mono hH.below.size)) hbx).mono fun e W3 h => ?_
  obtain ⟨v, he, hb3, hv⟩ := h
  obtain ⟨t3, ht3, -⟩ := hv _ (Nat.le_refl _)
  have hH3 := (hH.next hbA).next hb3
  refine ⟨t3.tv, by rw [he, ht3], ⟨hH3, ?_⟩, zbox_kept hH3.bz⟩
  rw [← ht3]
  exact hv.mono (Nat.le_refl _) (by have := (hH.next hbA).lt; omega)
 clear hbA hbx HREP
 have hlt2 := hH.lt
 have hlt1 : w.heap.size < W2.heap.size := by omega
 simp only [TV.val] at hr2
 go_wp2_with fail
 go_region_with (first
  | (go_at_call 59; refine (becoming_any _ _ _ _).mono ?_; rintro e W3 ⟨rfl, rfl⟩)
  | (go_at_call 58; refine hr2.mono ?_; clear hr2; rintro e W3 ⟨x, rfl, hfin, ⟨z0, z1, z2, z3⟩, y0, y1, y2, y3⟩))
 all_goals
  have HFIN := hide hfin
  clear hfin
  go_wp2_with fail
  exact bodyPost_ret (v := .tuple #[x.val, .int .i64 0]) (by simp [results, Tryz.results42, go_sem, TV.val, z0, z1, z2, z3]) rfl ⟨x, rfl, set4_below (unhide HFIN).1.below (by omega) 0 x, (holds_set4 (unhide HFIN).2 (by omega) 0 x).mono (Nat.le_refl _) (by omega)⟩
theorem apply_bad {n : Nat} (t : Tm n) (a : Option Addr) (len cap : Nat) (w : World) (hT : IsT w.heap.size w t) (hok : okT t = false) :
  Calls Tryz.prog 42 #[t.tv.val, .slice a len cap] w fun e W' => e = .returned (.tuple #[.agg #[.int .i64 0, .int .i64 0, .string ⟨#[]⟩, .slice none 0 0], .int .i64 2]) ∧ Below w.heap.size w W' := by
 have hB1 : Below w.heap.size w ((w.alloc (.cells #[.int .i64 t.tv.k, .int .i64 t.tv.N, .string t.tv.s, .slice t.tv.a t.tv.len t.tv.cap] 24)).alloc (.cells #[.int .i64 0, .int .i64 0, .string ⟨#[]⟩, .slice none 0 0] 24)) := ((Below.refl _ w).alloc (Nat.le_refl _) _).alloc (by simp) _
 have hck := check_any t _ ((hT.below hB1).mono hB1.size)
 rw [chk_no hok] at hck
 have hH := Head.new w t.tv
 simp only [TV.val] at hck ⊢
 clear hT hok hB1
 go_enter Tryz.func42, Tryz.ntmps42
 go_wp2_with fail
 refine hck.mono ?_
 clear hck
 rintro e W1 ⟨rfl, hb1⟩
 replace hH := hH.next hb1
 clear hb1
 obtain ⟨⟨z0, z1, z2, z3⟩, y0, y1, y2, y3⟩ := zbox_kept hH.bz
 have HH := hide hH
 clear hH
 go_wp2_with fail
 exact bodyPost_ret (v := .tuple #[.agg #[.int .i64 0, .int .i64 0, .string ⟨#[]⟩, .slice none 0 0], .int .i64 2]) (by simp [results, Tryz.results42, go_sem, z0, z1, z2, z3]) rfl ⟨rfl, set4_below (unhide HH).below (by omega) 0 ⟨0, 0, ⟨#[]⟩, none, 0, 0⟩⟩
/- The contract of hornref.Apply: each variable of a term gives way to what the binds say; the answer may share memory with the binds. -/
def Mix (ns lo : Nat) (b : Nat) : Prop := b < ns ∨ lo ≤ b
theorem addr_add (b o n : Nat) : Addr.add ⟨b, o, none⟩ n = ⟨b, o + n, none⟩ := by
 unfold Addr.add; split
 · rename_i h; subst h; rfl
 · rfl
theorem new_cells {W5 : World} {x : TV} : ∀ j u, x.row[j]? = some u → (W5.alloc (.cells #[.int .i64 x.k, .int .i64 x.N, .string x.s, .slice x.a x.len x.cap] 24)).cell? ((⟨W5.heap.size, 0, none⟩ : Addr).add j) = some u := by
 intro j u hj
 rw [addr_add, Nat.zero_add]
 match j, hj with
 | 0, hj => simp [TV.row] at hj; subst hj; simp
 | 1, hj => simp [TV.row] at hj; subst hj; simp
 | 2, hj => simp [TV.row] at hj; subst hj; simp
 | 3, hj => simp [TV.row] at hj; subst hj; simp
 | j + 4, hj => simp [TV.row] at hj
theorem row_one {x : TV} : ∀ u ∈ x.row, u.oneCell' = true := by
 intro u hu
 simp [TV.row] at hu
 rcases hu with rfl | rfl | rfl | rfl <;> rfl
/- Terms that share memory: Same by codes; rows that were made. -/
theorem HoldsT.shared {D lo : Nat} {W : World} {v : Value} {c : List Nd} (h : HoldsT D lo W v c) {S : Nat → Prop} (hS : ∀ b, lo ≤ b → S b) : HoldsS D S W v c := fun m hm hl => by
 obtain ⟨t, h1, h2, h3, h4⟩ := h m hm
 exact ⟨t, h1, h2 hl, h3.new.blk.mono hS, h4⟩
/- hornref.Is, hornref.Body. -/
def isB (x : TV) (s : List UInt8) (n : Int) : Bool := (decide (x.k = 3) || decide (x.k = 4)) && (decide (x.s.toList = s) && ((x.len : Int) == n))
def anyB (_ : Nat) : Prop := True
theorem mix_of {n ns : Nat} {W : World} {t : Tm n} (hT : IsT ns W t) (hns : ns ≤ W.heap.size) (lo : Nat) : HoldsS n (Mix ns lo) W t.tv.val (code t) :=
 holdsS_of (hT.mono hns) (hT.blk.mono fun _ h => .inl h)
def junct (x : TV) : Bool := isB x [44] 2 || (isB x [59] 2 || isB x [45, 62] 2)
def callL : List UInt8 := [99, 97, 108, 108]
def bodyJ (s : List UInt8) : List (Option (List Nd)) → Option (List Nd)
 | [some x, some y] => some ((4, 0, s, 2) :: (x ++ y))
 | _ => none
def bodyC : {n : Nat} → Tm n → Option (List Nd)
 | 0, t => Empty.elim t
 | _ + 1, t => if t.tv.k = 1 then some ((4, 0, callL, 1) :: code t) else if t.tv.k = 2 then none else if junct t.tv = true then bodyJ t.tv.s.toList (t.kids.map bodyC) else some (code t)
theorem callL_eq : (⟨#[99, 97, 108, 108]⟩ : ByteArray).toList = callL := by decide +kernel
/- hornref.Body of two bodies; whole. -/
theorem bodyC_succ {n : Nat} (x : TV) (kids : List (Tm n)) : bodyC (n := n + 1) ((x, kids) : TV × List (Tm n)) = if x.k = 1 then some ((4, 0, callL, 1) :: code (n := n + 1) ((x, kids) : TV × List (Tm n))) else if x.k = 2 then none else if junct x = true then bodyJ x.s.toList (kids.map bodyC) else some (code (n := n + 1) ((x, kids) : TV × List (Tm n))) := rfl
theorem junct_len {x : TV} (h : junct x = true) : x.len = 2 := by
 simp only [junct, isB, Bool.or_eq_true, Bool.and_eq_true, beq_iff_eq] at h
 rcases h with h | h | h
 · have := h.2.2; omega
 · have := h.2.2; omega
 · have := h.2.2; omega
/- Terms in new memory, where only the blocks of a state change. -/
/- Numbering variables: mathematics. -/
def stpN (c : List Int) (N : Int) : List Int := if N ∈ c then c else c ++ [N]
def renN (f : Int) (c : List Int) (N : Int) : List Nd := [varNd (f + (c.idxOf N : Nat))]
theorem stpN_ext (c : List Int) (N : Int) : ∃ d, stpN c N = c ++ d := by
 unfold stpN
 split
 · exact ⟨[], by simp⟩
 · exact ⟨[N], rfl⟩
theorem stpN_mem (c : List Int) (N : Int) : N ∈ stpN c N := by
 unfold stpN
 split
 · assumption
 · simp
theorem stepsN_ext : ∀ (l : List Nd) (c : List Int), ∃ d, stepsN stpN c l = c ++ d
 | [], c => ⟨[], by simp [stepsN]⟩
 | x :: l, c => by
  have e : stepsN stpN c (x :: l) = stepsN stpN (if x.1 = 1 then stpN c x.2.1 else c) l := rfl
  rw [e]
  obtain ⟨d, hd⟩ := stepsN_ext l (if x.1 = 1 then stpN c x.2.1 else c)
  rw [hd]
  split
  · obtain ⟨d', hd'⟩ := stpN_ext c x.2.1
   exact ⟨d' ++ d, by rw [hd', List.append_assoc]⟩
  · exact ⟨d, rfl⟩
theorem idxOf_ext {c : List Int} {N : Int} (h : N ∈ c) (d : List Int) : (c ++ d).idxOf N = c.idxOf N := by
 rw [List.idxOf_append, if_pos h]
theorem varV_holds (M : Int) (lo : Nat) (W : World) : HoldsT 1 lo W (varV M).val [varNd M] := by
 have hh := holds_leaf (varV M) rfl rfl rfl (by simp [varV, ByteArray.size]) lo W
 rw [varV_nd] at hh
 exact hh
end Go.Proofs.YtlbobmebbllifaaGreat
