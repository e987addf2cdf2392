import Derived.Test.YtcjeeagnfmipgaaGreatDoorPs
import Derived.Deep.RegionWith
import Derived.Test.YtcjeeagnfmipgaaGreatDoorG
import Derived.Maps.AppendAt
/- The contract of term.checkBinds. -/
namespace Go.Proofs.YtcjeeagnfmipgaaGreatDoor
open Go.RowKit Go.Shelf

/-- A list of binds and where it lies. -/
structure BL (n : Nat) where
  a : Option Addr
  len : Nat
  cap : Nat
  bs : List (Int × Tm n)
def okB {n : Nat} (L : BL n) : Prop := ∀ p ∈ L.bs, okT p.2 = true
/-- What checkBinds answers. -/
def BindSays {n : Nat} (Ls : List (BL n)) (e : Ending) : Prop := ∃ r : Int, e = .returned (.int .i64 r) ∧ ((¬ ∀ L ∈ Ls, okB L) → r = 2) ∧ ((∀ L ∈ Ls, okB L) → (¬ ∀ L ∈ Ls, Subst L.bs) → r = 1) ∧ ((∀ L ∈ Ls, okB L) → (∀ L ∈ Ls, Subst L.bs) → r = 0)
theorem says_two {n : Nat} {Ls : List (BL n)} (h : ¬ ∀ L ∈ Ls, okB L) : BindSays Ls (.returned (.int .i64 2)) := ⟨2, rfl, fun _ => rfl, fun k => (h k).elim, fun k => (h k).elim⟩
theorem says_one {n : Nat} {Ls : List (BL n)} (h : ∀ L ∈ Ls, okB L) (h' : ¬ ∀ L ∈ Ls, Subst L.bs) : BindSays Ls (.returned (.int .i64 1)) := ⟨1, rfl, fun k => (k h).elim, fun _ _ => rfl, fun _ k => (h' k).elim⟩
theorem says_zero {n : Nat} {Ls : List (BL n)} (h : ∀ L ∈ Ls, okB L) (h' : ∀ L ∈ Ls, Subst L.bs) : BindSays Ls (.returned (.int .i64 0)) := ⟨0, rfl, fun k => (k h).elim, fun _ k => (k h').elim, fun _ _ => rfl⟩
/-- The first j have it. -/
def Fst {α : Type} (p : α → Prop) (l : List α) (j : Nat) : Prop := ∀ i x, l[i]? = some x → i < j → p x
theorem Fst.next {α : Type} {p : α → Prop} {l : List α} {j : Nat} {x : α} (h : Fst p l j) (hx : l[j]? = some x) (hp : p x) : Fst p l (j + 1) := fun i y hy hi => by
  by_cases e : i = j
  · subst e; rw [hx] at hy; cases hy; exact hp
  · exact h i y hy (by omega)
theorem Fst.all {α : Type} {p : α → Prop} {l : List α} {j : Nat} (h : Fst p l j) (hj : l.length ≤ j) : ∀ x ∈ l, p x := fun x hx => by
  obtain ⟨i, hi⟩ := List.mem_iff_getElem?.1 hx
  exact h i x hi (by have := (List.getElem?_eq_some_iff.1 hi).1; omega)

set_option maxRecDepth 100000 in
set_option maxHeartbeats 2000000 in
theorem checkBinds_any {n : Nat} (Ls : List (BL n)) (B off cp m : Nat) (w : World) (hm : m = Ls.length) (hm2 : m ≤ 100)
    (hLs : ∀ i L, Ls[i]? = some L → w.cell? ⟨B, off + i, none⟩ = some (.slice L.a L.len L.cap) ∧ IsL w.heap.size w L.a L.len L.bs) (hB : B < w.heap.size) :
    Calls Tryz.prog 59 #[.slice (some ⟨B, off, none⟩) m cp] w fun e W' => BindSays Ls e ∧ Below w.heap.size w W' := by
  have hm1 : m ≤ Ls.length := by omega
  have hm3 : Ls.length ≤ m := by omega
  have HLs := hide hLs
  clear hm hLs
  go_enter Tryz.func59, Tryz.ntmps59
  go_wp2_with fail
  go_loopw [12] (fun i wr => ∃ j : Nat, j ≤ m ∧ i = .int .i64 j ∧ Below w.heap.size w wr ∧ Fst okB Ls j) (fun i _ => m - (intOf i).toNat)
  case atStart => exact ⟨0, Nat.zero_le _, rfl, Below.refl _ _, fun i x _ h => by omega⟩
  case round =>
    obtain ⟨j, hj, rfl, hb, hs⟩ := hrel
    have HS := hide hs
    clear hs
    by_cases hlt : j < m
    · obtain ⟨⟨La, Ll, Lc, Lb⟩, hL⟩ : ∃ L, Ls[j]? = some L := ⟨Ls[j]'(by omega), List.getElem?_eq_getElem (by omega)⟩
      obtain ⟨hc, hil⟩ := (unhide HLs) j _ hL
      simp only at hc hil
      replace hc := (hb.cell (p := ⟨B, off + j, none⟩) hB).trans hc
      have hl60 := hil.2.1
      have hl1 : Ll ≤ Lb.length := by have := hil.1; omega
      have hl2 : Lb.length ≤ Ll := by have := hil.1; omega
      have HIL := hide hil
      have HLJ := hide hL
      clear hil hL
      have hj1 : (j : Int) < m := by omega
      go_wp2_with fail
      clear hc
      go_loopw [18] (fun i wr => ∃ k : Nat, k ≤ Ll ∧ i = .int .i64 k ∧ Below w.heap.size w wr ∧ Fst (fun p : Int × Tm n => okT p.2 = true) Lb k) (fun i _ => Ll - (intOf i).toNat)
      case atStart => exact ⟨0, Nat.zero_le _, rfl, hb, fun i x _ h => by omega⟩
      case round =>
        obtain ⟨k, hk, rfl, hb2, hs2⟩ := hrel
        have HS2 := hide hs2
        clear hs2
        by_cases hlt2 : k < Ll
        · obtain ⟨V, u, b, off', hu, rfl, hbk, hT, c0, c1, c2, c3, c4⟩ := bind_at (unhide HIL) hb2 hlt2
          have hk1 : (k : Int) < Ll := by omega
          have hbu := (Below.refl _ wr).alloc (Nat.le_refl _) (.cells #[.int .i64 V, .int .i64 u.tv.k, .int .i64 u.tv.N, .string u.tv.s, .slice u.tv.a u.tv.len u.tv.cap] 82)
          have hck : Calls Tryz.prog 6 #[.agg #[.int .i64 u.tv.k, .int .i64 u.tv.N, .string u.tv.s, .slice u.tv.a u.tv.len u.tv.cap]] (wr.alloc (.cells #[.int .i64 V, .int .i64 u.tv.k, .int .i64 u.tv.N, .string u.tv.s, .slice u.tv.a u.tv.len u.tv.cap] 82)) fun e W2 => e = .returned (.int .i64 (chk u)) ∧ Below wr.heap.size wr W2 :=
            (check_any u _ ((hT.below hbu).mono hbu.size)).mono fun e W2 h => ⟨h.1, hbu.trans (h.2.mono hbu.size)⟩
          have HU := hide hu
          have hcz := @chk_zero _ u
          have hcn := @chk_no _ u
          clear hT hu hbu
          generalize hd : chk u = d at *
          clear hd
          cases ho : okT u with
          | true =>
            have hd0 : d = 0 := hcz.2 ho
            have hd' : (d != 0) = false := by simp [hd0]
            have HOU := hide ho
            clear hd0 hcz hcn ho
            go_wp2_with (go_at_call 6; refine hck.mono ?_; clear hck; rintro e W2 ⟨rfl, hb3⟩)
            go_roundw
            case rel => exact ⟨k + 1, by omega, by go_num, hb2.trans (hb3.mono hb2.size), (unhide HS2).next (unhide HU) (unhide HOU)⟩
            case measure => simp [intOf]; omega
          | false =>
            have hd2 : d = 2 := hcn ho
            have HOU := hide ho
            clear hcz hcn ho
            subst hd2
            go_wp2_with (go_at_call 6; refine hck.mono ?_; clear hck; rintro e W2 ⟨rfl, hb3⟩)
            go_ret
            refine ⟨says_two fun h => ?_, hb2.trans (hb3.mono hb2.size)⟩
            have := h _ (List.mem_of_getElem? (unhide HLJ)) _ (List.mem_of_getElem? (unhide HU))
            rw [unhide HOU] at this
            cases this
        · go_wp2_with fail
          go_roundw
          case rel => exact ⟨j + 1, by omega, by go_num, hb2, (unhide HS).next (unhide HLJ) (fun p hp => (unhide HS2).all (by omega) p hp)⟩
          case measure => simp [intOf]; omega
    · have hall := (unhide HS).all (by omega)
      have HALL := hide hall
      clear hall
      go_wp2_with fail
      go_loopw [32] (fun i wr => ∃ j : Nat, j ≤ m ∧ i = .int .i64 j ∧ Below w.heap.size w wr ∧ Fst (fun L : BL n => Subst L.bs) Ls j) (fun i _ => m - (intOf i).toNat)
      case atStart => exact ⟨0, Nat.zero_le _, rfl, hb, fun i x _ h => by omega⟩
      case round =>
        obtain ⟨k, hk, rfl, hb2, hs2⟩ := hrel
        have HS2 := hide hs2
        clear hs2
        by_cases hlt2 : k < m
        · obtain ⟨⟨La, Ll, Lc, Lb⟩, hL⟩ : ∃ L, Ls[k]? = some L := ⟨Ls[k]'(by omega), List.getElem?_eq_getElem (by omega)⟩
          obtain ⟨hc, hil⟩ := (unhide HLs) k _ hL
          simp only at hc hil
          replace hc := (hb2.cell (p := ⟨B, off + k, none⟩) hB).trans hc
          have hri := isRising_any Lb La Ll Lc wr ((hil.below hb2).mono hb2.size)
          have HLJ := hide hL
          clear hil hL
          have hk1 : (k : Int) < m := by omega
          go_wp2_with fail
          refine hri.mono ?_
          clear hri
          rintro e W2 ⟨⟨f, rfl, hf⟩, hb3⟩
          have HF := hide hf
          clear hf
          cases f with
          | true =>
            go_wp2_with fail
            go_roundw
            case rel => exact ⟨k + 1, by omega, by go_num, hb2.trans (hb3.mono hb2.size), (unhide HS2).next (unhide HLJ) ((unhide HF).1 (by simp))⟩
            case measure => simp [intOf]; omega
          | false =>
            go_wp2_with fail
            go_ret
            refine ⟨says_one (unhide HALL) fun h => ?_, hb2.trans (hb3.mono hb2.size)⟩
            have := (unhide HF).2 (h _ (List.mem_of_getElem? (unhide HLJ)))
            simp at this
        · have hall2 := (unhide HS2).all (by omega)
          have HALL2 := hide hall2
          clear hall2
          go_wp2_with fail
          go_ret
          exact ⟨says_zero (unhide HALL) (unhide HALL2), hb2⟩
end Go.Proofs.YtcjeeagnfmipgaaGreatDoor

/- The contract of term.Apply. -/
namespace Go.Proofs.YtcjeeagnfmipgaaGreatDoor
open Go.RowKit Go.Shelf

/-- replace with what a list of binds says, in whatever world behind w that bears the closure's box. -/
theorem replace_binds {n : Nat} (t : Tm n) (bs : List (Int × Tm n)) (a : Option Addr) (len cap B : Nat) (w : World) (hT : IsT w.heap.size w t) (hok : okT t = true) (hl : IsL w.heap.size w a len bs) (hri : Rises bs) (hokb : ∀ p ∈ bs, okT p.2 = true) (W : World) (hb : Below w.heap.size w W) (hbox : Boxed W B 32 (.slice a len cap)) :
    Calls Tryz.prog 60 #[t.tv.val, .func (.func 89) #[] #[.pointer (some ⟨B, 0, none⟩)]] W fun e W' => ∃ v, e = .returned v ∧ Below W.heap.size W W' ∧ HoldsT (n + (n + 1)) W.heap.size W' v ((code t).flatMap (subN (lookC (cb bs)))) :=
  replace_any 89 #[.pointer (some ⟨B, 0, none⟩)] (lookC (cb bs)) (n + 1) W (by omega) (enters_of Tryz.func89 (by kernel_rfl) rfl)
    (becoming_becomes bs a len cap B W hbox ((hl.below hb).mono hb.size) hri hokb) n t W (Below.refl _ _) ((hT.below hb).mono hb.size) hok

/-- checkBinds of one list, laid in a new block. -/
theorem checkOne {n : Nat} (bs : List (Int × Tm n)) (a : Option Addr) (len cap : Nat) (W : World) (hl : IsL W.heap.size W a len bs) :
    Calls Tryz.prog 59 #[.slice (some ⟨W.heap.size, 0, none⟩) 1 1] (W.alloc (.cells #[.slice a len cap] 32)) fun e W' => BindSays [⟨a, len, cap, bs⟩] e ∧ Below W.heap.size W W' := by
  have hb : Below W.heap.size W (W.alloc (.cells #[.slice a len cap] 32)) := (Below.refl _ W).alloc (Nat.le_refl _) _
  refine (checkBinds_any [⟨a, len, cap, bs⟩] W.heap.size 0 1 1 _ rfl (by omega) (fun i L hL => ?_) (by simp)).mono fun e W' h => ⟨h.1, hb.trans (h.2.mono hb.size)⟩
  match i, hL with
  | 0, hL =>
    simp at hL; subst hL
    exact ⟨by simp, (hl.below hb).mono hb.size⟩
  | i + 1, hL => simp at hL
theorem says_one_ok {n : Nat} {L : BL n} {e : Ending} (h : BindSays [L] e) (h1 : okB L) (h2 : Subst L.bs) : e = .returned (.int .i64 0) := by
  obtain ⟨r, rfl, _, _, h0⟩ := h
  rw [h0 (by simpa using h1) (by simpa using h2)]
theorem says_one_no {n : Nat} {L : BL n} {e : Ending} (h : BindSays [L] e) (h1 : ¬ (okB L ∧ Subst L.bs)) : ∃ r : Int, e = .returned (.int .i64 r) ∧ (r = 1 ∨ r = 2) ∧ (okB L → r = 1) ∧ (¬ okB L → r = 2) := by
  obtain ⟨r, rfl, k2, k1, _⟩ := h
  by_cases hok : okB L
  · have hs : ¬ Subst L.bs := fun h => h1 ⟨hok, h⟩
    have hr := k1 (by simpa using hok) (by simpa using hs)
    exact ⟨r, rfl, .inl hr, fun _ => hr, fun h => (h hok).elim⟩
  · have hr := k2 (by simpa using hok)
    exact ⟨r, rfl, .inr hr, fun h => (hok h).elim, fun _ => hr⟩

/-- The term's box and the cell of the result, at the head of a call's own memory. -/
structure Head (w W : World) (x : TV) : Prop where
  below : Below w.heap.size w W
  ba : BoxT W w.heap.size x
  bz : W.heap[w.heap.size + 1]? = some (.cells #[.int .i64 0, .int .i64 0, .string ⟨#[]⟩, .slice none 0 0] 24 (0, 0))
theorem Head.lt {w W : World} {x : TV} (h : Head w W x) : w.heap.size + 1 < W.heap.size := (Array.getElem?_eq_some_iff.1 h.bz).1
theorem Head.next {w W W' : World} {x : TV} (h : Head w W x) (hb : Below W.heap.size W W') : Head w W' x :=
  ⟨h.below.trans (hb.mono h.below.size), (hb.block _ h.ba.lt).trans h.ba, (hb.block _ h.lt).trans h.bz⟩
theorem Head.new (w : World) (x : TV) : Head w ((w.alloc (.cells #[.int .i64 x.k, .int .i64 x.N, .string x.s, .slice x.a x.len x.cap] 24)).alloc (.cells #[.int .i64 0, .int .i64 0, .string ⟨#[]⟩, .slice none 0 0] 24)) x := by
  have h := World.alloc_heap_new (w.alloc (.cells #[.int .i64 x.k, .int .i64 x.N, .string x.s, .slice x.a x.len x.cap] 24)) (.cells #[.int .i64 0, .int .i64 0, .string ⟨#[]⟩, .slice none 0 0] 24)
  rw [World.size_alloc] at h
  exact ⟨((Below.refl _ w).alloc (Nat.le_refl _) _).alloc (by simp) _, (BoxT.new w x).alloc _, h⟩

set_option maxRecDepth 100000 in
set_option maxHeartbeats 1000000 in
theorem apply_ok {n : Nat} (t : Tm n) (bs : List (Int × Tm n)) (a : Option Addr) (len cap : Nat) (w : World) (hT : IsT w.heap.size w t) (hl : IsL w.heap.size w a len bs) (hok : okT t = true) (hokb : ∀ p ∈ bs, okT p.2 = true) (hsub : Subst bs) :
    Calls Tryz.prog 17 #[t.tv.val, .slice a len cap] w fun e W' => ∃ x : TV, e = .returned (.tuple #[x.val, .int .i64 0]) ∧ Below w.heap.size w W' ∧ HoldsT (n + (n + 1)) w.heap.size W' x.val ((code t).flatMap (subN (lookC (cb bs)))) := by
  have hB1 : Below w.heap.size w ((w.alloc (.cells #[.int .i64 t.tv.k, .int .i64 t.tv.N, .string t.tv.s, .slice t.tv.a t.tv.len t.tv.cap] 24)).alloc (.cells #[.int .i64 0, .int .i64 0, .string ⟨#[]⟩, .slice none 0 0] 24)) := ((Below.refl _ w).alloc (Nat.le_refl _) _).alloc (by simp) _
  have hck := check_any t _ ((hT.below hB1).mono hB1.size)
  rw [chk_yes hok] at hck
  have hH := Head.new w t.tv
  simp only [TV.val] at hck ⊢
  have hrep := replace_binds t bs a len cap
  have HT := hide hT
  have HL := hide hl
  have HOK := hide hok
  have HOKB := hide hokb
  have HSUB := hide hsub
  have HREP := hide hrep
  clear hT hl hok hokb hsub hrep
  go_enter Tryz.func17, Tryz.ntmps17
  go_wp2_with fail
  refine hck.mono ?_
  clear hck
  rintro e W1 ⟨rfl, hb1⟩
  replace hH := hH.next hb1
  clear hb1 hB1
  go_wp2_with fail
  refine (checkOne bs a len cap W1 (((unhide HL).below hH.below).mono hH.below.size)).mono ?_
  rintro e W2 ⟨hsay, hb2⟩
  obtain rfl := says_one_ok hsay (unhide HOKB) (unhide HSUB)
  replace hH := hH.next hb2
  clear hb2 hsay
  have c0 := hH.ba.c0
  have c1 := hH.ba.c1
  have c2 := hH.ba.c2
  have c3 := hH.ba.c3
  have hbA : Below W2.heap.size W2 (W2.alloc (.cells #[.slice a len cap] 32)).drew := ((Below.refl _ W2).alloc (Nat.le_refl _) _).drew
  have hbx : Boxed (W2.alloc (.cells #[.slice a len cap] 32)).drew W2.heap.size 32 (.slice a len cap) := Boxed.new W2 32 (.slice a len cap)
  have hr2 : Calls Tryz.prog 60 #[.agg #[.int .i64 t.tv.k, .int .i64 t.tv.N, .string t.tv.s, .slice t.tv.a t.tv.len t.tv.cap], .func (.func 89) #[] #[.pointer (some ⟨W2.heap.size, 0, none⟩)]] (W2.alloc (.cells #[.slice a len cap] 32)).drew fun e W3 => ∃ x : TV, e = .returned x.val ∧ (Head w W3 t.tv ∧ HoldsT (n + (n + 1)) (w.heap.size + 2) W3 x.val ((code t).flatMap (subN (lookC (cb bs))))) ∧
      (W3.cell? ⟨w.heap.size + 1, 0, none⟩ = some (.int .i64 0) ∧ W3.cell? ⟨w.heap.size + 1, 1, none⟩ = some (.int .i64 0) ∧ W3.cell? ⟨w.heap.size + 1, 2, none⟩ = some (.string ⟨#[]⟩) ∧ W3.cell? ⟨w.heap.size + 1, 3, none⟩ = some (.slice none 0 0)) ∧ (W3.frozen? ⟨w.heap.size + 1, 0, none⟩ = false ∧ W3.frozen? ⟨w.heap.size + 1, 1, none⟩ = false ∧ W3.frozen? ⟨w.heap.size + 1, 2, none⟩ = false ∧ W3.frozen? ⟨w.heap.size + 1, 3, none⟩ = false) := by
    refine ((unhide HREP) W2.heap.size w (unhide HT) (unhide HOK) (unhide HL) (unhide HSUB).2 (unhide HOKB) _ (hH.below.trans (hbA.mono hH.below.size)) hbx).mono fun e W3 h => ?_
    obtain ⟨v, he, hb3, hv⟩ := h
    obtain ⟨t3, ht3, -⟩ := hv _ (Nat.le_refl _)
    have hH3 := (hH.next hbA).next hb3
    refine ⟨t3.tv, by rw [he, ht3], ⟨hH3, ?_⟩, zbox_kept hH3.bz⟩
    rw [← ht3]
    exact hv.mono (Nat.le_refl _) (by have := (hH.next hbA).lt; omega)
  clear hbA hbx HREP
  have hlt2 := hH.lt
  have hlt1 : w.heap.size < W2.heap.size := by omega
  simp only [TV.val] at hr2
  go_wp2_with fail
  go_region_with (first
    | (go_at_call 61; refine (becoming_any _ _ _ _).mono ?_; rintro e W3 ⟨rfl, rfl⟩)
    | (go_at_call 60; refine hr2.mono ?_; clear hr2; rintro e W3 ⟨x, rfl, hfin, ⟨z0, z1, z2, z3⟩, y0, y1, y2, y3⟩))
  all_goals
    have HFIN := hide hfin
    clear hfin
    go_wp2_with fail
    exact bodyPost_ret (v := .tuple #[x.val, .int .i64 0]) (by simp [results, Tryz.results17, go_sem, TV.val, z0, z1, z2, z3]) rfl ⟨x, rfl, set4_below (unhide HFIN).1.below (by omega) 0 x, (holds_set4 (unhide HFIN).2 (by omega) 0 x).mono (Nat.le_refl _) (by omega)⟩

set_option maxRecDepth 100000 in
set_option maxHeartbeats 1000000 in
theorem apply_bad {n : Nat} (t : Tm n) (a : Option Addr) (len cap : Nat) (w : World) (hT : IsT w.heap.size w t) (hok : okT t = false) :
    Calls Tryz.prog 17 #[t.tv.val, .slice a len cap] w fun e W' => e = .returned (.tuple #[.agg #[.int .i64 0, .int .i64 0, .string ⟨#[]⟩, .slice none 0 0], .int .i64 2]) ∧ Below w.heap.size w W' := by
  have hB1 : Below w.heap.size w ((w.alloc (.cells #[.int .i64 t.tv.k, .int .i64 t.tv.N, .string t.tv.s, .slice t.tv.a t.tv.len t.tv.cap] 24)).alloc (.cells #[.int .i64 0, .int .i64 0, .string ⟨#[]⟩, .slice none 0 0] 24)) := ((Below.refl _ w).alloc (Nat.le_refl _) _).alloc (by simp) _
  have hck := check_any t _ ((hT.below hB1).mono hB1.size)
  rw [chk_no hok] at hck
  have hH := Head.new w t.tv
  simp only [TV.val] at hck ⊢
  clear hT hok hB1
  go_enter Tryz.func17, Tryz.ntmps17
  go_wp2_with fail
  refine hck.mono ?_
  clear hck
  rintro e W1 ⟨rfl, hb1⟩
  replace hH := hH.next hb1
  clear hb1
  obtain ⟨⟨z0, z1, z2, z3⟩, y0, y1, y2, y3⟩ := zbox_kept hH.bz
  have HH := hide hH
  clear hH
  go_wp2_with fail
  exact bodyPost_ret (v := .tuple #[.agg #[.int .i64 0, .int .i64 0, .string ⟨#[]⟩, .slice none 0 0], .int .i64 2]) (by simp [results, Tryz.results17, go_sem, z0, z1, z2, z3]) rfl ⟨rfl, set4_below (unhide HH).below (by omega) 0 ⟨0, 0, ⟨#[]⟩, none, 0, 0⟩⟩

set_option maxRecDepth 100000 in
set_option maxHeartbeats 1000000 in
theorem apply_err {n : Nat} (t : Tm n) (bs : List (Int × Tm n)) (a : Option Addr) (len cap : Nat) (w : World) (hT : IsT w.heap.size w t) (hl : IsL w.heap.size w a len bs) (hok : okT t = true) (hno : ¬ ((∀ p ∈ bs, okT p.2 = true) ∧ Subst bs)) :
    Calls Tryz.prog 17 #[t.tv.val, .slice a len cap] w fun e W' => ∃ r : Int, e = .returned (.tuple #[.agg #[.int .i64 0, .int .i64 0, .string ⟨#[]⟩, .slice none 0 0], .int .i64 r]) ∧ ((r = 1 ∨ r = 2) ∧ ((∀ p ∈ bs, okT p.2 = true) → r = 1) ∧ ((¬ ∀ p ∈ bs, okT p.2 = true) → r = 2)) ∧ Below w.heap.size w W' := by
  have hB1 : Below w.heap.size w ((w.alloc (.cells #[.int .i64 t.tv.k, .int .i64 t.tv.N, .string t.tv.s, .slice t.tv.a t.tv.len t.tv.cap] 24)).alloc (.cells #[.int .i64 0, .int .i64 0, .string ⟨#[]⟩, .slice none 0 0] 24)) := ((Below.refl _ w).alloc (Nat.le_refl _) _).alloc (by simp) _
  have hck := check_any t _ ((hT.below hB1).mono hB1.size)
  rw [chk_yes hok] at hck
  have hH := Head.new w t.tv
  simp only [TV.val] at hck ⊢
  have HL := hide hl
  have HNO := hide hno
  clear hT hok hl hno hB1
  go_enter Tryz.func17, Tryz.ntmps17
  go_wp2_with fail
  refine hck.mono ?_
  clear hck
  rintro e W1 ⟨rfl, hb1⟩
  replace hH := hH.next hb1
  clear hb1
  go_wp2_with fail
  refine (checkOne bs a len cap W1 (((unhide HL).below hH.below).mono hH.below.size)).mono ?_
  rintro e W2 ⟨hsay, hb2⟩
  obtain ⟨r, rfl, hr, hr1, hr2⟩ := says_one_no hsay (unhide HNO)
  replace hH := hH.next hb2
  have hr0 : (r != 0) = true := by rw [bne_iff_ne]; omega
  have HR := hide (And.intro hr (And.intro hr1 hr2))
  clear hb2 hsay hr hr1 hr2
  obtain ⟨⟨z0, z1, z2, z3⟩, y0, y1, y2, y3⟩ := zbox_kept hH.bz
  have HH := hide hH
  clear hH
  go_wp2_with fail
  exact bodyPost_ret (v := .tuple #[.agg #[.int .i64 0, .int .i64 0, .string ⟨#[]⟩, .slice none 0 0], .int .i64 r]) (by simp [results, Tryz.results17, go_sem, z0, z1, z2, z3]) rfl ⟨r, rfl, unhide HR, set4_below (unhide HH).below (by omega) 0 ⟨0, 0, ⟨#[]⟩, none, 0, 0⟩⟩
end Go.Proofs.YtcjeeagnfmipgaaGreatDoor

/- Terms that share memory (BlkT, HoldsS), lifted to more storeys; rows of terms that a call owns; the contracts of hornref.V and hornref.Find. -/
namespace Go.Proofs.YtcjeeagnfmipgaaGreatDoor
open Go.RowKit Go.Shelf

/-- One storey more. -/
def Tm.lift : {n : Nat} → Tm n → Tm (n + 1)
  | 0, t => Empty.elim t
  | _ + 1, t => (t.tv, t.kids.map Tm.lift)
/-- Every block of the term's own memory is in S. -/
def BlkT (S : Nat → Prop) : {n : Nat} → Tm n → Prop
  | 0, _ => True
  | _ + 1, t => (t.kids = [] ∨ ∃ b off, t.tv.a = some ⟨b, off, none⟩ ∧ S b) ∧ ∀ u ∈ t.kids, BlkT S u
theorem BlkT.mono {S S' : Nat → Prop} (h : ∀ b, S b → S' b) : ∀ {n : Nat} {t : Tm n}, BlkT S t → BlkT S' t := by
  intro n
  induction n with
  | zero => intro t; exact Empty.elim t
  | succ n ih =>
    intro t ht
    obtain ⟨h1, h2⟩ := ht
    refine ⟨?_, fun u hu => ih (h2 u hu)⟩
    rcases h1 with h1 | ⟨b, off, ha, hb⟩
    · exact .inl h1
    · exact .inr ⟨b, off, ha, h b hb⟩
theorem BlkT.and {S S' : Nat → Prop} : ∀ {n : Nat} {t : Tm n}, BlkT S t → BlkT S' t → BlkT (fun b => S b ∧ S' b) t := by
  intro n
  induction n with
  | zero => intro t; exact Empty.elim t
  | succ n ih =>
    intro t ht ht'
    obtain ⟨h1, h2⟩ := ht
    obtain ⟨k1, k2⟩ := ht'
    refine ⟨?_, fun u hu => ih (h2 u hu) (k2 u hu)⟩
    rcases h1 with h1 | ⟨b, off, ha, hb⟩
    · exact .inl h1
    · rcases k1 with k1 | ⟨b', off', ha', hb'⟩
      · exact .inl k1
      · rw [ha] at ha'; simp at ha'; obtain ⟨rfl, rfl⟩ := ha'
        exact .inr ⟨b, off, ha, hb, hb'⟩
theorem IsT.blk {n₀ : Nat} {W : World} : ∀ {n : Nat} {t : Tm n}, IsT n₀ W t → BlkT (· < n₀) t := by
  intro n
  induction n with
  | zero => intro t; exact Empty.elim t
  | succ n ih =>
    intro t ht
    obtain ⟨_, _, _, h4⟩ := ht
    rcases h4 with h4 | ⟨b, off, ha, hb, hk⟩
    · exact ⟨.inl h4, fun u hu => by rw [h4] at hu; cases hu⟩
    · exact ⟨.inr ⟨b, off, ha, hb⟩, fun u hu => by
        obtain ⟨j, hj⟩ := List.mem_iff_getElem?.1 hu
        exact ih (hk j u hj).2⟩
theorem NewT.blk {lo : Nat} : ∀ {n : Nat} {t : Tm n}, NewT lo t → BlkT (lo ≤ ·) t := by
  intro n
  induction n with
  | zero => intro t; exact Empty.elim t
  | succ n ih =>
    intro t ht
    exact ⟨ht.1, fun u hu => ih (ht.2 u hu)⟩
/-- What is in S lies as it lay: so does the term. -/
theorem IsT.fromS {n₀ : Nat} {S : Nat → Prop} {A B : World} (hs : ∀ b, S b → B.heap[b]? = A.heap[b]?) : ∀ {n : Nat} {t : Tm n}, IsT n₀ A t → BlkT S t → IsT n₀ B t := by
  intro n
  induction n with
  | zero => intro t; exact Empty.elim t
  | succ n ih =>
    intro t ht hn
    obtain ⟨h1, h2, h3, h4⟩ := ht
    obtain ⟨k1, k2⟩ := hn
    rcases h4 with h4 | ⟨b, off, ha, hb, hk⟩
    · exact ⟨h1, h2, h3, .inl h4⟩
    · rcases k1 with k1 | ⟨b', off', ha', hlo⟩
      · exact ⟨h1, h2, h3, .inl k1⟩
      · rw [ha] at ha'
        simp at ha'
        obtain ⟨rfl, rfl⟩ := ha'
        refine ⟨h1, h2, h3, .inr ⟨b, off, ha, hb, fun j u hu => ?_⟩⟩
        obtain ⟨hc, hT⟩ := hk j u hu
        exact ⟨hc.kept (hs b hlo), ih hT (k2 u (List.mem_of_getElem? hu))⟩

theorem lift_tv : ∀ {n : Nat} (t : Tm n), t.lift.tv = t.tv
  | 0, t => Empty.elim t
  | _ + 1, _ => rfl
theorem flatMap_same {α β : Type} {f g : α → List β} : ∀ (l : List α), (∀ u ∈ l, f u = g u) → l.flatMap f = l.flatMap g
  | [], _ => rfl
  | a :: l, h => by rw [List.flatMap_cons, List.flatMap_cons, h a (by simp), flatMap_same l (fun u hu => h u (by simp [hu]))]
theorem lift_code : ∀ {n : Nat} (t : Tm n), code t.lift = code t := by
  intro n
  induction n with
  | zero => intro t; exact Empty.elim t
  | succ n ih =>
    intro t
    obtain ⟨x, kids⟩ := t
    show code (n := n + 1 + 1) ((x, kids.map Tm.lift) : TV × List (Tm (n + 1))) = _
    rw [code_succ, code_succ, List.flatMap_map]
    congr 1
    exact flatMap_same kids (fun u _ => ih u)
theorem lift_isT {n₀ : Nat} {W : World} : ∀ {n : Nat} {t : Tm n}, IsT n₀ W t → n + 1 ≤ 2199023255552 → IsT n₀ W t.lift := by
  intro n
  induction n with
  | zero => intro t; exact Empty.elim t
  | succ n ih =>
    intro t ht hlim
    obtain ⟨x, kids⟩ := t
    obtain ⟨h1, h2, h3, h4⟩ := ht
    simp only [Tm.tv, Tm.kids] at h1 h2 h3 h4
    have hl : x.len = (kids.map Tm.lift).length := by simpa using h1
    rcases h4 with h4 | ⟨b, off, ha, hb, hk⟩
    · exact ⟨hl, ⟨h2.1, h2.2.1, hlim⟩, h3, .inl (by show kids.map Tm.lift = []; rw [h4]; rfl)⟩
    · refine ⟨hl, ⟨h2.1, h2.2.1, hlim⟩, h3, .inr ⟨b, off, ha, hb, fun j u hu => ?_⟩⟩
      have hu' : (kids.map Tm.lift)[j]? = some u := hu
      rw [List.getElem?_map] at hu'
      obtain ⟨v, hv, rfl⟩ := Option.map_eq_some_iff.1 hu'
      obtain ⟨k1, k2⟩ := hk j v hv
      exact ⟨by rw [lift_tv]; exact k1, ih k2 (by omega)⟩
theorem lift_isW {n₀ : Nat} {W : World} {n : Nat} {t : Tm n} (h : IsW n₀ W t) : IsW n₀ W t.lift := fun hl => lift_isT (h (by omega)) hl
theorem lift_blk {S : Nat → Prop} : ∀ {n : Nat} {t : Tm n}, BlkT S t → BlkT S t.lift := by
  intro n
  induction n with
  | zero => intro t; exact Empty.elim t
  | succ n ih =>
    intro t ht
    obtain ⟨x, kids⟩ := t
    obtain ⟨h1, h2⟩ := ht
    refine ⟨?_, fun u hu => ?_⟩
    · rcases h1 with h1 | h1
      · exact .inl (by show kids.map Tm.lift = []; rw [show kids = [] from h1]; rfl)
      · exact .inr h1
    · have hu' : u ∈ kids.map Tm.lift := hu
      obtain ⟨v, hv, rfl⟩ := List.mem_map.1 hu'
      exact ih (h2 v hv)

/-- The value v is a term of the code c, at every number of storeys from D on, its memory in S. -/
def HoldsS (D : Nat) (S : Nat → Prop) (W : World) (v : Value) (c : List Nd) : Prop :=
  ∀ m, D ≤ m → m ≤ 2199023255552 → ∃ t : Tm m, v = t.tv.val ∧ IsT W.heap.size W t ∧ BlkT S t ∧ code t = c
theorem holdsS_of {n : Nat} {t : Tm n} {S : Nat → Prop} {W : World} (hT : IsT W.heap.size W t) (hS : BlkT S t) : HoldsS n S W t.tv.val (code t) := fun m hm hl => by
  obtain ⟨k, rfl⟩ : ∃ k, m = n + k := ⟨m - n, by omega⟩
  clear hm
  induction k with
  | zero => exact ⟨t, rfl, hT, hS, rfl⟩
  | succ k ih =>
    obtain ⟨t', h1, h2, h3, h4⟩ := ih (by omega)
    exact ⟨t'.lift, by rw [lift_tv]; exact h1, lift_isT h2 hl, lift_blk h3, by rw [lift_code]; exact h4⟩
theorem HoldsT.holdsS {D lo : Nat} {W : World} {v : Value} {c : List Nd} (h : HoldsT D lo W v c) : HoldsS D (lo ≤ ·) W v c := fun m hm hl => by
  obtain ⟨t, h1, h2, h3, h4⟩ := h m hm
  exact ⟨t, h1, h2 hl, h3.new.blk, h4⟩
theorem HoldsS.mono {D D' : Nat} {S S' : Nat → Prop} {W : World} {v : Value} {c : List Nd} (h : HoldsS D S W v c) (hD : D ≤ D') (hS : ∀ b, S b → S' b) : HoldsS D' S' W v c := fun m hm hl => by
  obtain ⟨t, h1, h2, h3, h4⟩ := h m (by omega) hl
  exact ⟨t, h1, h2, h3.mono hS, h4⟩
theorem HoldsS.below {D : Nat} {S : Nat → Prop} {A B : World} {v : Value} {c : List Nd} (h : HoldsS D S A v c) (hb : Below A.heap.size A B) : HoldsS D S B v c := fun m hm hl => by
  obtain ⟨t, h1, h2, h3, h4⟩ := h m hm hl
  exact ⟨t, h1, (h2.below hb).mono hb.size, h3, h4⟩
theorem HoldsS.fromS {D : Nat} {S : Nat → Prop} {A B : World} {v : Value} {c : List Nd} (h : HoldsS D S A v c) (hs : ∀ b, S b → b < A.heap.size → B.heap[b]? = A.heap[b]?) (hsz : A.heap.size ≤ B.heap.size) : HoldsS D S B v c := fun m hm hl => by
  obtain ⟨t, h1, h2, h3, h4⟩ := h m hm hl
  exact ⟨t, h1, (h2.fromS (S := fun b => S b ∧ b < A.heap.size) (fun b hb => hs b hb.1 hb.2) (h3.and h2.blk)).mono hsz, h3, h4⟩

set_option maxHeartbeats 400000 in
theorem v_any (N : Int) (w : World) : Calls Tryz.prog 52 #[.int .i64 N] w fun e W' => e = .returned (varV N).val ∧ Below w.heap.size w W' := by
  go_enter Tryz.func52, Tryz.ntmps52
  go_wp2
  exact bodyPost_ret (v := (varV N).val) (by simp [results, Tryz.results52, go_sem, varV, TV.val]) rfl ⟨rfl, (Below.refl _ _).alloc (Nat.le_refl _) _⟩

theorem find_take {c : List (Int × List Nd)} {N : Int} {j : Nat} {p : Int × List Nd} (hj : c[j]? = some p) (h : ∀ i q, c[i]? = some q → i < j → q.1 ≠ N) (hp : p.1 = N) : lookC c N = p.2 := by
  unfold lookC
  have : c.find? (fun p => p.1 == N) = some p := by
    rw [List.find?_eq_some_iff_getElem]
    obtain ⟨hlt, rfl⟩ := List.getElem?_eq_some_iff.1 hj
    refine ⟨by simp [hp], j, hlt, rfl, fun i hi => ?_⟩
    have := h i _ (List.getElem?_eq_getElem (by omega)) hi
    simpa using this
  rw [this]
theorem find_nil {c : List (Int × List Nd)} {N : Int} (h : ∀ q ∈ c, q.1 ≠ N) : lookC c N = [varNd N] := by
  unfold lookC
  rw [List.find?_eq_none.2 (fun q hq => by simpa using h q hq)]
theorem cb_at {n : Nat} {bs : List (Int × Tm n)} {j : Nat} {p : Int × Tm n} (h : bs[j]? = some p) : (cb bs)[j]? = some (p.1, code p.2) := by
  unfold cb; rw [List.getElem?_map, h]; rfl
theorem cb_at' {n : Nat} {bs : List (Int × Tm n)} {j : Nat} {q : Int × List Nd} (h : (cb bs)[j]? = some q) : ∃ p, bs[j]? = some p ∧ q = (p.1, code p.2) := by
  unfold cb at h; rw [List.getElem?_map] at h
  obtain ⟨p, hp, rfl⟩ := Option.map_eq_some_iff.1 h
  exact ⟨p, hp, rfl⟩

/-- What Find answers. -/
def FindSays {n : Nat} (bs : List (Int × Tm n)) (N : Int) (ns : Nat) (w : World) (e : Ending) (W' : World) : Prop :=
  ∃ (x : TV) (f : Bool), e = .returned (.tuple #[x.val, .bool f]) ∧ Below w.heap.size w W' ∧ HoldsS (n + 1) (· < ns) W' x.val (lookC (cb bs) N) ∧ (f = true ↔ ∃ p ∈ bs, p.1 = N)

set_option maxRecDepth 100000 in
set_option maxHeartbeats 1000000 in
theorem rfind_any {n : Nat} (bs : List (Int × Tm n)) (a : Option Addr) (len cap : Nat) (N : Int) (ns : Nat) (w : World) (hl : IsL ns w a len bs) (hns : ns ≤ w.heap.size) :
    Calls Tryz.prog 98 #[.slice a len cap, .int .i64 N] w fun e W' => FindSays bs N ns w e W' := by
  have h1 := hl.1
  have h2 := hl.2.1
  have hl1 : len ≤ bs.length := by omega
  have hl2 : bs.length ≤ len := by omega
  clear h1
  have HL := hide hl
  clear hl
  have hB1 := (Below.refl _ w).alloc (Nat.le_refl _) (.cells #[.int .i64 0, .int .i64 0, .string ⟨#[]⟩, .slice none 0 0] 24)
  have hnew := World.alloc_heap_new w (.cells #[.int .i64 0, .int .i64 0, .string ⟨#[]⟩, .slice none 0 0] 24)
  go_enter Tryz.func98, Tryz.ntmps98
  go_wp2_with fail
  obtain ⟨W1, hW1⟩ : ∃ W1, w.alloc (.cells #[.int .i64 0, .int .i64 0, .string ⟨#[]⟩, .slice none 0 0] 24) = W1 := ⟨_, rfl⟩
  have hsz : (w.alloc (.cells #[.int .i64 0, .int .i64 0, .string ⟨#[]⟩, .slice none 0 0] 24)).heap.size = w.heap.size + 1 := by simp
  rw [hW1] at hB1 hnew hsz ⊢
  clear hW1
  obtain ⟨⟨z0, z1, z2, z3⟩, y0, y1, y2, y3⟩ := zbox_kept hnew
  have HSZ := hide hsz
  clear hsz hnew
  go_loop [6] (fun i => ∃ j : Nat, j ≤ len ∧ i = .int .i64 j ∧ ∀ i q, bs[i]? = some q → i < j → q.1 ≠ N) (fun i => len - (intOf i).toNat)
  case atStart => exact ⟨0, Nat.zero_le _, rfl, fun i q _ h => by omega⟩
  case round =>
    obtain ⟨j, hj, rfl, hs⟩ := hrel
    have HS := hide hs
    clear hs
    by_cases hlt : j < len
    · have hl' : IsL W1.heap.size W1 a len bs := ((unhide HL).below (hB1.mono hns)).mono (Nat.le_trans hns hB1.size)
      obtain ⟨V, u, b, off, hu, rfl, hbk, hT, c0, c1, c2, c3, c4⟩ := bind_at hl' (Below.refl _ _) hlt
      have hTs : IsT ns W1 u := by
        obtain ⟨_, _, h3⟩ := (unhide HL).below (hB1.mono hns)
        have hne : bs ≠ [] := by rintro rfl; simp at hu
        obtain ⟨_, _, _, _, hk⟩ := h3.resolve_left hne
        exact (hk j _ hu).2.2
      have HT := hide hTs
      have HU := hide hu
      clear hT hu hl' hTs
      have hj1 : (j : Int) < len := by omega
      by_cases hV : V = N
      · have hV' : (V == N) = true := by simp [hV]
        have HV := hide hV
        clear hV
        have hfin : HoldsS (n + 1) (· < ns) (set4 W1 w.heap.size 0 u.tv) u.tv.val (lookC (cb bs) N) := by
          rw [find_take (cb_at (unhide HU)) (fun i q hq hi => by obtain ⟨p, hp, rfl⟩ := cb_at' hq; exact (unhide HS) i p hp hi) (unhide HV)]
          have hT1 : IsT ns (set4 W1 w.heap.size 0 u.tv) u := (unhide HT).fromS (fun b hb => set4_other W1 w.heap.size 0 u.tv (by omega)) (unhide HT).blk
          exact (holdsS_of (hT1.mono (by rw [set4_size]; have := unhide HSZ; omega)) hT1.blk).mono (by omega) (fun _ h => h)
        have hbf : Below w.heap.size w (set4 W1 w.heap.size 0 u.tv) := set4_below hB1 (Nat.le_refl _) 0 u.tv
        have HF := hide hfin
        have HBF := hide hbf
        clear hfin hbf
        go_wp2_with fail
        exact bodyPost_ret (v := .tuple #[u.tv.val, .bool true]) (by simp [results, Tryz.results98, go_sem, TV.val, z0, z1, z2, z3]) rfl ⟨u.tv, true, rfl, unhide HBF, unhide HF, fun _ => ⟨_, List.mem_of_getElem? (unhide HU), unhide HV⟩, fun _ => rfl⟩
      · have hV' : (V == N) = false := by simp [hV]
        have HV := hide hV
        clear hV
        go_wp2_with fail
        go_round
        case rel => exact ⟨j + 1, by omega, by go_num, fun i q hq hi => by
          by_cases e : i = j
          · subst e; rw [unhide HU] at hq; cases hq; exact unhide HV
          · exact (unhide HS) i q hq (by omega)⟩
        case measure => simp [intOf]; omega
    · have hv := v_any N W1
      simp only [TV.val, varV] at hv
      go_wp2_with fail
      refine hv.mono ?_
      clear hv
      rintro e W2 ⟨rfl, hb2⟩
      have hbz : ∀ b, b < W1.heap.size → W2.heap[b]? = W1.heap[b]? := hb2.block
      have zz : W2.cell? ⟨w.heap.size, 0, none⟩ = some (.int .i64 0) ∧ W2.cell? ⟨w.heap.size, 1, none⟩ = some (.int .i64 0) ∧ W2.cell? ⟨w.heap.size, 2, none⟩ = some (.string ⟨#[]⟩) ∧ W2.cell? ⟨w.heap.size, 3, none⟩ = some (.slice none 0 0) := by
        have hlt : w.heap.size < W1.heap.size := by have := unhide HSZ; omega
        exact ⟨(hb2.cell (p := ⟨w.heap.size, 0, none⟩) hlt).trans z0, (hb2.cell (p := ⟨w.heap.size, 1, none⟩) hlt).trans z1, (hb2.cell (p := ⟨w.heap.size, 2, none⟩) hlt).trans z2, (hb2.cell (p := ⟨w.heap.size, 3, none⟩) hlt).trans z3⟩
      have yy : W2.frozen? ⟨w.heap.size, 0, none⟩ = false ∧ W2.frozen? ⟨w.heap.size, 1, none⟩ = false ∧ W2.frozen? ⟨w.heap.size, 2, none⟩ = false ∧ W2.frozen? ⟨w.heap.size, 3, none⟩ = false := by
        have hlt : w.heap.size < W1.heap.size := by have := unhide HSZ; omega
        exact ⟨(hb2.frozen (p := ⟨w.heap.size, 0, none⟩) hlt).trans y0, (hb2.frozen (p := ⟨w.heap.size, 1, none⟩) hlt).trans y1, (hb2.frozen (p := ⟨w.heap.size, 2, none⟩) hlt).trans y2, (hb2.frozen (p := ⟨w.heap.size, 3, none⟩) hlt).trans y3⟩
      clear z0 z1 z2 z3 y0 y1 y2 y3 hbz
      obtain ⟨z0, z1, z2, z3⟩ := zz
      obtain ⟨y0, y1, y2, y3⟩ := yy
      have hnone : ∀ p ∈ bs, p.1 ≠ N := fun p hp => by
        obtain ⟨i, hi⟩ := List.mem_iff_getElem?.1 hp
        exact (unhide HS) i p hi (by have := (List.getElem?_eq_some_iff.1 hi).1; omega)
      have hfin : HoldsS (n + 1) (· < ns) (set4 W2 w.heap.size 0 (varV N)) (varV N).val (lookC (cb bs) N) := by
        rw [find_nil (fun q hq => by obtain ⟨i, hi⟩ := List.mem_iff_getElem?.1 hq; obtain ⟨p, hp, rfl⟩ := cb_at' hi; exact hnone p (List.mem_of_getElem? hp)), ← varV_nd]
        intro m hm hl
        obtain ⟨m', rfl⟩ : ∃ m', m = m' + 1 := ⟨m - 1, by omega⟩
        refine ⟨((varV N, []) : TV × List (Tm m')), rfl, ⟨rfl, ⟨by simp [Tm.tv, varV], by simp [Tm.tv, varV], hl⟩, by simp [Tm.tv, varV, ByteArray.size], .inl rfl⟩, ⟨.inl rfl, fun u hu => by cases hu⟩, ?_⟩
        rw [code_succ]; rfl
      have hbf : Below w.heap.size w (set4 W2 w.heap.size 0 (varV N)) := set4_below (hB1.trans (hb2.mono hB1.size)) (Nat.le_refl _) 0 _
      have HF := hide hfin
      have HBF := hide hbf
      have HN := hide hnone
      clear hfin hbf hnone hb2
      go_wp2_with fail
      exact bodyPost_ret (v := .tuple #[(varV N).val, .bool false]) (by simp [results, Tryz.results98, go_sem, TV.val, varV, z0, z1, z2, z3]) rfl ⟨varV N, false, rfl, unhide HBF, unhide HF, (fun h => by cases h), fun ⟨p, hp, e⟩ => ((unhide HN) p hp e).elim⟩
end Go.Proofs.YtcjeeagnfmipgaaGreatDoor

