import Derived.Test.YtojefplapklbmaaGreatDoorPs
import Derived.Deep.RegionWith
/- The contract of term.checkBinds. -/
namespace Go.Proofs.YtojefplapklbmaaGreatDoor
open Go.RowKit Go.Shelf

/-- A list of binds and where it lies. -/
structure BL (n : Nat) where
  a : Option Addr
  len : Nat
  cap : Nat
  bs : List (Int × Tm n)
def okB {n : Nat} (L : BL n) : Prop := ∀ p ∈ L.bs, okT p.2 = true
/-- What checkBinds answers. -/
def BindSays {n : Nat} (Ls : List (BL n)) (e : Ending) : Prop := ∃ r : Int, e = .returned (.int .i64 r) ∧ ((¬ ∀ L ∈ Ls, okB L) → r = 2) ∧ ((∀ L ∈ Ls, okB L) → (¬ ∀ L ∈ Ls, Subst L.bs) → r = 1) ∧ ((∀ L ∈ Ls, okB L) → (∀ L ∈ Ls, Subst L.bs) → r = 0)
theorem says_two {n : Nat} {Ls : List (BL n)} (h : ¬ ∀ L ∈ Ls, okB L) : BindSays Ls (.returned (.int .i64 2)) := ⟨2, rfl, fun _ => rfl, fun k => (h k).elim, fun k => (h k).elim⟩
theorem says_one {n : Nat} {Ls : List (BL n)} (h : ∀ L ∈ Ls, okB L) (h' : ¬ ∀ L ∈ Ls, Subst L.bs) : BindSays Ls (.returned (.int .i64 1)) := ⟨1, rfl, fun k => (k h).elim, fun _ _ => rfl, fun _ k => (h' k).elim⟩
theorem says_zero {n : Nat} {Ls : List (BL n)} (h : ∀ L ∈ Ls, okB L) (h' : ∀ L ∈ Ls, Subst L.bs) : BindSays Ls (.returned (.int .i64 0)) := ⟨0, rfl, fun k => (k h).elim, fun _ k => (k h').elim, fun _ _ => rfl⟩
/-- The first j have it. -/
def Fst {α : Type} (p : α → Prop) (l : List α) (j : Nat) : Prop := ∀ i x, l[i]? = some x → i < j → p x
theorem Fst.next {α : Type} {p : α → Prop} {l : List α} {j : Nat} {x : α} (h : Fst p l j) (hx : l[j]? = some x) (hp : p x) : Fst p l (j + 1) := fun i y hy hi => by
  by_cases e : i = j
  · subst e; rw [hx] at hy; cases hy; exact hp
  · exact h i y hy (by omega)
theorem Fst.all {α : Type} {p : α → Prop} {l : List α} {j : Nat} (h : Fst p l j) (hj : l.length ≤ j) : ∀ x ∈ l, p x := fun x hx => by
  obtain ⟨i, hi⟩ := List.mem_iff_getElem?.1 hx
  exact h i x hi (by have := (List.getElem?_eq_some_iff.1 hi).1; omega)

set_option maxRecDepth 100000 in
set_option maxHeartbeats 2000000 in
theorem checkBinds_any {n : Nat} (Ls : List (BL n)) (B off cp m : Nat) (w : World) (hm : m = Ls.length) (hm2 : m ≤ 100)
    (hLs : ∀ i L, Ls[i]? = some L → w.cell? ⟨B, off + i, none⟩ = some (.slice L.a L.len L.cap) ∧ IsL w.heap.size w L.a L.len L.bs) (hB : B < w.heap.size) :
    Calls Tryz.prog 59 #[.slice (some ⟨B, off, none⟩) m cp] w fun e W' => BindSays Ls e ∧ Below w.heap.size w W' := by
  have hm1 : m ≤ Ls.length := by omega
  have hm3 : Ls.length ≤ m := by omega
  have HLs := hide hLs
  clear hm hLs
  go_enter Tryz.func59, Tryz.ntmps59
  go_wp2_with fail
  go_loopw [12] (fun i wr => ∃ j : Nat, j ≤ m ∧ i = .int .i64 j ∧ Below w.heap.size w wr ∧ Fst okB Ls j) (fun i _ => m - (intOf i).toNat)
  case atStart => exact ⟨0, Nat.zero_le _, rfl, Below.refl _ _, fun i x _ h => by omega⟩
  case round =>
    obtain ⟨j, hj, rfl, hb, hs⟩ := hrel
    have HS := hide hs
    clear hs
    by_cases hlt : j < m
    · obtain ⟨⟨La, Ll, Lc, Lb⟩, hL⟩ : ∃ L, Ls[j]? = some L := ⟨Ls[j]'(by omega), List.getElem?_eq_getElem (by omega)⟩
      obtain ⟨hc, hil⟩ := (unhide HLs) j _ hL
      simp only at hc hil
      replace hc := (hb.cell (p := ⟨B, off + j, none⟩) hB).trans hc
      have hl60 := hil.2.1
      have hl1 : Ll ≤ Lb.length := by have := hil.1; omega
      have hl2 : Lb.length ≤ Ll := by have := hil.1; omega
      have HIL := hide hil
      have HLJ := hide hL
      clear hil hL
      have hj1 : (j : Int) < m := by omega
      go_wp2_with fail
      clear hc
      go_loopw [18] (fun i wr => ∃ k : Nat, k ≤ Ll ∧ i = .int .i64 k ∧ Below w.heap.size w wr ∧ Fst (fun p : Int × Tm n => okT p.2 = true) Lb k) (fun i _ => Ll - (intOf i).toNat)
      case atStart => exact ⟨0, Nat.zero_le _, rfl, hb, fun i x _ h => by omega⟩
      case round =>
        obtain ⟨k, hk, rfl, hb2, hs2⟩ := hrel
        have HS2 := hide hs2
        clear hs2
        by_cases hlt2 : k < Ll
        · obtain ⟨V, u, b, off', hu, rfl, hbk, hT, c0, c1, c2, c3, c4⟩ := bind_at (unhide HIL) hb2 hlt2
          have hk1 : (k : Int) < Ll := by omega
          have hbu := (Below.refl _ wr).alloc (Nat.le_refl _) (.cells #[.int .i64 V, .int .i64 u.tv.k, .int .i64 u.tv.N, .string u.tv.s, .slice u.tv.a u.tv.len u.tv.cap] 82)
          have hck : Calls Tryz.prog 6 #[.agg #[.int .i64 u.tv.k, .int .i64 u.tv.N, .string u.tv.s, .slice u.tv.a u.tv.len u.tv.cap]] (wr.alloc (.cells #[.int .i64 V, .int .i64 u.tv.k, .int .i64 u.tv.N, .string u.tv.s, .slice u.tv.a u.tv.len u.tv.cap] 82)) fun e W2 => e = .returned (.int .i64 (chk u)) ∧ Below wr.heap.size wr W2 :=
            (check_any u _ ((hT.below hbu).mono hbu.size)).mono fun e W2 h => ⟨h.1, hbu.trans (h.2.mono hbu.size)⟩
          have HU := hide hu
          have hcz := @chk_zero _ u
          have hcn := @chk_no _ u
          clear hT hu hbu
          generalize hd : chk u = d at *
          clear hd
          cases ho : okT u with
          | true =>
            have hd0 : d = 0 := hcz.2 ho
            have hd' : (d != 0) = false := by simp [hd0]
            have HOU := hide ho
            clear hd0 hcz hcn ho
            go_wp2_with (go_at_call 6; refine hck.mono ?_; clear hck; rintro e W2 ⟨rfl, hb3⟩)
            go_roundw
            case rel => exact ⟨k + 1, by omega, by go_num, hb2.trans (hb3.mono hb2.size), (unhide HS2).next (unhide HU) (unhide HOU)⟩
            case measure => simp [intOf]; omega
          | false =>
            have hd2 : d = 2 := hcn ho
            have HOU := hide ho
            clear hcz hcn ho
            subst hd2
            go_wp2_with (go_at_call 6; refine hck.mono ?_; clear hck; rintro e W2 ⟨rfl, hb3⟩)
            go_ret
            refine ⟨says_two fun h => ?_, hb2.trans (hb3.mono hb2.size)⟩
            have := h _ (List.mem_of_getElem? (unhide HLJ)) _ (List.mem_of_getElem? (unhide HU))
            rw [unhide HOU] at this
            cases this
        · go_wp2_with fail
          go_roundw
          case rel => exact ⟨j + 1, by omega, by go_num, hb2, (unhide HS).next (unhide HLJ) (fun p hp => (unhide HS2).all (by omega) p hp)⟩
          case measure => simp [intOf]; omega
    · have hall := (unhide HS).all (by omega)
      have HALL := hide hall
      clear hall
      go_wp2_with fail
      go_loopw [32] (fun i wr => ∃ j : Nat, j ≤ m ∧ i = .int .i64 j ∧ Below w.heap.size w wr ∧ Fst (fun L : BL n => Subst L.bs) Ls j) (fun i _ => m - (intOf i).toNat)
      case atStart => exact ⟨0, Nat.zero_le _, rfl, hb, fun i x _ h => by omega⟩
      case round =>
        obtain ⟨k, hk, rfl, hb2, hs2⟩ := hrel
        have HS2 := hide hs2
        clear hs2
        by_cases hlt2 : k < m
        · obtain ⟨⟨La, Ll, Lc, Lb⟩, hL⟩ : ∃ L, Ls[k]? = some L := ⟨Ls[k]'(by omega), List.getElem?_eq_getElem (by omega)⟩
          obtain ⟨hc, hil⟩ := (unhide HLs) k _ hL
          simp only at hc hil
          replace hc := (hb2.cell (p := ⟨B, off + k, none⟩) hB).trans hc
          have hri := isRising_any Lb La Ll Lc wr ((hil.below hb2).mono hb2.size)
          have HLJ := hide hL
          clear hil hL
          have hk1 : (k : Int) < m := by omega
          go_wp2_with fail
          refine hri.mono ?_
          clear hri
          rintro e W2 ⟨⟨f, rfl, hf⟩, hb3⟩
          have HF := hide hf
          clear hf
          cases f with
          | true =>
            go_wp2_with fail
            go_roundw
            case rel => exact ⟨k + 1, by omega, by go_num, hb2.trans (hb3.mono hb2.size), (unhide HS2).next (unhide HLJ) ((unhide HF).1 (by simp))⟩
            case measure => simp [intOf]; omega
          | false =>
            go_wp2_with fail
            go_ret
            refine ⟨says_one (unhide HALL) fun h => ?_, hb2.trans (hb3.mono hb2.size)⟩
            have := (unhide HF).2 (h _ (List.mem_of_getElem? (unhide HLJ)))
            simp at this
        · have hall2 := (unhide HS2).all (by omega)
          have HALL2 := hide hall2
          clear hall2
          go_wp2_with fail
          go_ret
          exact ⟨says_zero (unhide HALL) (unhide HALL2), hb2⟩
end Go.Proofs.YtojefplapklbmaaGreatDoor

/- The contract of term.Apply. -/
namespace Go.Proofs.YtojefplapklbmaaGreatDoor
open Go.RowKit Go.Shelf

/-- replace with what a list of binds says, in whatever world behind w that bears the closure's box. -/
theorem replace_binds {n : Nat} (t : Tm n) (bs : List (Int × Tm n)) (a : Option Addr) (len cap B : Nat) (w : World) (hT : IsT w.heap.size w t) (hok : okT t = true) (hl : IsL w.heap.size w a len bs) (hri : Rises bs) (hokb : ∀ p ∈ bs, okT p.2 = true) (W : World) (hb : Below w.heap.size w W) (hbox : Boxed W B 32 (.slice a len cap)) :
    Calls Tryz.prog 60 #[t.tv.val, .func (.func 89) #[] #[.pointer (some ⟨B, 0, none⟩)]] W fun e W' => ∃ v, e = .returned v ∧ Below W.heap.size W W' ∧ HoldsT (n + (n + 1)) W.heap.size W' v ((code t).flatMap (subN (lookC (cb bs)))) :=
  replace_any 89 #[.pointer (some ⟨B, 0, none⟩)] (lookC (cb bs)) (n + 1) W (by omega) (enters_of Tryz.func89 (by kernel_rfl) rfl)
    (becoming_becomes bs a len cap B W hbox ((hl.below hb).mono hb.size) hri hokb) n t W (Below.refl _ _) ((hT.below hb).mono hb.size) hok

/-- checkBinds of one list, laid in a new block. -/
theorem checkOne {n : Nat} (bs : List (Int × Tm n)) (a : Option Addr) (len cap : Nat) (W : World) (hl : IsL W.heap.size W a len bs) :
    Calls Tryz.prog 59 #[.slice (some ⟨W.heap.size, 0, none⟩) 1 1] (W.alloc (.cells #[.slice a len cap] 32)) fun e W' => BindSays [⟨a, len, cap, bs⟩] e ∧ Below W.heap.size W W' := by
  have hb : Below W.heap.size W (W.alloc (.cells #[.slice a len cap] 32)) := (Below.refl _ W).alloc (Nat.le_refl _) _
  refine (checkBinds_any [⟨a, len, cap, bs⟩] W.heap.size 0 1 1 _ rfl (by omega) (fun i L hL => ?_) (by simp)).mono fun e W' h => ⟨h.1, hb.trans (h.2.mono hb.size)⟩
  match i, hL with
  | 0, hL =>
    simp at hL; subst hL
    exact ⟨by simp, (hl.below hb).mono hb.size⟩
  | i + 1, hL => simp at hL
theorem says_one_ok {n : Nat} {L : BL n} {e : Ending} (h : BindSays [L] e) (h1 : okB L) (h2 : Subst L.bs) : e = .returned (.int .i64 0) := by
  obtain ⟨r, rfl, _, _, h0⟩ := h
  rw [h0 (by simpa using h1) (by simpa using h2)]
theorem says_one_no {n : Nat} {L : BL n} {e : Ending} (h : BindSays [L] e) (h1 : ¬ (okB L ∧ Subst L.bs)) : ∃ r : Int, e = .returned (.int .i64 r) ∧ (r = 1 ∨ r = 2) ∧ (okB L → r = 1) ∧ (¬ okB L → r = 2) := by
  obtain ⟨r, rfl, k2, k1, _⟩ := h
  by_cases hok : okB L
  · have hs : ¬ Subst L.bs := fun h => h1 ⟨hok, h⟩
    have hr := k1 (by simpa using hok) (by simpa using hs)
    exact ⟨r, rfl, .inl hr, fun _ => hr, fun h => (h hok).elim⟩
  · have hr := k2 (by simpa using hok)
    exact ⟨r, rfl, .inr hr, fun h => (hok h).elim, fun _ => hr⟩

/-- The term's box and the cell of the result, at the head of a call's own memory. -/
structure Head (w W : World) (x : TV) : Prop where
  below : Below w.heap.size w W
  ba : BoxT W w.heap.size x
  bz : W.heap[w.heap.size + 1]? = some (.cells #[.int .i64 0, .int .i64 0, .string ⟨#[]⟩, .slice none 0 0] 24 (0, 0))
theorem Head.lt {w W : World} {x : TV} (h : Head w W x) : w.heap.size + 1 < W.heap.size := (Array.getElem?_eq_some_iff.1 h.bz).1
theorem Head.next {w W W' : World} {x : TV} (h : Head w W x) (hb : Below W.heap.size W W') : Head w W' x :=
  ⟨h.below.trans (hb.mono h.below.size), (hb.block _ h.ba.lt).trans h.ba, (hb.block _ h.lt).trans h.bz⟩
theorem Head.new (w : World) (x : TV) : Head w ((w.alloc (.cells #[.int .i64 x.k, .int .i64 x.N, .string x.s, .slice x.a x.len x.cap] 24)).alloc (.cells #[.int .i64 0, .int .i64 0, .string ⟨#[]⟩, .slice none 0 0] 24)) x := by
  have h := World.alloc_heap_new (w.alloc (.cells #[.int .i64 x.k, .int .i64 x.N, .string x.s, .slice x.a x.len x.cap] 24)) (.cells #[.int .i64 0, .int .i64 0, .string ⟨#[]⟩, .slice none 0 0] 24)
  rw [World.size_alloc] at h
  exact ⟨((Below.refl _ w).alloc (Nat.le_refl _) _).alloc (by simp) _, (BoxT.new w x).alloc _, h⟩

set_option maxRecDepth 100000 in
set_option maxHeartbeats 1000000 in
theorem apply_ok {n : Nat} (t : Tm n) (bs : List (Int × Tm n)) (a : Option Addr) (len cap : Nat) (w : World) (hT : IsT w.heap.size w t) (hl : IsL w.heap.size w a len bs) (hok : okT t = true) (hokb : ∀ p ∈ bs, okT p.2 = true) (hsub : Subst bs) :
    Calls Tryz.prog 17 #[t.tv.val, .slice a len cap] w fun e W' => ∃ x : TV, e = .returned (.tuple #[x.val, .int .i64 0]) ∧ Below w.heap.size w W' ∧ HoldsT (n + (n + 1)) w.heap.size W' x.val ((code t).flatMap (subN (lookC (cb bs)))) := by
  have hB1 : Below w.heap.size w ((w.alloc (.cells #[.int .i64 t.tv.k, .int .i64 t.tv.N, .string t.tv.s, .slice t.tv.a t.tv.len t.tv.cap] 24)).alloc (.cells #[.int .i64 0, .int .i64 0, .string ⟨#[]⟩, .slice none 0 0] 24)) := ((Below.refl _ w).alloc (Nat.le_refl _) _).alloc (by simp) _
  have hck := check_any t _ ((hT.below hB1).mono hB1.size)
  rw [chk_yes hok] at hck
  have hH := Head.new w t.tv
  simp only [TV.val] at hck ⊢
  have hrep := replace_binds t bs a len cap
  have HT := hide hT
  have HL := hide hl
  have HOK := hide hok
  have HOKB := hide hokb
  have HSUB := hide hsub
  have HREP := hide hrep
  clear hT hl hok hokb hsub hrep
  go_enter Tryz.func17, Tryz.ntmps17
  go_wp2_with fail
  refine hck.mono ?_
  clear hck
  rintro e W1 ⟨rfl, hb1⟩
  replace hH := hH.next hb1
  clear hb1 hB1
  go_wp2_with fail
  refine (checkOne bs a len cap W1 (((unhide HL).below hH.below).mono hH.below.size)).mono ?_
  rintro e W2 ⟨hsay, hb2⟩
  obtain rfl := says_one_ok hsay (unhide HOKB) (unhide HSUB)
  replace hH := hH.next hb2
  clear hb2 hsay
  have c0 := hH.ba.c0
  have c1 := hH.ba.c1
  have c2 := hH.ba.c2
  have c3 := hH.ba.c3
  have hbA : Below W2.heap.size W2 (W2.alloc (.cells #[.slice a len cap] 32)).drew := ((Below.refl _ W2).alloc (Nat.le_refl _) _).drew
  have hbx : Boxed (W2.alloc (.cells #[.slice a len cap] 32)).drew W2.heap.size 32 (.slice a len cap) := Boxed.new W2 32 (.slice a len cap)
  have hr2 : Calls Tryz.prog 60 #[.agg #[.int .i64 t.tv.k, .int .i64 t.tv.N, .string t.tv.s, .slice t.tv.a t.tv.len t.tv.cap], .func (.func 89) #[] #[.pointer (some ⟨W2.heap.size, 0, none⟩)]] (W2.alloc (.cells #[.slice a len cap] 32)).drew fun e W3 => ∃ x : TV, e = .returned x.val ∧ (Head w W3 t.tv ∧ HoldsT (n + (n + 1)) (w.heap.size + 2) W3 x.val ((code t).flatMap (subN (lookC (cb bs))))) ∧
      (W3.cell? ⟨w.heap.size + 1, 0, none⟩ = some (.int .i64 0) ∧ W3.cell? ⟨w.heap.size + 1, 1, none⟩ = some (.int .i64 0) ∧ W3.cell? ⟨w.heap.size + 1, 2, none⟩ = some (.string ⟨#[]⟩) ∧ W3.cell? ⟨w.heap.size + 1, 3, none⟩ = some (.slice none 0 0)) ∧ (W3.frozen? ⟨w.heap.size + 1, 0, none⟩ = false ∧ W3.frozen? ⟨w.heap.size + 1, 1, none⟩ = false ∧ W3.frozen? ⟨w.heap.size + 1, 2, none⟩ = false ∧ W3.frozen? ⟨w.heap.size + 1, 3, none⟩ = false) := by
    refine ((unhide HREP) W2.heap.size w (unhide HT) (unhide HOK) (unhide HL) (unhide HSUB).2 (unhide HOKB) _ (hH.below.trans (hbA.mono hH.below.size)) hbx).mono fun e W3 h => ?_
    obtain ⟨v, he, hb3, hv⟩ := h
    obtain ⟨t3, ht3, -⟩ := hv _ (Nat.le_refl _)
    have hH3 := (hH.next hbA).next hb3
    refine ⟨t3.tv, by rw [he, ht3], ⟨hH3, ?_⟩, zbox_kept hH3.bz⟩
    rw [← ht3]
    exact hv.mono (Nat.le_refl _) (by have := (hH.next hbA).lt; omega)
  clear hbA hbx HREP
  have hlt2 := hH.lt
  have hlt1 : w.heap.size < W2.heap.size := by omega
  simp only [TV.val] at hr2
  go_wp2_with fail
  go_region_with (first
    | (go_at_call 61; refine (becoming_any _ _ _ _).mono ?_; rintro e W3 ⟨rfl, rfl⟩)
    | (go_at_call 60; refine hr2.mono ?_; clear hr2; rintro e W3 ⟨x, rfl, hfin, ⟨z0, z1, z2, z3⟩, y0, y1, y2, y3⟩))
  all_goals
    have HFIN := hide hfin
    clear hfin
    go_wp2_with fail
    exact bodyPost_ret (v := .tuple #[x.val, .int .i64 0]) (by simp [results, Tryz.results17, go_sem, TV.val, z0, z1, z2, z3]) rfl ⟨x, rfl, set4_below (unhide HFIN).1.below (by omega) 0 x, (holds_set4 (unhide HFIN).2 (by omega) 0 x).mono (Nat.le_refl _) (by omega)⟩

set_option maxRecDepth 100000 in
set_option maxHeartbeats 1000000 in
theorem apply_bad {n : Nat} (t : Tm n) (a : Option Addr) (len cap : Nat) (w : World) (hT : IsT w.heap.size w t) (hok : okT t = false) :
    Calls Tryz.prog 17 #[t.tv.val, .slice a len cap] w fun e W' => e = .returned (.tuple #[.agg #[.int .i64 0, .int .i64 0, .string ⟨#[]⟩, .slice none 0 0], .int .i64 2]) ∧ Below w.heap.size w W' := by
  have hB1 : Below w.heap.size w ((w.alloc (.cells #[.int .i64 t.tv.k, .int .i64 t.tv.N, .string t.tv.s, .slice t.tv.a t.tv.len t.tv.cap] 24)).alloc (.cells #[.int .i64 0, .int .i64 0, .string ⟨#[]⟩, .slice none 0 0] 24)) := ((Below.refl _ w).alloc (Nat.le_refl _) _).alloc (by simp) _
  have hck := check_any t _ ((hT.below hB1).mono hB1.size)
  rw [chk_no hok] at hck
  have hH := Head.new w t.tv
  simp only [TV.val] at hck ⊢
  clear hT hok hB1
  go_enter Tryz.func17, Tryz.ntmps17
  go_wp2_with fail
  refine hck.mono ?_
  clear hck
  rintro e W1 ⟨rfl, hb1⟩
  replace hH := hH.next hb1
  clear hb1
  obtain ⟨⟨z0, z1, z2, z3⟩, y0, y1, y2, y3⟩ := zbox_kept hH.bz
  have HH := hide hH
  clear hH
  go_wp2_with fail
  exact bodyPost_ret (v := .tuple #[.agg #[.int .i64 0, .int .i64 0, .string ⟨#[]⟩, .slice none 0 0], .int .i64 2]) (by simp [results, Tryz.results17, go_sem, z0, z1, z2, z3]) rfl ⟨rfl, set4_below (unhide HH).below (by omega) 0 ⟨0, 0, ⟨#[]⟩, none, 0, 0⟩⟩

set_option maxRecDepth 100000 in
set_option maxHeartbeats 1000000 in
theorem apply_err {n : Nat} (t : Tm n) (bs : List (Int × Tm n)) (a : Option Addr) (len cap : Nat) (w : World) (hT : IsT w.heap.size w t) (hl : IsL w.heap.size w a len bs) (hok : okT t = true) (hno : ¬ ((∀ p ∈ bs, okT p.2 = true) ∧ Subst bs)) :
    Calls Tryz.prog 17 #[t.tv.val, .slice a len cap] w fun e W' => ∃ r : Int, e = .returned (.tuple #[.agg #[.int .i64 0, .int .i64 0, .string ⟨#[]⟩, .slice none 0 0], .int .i64 r]) ∧ ((r = 1 ∨ r = 2) ∧ ((∀ p ∈ bs, okT p.2 = true) → r = 1) ∧ ((¬ ∀ p ∈ bs, okT p.2 = true) → r = 2)) ∧ Below w.heap.size w W' := by
  have hB1 : Below w.heap.size w ((w.alloc (.cells #[.int .i64 t.tv.k, .int .i64 t.tv.N, .string t.tv.s, .slice t.tv.a t.tv.len t.tv.cap] 24)).alloc (.cells #[.int .i64 0, .int .i64 0, .string ⟨#[]⟩, .slice none 0 0] 24)) := ((Below.refl _ w).alloc (Nat.le_refl _) _).alloc (by simp) _
  have hck := check_any t _ ((hT.below hB1).mono hB1.size)
  rw [chk_yes hok] at hck
  have hH := Head.new w t.tv
  simp only [TV.val] at hck ⊢
  have HL := hide hl
  have HNO := hide hno
  clear hT hok hl hno hB1
  go_enter Tryz.func17, Tryz.ntmps17
  go_wp2_with fail
  refine hck.mono ?_
  clear hck
  rintro e W1 ⟨rfl, hb1⟩
  replace hH := hH.next hb1
  clear hb1
  go_wp2_with fail
  refine (checkOne bs a len cap W1 (((unhide HL).below hH.below).mono hH.below.size)).mono ?_
  rintro e W2 ⟨hsay, hb2⟩
  obtain ⟨r, rfl, hr, hr1, hr2⟩ := says_one_no hsay (unhide HNO)
  replace hH := hH.next hb2
  have hr0 : (r != 0) = true := by rw [bne_iff_ne]; omega
  have HR := hide (And.intro hr (And.intro hr1 hr2))
  clear hb2 hsay hr hr1 hr2
  obtain ⟨⟨z0, z1, z2, z3⟩, y0, y1, y2, y3⟩ := zbox_kept hH.bz
  have HH := hide hH
  clear hH
  go_wp2_with fail
  exact bodyPost_ret (v := .tuple #[.agg #[.int .i64 0, .int .i64 0, .string ⟨#[]⟩, .slice none 0 0], .int .i64 r]) (by simp [results, Tryz.results17, go_sem, z0, z1, z2, z3]) rfl ⟨r, rfl, unhide HR, set4_below (unhide HH).below (by omega) 0 ⟨0, 0, ⟨#[]⟩, none, 0, 0⟩⟩
end Go.Proofs.YtojefplapklbmaaGreatDoor

