import Derived.Test.YtffbhinpmlcopaaR
/- The contract of term.checkBinds. -/
namespace Go.Proofs.Ytffbhinpmlcopaa
open Go.RowKit Go.Shelf

/-- A list of binds and where it lies. -/
structure BL (n : Nat) where
  a : Option Addr
  len : Nat
  cap : Nat
  bs : List (Int × Tm n)
def okB {n : Nat} (L : BL n) : Prop := ∀ p ∈ L.bs, okT p.2 = true
/-- What checkBinds answers. -/
def BindSays {n : Nat} (Ls : List (BL n)) (e : Ending) : Prop := ∃ r : Int, e = .returned (.int .i64 r) ∧ ((¬ ∀ L ∈ Ls, okB L) → r = 2) ∧ ((∀ L ∈ Ls, okB L) → (¬ ∀ L ∈ Ls, Subst L.bs) → r = 1) ∧ ((∀ L ∈ Ls, okB L) → (∀ L ∈ Ls, Subst L.bs) → r = 0)
theorem says_two {n : Nat} {Ls : List (BL n)} (h : ¬ ∀ L ∈ Ls, okB L) : BindSays Ls (.returned (.int .i64 2)) := ⟨2, rfl, fun _ => rfl, fun k => (h k).elim, fun k => (h k).elim⟩
theorem says_one {n : Nat} {Ls : List (BL n)} (h : ∀ L ∈ Ls, okB L) (h' : ¬ ∀ L ∈ Ls, Subst L.bs) : BindSays Ls (.returned (.int .i64 1)) := ⟨1, rfl, fun k => (k h).elim, fun _ _ => rfl, fun _ k => (h' k).elim⟩
theorem says_zero {n : Nat} {Ls : List (BL n)} (h : ∀ L ∈ Ls, okB L) (h' : ∀ L ∈ Ls, Subst L.bs) : BindSays Ls (.returned (.int .i64 0)) := ⟨0, rfl, fun k => (k h).elim, fun _ k => (k h').elim, fun _ _ => rfl⟩
/-- The first j have it. -/
def Fst {α : Type} (p : α → Prop) (l : List α) (j : Nat) : Prop := ∀ i x, l[i]? = some x → i < j → p x
theorem Fst.next {α : Type} {p : α → Prop} {l : List α} {j : Nat} {x : α} (h : Fst p l j) (hx : l[j]? = some x) (hp : p x) : Fst p l (j + 1) := fun i y hy hi => by
  by_cases e : i = j
  · subst e; rw [hx] at hy; cases hy; exact hp
  · exact h i y hy (by omega)
theorem Fst.all {α : Type} {p : α → Prop} {l : List α} {j : Nat} (h : Fst p l j) (hj : l.length ≤ j) : ∀ x ∈ l, p x := fun x hx => by
  obtain ⟨i, hi⟩ := List.mem_iff_getElem?.1 hx
  exact h i x hi (by have := (List.getElem?_eq_some_iff.1 hi).1; omega)

set_option maxRecDepth 100000 in
set_option maxHeartbeats 2000000 in
theorem checkBinds_any {n : Nat} (Ls : List (BL n)) (B off cp m : Nat) (w : World) (hm : m = Ls.length) (hm2 : m ≤ 100)
    (hLs : ∀ i L, Ls[i]? = some L → w.cell? ⟨B, off + i, none⟩ = some (.slice L.a L.len L.cap) ∧ IsL w.heap.size w L.a L.len L.bs) (hB : B < w.heap.size) :
    Calls Try.prog 26 #[.slice (some ⟨B, off, none⟩) m cp] w fun e W' => BindSays Ls e ∧ Below w.heap.size w W' := by
  have hm1 : m ≤ Ls.length := by omega
  have hm3 : Ls.length ≤ m := by omega
  have HLs := hide hLs
  clear hm hLs
  go_enter Try.func26, Try.ntmps26
  go_wp2_with fail
  go_loopw [12] (fun i wr => ∃ j : Nat, j ≤ m ∧ i = .int .i64 j ∧ Below w.heap.size w wr ∧ Fst okB Ls j) (fun i _ => m - (intOf i).toNat)
  case atStart => exact ⟨0, Nat.zero_le _, rfl, Below.refl _ _, fun i x _ h => by omega⟩
  case round =>
    obtain ⟨j, hj, rfl, hb, hs⟩ := hrel
    have HS := hide hs
    clear hs
    by_cases hlt : j < m
    · obtain ⟨⟨La, Ll, Lc, Lb⟩, hL⟩ : ∃ L, Ls[j]? = some L := ⟨Ls[j]'(by omega), List.getElem?_eq_getElem (by omega)⟩
      obtain ⟨hc, hil⟩ := (unhide HLs) j _ hL
      simp only at hc hil
      replace hc := (hb.cell (p := ⟨B, off + j, none⟩) hB).trans hc
      have hl60 := hil.2.1
      have hl1 : Ll ≤ Lb.length := by have := hil.1; omega
      have hl2 : Lb.length ≤ Ll := by have := hil.1; omega
      have HIL := hide hil
      have HLJ := hide hL
      clear hil hL
      have hj1 : (j : Int) < m := by omega
      go_wp2_with fail
      clear hc
      go_loopw [18] (fun i wr => ∃ k : Nat, k ≤ Ll ∧ i = .int .i64 k ∧ Below w.heap.size w wr ∧ Fst (fun p : Int × Tm n => okT p.2 = true) Lb k) (fun i _ => Ll - (intOf i).toNat)
      case atStart => exact ⟨0, Nat.zero_le _, rfl, hb, fun i x _ h => by omega⟩
      case round =>
        obtain ⟨k, hk, rfl, hb2, hs2⟩ := hrel
        have HS2 := hide hs2
        clear hs2
        by_cases hlt2 : k < Ll
        · obtain ⟨V, u, b, off', hu, rfl, hbk, hT, c0, c1, c2, c3, c4⟩ := bind_at (unhide HIL) hb2 hlt2
          have hk1 : (k : Int) < Ll := by omega
          have hbu := (Below.refl _ wr).alloc (Nat.le_refl _) (.cells #[.int .i64 V, .int .i64 u.tv.k, .int .i64 u.tv.N, .string u.tv.s, .slice u.tv.a u.tv.len u.tv.cap] 60)
          have hck : Calls Try.prog 25 #[.agg #[.int .i64 u.tv.k, .int .i64 u.tv.N, .string u.tv.s, .slice u.tv.a u.tv.len u.tv.cap]] (wr.alloc (.cells #[.int .i64 V, .int .i64 u.tv.k, .int .i64 u.tv.N, .string u.tv.s, .slice u.tv.a u.tv.len u.tv.cap] 60)) fun e W2 => e = .returned (.int .i64 (chk u)) ∧ Below wr.heap.size wr W2 :=
            (check_any u _ ((hT.below hbu).mono hbu.size)).mono fun e W2 h => ⟨h.1, hbu.trans (h.2.mono hbu.size)⟩
          have HU := hide hu
          have hcz := @chk_zero _ u
          have hcn := @chk_no _ u
          clear hT hu hbu
          generalize hd : chk u = d at *
          clear hd
          cases ho : okT u with
          | true =>
            have hd0 : d = 0 := hcz.2 ho
            have hd' : (d != 0) = false := by simp [hd0]
            have HOU := hide ho
            clear hd0 hcz hcn ho
            go_wp2_with (go_at_call 25; refine hck.mono ?_; clear hck; rintro e W2 ⟨rfl, hb3⟩)
            go_roundw
            case rel => exact ⟨k + 1, by omega, by go_num, hb2.trans (hb3.mono hb2.size), (unhide HS2).next (unhide HU) (unhide HOU)⟩
            case measure => simp [intOf]; omega
          | false =>
            have hd2 : d = 2 := hcn ho
            have HOU := hide ho
            clear hcz hcn ho
            subst hd2
            go_wp2_with (go_at_call 25; refine hck.mono ?_; clear hck; rintro e W2 ⟨rfl, hb3⟩)
            go_ret
            refine ⟨says_two fun h => ?_, hb2.trans (hb3.mono hb2.size)⟩
            have := h _ (List.mem_of_getElem? (unhide HLJ)) _ (List.mem_of_getElem? (unhide HU))
            rw [unhide HOU] at this
            cases this
        · go_wp2_with fail
          go_roundw
          case rel => exact ⟨j + 1, by omega, by go_num, hb2, (unhide HS).next (unhide HLJ) (fun p hp => (unhide HS2).all (by omega) p hp)⟩
          case measure => simp [intOf]; omega
    · have hall := (unhide HS).all (by omega)
      have HALL := hide hall
      clear hall
      go_wp2_with fail
      go_loopw [32] (fun i wr => ∃ j : Nat, j ≤ m ∧ i = .int .i64 j ∧ Below w.heap.size w wr ∧ Fst (fun L : BL n => Subst L.bs) Ls j) (fun i _ => m - (intOf i).toNat)
      case atStart => exact ⟨0, Nat.zero_le _, rfl, hb, fun i x _ h => by omega⟩
      case round =>
        obtain ⟨k, hk, rfl, hb2, hs2⟩ := hrel
        have HS2 := hide hs2
        clear hs2
        by_cases hlt2 : k < m
        · obtain ⟨⟨La, Ll, Lc, Lb⟩, hL⟩ : ∃ L, Ls[k]? = some L := ⟨Ls[k]'(by omega), List.getElem?_eq_getElem (by omega)⟩
          obtain ⟨hc, hil⟩ := (unhide HLs) k _ hL
          simp only at hc hil
          replace hc := (hb2.cell (p := ⟨B, off + k, none⟩) hB).trans hc
          have hri := isRising_any Lb La Ll Lc wr ((hil.below hb2).mono hb2.size)
          have HLJ := hide hL
          clear hil hL
          have hk1 : (k : Int) < m := by omega
          go_wp2_with fail
          refine hri.mono ?_
          clear hri
          rintro e W2 ⟨⟨f, rfl, hf⟩, hb3⟩
          have HF := hide hf
          clear hf
          cases f with
          | true =>
            go_wp2_with fail
            go_roundw
            case rel => exact ⟨k + 1, by omega, by go_num, hb2.trans (hb3.mono hb2.size), (unhide HS2).next (unhide HLJ) ((unhide HF).1 (by simp))⟩
            case measure => simp [intOf]; omega
          | false =>
            go_wp2_with fail
            go_ret
            refine ⟨says_one (unhide HALL) fun h => ?_, hb2.trans (hb3.mono hb2.size)⟩
            have := (unhide HF).2 (h _ (List.mem_of_getElem? (unhide HLJ)))
            simp at this
        · have hall2 := (unhide HS2).all (by omega)
          have HALL2 := hide hall2
          clear hall2
          go_wp2_with fail
          go_ret
          exact ⟨says_zero (unhide HALL) (unhide HALL2), hb2⟩
end Go.Proofs.Ytffbhinpmlcopaa

