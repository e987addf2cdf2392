import Derived.Test.YtcnoipaoljjelaaGreatDoorMcK
/- Instructions of code: machine.areInstrs, machine.Check. -/
namespace Go.Proofs.YtcnoipaoljjelaaGreatDoor
open Go.RowKit Go.Shelf Go.Maps

def lastB (I : List IV) : Bool := match I.getLast? with
  | some x => leaveB x.op
  | none => false
def instrB (I : List IV) (sz : Int) : Bool := I.all (fun x => okI x sz) && lastB I
theorem last_of {I : List IV} {m : Nat} {x : IV} (hl : I.length = m + 1) (hx : I[m]? = some x) : lastB I = leaveB x.op := by
  unfold lastB
  rw [List.getLast?_eq_getElem?, hl, Nat.add_sub_cancel, hx]
theorem all_of {I : List IV} {sz : Int} (h : ∀ k x, I[k]? = some x → k < I.length → okI x sz = true) : (I.all fun x => okI x sz) = true := by
  rw [List.all_eq_true]
  intro x hx
  obtain ⟨k, hk⟩ := List.getElem?_of_mem hx
  exact h k x hk (List.getElem?_eq_some_iff.1 hk).1
theorem all_not {I : List IV} {sz : Int} {j : Nat} {x : IV} (hx : I[j]? = some x) (h : okI x sz = false) : (I.all fun x => okI x sz) = false := by
  rw [List.all_eq_false]
  exact ⟨x, List.mem_of_getElem? hx, by rw [h]; simp⟩
set_option maxRecDepth 100000 in
set_option maxHeartbeats 4000000 in
theorem instrs_any (I : List IV) (a : Option Addr) (len cap : Nat) (w : World) (hI : IsI w a len I) (hF : FormsAt w) : Calls Tryz.prog 8 #[.slice a len cap] w fun e w' => e = .returned (.bool (instrB I len)) ∧ Below w.heap.size w w' := by
  have h1 := hI.1
  have h2 := hI.2.1
  have HI := hide hI
  have HL := hide h1
  have HF := hide hF
  clear hI h1 hF
  go_enter Tryz.func8, Tryz.ntmps8
  go_wp2_with fail
  go_loopw [7] (fun i wr => ∃ j : Nat, j ≤ len ∧ i = .int .i64 j ∧ Hid (Below w.heap.size w wr ∧ ∀ k x, I[k]? = some x → k < j → okI x len = true)) (fun i _ => len - (intOf i).toNat)
  case atStart => exact ⟨0, Nat.zero_le _, rfl, Below.refl _ _, fun k x _ h => by omega⟩
  case round =>
    obtain ⟨j, hj, rfl, HJ⟩ := hrel
    by_cases hlt : j < len
    · obtain ⟨hbr, hok⟩ := unhide HJ
      obtain ⟨op, x, y, k, s, n, b, off, hx, rfl, hbl, c0, c1, c2, c3, c4, c5⟩ := ins_at (unhide HI) hbr hlt
      have hj1 : (j : Int) < len := by omega
      have hbw : b < wr.heap.size := Nat.lt_of_lt_of_le hbl hbr.size
      have hB1 : Below wr.heap.size wr (wr.alloc (.cells #[.int .i64 op, .int .i64 x, .int .i64 y, .int .i64 k, .string s, .int .i64 n] 37)) := (Below.refl _ wr).alloc (Nat.le_refl _) _
      have hBw := hbr.trans (hB1.mono hbr.size)
      have hin := instr_any ⟨op, x, y, ⟨k, s, n⟩⟩ len (wr.alloc (.cells #[.int .i64 op, .int .i64 x, .int .i64 y, .int .i64 k, .string s, .int .i64 n] 37)) ((unhide HF).below hBw)
      simp only [IV.val] at hin
      have HX := hide hx
      have HO := hide hok
      have HB := hide hBw
      clear hbr hok hx hB1 hBw
      cases hq : okI ⟨op, x, y, ⟨k, s, n⟩⟩ len with
      | true =>
        rw [hq] at hin
        have HQ := hide hq
        clear hq
        go_wp2_with fail
        refine Calls.mono hin ?_
        rintro e w2 ⟨rfl, hb2⟩
        have HN := hide (show Below w.heap.size w w2 ∧ ∀ k x, I[k]? = some x → k < j + 1 → okI x len = true from ⟨(unhide HB).trans (hb2.mono (unhide HB).size), fun k' x' hx' hk' => by
          by_cases hjk : k' < j
          · exact (unhide HO) k' x' hx' hjk
          · obtain rfl : k' = j := by omega
            rw [unhide HX] at hx'
            cases hx'
            exact unhide HQ⟩)
        clear hb2 hin
        go_wp2_with fail
        go_roundw
        case rel => exact ⟨j + 1, by omega, by go_num, unhide HN⟩
        case measure => simp [intOf]; omega
      | false =>
        rw [hq] at hin
        have HQ := hide (show instrB I len = false by unfold instrB; rw [all_not (unhide HX) hq]; rfl)
        clear hq
        go_wp2_with fail
        refine Calls.mono hin ?_
        rintro e w2 ⟨rfl, hb2⟩
        have HN := hide ((unhide HB).trans (hb2.mono (unhide HB).size))
        clear hb2 hin
        go_wp2_with fail
        go_ret
        exact ⟨by rw [unhide HQ]; rfl, unhide HN⟩
    · obtain rfl : j = len := by omega
      have hj1 : ¬ (j : Int) < j := by omega
      obtain ⟨hbr, hok⟩ := unhide HJ
      have hall : (I.all fun x => okI x j) = true := all_of (fun k x hx hk => hok k x hx (by have := unhide HL; omega))
      cases j with
      | zero =>
        have hI0 : I = [] := List.length_eq_zero_iff.1 (unhide HL).symm
        have HV := hide (show instrB I 0 = false by subst hI0; rfl)
        have HB := hide hbr
        clear hbr hok hall hI0
        go_wp2_with fail
        go_ret
        exact ⟨by rw [unhide HV]; rfl, unhide HB⟩
      | succ m =>
        obtain ⟨op, x, y, k, s, n, b, off, hx, rfl, hbl, c0, c1, c2, c3, c4, c5⟩ := ins_at (unhide HI) hbr (Nat.lt_succ_self m)
        have HV := hide (show instrB I ((m + 1 : Nat) : Int) = leaveB op by unfold instrB; rw [hall, last_of (unhide HL).symm hx]; rfl)
        have HB := hide hbr
        have hlv := leaves_any op wr
        have hm1 : (0 : Int) < ((m + 1 : Nat) : Int) := by omega
        have hm2 : ((m + 1 : Nat) : Int) - 1 = (m : Int) := by omega
        clear hbr hok hall hx c1 c2 c3 c4 c5
        go_wp2_with fail
        refine hlv.mono ?_
        rintro e w2 ⟨rfl, rfl⟩
        go_wp2_with fail
        go_ret
        exact ⟨by rw [unhide HV]; rfl, unhide HB⟩
def checkV (I : List IV) (q : Int) (E : List EV) : Int := if 100000 < I.length then 9 else if (instrB I I.length && (placeB q I.length && entB E I.length)) = true then 0 else 10
set_option maxRecDepth 100000 in
set_option maxHeartbeats 4000000 in
theorem check_any (I : List IV) (a : Option Addr) (len cap : Nat) (E : List EV) (a' : Option Addr) (len' cap' : Nat) (q : Int) (w : World) (hI : IsI w a len I) (hE : IsE w a' len' E) (hF : FormsAt w) : Calls Tryz.prog 4 #[.agg #[.slice a len cap, .slice a' len' cap', .int .i64 q]] w fun e w' => e = .returned (.int .i64 (checkV I q E)) ∧ Below w.heap.size w w' := by
  have h1 := hI.1
  have hB1 : Below w.heap.size w (w.alloc (.cells #[.slice a len cap, .slice a' len' cap', .int .i64 q] 25)) := (Below.refl _ w).alloc (Nat.le_refl _) _
  have hbx := World.alloc_heap_new w (.cells #[.slice a len cap, .slice a' len' cap', .int .i64 q] 25)
  have hcs : ∀ W, Below (w.alloc (.cells #[.slice a len cap, .slice a' len' cap', .int .i64 q] 25)).heap.size (w.alloc (.cells #[.slice a len cap, .slice a' len' cap', .int .i64 q] 25)) W → W.cell? ⟨w.heap.size, 0, none⟩ = some (.slice a len cap) ∧ W.cell? ⟨w.heap.size, 1, none⟩ = some (.slice a' len' cap') ∧ W.cell? ⟨w.heap.size, 2, none⟩ = some (.int .i64 q) := fun W hW => by
    have h := (hW.block w.heap.size (by simp)).trans hbx
    exact ⟨by simp only [World.cell?, h]; rfl, by simp only [World.cell?, h]; rfl, by simp only [World.cell?, h]; rfl⟩
  unfold checkV
  rw [← h1]
  by_cases hbig : 100000 < len
  · rw [if_pos hbig]
    have hbi : (100000 : Int) < (len : Int) := by omega
    clear hcs hbx hI hE hF h1
    go_enter Tryz.func4, Tryz.ntmps4
    go_wp2_with fail
    go_ret
    exact ⟨rfl, hB1⟩
  · rw [if_neg hbig]
    have hbi : ¬ (100000 : Int) < (len : Int) := by omega
    have hin := instrs_any I a len cap _ (hI.below hB1) (hF.below hB1)
    have hen := fun W hW => ents_any E a' len' cap' len W ((hE.below hB1).below hW)
    have HC := hide hcs
    have HEN := hide hen
    have HB := hide hB1
    clear hcs hbx hI hE hF h1 hen hB1 hbig
    obtain ⟨b1, hb1⟩ : ∃ b, instrB I len = b := ⟨_, rfl⟩
    obtain ⟨b2, hb2⟩ : ∃ b, placeB q len = b := ⟨_, rfl⟩
    obtain ⟨b3, hb3⟩ : ∃ b, entB E len = b := ⟨_, rfl⟩
    rw [hb1] at hin
    rw [hb1, hb2, hb3]
    have H2 := hide hb2
    have H3 := hide hb3
    clear hb1 hb2 hb3
    go_enter Tryz.func4, Tryz.ntmps4
    go_wp2_with fail
    obtain ⟨W1, hW1⟩ : ∃ W1, w.alloc (.cells #[.slice a len cap, .slice a' len' cap', .int .i64 q] 25) = W1 := ⟨_, rfl⟩
    rw [hW1] at HC HEN HB hin ⊢
    clear hW1
    refine Calls.mono hin ?_
    rintro e W2 ⟨rfl, hw2⟩
    clear hin
    obtain ⟨c0, c1, c2⟩ := (unhide HC) W2 hw2
    have HB2 := hide ((unhide HB).trans (hw2.mono (unhide HB).size))
    cases b1 with
    | false =>
      clear hw2
      go_wp2_with fail
      go_ret
      exact ⟨rfl, unhide HB2⟩
    | true =>
      have hpl := place_any q len W2
      rw [unhide H2] at hpl
      have HW2 := hide hw2
      clear hw2
      go_wp2_with fail
      refine hpl.mono ?_
      rintro e W2 ⟨rfl, rfl⟩
      cases b2 with
      | false =>
        clear hpl
        go_wp2_with fail
        go_ret
        exact ⟨rfl, unhide HB2⟩
      | true =>
        have hen : Calls Tryz.prog 10 #[.slice a' len' cap', .int .i64 len] W2 fun e w' => e = .returned (.bool (entB E len)) ∧ Below W2.heap.size W2 w' := (unhide HEN) W2 (unhide HW2)
        rw [unhide H3] at hen
        clear hpl
        go_wp2_with fail
        refine hen.mono ?_
        rintro e W3 ⟨rfl, hw3⟩
        have HB3 := hide ((unhide HB2).trans (hw3.mono (unhide HB2).size))
        clear hw3 hen
        cases b3
        all_goals go_wp2_with fail
        all_goals go_ret
        all_goals exact ⟨rfl, unhide HB3⟩
end Go.Proofs.YtcnoipaoljjelaaGreatDoor

