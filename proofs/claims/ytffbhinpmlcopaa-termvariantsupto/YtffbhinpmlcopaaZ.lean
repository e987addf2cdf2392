import Derived.Test.YtffbhinpmlcopaaY
import Derived.Deep.RegionHeld3
/- The contract of hornref.SameBinds. -/
namespace Go.Proofs.Ytffbhinpmlcopaa
open Go.RowKit Go.Shelf

def sameP {n : Nat} (p q : Int × Tm n) : Bool := decide (p.1 = q.1) && sameT p.2 q.2
def sameBs {n : Nat} (a b : List (Int × Tm n)) : Bool := all2 sameP a b
theorem all2_len {α : Type} {f : α → α → Bool} : ∀ (a b : List α), all2 f a b = true → a.length = b.length
  | [], [], _ => rfl
  | [], _ :: _, h => by simp [all2] at h
  | _ :: _, [], h => by simp [all2] at h
  | x :: a, y :: b, h => by simp only [all2, Bool.and_eq_true] at h; simp [all2_len a b h.2]
theorem sameBs_len {n : Nat} {a b : List (Int × Tm n)} (h : a.length ≠ b.length) : sameBs a b = false := by
  cases hh : sameBs a b
  · rfl
  · exact (h (all2_len a b hh)).elim
/-- Two lists of binds are the same just if their codes are. -/
theorem sameBs_code {n : Nat} : ∀ (a b : List (Int × Tm n)), (∀ p ∈ a, Wl p.2) → (∀ p ∈ b, Wl p.2) → (sameBs a b = true ↔ cb a = cb b)
  | [], [], _, _ => by simp [sameBs, all2, cb]
  | [], _ :: _, _, _ => by simp [sameBs, all2, cb]
  | _ :: _, [], _, _ => by simp [sameBs, all2, cb]
  | x :: a, y :: b, ha, hb => by
    have ih := sameBs_code a b (fun p hp => ha p (by simp [hp])) (fun p hp => hb p (by simp [hp]))
    unfold sameBs cb at ih ⊢
    simp only [all2, sameP, List.map_cons, List.cons.injEq, Bool.and_eq_true, decide_eq_true_eq, ih, Prod.mk.injEq, sameT_code (ha x (by simp)) (hb y (by simp))]

set_option maxRecDepth 100000 in
set_option maxHeartbeats 1000000 in
theorem sameBinds_any {n : Nat} (bs bs' : List (Int × Tm n)) (a a' : Option Addr) (len len' cap cap' : Nat) (w : World) (hl : IsL w.heap.size w a len bs) (hl' : IsL w.heap.size w a' len' bs') :
    Calls Try.prog 17 #[.slice a len cap, .slice a' len' cap'] w fun e W' => e = .returned (.bool (sameBs bs bs')) ∧ Below w.heap.size w W' := by
  have h1 := hl.1
  have h2 := hl.2.1
  have h1' := hl'.1
  by_cases hll : len = len'
  · have hl1 : len ≤ bs.length := by omega
    have hl2 : bs.length ≤ len := by omega
    have hl3 : len ≤ bs'.length := by omega
    have hl4 : bs'.length ≤ len := by omega
    have hl6 : ((len : Int) != (len' : Int)) = false := by simp; omega
    have hl7 : (len : Int) ≤ len' := by omega
    have hl8 : len ≤ len' := by omega
    clear h1 h1' hll
    have HL := hide hl
    have HL' := hide hl'
    clear hl hl'
    go_enter Try.func17, Try.ntmps17
    go_wp2_with fail
    go_loopw [5] (fun i wr => ∃ j : Nat, j ≤ len ∧ i = .int .i64 j ∧ Below w.heap.size w wr ∧ all2 sameP (bs.take j) (bs'.take j) = true) (fun i _ => len - (intOf i).toNat)
    case atStart => exact ⟨0, Nat.zero_le _, rfl, Below.refl _ _, by simp [all2]⟩
    case round =>
      obtain ⟨j, hj, rfl, hb, hs⟩ := hrel
      have HS := hide hs
      clear hs
      by_cases hlt : j < len
      · obtain ⟨V, u, b, off, hu, rfl, hbk, hT, c0, c1, c2, c3, c4⟩ := bind_at (unhide HL) hb hlt
        obtain ⟨V', u', b', off', hu', rfl, hbk', hT', d0, d1, d2, d3, d4⟩ := bind_at (unhide HL') hb (j := j) (by omega)
        have hj1 : (j : Int) < len := by omega
        have hj2 : (j : Int) < len' := by omega
        have hstop := all2_stop (f := sameP) bs bs' j _ _ hu hu'
        have hnext := all2_next (f := sameP) bs bs' j _ _ hu hu' (unhide HS)
        have hsm : Calls Try.prog 11 #[.agg #[.int .i64 u.tv.k, .int .i64 u.tv.N, .string u.tv.s, .slice u.tv.a u.tv.len u.tv.cap], .agg #[.int .i64 u'.tv.k, .int .i64 u'.tv.N, .string u'.tv.s, .slice u'.tv.a u'.tv.len u'.tv.cap]] wr.drew fun e W2 => e = .returned (.bool (sameT u u')) ∧ Below wr.heap.size wr W2 :=
          (same_any n u u' wr.drew (hT.below (Below.refl _ wr).drew) (hT'.below (Below.refl _ wr).drew)).mono fun e W2 h => ⟨h.1, (Below.refl _ wr).drew.trans h.2⟩
        have hy3 : b < wr.heap.size := by have := hb.size; omega
        have hy4 : b' < wr.heap.size := by have := hb.size; omega
        clear hu hu' hT hT'
        by_cases hV : V = V'
        · subst hV
          have hp : sameP (V, u) (V, u') = sameT u u' := by simp [sameP]
          rw [hp] at hstop hnext
          clear hp
          generalize sameT u u' = dd at *
          have HN := hide hnext
          have HST := hide hstop
          clear hnext hstop
          have hg : (V != V) = false := by simp
          cases dd with
          | true =>
            go_wp2_with fail
            go_region_held3 (fun w' => w'.cell? ⟨b, off + j * 5, none⟩ = some (.int .i64 V) ∧ w'.cell? ⟨b', off' + j * 5, none⟩ = some (.int .i64 V)
              ∧ w'.cell? ⟨b, off + j * 5 + 1, none⟩ = some (.int .i64 u.tv.k) ∧ w'.cell? ⟨b, off + j * 5 + 2, none⟩ = some (.int .i64 u.tv.N) ∧ w'.cell? ⟨b, off + j * 5 + 3, none⟩ = some (.string u.tv.s) ∧ w'.cell? ⟨b, off + j * 5 + 4, none⟩ = some (.slice u.tv.a u.tv.len u.tv.cap)
              ∧ w'.cell? ⟨b', off' + j * 5 + 1, none⟩ = some (.int .i64 u'.tv.k) ∧ w'.cell? ⟨b', off' + j * 5 + 2, none⟩ = some (.int .i64 u'.tv.N) ∧ w'.cell? ⟨b', off' + j * 5 + 3, none⟩ = some (.string u'.tv.s) ∧ w'.cell? ⟨b', off' + j * 5 + 4, none⟩ = some (.slice u'.tv.a u'.tv.len u'.tv.cap)) (go_keep)
              (first | (go_at_call 11; refine hsm.mono ?_; clear hsm; rintro e W2 ⟨rfl, hb2⟩; have hbc := bcell hb2))
            go_wp2_with fail
            go_roundw
            case rel => exact ⟨j + 1, by omega, by go_num, hb.trans (hb2.mono hb.size), (unhide HN) (by simp)⟩
            case measure => simp [intOf]; omega
          | false =>
            go_wp2_with fail
            go_region_held3 (fun w' => w'.cell? ⟨b, off + j * 5, none⟩ = some (.int .i64 V) ∧ w'.cell? ⟨b', off' + j * 5, none⟩ = some (.int .i64 V)
              ∧ w'.cell? ⟨b, off + j * 5 + 1, none⟩ = some (.int .i64 u.tv.k) ∧ w'.cell? ⟨b, off + j * 5 + 2, none⟩ = some (.int .i64 u.tv.N) ∧ w'.cell? ⟨b, off + j * 5 + 3, none⟩ = some (.string u.tv.s) ∧ w'.cell? ⟨b, off + j * 5 + 4, none⟩ = some (.slice u.tv.a u.tv.len u.tv.cap)
              ∧ w'.cell? ⟨b', off' + j * 5 + 1, none⟩ = some (.int .i64 u'.tv.k) ∧ w'.cell? ⟨b', off' + j * 5 + 2, none⟩ = some (.int .i64 u'.tv.N) ∧ w'.cell? ⟨b', off' + j * 5 + 3, none⟩ = some (.string u'.tv.s) ∧ w'.cell? ⟨b', off' + j * 5 + 4, none⟩ = some (.slice u'.tv.a u'.tv.len u'.tv.cap)) (go_keep)
              (first | (go_at_call 11; refine hsm.mono ?_; clear hsm; rintro e W2 ⟨rfl, hb2⟩; have hbc := bcell hb2))
            go_wp2_with fail
            go_ret
            exact ⟨ret_bool (by unfold sameBs; rw [(unhide HST) (by simp)]), hb.trans (hb2.mono hb.size)⟩
        · have hg : (V != V') = true := by simp [hV]
          have hp : sameP (V, u) (V', u') = false := by simp [sameP, hV]
          have hfin : sameBs bs bs' = false := hstop hp
          have HF := hide hfin
          clear hfin hstop hnext hp hsm hV
          go_wp2_with fail
          go_quiet (fail)
          go_wp2_with fail
          go_ret
          exact ⟨ret_bool (unhide HF).symm, below_drewN hb _⟩
      · have ht : bs.take j = bs := List.take_of_length_le (by omega)
        have ht' : bs'.take j = bs' := List.take_of_length_le (by omega)
        have hfin : sameBs bs bs' = true := by have h := unhide HS; rw [ht, ht'] at h; exact h
        have HF := hide hfin
        clear ht ht' hfin
        go_wp2_with fail
        go_ret
        exact ⟨ret_bool (unhide HF).symm, hb⟩
  · have hl6 : ((len : Int) != (len' : Int)) = true := by simp; omega
    have hfin : sameBs bs bs' = false := sameBs_len (by omega)
    have HF := hide hfin
    clear hl hl' hfin h1 h1' hll
    go_enter Try.func17, Try.ntmps17
    go_wp2_with fail
    go_ret
    exact ⟨ret_bool (unhide HF).symm, Below.refl _ _⟩
end Go.Proofs.Ytffbhinpmlcopaa

