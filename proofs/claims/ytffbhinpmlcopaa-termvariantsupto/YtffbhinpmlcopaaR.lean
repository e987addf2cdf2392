import Derived.Test.YtffbhinpmlcopaaQ
import Derived.Test.YtffbhinpmlcopaaH
import Derived.Deep.QuietTactic
import Derived.BigQuiet
/- The contracts of term.isRising and term.checkBinds. -/
namespace Go.Proofs.Ytffbhinpmlcopaa
open Go.RowKit Go.Shelf

/-- A substitution: numbers of variables, rising. -/
def Subst {n : Nat} (bs : List (Int × Tm n)) : Prop := (∀ p ∈ bs, 0 ≤ p.1 ∧ p.1 ≤ 1099511627776) ∧ Rises bs

/-- What isRising answers. -/
def RiseSays {n : Nat} (bs : List (Int × Tm n)) (e : Ending) : Prop := ∃ f : Bool, e = .returned (.bool f) ∧ (f = true ↔ Subst bs)
theorem rise_no {n : Nat} {bs : List (Int × Tm n)} (h : ¬ Subst bs) : RiseSays bs (.returned (.bool false)) := ⟨false, rfl, (fun h => by cases h), fun k => (h k).elim⟩
theorem rise_yes {n : Nat} {bs : List (Int × Tm n)} (h : Subst bs) : RiseSays bs (.returned (.bool true)) := ⟨true, rfl, fun _ => h, fun _ => rfl⟩
theorem subst_take_succ {n : Nat} {bs : List (Int × Tm n)} {j : Nat} {p : Int × Tm n} (hp : bs[j]? = some p) (h : Subst (bs.take j)) (h0 : 0 ≤ p.1) (h1 : p.1 ≤ 1099511627776) (hl : ∀ q, 0 < j → bs[j - 1]? = some q → q.1 < p.1) : Subst (bs.take (j + 1)) := by
  obtain ⟨hj, rfl⟩ := List.getElem?_eq_some_iff.1 hp
  have ht : bs.take (j + 1) = bs.take j ++ [bs[j]] := List.take_succ_eq_append_getElem hj
  have hlen : (bs.take j).length = j := by simp; omega
  refine ⟨fun q hq => ?_, fun i k q z hi hk hik => ?_⟩
  · rw [ht, List.mem_append] at hq
    rcases hq with hq | hq
    · exact h.1 q hq
    · simp at hq; subst hq; exact ⟨h0, h1⟩
  · rw [ht] at hi hk
    by_cases hkj : k < j
    · rw [List.getElem?_append_left (by omega)] at hi hk
      exact h.2 i k q z hi hk hik
    · rw [List.getElem?_append_right (by omega), hlen] at hk
      have hk0 : k - j = 0 := by
        by_cases e : k - j = 0
        · exact e
        · rw [List.getElem?_eq_none (by simp; omega)] at hk; cases hk
      rw [hk0] at hk
      simp at hk
      subst hk
      have hij : i < j := by omega
      rw [List.getElem?_append_left (by omega)] at hi
      rw [List.getElem?_take] at hi
      simp only [hij, if_true] at hi
      have hj1 : bs[j - 1]? = some (bs[j - 1]'(by omega)) := List.getElem?_eq_getElem (by omega)
      have hlast := hl _ (by omega) hj1
      by_cases e : i = j - 1
      · subst e; rw [hj1] at hi; cases hi; exact hlast
      · have hh := h.2 i (j - 1) q (bs[j - 1]'(by omega)) (by rw [List.getElem?_take]; simp only [hij, if_true]; exact hi) (by rw [List.getElem?_take]; simp only [show j - 1 < j by omega, if_true]; exact hj1) (by omega)
        omega

set_option maxRecDepth 100000 in
set_option maxHeartbeats 1000000 in
theorem isRising_any {n : Nat} (bs : List (Int × Tm n)) (a : Option Addr) (len cap : Nat) (w : World) (hl : IsL w.heap.size w a len bs) :
    Calls Try.prog 45 #[.slice a len cap] w fun e W' => RiseSays bs e ∧ Below w.heap.size w W' := by
  have h2 := hl.2.1
  have h1 := hl.1
  have hl1 : len ≤ bs.length := by omega
  have hl2 : bs.length ≤ len := by omega
  clear h1
  have HL := hide hl
  clear hl
  go_enter Try.func45, Try.ntmps45
  go_wp2_with fail
  go_loopw [7] (fun i wr => ∃ j : Nat, j ≤ len ∧ i = .int .i64 j ∧ Below w.heap.size w wr ∧ Subst (bs.take j)) (fun i _ => len - (intOf i).toNat)
  case atStart => exact ⟨0, Nat.zero_le _, rfl, Below.refl _ _, by simp [Subst, Rises]⟩
  case round =>
    obtain ⟨j, hj, rfl, hb, hs⟩ := hrel
    have HS := hide hs
    clear hs
    by_cases hlt : j < len
    · obtain ⟨V, u, b, off, hu, rfl, hbk, hT, c0, c1, c2, c3, c4⟩ := bind_at (unhide HL) hb hlt
      have HU := hide hu
      clear hT hu
      have hj1 : (j : Int) < len := by omega
      by_cases hV0 : 0 ≤ V
      · by_cases hV1 : V ≤ 1099511627776
        · by_cases hj0 : j = 0
          · have hg : decide (0 < j) = false := by simp; omega
            have HJ0 := hide hj0
            clear hj0
            go_wp2
            go_quiet (fail)
            go_wp2
            go_roundw
            case rel => exact ⟨j + 1, by omega, by go_num, below_drewN (hb.alloc hb.size _) _, subst_take_succ (unhide HU) (unhide HS) hV0 hV1 (fun q h => by have := unhide HJ0; omega)⟩
            case measure => simp [intOf]; omega
          · obtain ⟨i, hij⟩ : ∃ i, j = i + 1 := ⟨j - 1, by omega⟩
            obtain ⟨V', u', b', off', hu', ha', hbk', hT', d0, _⟩ := bind_at (unhide HL) hb (j := i) (by omega)
            simp at ha'
            obtain ⟨rfl, rfl⟩ := ha'
            have hjp : decide (0 < j) = true := by simp; omega
            have hjm : ((j : Int) - 1) = (i : Int) := by omega
            have hil : (i : Int) < len := by omega
            have hib : (i : Int) ≤ 9223372036854775807 := by omega
            have hjb : (j : Int) ≤ 9223372036854775807 := by omega
            have HIJ := hide hij
            clear hij hj0
            have HU' := hide hu'
            have d0' : (wr.alloc (.cells #[.int .i64 V, .int .i64 u.tv.k, .int .i64 u.tv.N, .string u.tv.s, .slice u.tv.a u.tv.len u.tv.cap] 60)).cell? ⟨b, off + i * 5, none⟩ = some (.int .i64 V') := cell_kept d0 (World.grownBy_alloc _ _ none) (fun r e => by cases e)
            clear hu' hT'
            by_cases hVV : V ≤ V'
            · have hvv : decide (V ≤ V') = true := by simp [hVV]
              go_wp2
              go_quiet (fail)
              go_wp2
              go_ret
              refine ⟨rise_no fun h => ?_, below_drewN (hb.alloc hb.size _) _⟩
              have := h.2 i j (V', u') (V, u) (unhide HU') (unhide HU) (by have := unhide HIJ; omega)
              simp at this; omega
            · have hvv : decide (V ≤ V') = false := by simp; omega
              go_wp2
              go_quiet (fail)
              go_wp2
              go_roundw
              case rel => exact ⟨j + 1, by omega, by go_num, below_drewN (hb.alloc hb.size _) _, subst_take_succ (unhide HU) (unhide HS) hV0 hV1 (fun q _ hq => by rw [show j - 1 = i by have := unhide HIJ; omega, unhide HU'] at hq; cases hq; simp; omega)⟩
              case measure => simp [intOf]; omega
        · go_wp2
          go_ret
          refine ⟨rise_no fun h => ?_, hb.alloc hb.size _⟩
          have := h.1 (V, u) (List.mem_of_getElem? (unhide HU))
          simp at this; omega
      · go_wp2
        go_ret
        refine ⟨rise_no fun h => ?_, hb.alloc hb.size _⟩
        have := h.1 (V, u) (List.mem_of_getElem? (unhide HU))
        simp at this; omega
    · have ht : bs.take j = bs := List.take_of_length_le (by omega)
      have HT := hide ht
      clear ht
      go_wp2_with fail
      go_ret
      exact ⟨rise_yes (by have h := unhide HS; rw [unhide HT] at h; exact h), hb⟩
end Go.Proofs.Ytffbhinpmlcopaa

