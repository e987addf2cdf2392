import Derived.Test.YtffbhinpmlcopaaX
/- The contracts of hornref.Binds, hornlaw.none and hornref.SameBinds. -/
namespace Go.Proofs.Ytffbhinpmlcopaa
open Go.RowKit Go.Shelf

set_option maxHeartbeats 400000 in
theorem none_any (x : TV) (w : World) : Calls Try.prog 16 #[x.val] w fun e W' => e = .returned (.bool (decide (x.k = 0) && (decide (x.N = 0) && (decide (x.s.toList = []) && ((x.len : Int) == 0))))) ∧ Below w.heap.size w W' := by
  simp only [TV.val]
  go_enter Try.func16, Try.ntmps16
  go_wp2
  all_goals go_ret
  all_goals refine ⟨?_, (Below.refl _ w).alloc (Nat.le_refl _) _⟩
  all_goals simp_all

set_option maxRecDepth 100000 in
set_option maxHeartbeats 1000000 in
theorem rbinds_any {n : Nat} (bs : List (Int × Tm n)) (a : Option Addr) (len cap : Nat) (w : World) (hl : IsL w.heap.size w a len bs) :
    Calls Try.prog 14 #[.slice a len cap] w fun e W' => BindSays [⟨a, len, cap, bs⟩] e ∧ Below w.heap.size w W' := by
  have h1 := hl.1
  have h2 := hl.2.1
  have hl1 : len ≤ bs.length := by omega
  have hl2 : bs.length ≤ len := by omega
  clear h1
  have HL := hide hl
  clear hl
  go_enter Try.func14, Try.ntmps14
  go_wp2_with fail
  go_loopw [3] (fun i wr => ∃ j : Nat, j ≤ len ∧ i = .int .i64 j ∧ Below w.heap.size w wr ∧ Fst (fun p : Int × Tm n => okT p.2 = true) bs j) (fun i _ => len - (intOf i).toNat)
  case atStart => exact ⟨0, Nat.zero_le _, rfl, Below.refl _ _, fun i x _ h => by omega⟩
  case round =>
    obtain ⟨j, hj, rfl, hb, hs⟩ := hrel
    have HS := hide hs
    clear hs
    by_cases hlt : j < len
    · obtain ⟨V, u, b, off, hu, rfl, hbk, hT, c0, c1, c2, c3, c4⟩ := bind_at (unhide HL) hb hlt
      have hfo := formed_any n u wr hT
      simp only [TV.val] at hfo
      have HU := hide hu
      clear hT hu
      have hj1 : (j : Int) < len := by omega
      cases ho : okT u with
      | true =>
        rw [ho] at hfo
        have HOU := hide ho
        clear ho
        go_wp2_with (go_at_call 9; refine hfo.mono ?_; clear hfo; rintro e W2 ⟨rfl, hb2⟩)
        go_roundw
        case rel => exact ⟨j + 1, by omega, by go_num, hb.trans (hb2.mono hb.size), (unhide HS).next (unhide HU) (unhide HOU)⟩
        case measure => simp [intOf]; omega
      | false =>
        rw [ho] at hfo
        have HOU := hide ho
        clear ho
        go_wp2_with (go_at_call 9; refine hfo.mono ?_; clear hfo; rintro e W2 ⟨rfl, hb2⟩)
        go_ret
        refine ⟨says_two fun h => ?_, hb.trans (hb2.mono hb.size)⟩
        have := h _ (List.mem_singleton.2 rfl) _ (List.mem_of_getElem? (unhide HU))
        rw [unhide HOU] at this
        cases this
    · have hall : ∀ L ∈ [(⟨a, len, cap, bs⟩ : BL n)], okB L := fun L hL => by
        simp at hL; subst hL; exact (unhide HS).all (by omega)
      have HALL := hide hall
      clear hall
      go_wp2_with fail
      go_loopw [4] (fun i wr => ∃ j : Nat, j ≤ len ∧ i = .int .i64 j ∧ Below w.heap.size w wr ∧ Subst (bs.take j)) (fun i _ => len - (intOf i).toNat)
      case atStart => exact ⟨0, Nat.zero_le _, rfl, hb, by simp [Subst, Rises]⟩
      case round =>
        obtain ⟨k, hk, rfl, hb2, hs2⟩ := hrel
        have HS2 := hide hs2
        clear hs2
        by_cases hlt2 : k < len
        · obtain ⟨V, u, b, off, hu, rfl, hbk, hT, c0, c1, c2, c3, c4⟩ := bind_at (unhide HL) hb2 hlt2
          have HU := hide hu
          clear hT hu c1 c2 c3 c4
          have hk1 : (k : Int) < len := by omega
          have hbad : ∀ W', Below w.heap.size w W' → (¬ Subst bs) → BindSays [(⟨some ⟨b, off, none⟩, len, cap, bs⟩ : BL n)] (.returned (.int .i64 1)) ∧ Below w.heap.size w W' := fun W' hW hno => ⟨says_one (unhide HALL) (fun h => hno (h _ (List.mem_singleton.2 rfl))), hW⟩
          have HBAD := hide hbad
          clear hbad
          by_cases hV0 : V < 0
          · have g1 : decide (V < 0) = true := by simp [hV0]
            go_wp2_with fail
            go_quiet (fail)
            go_wp2_with fail
            go_ret
            exact (unhide HBAD) _ (below_drewN hb2 _) (fun h => by have := h.1 _ (List.mem_of_getElem? (unhide HU)); simp at this; omega)
          · have g1 : decide (V < 0) = false := by simp; omega
            by_cases hV1 : 1099511627776 < V
            · have g2 : decide (1099511627776 < V) = true := by simp [hV1]
              go_wp2_with fail
              go_quiet (fail)
              go_wp2_with fail
              go_ret
              exact (unhide HBAD) _ (below_drewN hb2 _) (fun h => by have := h.1 _ (List.mem_of_getElem? (unhide HU)); simp at this; omega)
            · have g2 : decide (1099511627776 < V) = false := by simp; omega
              by_cases hk0 : k = 0
              · have g3 : decide (0 < k) = false := by simp; omega
                have HK0 := hide hk0
                clear hk0
                go_wp2_with fail
                go_quiet (fail)
                go_wp2_with fail
                go_roundw
                case rel => exact ⟨k + 1, by omega, by go_num, below_drewN hb2 _, subst_take_succ (unhide HU) (unhide HS2) (by omega) (by omega) (fun q h => by have := unhide HK0; omega)⟩
                case measure => simp [intOf]; omega
              · obtain ⟨i, hik⟩ : ∃ i, k = i + 1 := ⟨k - 1, by omega⟩
                obtain ⟨V', u', b', off', hu', ha', hbk', hT', d0, _⟩ := bind_at (unhide HL) hb2 (j := i) (by omega)
                simp at ha'
                obtain ⟨rfl, rfl⟩ := ha'
                have g3 : decide (0 < k) = true := by simp; omega
                have hkm : ((k : Int) - 1) = (i : Int) := by omega
                have hil : (i : Int) < len := by omega
                have hib : (i : Int) ≤ 9223372036854775807 := by omega
                have hkb : (k : Int) ≤ 9223372036854775807 := by omega
                have HIK := hide hik
                have HU' := hide hu'
                clear hik hk0 hu' hT'
                by_cases hVV : V ≤ V'
                · have g4 : decide (V ≤ V') = true := by simp [hVV]
                  go_wp2_with fail
                  go_quiet (fail)
                  go_wp2_with fail
                  go_ret
                  exact (unhide HBAD) _ (below_drewN hb2 _) (fun h => by have := h.2 i k (V', u') (V, u) (unhide HU') (unhide HU) (by have := unhide HIK; omega); simp at this; omega)
                · have g4 : decide (V ≤ V') = false := by simp; omega
                  go_wp2_with fail
                  go_quiet (fail)
                  go_wp2_with fail
                  go_roundw
                  case rel => exact ⟨k + 1, by omega, by go_num, below_drewN hb2 _, subst_take_succ (unhide HU) (unhide HS2) (by omega) (by omega) (fun q _ hq => by rw [show k - 1 = i by have := unhide HIK; omega, unhide HU'] at hq; cases hq; simp; omega)⟩
                  case measure => simp [intOf]; omega
        · have ht : bs.take k = bs := List.take_of_length_le (by omega)
          have hsub : ∀ L ∈ [(⟨a, len, cap, bs⟩ : BL n)], Subst L.bs := fun L hL => by
            simp at hL; subst hL; have h := unhide HS2; rw [ht] at h; exact h
          have HSUB := hide hsub
          clear ht hsub
          go_wp2_with fail
          go_ret
          exact ⟨says_zero (unhide HALL) (unhide HSUB), hb2⟩
end Go.Proofs.Ytffbhinpmlcopaa

