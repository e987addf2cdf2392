import Derived.Test.YtjdanfhbccpnpaaDoorC
import Derived.Outline
namespace Go.Proofs.YtjdanfhbccpnpaaDoor
open Go.RowKit Go.Shelf

theorem okT_succ {n : Nat} (x : TV) (kids : List (Tm n)) : okT (n := n + 1) (x, kids) = (x.ok && kids.all okT) := by
  show (x :: kids.flatMap parts).all TV.ok = _
  rw [List.all_cons, List.all_flatMap]; rfl

theorem take_all {n : Nat} (kids : List (Tm n)) (j : Nat) (u : Tm n) (h : kids[j]? = some u) : (kids.take (j + 1)).all okT = ((kids.take j).all okT && okT u) := by
  obtain ⟨hj, rfl⟩ := List.getElem?_eq_some_iff.1 h
  rw [List.take_succ_eq_append_getElem hj, List.all_append, List.all_cons, List.all_nil, Bool.and_true]
theorem take_all_false {n : Nat} (kids : List (Tm n)) (j : Nat) (h : (kids.take j).all okT = false) : kids.all okT = false := by
  rw [← List.take_append_drop j kids, List.all_append, h, Bool.false_and]

set_option maxRecDepth 100000 in
set_option maxHeartbeats 1000000 in
theorem formed_any : ∀ (n : Nat) (t : Tm n) (w : World), IsT w.heap.size w t → Calls Tryd.prog 11 #[t.tv.val] w fun e W' => e = .returned (.bool (okT t)) ∧ Below w.heap.size w W' := by
  intro n
  induction n with
  | zero => intro t; exact Empty.elim t
  | succ n ih =>
    intro t w ht
    obtain ⟨⟨k, kN, s, a, len, cap⟩, kids⟩ := t
    obtain ⟨hlen, hmax, hsm, hkids⟩ := ht
    simp only [Tm.tv, Tm.kids] at hlen hmax hsm hkids
    rw [okT_succ]
    simp only [Tm.tv, TV.val, TV.ok]
    have HI := hide ih
    clear ih
    have hB1 : Below w.heap.size w (w.alloc (.cells #[.int .i64 k, .int .i64 kN, .string s, .slice a len cap] 24)) := (Below.refl _ w).alloc (Nat.le_refl _) _
    by_cases hk : k = 1 ∨ k = 2 ∨ k = 3
    · have hgo : wmB k kN s len = true → kids.all okT = true := by
        intro h
        have : len = 0 := by
          rcases hk with rfl | rfl | rfl <;> simp [wmB] at h <;> omega
        have : kids = [] := List.length_eq_zero_iff.1 (by omega)
        subst this; rfl
      have hans : (wmB k kN s len && kids.all okT) = wmB k kN s len := by
        cases h : wmB k kN s len
        · rfl
        · rw [hgo h]; rfl
      rw [hans]
      clear hans hgo hkids hmax hsm HI hlen
      rcases hk with rfl | rfl | rfl
      all_goals
        go_enter Tryd.func11, Tryd.ntmps11
        go_wp2_with fail
      all_goals go_ret
      all_goals refine ⟨?_, (Below.refl _ w).alloc (Nat.le_refl _) _⟩
      all_goals simp_all [wmB]
      all_goals (intros; omega)
    · have hwm : wmB k kN s len = (decide (k = 4) && (decide (kN = 0) && decide ((s.size : Int) ≤ 100)) && decide (1 ≤ (len : Int)) && decide ((len : Int) ≤ 50)) := by
        unfold wmB
        rw [if_neg (by omega), if_neg (by omega), if_neg (by omega)]
        by_cases h4 : k = 4
        · rw [if_pos h4, decide_eq_true h4]; simp
        · rw [if_neg h4, decide_eq_false h4]; simp
      have hk1 : (k == 1) = false := by simp; omega
      have hk2 : (k == 2) = false := by simp; omega
      have hk3 : (k == 3) = false := by simp; omega
      have hl1 : len ≤ kids.length := by omega
      have hl2 : kids.length ≤ len := by omega
      clear hlen hk hB1
      cases hwm' : wmB k kN s len with
      | false =>
        rw [hwm'] at hwm
        rw [Bool.false_and]
        clear hwm'
        have HW := hide hwm
        clear hwm hkids HI
        go_enter Tryd.func11, Tryd.ntmps11
        go_wp2_with fail
        all_goals
          refine wp_loop_rounds 1 ?_
          rw [rounds_succ]
          go_wp2_with fail
        all_goals first | (go_ret; exact ⟨rfl, (Below.refl _ w).alloc (Nat.le_refl _) _⟩) | (exfalso; have h := unhide HW; clear HW; rw [decide_eq_true ‹k = 4›, decide_eq_true ‹kN = 0›, decide_eq_true ‹(s.size : Int) ≤ 100›, decide_eq_true ‹1 ≤ (len : Int)›, decide_eq_true ‹(len : Int) ≤ 50›] at h; cases h)
      | true =>
        rw [hwm'] at hwm
        simp only [Bool.true_and]
        simp at hwm
        obtain ⟨⟨⟨rfl, rfl, hs⟩, hn1⟩, hn2⟩ := hwm
        clear hwm'
        by_cases hse : s.toList = []
        all_goals
          go_enter Tryd.func11, Tryd.ntmps11
          go_wp2_with fail
          go_loopw [5, 6] (fun o i wr => ∃ j : Nat, j ≤ len ∧ i = .int .i64 j ∧ o = .bool ((kids.take j).all okT) ∧ Below (w.heap.size + 1) (w.alloc (.cells #[.int .i64 4, .int .i64 0, .string s, .slice a len cap] 24)) wr) (fun _ i _ => len - (intOf i).toNat)
          case atStart => exact ⟨0, Nat.zero_le _, rfl, by simp, Below.refl _ _⟩
          case round =>
            obtain ⟨j, hj, rfl, rfl, hb⟩ := hrel
            obtain ⟨hc, hz⟩ : wr.cell? ⟨w.heap.size, 3, none⟩ = some (.slice a len cap) ∧ w.heap.size + 1 ≤ wr.heap.size := ⟨(hb.cell (p := ⟨w.heap.size, 3, none⟩) (by simp)).trans (by simp), by have := hb.size; simp at this; omega⟩
            cases ho : (kids.take j).all okT with
            | false =>
              have HO := hide ho
              clear ho hkids
              go_wp2_with fail
              go_ret
              exact ⟨by rw [take_all_false kids j (unhide HO)]; rfl, ((Below.refl _ w).alloc (Nat.le_refl _) _).trans (hb.mono (by omega))⟩
            | true =>
              have HO := hide ho
              clear ho
              by_cases hlt : j < len
              · obtain ⟨u, hu⟩ : ∃ u, kids[j]? = some u := ⟨kids[j]'(by omega), List.getElem?_eq_getElem (by omega)⟩
                have hne : kids ≠ [] := by rintro rfl; simp at hu
                obtain ⟨b, off, rfl, hbk, hk⟩ := hkids.resolve_left hne
                obtain ⟨⟨c0, c1, c2, c3⟩, hT⟩ := hk j u hu
                have hbw : Below w.heap.size w wr := ((Below.refl _ w).alloc (Nat.le_refl _) _).trans (hb.mono (by omega))
                replace c0 := (hbw.cell (p := ⟨b, off + j * 4, none⟩) hbk).trans c0
                replace c1 := (hbw.cell (p := ⟨b, off + j * 4 + 1, none⟩) hbk).trans c1
                replace c2 := (hbw.cell (p := ⟨b, off + j * 4 + 2, none⟩) hbk).trans c2
                replace c3 := (hbw.cell (p := ⟨b, off + j * 4 + 3, none⟩) hbk).trans c3
                have ihu := (unhide HI) u wr ((hT.below hbw).mono (by omega))
                have HU := hide hu
                clear hT hk hkids hu hne hbw
                simp only [TV.val] at ihu
                go_wp2_with (go_at_call 11; refine ihu.mono ?_; clear ihu; rintro e W2 ⟨rfl, hb2⟩)
                go_roundw
                case rel => exact ⟨j + 1, by omega, by go_num, by rw [take_all kids j u (unhide HU), unhide HO]; rfl, hb.trans (hb2.mono (by omega))⟩
                case measure => simp [intOf]; omega
              · have ht : kids.take j = kids := List.take_of_length_le (by omega)
                have HT := hide ht
                clear ht hkids
                go_wp2_with fail
                go_ret
                exact ⟨by have h := unhide HO; rw [unhide HT] at h; rw [h]; rfl, ((Below.refl _ w).alloc (Nat.le_refl _) _).trans (hb.mono (by omega))⟩
end Go.Proofs.YtjdanfhbccpnpaaDoor

