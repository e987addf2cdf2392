import Derived.Test.YtdjlekcapfeniaaNm
import Derived.Test.YtdjlekcapfeniaaNqs
import Derived.Test.YtdjlekcapfeniaaHds
import Derived.Test.YtdjlekcapfeniaaPs
/- The contract of term.Rename, whatever it is asked. -/
namespace Go.Proofs.Ytdjlekcapfeniaa
open Go.RowKit Go.Shelf Go.Maps

set_option maxHeartbeats 400000 in
theorem isVar_any (N : Int) (w : World) : Calls Try.prog 34 #[.int .i64 N] w fun e W' => e = .returned (.bool (decide (0 ≤ N) && decide (N ≤ 1099511627776))) ∧ Below w.heap.size w W' := by
  go_enter Try.func34, Try.ntmps34
  go_wp2
  all_goals go_ret
  all_goals refine ⟨?_, Below.refl _ _⟩
  all_goals first | (simp_all; done) | (simp_all; intros; omega)

theorem steps_nodup : ∀ (c : List Nd) (acc : List Int), acc.Nodup → (stepsN stpN acc c).Nodup
  | [], _, h => h
  | x :: c, acc, h => by
    have e : stepsN stpN acc (x :: c) = stepsN stpN (if x.1 = 1 then stpN acc x.2.1 else acc) c := rfl
    rw [e]
    refine steps_nodup c _ ?_
    split
    · unfold stpN
      split
      · exact h
      · rename_i hm
        rw [List.nodup_append]
        exact ⟨h, by simp, fun a ha b hb => by simp at hb; subst hb; exact fun e => hm (e ▸ ha)⟩
    · exact h
theorem steps_lenT {n : Nat} {t : Tm n} (h : okT t = true) : (stepsN stpN [] (code t)).length ≤ 1099511627777 :=
  nodup_range (steps_nodup (code t) [] List.nodup_nil) fun N hN => by
    rcases (steps_mem (code t) [] N).1 hN with h' | ⟨x, hx, hk, rfl⟩
    · cases h'
    · rw [okT_m, List.all_eq_true] at h
      have hx' := h x hx
      obtain ⟨k, N, s, len⟩ := x
      simp only at hk
      subst hk
      simp [okM] at hx'
      exact hx'.1.1
/-- What Rename answers, of a term: the number of the first variable it did not give, or an error. -/
def RenAll {n : Nat} (t : Tm n) (f : Int) (lo : Nat) (W' : World) (x : TV) (k r : Int) : Prop :=
  (0 ≤ f ∧ f ≤ 1099511627776 ∧ f + ((stepsN stpN [] (code t)).length : Nat) ≤ 1099511627777 ∧ r = 0 ∧ k = f + ((stepsN stpN [] (code t)).length : Nat) ∧ HoldsT (n + 1) lo W' x.val (canon f (code t))) ∨
  (0 ≤ f ∧ f ≤ 1099511627776 ∧ ¬ f + ((stepsN stpN [] (code t)).length : Nat) ≤ 1099511627777 ∧ r = 9 ∧ k = 0 ∧ x = ⟨0, 0, ⟨#[]⟩, none, 0, 0⟩) ∨
  (¬ (0 ≤ f ∧ f ≤ 1099511627776) ∧ r = 1 ∧ k = 0 ∧ x = ⟨0, 0, ⟨#[]⟩, none, 0, 0⟩)

set_option maxRecDepth 100000 in
set_option maxHeartbeats 1000000 in
theorem rename_full {n : Nat} (t : Tm n) (f : Int) (w : World) (hT : IsT w.heap.size w t) (hok : okT t = true) :
    Calls Try.prog 17 #[t.tv.val, .int .i64 f] w fun e W' => ∃ (x : TV) (k r : Int), e = .returned (.tuple #[x.val, .int .i64 k, .int .i64 r]) ∧ Below w.heap.size w W' ∧ RenAll t f w.heap.size W' x k r := by
  have hH := Head.new w t.tv
  have hB1 : Below w.heap.size w ((w.alloc (.cells #[.int .i64 t.tv.k, .int .i64 t.tv.N, .string t.tv.s, .slice t.tv.a t.tv.len t.tv.cap] 24)).alloc (.cells #[.int .i64 0, .int .i64 0, .string ⟨#[]⟩, .slice none 0 0] 24)) := ((Below.refl _ w).alloc (Nat.le_refl _) _).alloc (by simp) _
  have hck := check_any t _ ((hT.below hB1).mono hB1.size)
  rw [chk_yes hok] at hck
  by_cases hf : 0 ≤ f ∧ f ≤ 1099511627776
  · obtain ⟨hf0, hf1⟩ := hf
    have hnm := fun (W : World) (hb : Below w.heap.size w W) => number_any t f W ((hT.below hb).mono hb.size) hok hf0 hf1
    have hlen : (stepsN stpN [] (code t)).length ≤ 1099511627777 := steps_lenT hok
    obtain ⟨L, hL⟩ : ∃ L, (stepsN stpN [] (code t)).length = L := ⟨_, rfl⟩
    rw [hL] at hnm hlen
    have HLL := hide hL
    clear hL
    have hiv := fun (W : World) => isVar_any f W
    have hdd : (decide (0 ≤ f) && decide (f ≤ 1099511627776)) = true := by simp [hf0, hf1]
    simp only [hdd] at hiv
    have hwr : IntKind.i64.wrap (f + (L : Nat) - 1) = f + (L : Nat) - 1 := by simp [IntKind.wrap, IntKind.bits, IntKind.signed]; omega
    simp only [TV.val] at hnm hck ⊢
    have HNM := hide hnm
    clear hT hok hnm hdd hB1
    go_enter Try.func17, Try.ntmps17
    go_wp2_with fail
    refine hck.mono ?_
    clear hck
    rintro e W1 ⟨rfl, hb1⟩
    replace hH := hH.next hb1
    clear hb1
    go_wp2_with fail
    refine (hiv _).mono ?_
    clear hiv
    rintro e W2 ⟨rfl, hb2⟩
    replace hH := hH.next hb2
    clear hb2
    have c0 := hH.ba.c0
    have c1 := hH.ba.c1
    have c2 := hH.ba.c2
    have c3 := hH.ba.c3
    go_wp2_with fail
    refine ((unhide HNM) W2 hH.below).mono ?_
    clear c0 c1 c2 c3 HNM
    rintro e W3 ⟨x, rfl, hb3, hx⟩
    have hb4 : Below W3.heap.size W3 (W3.alloc (.cells #[.int .i64 x.k, .int .i64 x.N, .string x.s, .slice x.a x.len x.cap] 24)) := (Below.refl _ W3).alloc (Nat.le_refl _) _
    have hb24 := hb3.trans (hb4.mono hb3.size)
    have hlt2 := hH.lt
    replace hH := hH.next hb24
    have hbx := BoxT.new W3 x
    have hx4 : HoldsT (n + 1) W2.heap.size (W3.alloc (.cells #[.int .i64 x.k, .int .i64 x.N, .string x.s, .slice x.a x.len x.cap] 24)) x.val (canon f (code t)) := hx.below hb4
    obtain ⟨⟨z0, z1, z2, z3⟩, y0, y1, y2, y3⟩ := zbox_kept hH.bz
    by_cases hbig : f + (L : Nat) - 1 ≤ 1099511627776
    · have hg : ¬ 1099511627776 < f + (L : Nat) - 1 := by omega
      have hfin := (holds_set4 hx4 hlt2 0 x).mono (lo' := w.heap.size) (Nat.le_refl _) (by omega)
      have hbf := set4_below hH.below (b := w.heap.size + 1) (by omega) 0 x
      have b0 := hbx.c0
      have b1 := hbx.c1
      have b2 := hbx.c2
      have b3 := hbx.c3
      have HF := hide (And.intro hbf hfin)
      clear hfin hbf hx4 hx hbx hH hb3 hb4 hb24
      go_wp2_with fail
      exact bodyPost_ret (v := .tuple #[x.val, .int .i64 (f + (L : Nat)), .int .i64 0]) (by simp [results, Try.results17, go_sem, TV.val, z0, z1, z2, z3]) rfl ⟨x, _, 0, rfl, (unhide HF).1, .inl ⟨hf0, hf1, by rw [unhide HLL]; omega, rfl, by rw [unhide HLL], (unhide HF).2⟩⟩
    · have hg : 1099511627776 < f + (L : Nat) - 1 := by omega
      have hbf := set4_below hH.below (b := w.heap.size + 1) (by omega) 0 ⟨0, 0, ⟨#[]⟩, none, 0, 0⟩
      have HF := hide hbf
      clear hbf hx4 hx hbx hH hb3 hb4 hb24 hbig
      go_wp2_with fail
      exact bodyPost_ret (v := .tuple #[.agg #[.int .i64 0, .int .i64 0, .string ⟨#[]⟩, .slice none 0 0], .int .i64 0, .int .i64 9]) (by simp [results, Try.results17, go_sem, z0, z1, z2, z3]) rfl ⟨⟨0, 0, ⟨#[]⟩, none, 0, 0⟩, 0, 9, rfl, unhide HF, .inr (.inl ⟨hf0, hf1, by rw [unhide HLL]; omega, rfl, rfl, rfl⟩)⟩
  · have hiv := fun (W : World) => isVar_any f W
    have hdd : (decide (0 ≤ f) && decide (f ≤ 1099511627776)) = false := by
      rw [Bool.and_eq_false_iff, decide_eq_false_iff_not, decide_eq_false_iff_not]; omega
    simp only [hdd] at hiv
    simp only [TV.val] at hck ⊢
    clear hT hok hdd hB1
    have HFF := hide hf
    clear hf
    go_enter Try.func17, Try.ntmps17
    go_wp2_with fail
    refine hck.mono ?_
    clear hck
    rintro e W1 ⟨rfl, hb1⟩
    replace hH := hH.next hb1
    clear hb1
    go_wp2_with fail
    refine (hiv _).mono ?_
    clear hiv
    rintro e W2 ⟨rfl, hb2⟩
    replace hH := hH.next hb2
    clear hb2
    obtain ⟨⟨z0, z1, z2, z3⟩, y0, y1, y2, y3⟩ := zbox_kept hH.bz
    have hbf := set4_below hH.below (b := w.heap.size + 1) (by omega) 0 ⟨0, 0, ⟨#[]⟩, none, 0, 0⟩
    have HF := hide hbf
    clear hbf hH
    go_wp2_with fail
    exact bodyPost_ret (v := .tuple #[.agg #[.int .i64 0, .int .i64 0, .string ⟨#[]⟩, .slice none 0 0], .int .i64 0, .int .i64 1]) (by simp [results, Try.results17, go_sem, z0, z1, z2, z3]) rfl ⟨⟨0, 0, ⟨#[]⟩, none, 0, 0⟩, 0, 1, rfl, unhide HF, .inr (.inr ⟨unhide HFF, rfl, rfl, rfl⟩)⟩

set_option maxRecDepth 100000 in
set_option maxHeartbeats 1000000 in
theorem rename_bad {n : Nat} (t : Tm n) (f : Int) (w : World) (hT : IsT w.heap.size w t) (hok : okT t = false) :
    Calls Try.prog 17 #[t.tv.val, .int .i64 f] w fun e W' => e = .returned (.tuple #[(⟨0, 0, ⟨#[]⟩, none, 0, 0⟩ : TV).val, .int .i64 0, .int .i64 2]) ∧ Below w.heap.size w W' := by
  have hH := Head.new w t.tv
  have hB1 : Below w.heap.size w ((w.alloc (.cells #[.int .i64 t.tv.k, .int .i64 t.tv.N, .string t.tv.s, .slice t.tv.a t.tv.len t.tv.cap] 24)).alloc (.cells #[.int .i64 0, .int .i64 0, .string ⟨#[]⟩, .slice none 0 0] 24)) := ((Below.refl _ w).alloc (Nat.le_refl _) _).alloc (by simp) _
  have hck := check_any t _ ((hT.below hB1).mono hB1.size)
  rw [chk_no hok] at hck
  simp only [TV.val] at hck ⊢
  clear hT hok hB1
  go_enter Try.func17, Try.ntmps17
  go_wp2_with fail
  refine hck.mono ?_
  clear hck
  rintro e W1 ⟨rfl, hb1⟩
  replace hH := hH.next hb1
  clear hb1
  obtain ⟨⟨z0, z1, z2, z3⟩, y0, y1, y2, y3⟩ := zbox_kept hH.bz
  have hbf := set4_below hH.below (b := w.heap.size + 1) (by omega) 0 ⟨0, 0, ⟨#[]⟩, none, 0, 0⟩
  have HF := hide hbf
  clear hbf hH
  go_wp2_with fail
  exact bodyPost_ret (v := .tuple #[.agg #[.int .i64 0, .int .i64 0, .string ⟨#[]⟩, .slice none 0 0], .int .i64 0, .int .i64 2]) (by simp [results, Try.results17, go_sem, z0, z1, z2, z3]) rfl ⟨rfl, unhide HF⟩
end Go.Proofs.Ytdjlekcapfeniaa

