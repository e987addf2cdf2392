import Derived.Test.YtlbobmebbllifaaGreatBbDs
import Derived.BigRegion
import Derived.Test.YtlbobmebbllifaaGreatTs
/- The contract of term.number. -/
namespace Go.Proofs.YtlbobmebbllifaaGreat
open Go.RowKit Go.Shelf Go.Maps
theorem number_world (w : World) (x : TV) (f : Int) : ∃ W5, ((((w.alloc (.cells #[.int .i64 x.k, .int .i64 x.N, .string x.s, .slice x.a x.len x.cap] 24)).alloc (.cells #[.int .i64 0, .int .i64 0, .string ⟨#[]⟩, .slice none 0 0] 24)).alloc (.cells #[.int .i64 f] 2)).alloc (.map #[] 0)).alloc (.cells #[.map (some (w.heap.size + 3))] 127) = W5 ∧
  Below w.heap.size w W5 ∧ W5.heap.size = w.heap.size + 5 ∧ BoxT W5 w.heap.size x ∧ W5.heap[w.heap.size + 1]? = some (.cells #[.int .i64 0, .int .i64 0, .string ⟨#[]⟩, .slice none 0 0] 24 (0, 0)) ∧ NumI f (w.heap.size + 3) (w.heap.size + 4) (w.heap.size + 2) [] W5 := by
 refine ⟨_, rfl, ((((Below.refl _ w).alloc (Nat.le_refl _) _).alloc (by simp) _).alloc (by simp; omega) _ |>.alloc (by simp; omega) _).alloc (by simp; omega) _, by simp, (((BoxT.new w x).alloc _).alloc _ |>.alloc _).alloc _, ?_, ?_⟩
 ·have h := World.alloc_heap_new (w.alloc (.cells #[.int .i64 x.k, .int .i64 x.N, .string x.s, .slice x.a x.len x.cap] 24)) (.cells #[.int .i64 0, .int .i64 0, .string ⟨#[]⟩, .slice none 0 0] 24)
  rw [World.size_alloc] at h
  exact (Below.heap_alloc _ _ _ (by simp <;> omega)).trans ((Below.heap_alloc _ _ _ (by simp <;> omega)).trans ((Below.heap_alloc _ _ _ (by simp)).trans h))
 ·refine ⟨List.nodup_nil, (fun N hN => by cases hN), ?_, ?_, .map [], ?_, (fun N => by simp [Maps.has]), (fun N hN => by cases hN)⟩
  ·have h := World.alloc_heap_new ((((w.alloc (.cells #[.int .i64 x.k, .int .i64 x.N, .string x.s, .slice x.a x.len x.cap] 24)).alloc (.cells #[.int .i64 0, .int .i64 0, .string ⟨#[]⟩, .slice none 0 0] 24)).alloc (.cells #[.int .i64 f] 2)).alloc (.map #[] 0)) (.cells #[.map (some (w.heap.size + 3))] 127)
   simp only [World.size_alloc] at h
   exact h
  ·have h := World.alloc_heap_new ((w.alloc (.cells #[.int .i64 x.k, .int .i64 x.N, .string x.s, .slice x.a x.len x.cap] 24)).alloc (.cells #[.int .i64 0, .int .i64 0, .string ⟨#[]⟩, .slice none 0 0] 24)) (.cells #[.int .i64 f] 2)
   simp only [World.size_alloc] at h
   have h2 := (Below.heap_alloc _ (.cells #[.map (some (w.heap.size + 3))] 127) _ (by simp <;> omega)).trans ((Below.heap_alloc _ (.map #[] 0) _ (by simp)).trans h)
   simpa using h2
  ·have h := World.ownsMap_made (H := Unit) (((w.alloc (.cells #[.int .i64 x.k, .int .i64 x.N, .string x.s, .slice x.a x.len x.cap] 24)).alloc (.cells #[.int .i64 0, .int .i64 0, .string ⟨#[]⟩, .slice none 0 0] 24)).alloc (.cells #[.int .i64 f] 2)) Tryz.prog 2 (plainElem Tryz.prog 2)
   simp only [World.size_alloc] at h
   exact h.alloc _
set_option maxRecDepth 100000 in
set_option maxHeartbeats 1000000 in
theorem number_any {n : Nat} (t : Tm n) (f : Int) (w : World) (hT : IsT w.heap.size w t) (hok : okT t = true) (hf0 : 0 ≤ f) (hf1 : f ≤ 1099511627776) :
  Calls Tryz.prog 45 #[t.tv.val, .int .i64 f] w fun e W' => ∃ x : TV, e = .returned (.tuple #[x.val, .int .i64 (f + ((stepsN stpN [] (code t)).length : Nat))]) ∧ Below w.heap.size w W' ∧ HoldsT (n + 1) w.heap.size W' x.val ((code t).flatMap (subN (renN f (stepsN stpN [] (code t))))) := by
 obtain ⟨W5, hW5, hB5, hs5, hbt, hz5, hI5⟩ := number_world w t.tv f
 have hrep := replace_anyX (stately_num (f := f) (mb := w.heap.size + 3) (bb := w.heap.size + 4) (nb := w.heap.size + 2) (n₀ := w.heap.size) (lo := w.heap.size + 5) (by omega) ⟨by omega, by omega⟩ (by omega) ⟨by omega, by omega⟩) 62 #[.pointer (some ⟨w.heap.size + 4, 0, none⟩), .pointer (some ⟨w.heap.size + 2, 0, none⟩)] 1 (by omega) (enters_of Tryz.func62 (by kernel_rfl) rfl)
  (number1_becomes hf0 hf1 ⟨by omega, by omega, by omega⟩ ⟨by omega, by omega, by omega⟩) n t W5 [] (by omega) hI5 (hT.below hB5) hok
 have hmm := @run_makeMap Tryz.prog
 have c0 := hbt.c0
 have c1 := hbt.c1
 have c2 := hbt.c2
 have c3 := hbt.c3
 generalize stepsN stpN [] (code t) = cv at hrep ⊢
 have HB5 := hide hB5
 have HS5 := hide hs5
 have HZ5 := hide hz5
 clear hT hok hI5 hB5 hz5 hbt hs5
 simp only [TV.val] at hrep ⊢
 go_enter Tryz.func45, Tryz.ntmps45
 go_wp2_with fail
 refine hrep.mono ?_
 clear hrep c0 c1 c2 c3 hmm hW5
 rintro e W6 ⟨v, rfl, hg6, hI6, hv⟩
 obtain ⟨t6, ht6, -⟩ := hv _ (Nat.le_refl _)
 subst ht6
 have hs6 : w.heap.size + 5 ≤ W6.heap.size := by have := hg6.size; have := unhide HS5; omega
 have hB6 : Below w.heap.size w W6 := (unhide HB5).trans (hg6.below (fun k hx => by rcases hx with rfl | rfl <;> omega) (by have := unhide HS5; omega))
 have hz6 : W6.heap[w.heap.size + 1]? = some (.cells #[.int .i64 0, .int .i64 0, .string ⟨#[]⟩, .slice none 0 0] 24 (0, 0)) := (hg6.block _ (by have := unhide HS5; omega) (fun hx => by rcases hx with hx | hx <;> omega)).trans (unhide HZ5)
 have hb7 : Below W6.heap.size W6 (W6.alloc (.cells #[.int .i64 t6.tv.k, .int .i64 t6.tv.N, .string t6.tv.s, .slice t6.tv.a t6.tv.len t6.tv.cap] 24)) := (Below.refl _ W6).alloc (Nat.le_refl _) _
 have hbx := BoxT.new W6 t6.tv
 have hz7 := (hb7.block (w.heap.size + 1) (by omega)).trans hz6
 have hn7 := (hb7.block (w.heap.size + 2) (by omega)).trans hI6.next
 have hv7 : HoldsT (n + 1) W5.heap.size (W6.alloc (.cells #[.int .i64 t6.tv.k, .int .i64 t6.tv.N, .string t6.tv.s, .slice t6.tv.a t6.tv.len t6.tv.cap] 24)) t6.tv.val ((code t).flatMap (subN (renN f cv))) := hv.below hb7
 have hlt5 : w.heap.size + 1 < W5.heap.size := by have := unhide HS5; omega
 have hfin := (holds_set4 hv7 hlt5 0 t6.tv).mono (lo' := w.heap.size) (Nat.le_refl _) (by omega)
 have hbf := set4_below (hB6.trans (hb7.mono hB6.size)) (b := w.heap.size + 1) (by omega) 0 t6.tv
 have hx : (W6.alloc (.cells #[.int .i64 t6.tv.k, .int .i64 t6.tv.N, .string t6.tv.s, .slice t6.tv.a t6.tv.len t6.tv.cap] 24)).cell? ⟨w.heap.size + 1 + 1, 0, none⟩ = some (.int .i64 (f + (cv.length : Nat))) := (one_cell hn7).1
 obtain ⟨⟨z0, z1, z2, z3⟩, f0, f1, f2, f3⟩ := zbox_kept hz7
 have b0 := hbx.c0
 have b1 := hbx.c1
 have b2 := hbx.c2
 have b3 := hbx.c3
 have HF := hide (And.intro hbf hfin)
 clear hg6 hI6 hv hB6 hz6 hbx hz7 hn7 hv7 hfin hbf hb7
 simp only [TV.val]
 go_wp2_with fail
 go_region
 all_goals
  go_wp2_with fail
  exact bodyPost_ret (v := .tuple #[t6.tv.val, .int .i64 (f + (cv.length : Nat))]) (by simp [results, Tryz.results45, go_sem, TV.val, z0, z1, z2, z3]) rfl ⟨_, rfl, (unhide HF).1.drew, (unhide HF).2.below (Below.refl _ _).drew⟩
/- The contract of term.Rename, whatever it is asked. -/
set_option maxHeartbeats 1000000
set_option maxRecDepth 100000
theorem isVar_any (N : Int) (w : World) : Calls Tryz.prog 44 #[.int .i64 N] w fun e W' => e = .returned (.bool (decide (0 ≤ N) && decide (N ≤ 1099511627776))) ∧ Below w.heap.size w W' := by
 go_enter Tryz.func44, Tryz.ntmps44
 go_wp2
 all_goals go_ret
 all_goals refine ⟨?_, Below.refl _ _⟩
 all_goals first | (simp_all; done) | (simp_all; intros; omega)
theorem steps_nodup : ∀ (c : List Nd) (acc : List Int), acc.Nodup → (stepsN stpN acc c).Nodup
 | [], _, h => h
 | x :: c, acc, h => by
  have e : stepsN stpN acc (x :: c) = stepsN stpN (if x.1 = 1 then stpN acc x.2.1 else acc) c := rfl
  rw [e]
  refine steps_nodup c _ ?_
  split
  ·unfold stpN
   split
   ·exact h
   ·rename_i hm
    rw [List.nodup_append]
    exact ⟨h, by simp, fun a ha b hb => by simp at hb; subst hb; exact fun e => hm (e ▸ ha)⟩
  ·exact h
theorem steps_lenT {n : Nat} {t : Tm n} (h : okT t = true) : (stepsN stpN [] (code t)).length ≤ 1099511627777 :=
 nodup_range (steps_nodup (code t) [] List.nodup_nil) fun N hN => by
  rcases (steps_mem (code t) [] N).1 hN with h' | ⟨x, hx, hk, rfl⟩
  ·cases h'
  ·rw [okT_m, List.all_eq_true] at h
   have hx' := h x hx
   obtain ⟨k, N, s, len⟩ := x
   simp only at hk
   subst hk
   simp [okM] at hx'
   exact hx'.1.1
def RenAll {n : Nat} (t : Tm n) (f : Int) (lo : Nat) (W' : World) (x : TV) (k r : Int) : Prop :=
 (0 ≤ f ∧ f ≤ 1099511627776 ∧ f + ((stepsN stpN [] (code t)).length : Nat) ≤ 1099511627777 ∧ r = 0 ∧ k = f + ((stepsN stpN [] (code t)).length : Nat) ∧ HoldsT (n + 1) lo W' x.val (canon f (code t))) ∨
 (0 ≤ f ∧ f ≤ 1099511627776 ∧ ¬ f + ((stepsN stpN [] (code t)).length : Nat) ≤ 1099511627777 ∧ r = 9 ∧ k = 0 ∧ x = ⟨0, 0, ⟨#[]⟩, none, 0, 0⟩) ∨
 (¬ (0 ≤ f ∧ f ≤ 1099511627776) ∧ r = 1 ∧ k = 0 ∧ x = ⟨0, 0, ⟨#[]⟩, none, 0, 0⟩)
theorem rename_full {n : Nat} (t : Tm n) (f : Int) (w : World) (hT : IsT w.heap.size w t) (hok : okT t = true) :
  Calls Tryz.prog 24 #[t.tv.val, .int .i64 f] w fun e W' => ∃ (x : TV) (k r : Int), e = .returned (.tuple #[x.val, .int .i64 k, .int .i64 r]) ∧ Below w.heap.size w W' ∧ RenAll t f w.heap.size W' x k r := by
 have hH := Head.new w t.tv
 have hB1 : Below w.heap.size w ((w.alloc (.cells #[.int .i64 t.tv.k, .int .i64 t.tv.N, .string t.tv.s, .slice t.tv.a t.tv.len t.tv.cap] 24)).alloc (.cells #[.int .i64 0, .int .i64 0, .string ⟨#[]⟩, .slice none 0 0] 24)) := ((Below.refl _ w).alloc (Nat.le_refl _) _).alloc (by simp) _
 have hck := check_any t _ ((hT.below hB1).mono hB1.size)
 rw [chk_yes hok] at hck
 by_cases hf : 0 ≤ f ∧ f ≤ 1099511627776
 ·obtain ⟨hf0, hf1⟩ := hf
  have hnm := fun (W : World) (hb : Below w.heap.size w W) => number_any t f W ((hT.below hb).mono hb.size) hok hf0 hf1
  have hlen : (stepsN stpN [] (code t)).length ≤ 1099511627777 := steps_lenT hok
  obtain ⟨L, hL⟩ : ∃ L, (stepsN stpN [] (code t)).length = L := ⟨_, rfl⟩
  rw [hL] at hnm hlen
  have HLL := hide hL
  clear hL
  have hiv := fun (W : World) => isVar_any f W
  have hdd : (decide (0 ≤ f) && decide (f ≤ 1099511627776)) = true := by simp [hf0, hf1]
  simp only [hdd] at hiv
  have hwr : IntKind.i64.wrap (f + (L : Nat) - 1) = f + (L : Nat) - 1 := by simp [IntKind.wrap, IntKind.bits, IntKind.signed]; omega
  simp only [TV.val] at hnm hck ⊢
  have HNM := hide hnm
  clear hT hok hnm hdd hB1
  go_enter Tryz.func24, Tryz.ntmps24
  go_wp2_with fail
  refine hck.mono ?_
  clear hck
  rintro e W1 ⟨rfl, hb1⟩
  replace hH := hH.next hb1
  clear hb1
  go_wp2_with fail
  refine (hiv _).mono ?_
  clear hiv
  rintro e W2 ⟨rfl, hb2⟩
  replace hH := hH.next hb2
  clear hb2
  have c0 := hH.ba.c0
  have c1 := hH.ba.c1
  have c2 := hH.ba.c2
  have c3 := hH.ba.c3
  go_wp2_with fail
  refine ((unhide HNM) W2 hH.below).mono ?_
  clear c0 c1 c2 c3 HNM
  rintro e W3 ⟨x, rfl, hb3, hx⟩
  have hb4 : Below W3.heap.size W3 (W3.alloc (.cells #[.int .i64 x.k, .int .i64 x.N, .string x.s, .slice x.a x.len x.cap] 24)) := (Below.refl _ W3).alloc (Nat.le_refl _) _
  have hb24 := hb3.trans (hb4.mono hb3.size)
  have hlt2 := hH.lt
  replace hH := hH.next hb24
  have hbx := BoxT.new W3 x
  have hx4 : HoldsT (n + 1) W2.heap.size (W3.alloc (.cells #[.int .i64 x.k, .int .i64 x.N, .string x.s, .slice x.a x.len x.cap] 24)) x.val (canon f (code t)) := hx.below hb4
  obtain ⟨⟨z0, z1, z2, z3⟩, y0, y1, y2, y3⟩ := zbox_kept hH.bz
  by_cases hbig : f + (L : Nat) - 1 ≤ 1099511627776
  ·have hg : ¬ 1099511627776 < f + (L : Nat) - 1 := by omega
   have hfin := (holds_set4 hx4 hlt2 0 x).mono (lo' := w.heap.size) (Nat.le_refl _) (by omega)
   have hbf := set4_below hH.below (b := w.heap.size + 1) (by omega) 0 x
   have b0 := hbx.c0
   have b1 := hbx.c1
   have b2 := hbx.c2
   have b3 := hbx.c3
   have HF := hide (And.intro hbf hfin)
   clear hfin hbf hx4 hx hbx hH hb3 hb4 hb24
   go_wp2_with fail
   exact bodyPost_ret (v := .tuple #[x.val, .int .i64 (f + (L : Nat)), .int .i64 0]) (by simp [results, Tryz.results24, go_sem, TV.val, z0, z1, z2, z3]) rfl ⟨x, _, 0, rfl, (unhide HF).1, .inl ⟨hf0, hf1, by rw [unhide HLL]; omega, rfl, by rw [unhide HLL], (unhide HF).2⟩⟩
  ·have hg : 1099511627776 < f + (L : Nat) - 1 := by omega
   have hbf := set4_below hH.below (b := w.heap.size + 1) (by omega) 0 ⟨0, 0, ⟨#[]⟩, none, 0, 0⟩
   have HF := hide hbf
   clear hbf hx4 hx hbx hH hb3 hb4 hb24 hbig
   go_wp2_with fail
   exact bodyPost_ret (v := .tuple #[.agg #[.int .i64 0, .int .i64 0, .string ⟨#[]⟩, .slice none 0 0], .int .i64 0, .int .i64 9]) (by simp [results, Tryz.results24, go_sem, z0, z1, z2, z3]) rfl ⟨⟨0, 0, ⟨#[]⟩, none, 0, 0⟩, 0, 9, rfl, unhide HF, .inr (.inl ⟨hf0, hf1, by rw [unhide HLL]; omega, rfl, rfl, rfl⟩)⟩
 ·have hiv := fun (W : World) => isVar_any f W
  have hdd : (decide (0 ≤ f) && decide (f ≤ 1099511627776)) = false := by
   rw [Bool.and_eq_false_iff, decide_eq_false_iff_not, decide_eq_false_iff_not]; omega
  simp only [hdd] at hiv
  simp only [TV.val] at hck ⊢
  clear hT hok hdd hB1
  have HFF := hide hf
  clear hf
  go_enter Tryz.func24, Tryz.ntmps24
  go_wp2_with fail
  refine hck.mono ?_
  clear hck
  rintro e W1 ⟨rfl, hb1⟩
  replace hH := hH.next hb1
  clear hb1
  go_wp2_with fail
  refine (hiv _).mono ?_
  clear hiv
  rintro e W2 ⟨rfl, hb2⟩
  replace hH := hH.next hb2
  clear hb2
  obtain ⟨⟨z0, z1, z2, z3⟩, y0, y1, y2, y3⟩ := zbox_kept hH.bz
  have hbf := set4_below hH.below (b := w.heap.size + 1) (by omega) 0 ⟨0, 0, ⟨#[]⟩, none, 0, 0⟩
  have HF := hide hbf
  clear hbf hH
  go_wp2_with fail
  exact bodyPost_ret (v := .tuple #[.agg #[.int .i64 0, .int .i64 0, .string ⟨#[]⟩, .slice none 0 0], .int .i64 0, .int .i64 1]) (by simp [results, Tryz.results24, go_sem, z0, z1, z2, z3]) rfl ⟨⟨0, 0, ⟨#[]⟩, none, 0, 0⟩, 0, 1, rfl, unhide HF, .inr (.inr ⟨unhide HFF, rfl, rfl, rfl⟩)⟩
theorem rename_bad {n : Nat} (t : Tm n) (f : Int) (w : World) (hT : IsT w.heap.size w t) (hok : okT t = false) :
  Calls Tryz.prog 24 #[t.tv.val, .int .i64 f] w fun e W' => e = .returned (.tuple #[(⟨0, 0, ⟨#[]⟩, none, 0, 0⟩ : TV).val, .int .i64 0, .int .i64 2]) ∧ Below w.heap.size w W' := by
 have hH := Head.new w t.tv
 have hB1 : Below w.heap.size w ((w.alloc (.cells #[.int .i64 t.tv.k, .int .i64 t.tv.N, .string t.tv.s, .slice t.tv.a t.tv.len t.tv.cap] 24)).alloc (.cells #[.int .i64 0, .int .i64 0, .string ⟨#[]⟩, .slice none 0 0] 24)) := ((Below.refl _ w).alloc (Nat.le_refl _) _).alloc (by simp) _
 have hck := check_any t _ ((hT.below hB1).mono hB1.size)
 rw [chk_no hok] at hck
 simp only [TV.val] at hck ⊢
 clear hT hok hB1
 go_enter Tryz.func24, Tryz.ntmps24
 go_wp2_with fail
 refine hck.mono ?_
 clear hck
 rintro e W1 ⟨rfl, hb1⟩
 replace hH := hH.next hb1
 clear hb1
 obtain ⟨⟨z0, z1, z2, z3⟩, y0, y1, y2, y3⟩ := zbox_kept hH.bz
 have hbf := set4_below hH.below (b := w.heap.size + 1) (by omega) 0 ⟨0, 0, ⟨#[]⟩, none, 0, 0⟩
 have HF := hide hbf
 clear hbf hH
 go_wp2_with fail
 exact bodyPost_ret (v := .tuple #[.agg #[.int .i64 0, .int .i64 0, .string ⟨#[]⟩, .slice none 0 0], .int .i64 0, .int .i64 2]) (by simp [results, Tryz.results24, go_sem, z0, z1, z2, z3]) rfl ⟨rfl, unhide HF⟩
end Go.Proofs.YtlbobmebbllifaaGreat
