import Derived.Test.YtdjlekcapfeniaaNu
import Derived.BigRegion
/- The contract of term.number. -/
namespace Go.Proofs.Ytdjlekcapfeniaa
open Go.RowKit Go.Shelf Go.Maps

/-- What lies behind number's first steps. -/
theorem number_world (w : World) (x : TV) (f : Int) : ∃ W5, ((((w.alloc (.cells #[.int .i64 x.k, .int .i64 x.N, .string x.s, .slice x.a x.len x.cap] 24)).alloc (.cells #[.int .i64 0, .int .i64 0, .string ⟨#[]⟩, .slice none 0 0] 24)).alloc (.cells #[.int .i64 f] 2)).alloc (.map #[] 0)).alloc (.cells #[.map (some (w.heap.size + 3))] 100) = W5 ∧
    Below w.heap.size w W5 ∧ W5.heap.size = w.heap.size + 5 ∧ BoxT W5 w.heap.size x ∧ W5.heap[w.heap.size + 1]? = some (.cells #[.int .i64 0, .int .i64 0, .string ⟨#[]⟩, .slice none 0 0] 24 (0, 0)) ∧ NumI f (w.heap.size + 3) (w.heap.size + 4) (w.heap.size + 2) [] W5 := by
  refine ⟨_, rfl, ((((Below.refl _ w).alloc (Nat.le_refl _) _).alloc (by simp) _).alloc (by simp; omega) _ |>.alloc (by simp; omega) _).alloc (by simp; omega) _, by simp, (((BoxT.new w x).alloc _).alloc _ |>.alloc _).alloc _, ?_, ?_⟩
  · have h := World.alloc_heap_new (w.alloc (.cells #[.int .i64 x.k, .int .i64 x.N, .string x.s, .slice x.a x.len x.cap] 24)) (.cells #[.int .i64 0, .int .i64 0, .string ⟨#[]⟩, .slice none 0 0] 24)
    rw [World.size_alloc] at h
    exact (Below.heap_alloc _ _ _ (by simp <;> omega)).trans ((Below.heap_alloc _ _ _ (by simp <;> omega)).trans ((Below.heap_alloc _ _ _ (by simp)).trans h))
  · refine ⟨List.nodup_nil, (fun N hN => by cases hN), ?_, ?_, .map [], ?_, (fun N => by simp [Maps.has]), (fun N hN => by cases hN)⟩
    · have h := World.alloc_heap_new ((((w.alloc (.cells #[.int .i64 x.k, .int .i64 x.N, .string x.s, .slice x.a x.len x.cap] 24)).alloc (.cells #[.int .i64 0, .int .i64 0, .string ⟨#[]⟩, .slice none 0 0] 24)).alloc (.cells #[.int .i64 f] 2)).alloc (.map #[] 0)) (.cells #[.map (some (w.heap.size + 3))] 100)
      simp only [World.size_alloc] at h
      exact h
    · have h := World.alloc_heap_new ((w.alloc (.cells #[.int .i64 x.k, .int .i64 x.N, .string x.s, .slice x.a x.len x.cap] 24)).alloc (.cells #[.int .i64 0, .int .i64 0, .string ⟨#[]⟩, .slice none 0 0] 24)) (.cells #[.int .i64 f] 2)
      simp only [World.size_alloc] at h
      have h2 := (Below.heap_alloc _ (.cells #[.map (some (w.heap.size + 3))] 100) _ (by simp <;> omega)).trans ((Below.heap_alloc _ (.map #[] 0) _ (by simp)).trans h)
      simpa using h2
    · have h := World.ownsMap_made (H := Unit) (((w.alloc (.cells #[.int .i64 x.k, .int .i64 x.N, .string x.s, .slice x.a x.len x.cap] 24)).alloc (.cells #[.int .i64 0, .int .i64 0, .string ⟨#[]⟩, .slice none 0 0] 24)).alloc (.cells #[.int .i64 f] 2)) Try.prog 2 (plainElem Try.prog 2)
      simp only [World.size_alloc] at h
      exact h.alloc _

set_option maxRecDepth 100000 in
set_option maxHeartbeats 1000000 in
theorem number_any {n : Nat} (t : Tm n) (f : Int) (w : World) (hT : IsT w.heap.size w t) (hok : okT t = true) (hf0 : 0 ≤ f) (hf1 : f ≤ 1099511627776) :
    Calls Try.prog 35 #[t.tv.val, .int .i64 f] w fun e W' => ∃ x : TV, e = .returned (.tuple #[x.val, .int .i64 (f + ((stepsN stpN [] (code t)).length : Nat))]) ∧ Below w.heap.size w W' ∧ HoldsT (n + 1) w.heap.size W' x.val ((code t).flatMap (subN (renN f (stepsN stpN [] (code t))))) := by
  obtain ⟨W5, hW5, hB5, hs5, hbt, hz5, hI5⟩ := number_world w t.tv f
  have hrep := replace_anyX (stately_num (f := f) (mb := w.heap.size + 3) (bb := w.heap.size + 4) (nb := w.heap.size + 2) (n₀ := w.heap.size) (lo := w.heap.size + 5) (by omega) ⟨by omega, by omega⟩ (by omega) ⟨by omega, by omega⟩) 46 #[.pointer (some ⟨w.heap.size + 4, 0, none⟩), .pointer (some ⟨w.heap.size + 2, 0, none⟩)] 1 (by omega) (enters_of Try.func46 (by kernel_rfl) rfl)
    (number1_becomes hf0 hf1 ⟨by omega, by omega, by omega⟩ ⟨by omega, by omega, by omega⟩) n t W5 [] (by omega) hI5 (hT.below hB5) hok
  have hmm := @run_makeMap Try.prog
  have c0 := hbt.c0
  have c1 := hbt.c1
  have c2 := hbt.c2
  have c3 := hbt.c3
  generalize stepsN stpN [] (code t) = cv at hrep ⊢
  have HB5 := hide hB5
  have HS5 := hide hs5
  have HZ5 := hide hz5
  clear hT hok hI5 hB5 hz5 hbt hs5
  simp only [TV.val] at hrep ⊢
  go_enter Try.func35, Try.ntmps35
  go_wp2_with fail
  refine hrep.mono ?_
  clear hrep c0 c1 c2 c3 hmm hW5
  rintro e W6 ⟨v, rfl, hg6, hI6, hv⟩
  obtain ⟨t6, ht6, -⟩ := hv _ (Nat.le_refl _)
  subst ht6
  have hs6 : w.heap.size + 5 ≤ W6.heap.size := by have := hg6.size; have := unhide HS5; omega
  have hB6 : Below w.heap.size w W6 := (unhide HB5).trans (hg6.below (fun k hx => by rcases hx with rfl | rfl <;> omega) (by have := unhide HS5; omega))
  have hz6 : W6.heap[w.heap.size + 1]? = some (.cells #[.int .i64 0, .int .i64 0, .string ⟨#[]⟩, .slice none 0 0] 24 (0, 0)) := (hg6.block _ (by have := unhide HS5; omega) (fun hx => by rcases hx with hx | hx <;> omega)).trans (unhide HZ5)
  have hb7 : Below W6.heap.size W6 (W6.alloc (.cells #[.int .i64 t6.tv.k, .int .i64 t6.tv.N, .string t6.tv.s, .slice t6.tv.a t6.tv.len t6.tv.cap] 24)) := (Below.refl _ W6).alloc (Nat.le_refl _) _
  have hbx := BoxT.new W6 t6.tv
  have hz7 := (hb7.block (w.heap.size + 1) (by omega)).trans hz6
  have hn7 := (hb7.block (w.heap.size + 2) (by omega)).trans hI6.next
  have hv7 : HoldsT (n + 1) W5.heap.size (W6.alloc (.cells #[.int .i64 t6.tv.k, .int .i64 t6.tv.N, .string t6.tv.s, .slice t6.tv.a t6.tv.len t6.tv.cap] 24)) t6.tv.val ((code t).flatMap (subN (renN f cv))) := hv.below hb7
  have hlt5 : w.heap.size + 1 < W5.heap.size := by have := unhide HS5; omega
  have hfin := (holds_set4 hv7 hlt5 0 t6.tv).mono (lo' := w.heap.size) (Nat.le_refl _) (by omega)
  have hbf := set4_below (hB6.trans (hb7.mono hB6.size)) (b := w.heap.size + 1) (by omega) 0 t6.tv
  have hx : (W6.alloc (.cells #[.int .i64 t6.tv.k, .int .i64 t6.tv.N, .string t6.tv.s, .slice t6.tv.a t6.tv.len t6.tv.cap] 24)).cell? ⟨w.heap.size + 1 + 1, 0, none⟩ = some (.int .i64 (f + (cv.length : Nat))) := (one_cell hn7).1
  obtain ⟨⟨z0, z1, z2, z3⟩, f0, f1, f2, f3⟩ := zbox_kept hz7
  have b0 := hbx.c0
  have b1 := hbx.c1
  have b2 := hbx.c2
  have b3 := hbx.c3
  have HF := hide (And.intro hbf hfin)
  clear hg6 hI6 hv hB6 hz6 hbx hz7 hn7 hv7 hfin hbf hb7
  simp only [TV.val]
  go_wp2_with fail
  go_region
  all_goals
    go_wp2_with fail
    exact bodyPost_ret (v := .tuple #[t6.tv.val, .int .i64 (f + (cv.length : Nat))]) (by simp [results, Try.results35, go_sem, TV.val, z0, z1, z2, z3]) rfl ⟨_, rfl, (unhide HF).1.drew, (unhide HF).2.below (Below.refl _ _).drew⟩
end Go.Proofs.Ytdjlekcapfeniaa

