import Derived.Test.YtmgcojhmopcamaaRs
import Derived.Deep.RegionWith
/- The contract of term.Apply. -/
namespace Go.Proofs.Ytmgcojhmopcamaa
open Go.RowKit Go.Shelf

theorem says_one_ok {n : Nat} {L : BL n} {e : Ending} (h : BindSays [L] e) (h1 : okB L) (h2 : Subst L.bs) : e = .returned (.int .i64 0) := by
  obtain ⟨r, rfl, _, _, h0⟩ := h
  rw [h0 (by simpa using h1) (by simpa using h2)]
theorem says_one_no {n : Nat} {L : BL n} {e : Ending} (h : BindSays [L] e) (h1 : ¬ (okB L ∧ Subst L.bs)) : ∃ r : Int, e = .returned (.int .i64 r) ∧ (r = 1 ∨ r = 2) ∧ (okB L → r = 1) ∧ (¬ okB L → r = 2) := by
  obtain ⟨r, rfl, k2, k1, _⟩ := h
  by_cases hok : okB L
  · have hs : ¬ Subst L.bs := fun h => h1 ⟨hok, h⟩
    have hr := k1 (by simpa using hok) (by simpa using hs)
    exact ⟨r, rfl, .inl hr, fun _ => hr, fun h => (h hok).elim⟩
  · have hr := k2 (by simpa using hok)
    exact ⟨r, rfl, .inr hr, fun h => (hok h).elim, fun _ => hr⟩

/-- The term's box and the cell of the result, at the head of a call's own memory. -/
structure Head (w W : World) (x : TV) : Prop where
  below : Below w.heap.size w W
  ba : BoxT W w.heap.size x
  bz : W.heap[w.heap.size + 1]? = some (.cells #[.int .i64 0, .int .i64 0, .string ⟨#[]⟩, .slice none 0 0] 24 (0, 0))
theorem Head.lt {w W : World} {x : TV} (h : Head w W x) : w.heap.size + 1 < W.heap.size := (Array.getElem?_eq_some_iff.1 h.bz).1
theorem Head.next {w W W' : World} {x : TV} (h : Head w W x) (hb : Below W.heap.size W W') : Head w W' x :=
  ⟨h.below.trans (hb.mono h.below.size), (hb.block _ h.ba.lt).trans h.ba, (hb.block _ h.lt).trans h.bz⟩
theorem Head.new (w : World) (x : TV) : Head w ((w.alloc (.cells #[.int .i64 x.k, .int .i64 x.N, .string x.s, .slice x.a x.len x.cap] 24)).alloc (.cells #[.int .i64 0, .int .i64 0, .string ⟨#[]⟩, .slice none 0 0] 24)) x := by
  have h := World.alloc_heap_new (w.alloc (.cells #[.int .i64 x.k, .int .i64 x.N, .string x.s, .slice x.a x.len x.cap] 24)) (.cells #[.int .i64 0, .int .i64 0, .string ⟨#[]⟩, .slice none 0 0] 24)
  rw [World.size_alloc] at h
  exact ⟨((Below.refl _ w).alloc (Nat.le_refl _) _).alloc (by simp) _, (BoxT.new w x).alloc _, h⟩

end Go.Proofs.Ytmgcojhmopcamaa

