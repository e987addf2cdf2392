import Derived.Test.YtmgcojhmopcamaaE
import Derived.Deep.RegionHeld3
/- The contract of term.order: it answers ordT of two terms; nothing that lay is changed. -/
namespace Go.Proofs.Ytmgcojhmopcamaa
open Go.RowKit Go.Shelf

theorem lexL_stop {α : Type} {f : α → α → Int} : ∀ (a b : List α) (j : Nat) (u v : α), a[j]? = some u → b[j]? = some v → lexL f (a.take j) (b.take j) = 0 → f u v ≠ 0 → lexL f a b = f u v := by
  intro a
  induction a with
  | nil => intro b j u v h; simp at h
  | cons x a ih =>
    intro b j u v hu hv h hne
    cases b with
    | nil => simp at hv
    | cons y b =>
      cases j with
      | zero =>
        simp at hu hv; subst hu; subst hv
        simp only [lexL, thenC]; rw [if_pos hne]
      | succ j =>
        simp only [List.take_succ_cons, lexL, thenC_zero] at h
        simp only [List.getElem?_cons_succ] at hu hv
        simp only [lexL, thenC]
        rw [if_neg (by omega)]
        exact ih b j u v hu hv h.2 hne
theorem lexL_next {α : Type} {f : α → α → Int} : ∀ (a b : List α) (j : Nat) (u v : α), a[j]? = some u → b[j]? = some v → lexL f (a.take j) (b.take j) = 0 → f u v = 0 → lexL f (a.take (j + 1)) (b.take (j + 1)) = 0 := by
  intro a
  induction a with
  | nil => intro b j u v h; simp at h
  | cons x a ih =>
    intro b j u v hu hv h hne
    cases b with
    | nil => simp at hv
    | cons y b =>
      cases j with
      | zero =>
        simp at hu hv; subst hu; subst hv
        simp [lexL, thenC_zero, hne]
      | succ j =>
        simp only [List.take_succ_cons, lexL, thenC_zero] at h ⊢
        simp only [List.getElem?_cons_succ] at hu hv
        exact ⟨h.1, by simpa using ih b j u v hu hv h.2 hne⟩

/-- The j-th of the Args, in a later world. -/
theorem kid_at {n : Nat} {w wr : World} {a : Option Addr} {len : Nat} {kids : List (Tm n)} (hkids : kids = [] ∨ ∃ b off, a = some ⟨b, off, none⟩ ∧ b < w.heap.size ∧ ∀ j u, kids[j]? = some u → cellsAt w b (off + j * 4) u.tv ∧ IsT w.heap.size w u)
    (hbw : Below w.heap.size w wr) {j : Nat} (hj : j < len) (hl : len ≤ kids.length) :
    ∃ u b off, kids[j]? = some u ∧ a = some ⟨b, off, none⟩ ∧ cellsAt wr b (off + j * 4) u.tv ∧ IsT wr.heap.size wr u ∧ b < w.heap.size := by
  obtain ⟨u, hu⟩ : ∃ u, kids[j]? = some u := ⟨kids[j]'(by omega), List.getElem?_eq_getElem (by omega)⟩
  have hne : kids ≠ [] := by rintro rfl; simp at hu
  obtain ⟨b, off, ha, hbk, hk⟩ := hkids.resolve_left hne
  obtain ⟨⟨c0, c1, c2, c3⟩, hT⟩ := hk j u hu
  exact ⟨u, b, off, hu, ha, ⟨(hbw.cell (p := ⟨b, off + j * 4, none⟩) hbk).trans c0, (hbw.cell (p := ⟨b, off + j * 4 + 1, none⟩) hbk).trans c1, (hbw.cell (p := ⟨b, off + j * 4 + 2, none⟩) hbk).trans c2, (hbw.cell (p := ⟨b, off + j * 4 + 3, none⟩) hbk).trans c3⟩, (hT.below hbw).mono hbw.size, hbk⟩

theorem bcell {W w1 : World} (hb : Below W.heap.size W w1) : ∀ b o, b < W.heap.size → w1.cell? ⟨b, o, none⟩ = W.cell? ⟨b, o, none⟩ := fun b o h => hb.cell (p := ⟨b, o, none⟩) h
theorem two_boxes {w W1 : World} {c0 c1 c2 c3 d0 d1 d2 d3 : Value} (hb : Below ((w.alloc (.cells #[c0, c1, c2, c3] 24)).alloc (.cells #[d0, d1, d2, d3] 24)).heap.size ((w.alloc (.cells #[c0, c1, c2, c3] 24)).alloc (.cells #[d0, d1, d2, d3] 24)) W1) :
    (Below w.heap.size w W1 ∧ w.heap.size + 2 ≤ W1.heap.size) ∧ W1.cell? ⟨w.heap.size, 3, none⟩ = some c3 ∧ W1.cell? ⟨w.heap.size + 1, 3, none⟩ = some d3 := by
  have hs := hb.size
  have hs2 : ((w.alloc (.cells #[c0, c1, c2, c3] 24)).alloc (.cells #[d0, d1, d2, d3] 24)).heap.size = w.heap.size + 2 := by simp
  rw [hs2] at hb hs
  exact ⟨⟨(((Below.refl _ w).alloc (Nat.le_refl _) _).alloc (by simp) _).trans (hb.mono (by omega)), hs⟩, (hb.cell (p := ⟨w.heap.size, 3, none⟩) (by simp)).trans (by simp), (hb.cell (p := ⟨w.heap.size + 1, 3, none⟩) (by simp)).trans (by simp)⟩

end Go.Proofs.Ytmgcojhmopcamaa

