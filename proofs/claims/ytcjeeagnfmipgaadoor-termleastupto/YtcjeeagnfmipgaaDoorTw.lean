import Derived.Test.YtcjeeagnfmipgaaDoorMc
/- The law hornkeep.TermActs: it answers true, whatever the term and the three lists (within bounds of their lengths). -/
namespace Go.Proofs.YtcjeeagnfmipgaaDoor
open Go.RowKit Go.Shelf Go.Maps

theorem lv_word {D : Nat} {W : World} {v : Value} {k : Nat} {c : List (Int × List Nd)} (h : LV D W v k c) : ∀ q ∈ c, Word q.2 := by
  obtain ⟨a, len, cap, l, rfl, hsrc, _⟩ := h
  obtain ⟨bs, hL, rfl, _⟩ := hsrc.2 D (Nat.le_refl _) hsrc.1
  intro q hq
  obtain ⟨p, hp, rfl⟩ := List.mem_map.1 hq
  exact word_code p.2 (isL_mem hL p hp).wl
theorem okC_vok {c : List Nd} (h : okC c) : ∀ x ∈ c, vOk x := fun x hx hk => by
  have h1 := (okNd_var (List.all_eq_true.1 h x hx) hk).2
  rw [h1]; rfl
theorem vok_look {c : List (Int × List Nd)} (h : ∀ q ∈ c, okC q.2) (N : Int) : ∀ x ∈ lookC c N, vOk x := by
  unfold lookC
  split
  · rename_i p hp; exact okC_vok (h p (List.mem_of_find?_eq_some hp))
  · intro x hx; simp at hx; subst hx; exact fun _ => rfl
theorem set4_box {W : World} {b : Nat} {x y : TV} (h : BoxT W b y) : cellsAt (set4 W b 0 x) b 0 x := set4_cells W b 0 x (by rw [h.c0]; rfl) (by rw [show 0 + 1 = 1 from rfl, h.c1]; rfl) (by rw [show 0 + 2 = 2 from rfl, h.c2]; rfl) (by rw [show 0 + 3 = 3 from rfl, h.c3]; rfl)
theorem BoxT.kept {W W' : World} {b : Nat} {x : TV} (h : BoxT W b x) (hb : Below W.heap.size W W') : BoxT W' b x := (hb.block _ h.lt).trans h

end Go.Proofs.YtcjeeagnfmipgaaDoor

