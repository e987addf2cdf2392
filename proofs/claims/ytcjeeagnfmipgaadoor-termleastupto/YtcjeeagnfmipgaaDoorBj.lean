import Derived.Test.YtcjeeagnfmipgaaDoorO
import Derived.Test.YtcjeeagnfmipgaaDoorAk
/- What is read of a term's numbers: they are of 64 bits. A term that is formed has parts of a kind that can be written. -/
namespace Go.Proofs.YtcjeeagnfmipgaaDoor
open Go.RowKit Go.Joins Go.WideShapes

theorem okNd_le {k N : Int} {s : List UInt8} {len : Nat} (h : okNd (k, N, s, len) = true) : (1 ≤ k ∧ k ≤ 4) ∧ s.length ≤ 100 ∧ len ≤ 50 := by
  simp only [okNd] at h
  by_cases h1 : k = 1
  · rw [if_pos h1] at h
    simp at h
    obtain ⟨⟨_, h2⟩, h3⟩ := h
    subst h2
    simp
    omega
  · rw [if_neg h1] at h
    by_cases h2 : k = 2
    · rw [if_pos h2] at h
      simp at h
      obtain ⟨h2, h3⟩ := h
      subst h2
      simp
      omega
    · rw [if_neg h2] at h
      by_cases h3 : k = 3
      · rw [if_pos h3] at h
        simp at h
        omega
      · rw [if_neg h3] at h
        by_cases h4 : k = 4
        · rw [if_pos h4] at h
          simp at h
          omega
        · rw [if_neg h4] at h
          cases h
theorem pw_of {n : Nat} {t : Tm n} (ok : okT t = true) (h : ∀ x ∈ parts t, Nw x) : ∀ x ∈ parts t, Pw x := fun x hx => by
  rw [okT_code] at ok
  have h1 : x.nd ∈ code t := List.mem_map.2 ⟨x, hx, rfl⟩
  have h2 := List.all_eq_true.1 ok _ h1
  obtain ⟨h4, h5, h6⟩ := okNd_le (show okNd (x.k, x.N, x.s.toList, x.len) = true from h2)
  rw [bytes_len] at h5
  exact ⟨⟨by omega, by omega⟩, h x hx, h5, h6⟩
end Go.Proofs.YtcjeeagnfmipgaaDoor

