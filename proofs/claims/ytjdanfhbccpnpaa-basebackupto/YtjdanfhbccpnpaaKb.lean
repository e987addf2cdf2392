import Derived.Test.YtjdanfhbccpnpaaUs
/- Substituting twice. -/
namespace Go.Proofs.Ytjdanfhbccpnpaa
open Go.RowKit Go.Shelf

theorem sub_varNd (σ : Int → List Nd) (N : Int) : [varNd N].flatMap (subN σ) = σ N := by simp [subN, varNd]
theorem sub_sub (σ τ : Int → List Nd) (c : List Nd) : (c.flatMap (subN σ)).flatMap (subN τ) = c.flatMap (subN fun N => (σ N).flatMap (subN τ)) := by
  rw [List.flatMap_assoc]
  refine flatMap_same c fun x _ => ?_
  unfold subN
  by_cases h : x.1 = 1
  · rw [if_pos h, if_pos h]
  · rw [if_neg h, if_neg h]
    simp [h]
end Go.Proofs.Ytjdanfhbccpnpaa

