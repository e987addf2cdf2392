import Derived.Test.YtjdanfhbccpnpaaLr
import Derived.Test.YtjdanfhbccpnpaaUs
/- Terms in new memory, where only the blocks of a state change. -/
namespace Go.Proofs.Ytjdanfhbccpnpaa
open Go.RowKit Go.Shelf

theorem IsT.grb {X : Nat → Prop} {lo : Nat} {A W : World} (h : GrB X A.heap.size A W) (hX : ∀ k, X k → k < lo) {n : Nat} {t : Tm n} (hT : IsT A.heap.size A t) (hN : NewT lo t) : IsT W.heap.size W t :=
  (hT.fromS (S := fun b => lo ≤ b ∧ b < A.heap.size) (fun b hb => h.block b hb.2 (fun hx => by have := hX b hx; have := hb.1; omega)) (hN.blk.and hT.blk)).mono h.size
theorem IsW.grb {X : Nat → Prop} {lo : Nat} {A W : World} {n : Nat} {t : Tm n} (hT : IsW A.heap.size A t) (h : GrB X A.heap.size A W) (hX : ∀ k, X k → k < lo) (hN : NewT lo t) : IsW W.heap.size W t := fun hl => (hT hl).grb h hX hN
theorem HoldsT.grb {X : Nat → Prop} {D lo : Nat} {A W : World} {v : Value} {c : List Nd} (h : HoldsT D lo A v c) (hg : GrB X A.heap.size A W) (hX : ∀ k, X k → k < lo) : HoldsT D lo W v c := fun m hm => by
  obtain ⟨t, h1, h2, h3, h4⟩ := h m hm
  exact ⟨t, h1, h2.grb hg hX h3.new, h3.kept (fun b hb hlt => hg.block b hlt (fun hx => by have := hX b hx; omega)), h4⟩
end Go.Proofs.Ytjdanfhbccpnpaa

