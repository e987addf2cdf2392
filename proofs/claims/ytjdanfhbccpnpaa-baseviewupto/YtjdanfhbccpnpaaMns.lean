import Derived.Test.YtjdanfhbccpnpaaUs
import Derived.Maps.RangeWalk
import Derived.Maps.OwnSet
import Derived.Maps.Views
/- Keys that are numbers; what a world keeps but for a map's block. -/
namespace Go.Proofs.Ytjdanfhbccpnpaa
open Go.RowKit Go.Shelf Go.Maps

theorem Try.keyed2 : Keyed Try.prog 2 := int_keyed Try.underlying2
theorem key_i64 {N : Int} (h0 : 0 ≤ N) (h1 : N ≤ 1099511627776) : keyOf Try.prog 2 (.int .i64 N) = some (.int .i64 N) :=
  keyOf_int_mk Try.underlying2 (by simp [Lit.wf, IntKind.min, IntKind.max, IntKind.signed, IntKind.bits]; omega)

theorem nodup_le : ∀ (M : Nat) (l : List Nat), l.Nodup → (∀ x ∈ l, x < M) → l.length ≤ M
  | 0, l, _, h => by
    cases l with
    | nil => simp
    | cons a l => have := h a (by simp); omega
  | M + 1, l, hn, h => by
    by_cases hm : M ∈ l
    · have h1 := nodup_le M (l.erase M) (hn.erase _) (fun x hx => by
        have h2 := (List.Nodup.mem_erase_iff hn).1 hx
        have h3 := h x h2.2
        have h4 := h2.1
        omega)
      rw [List.length_erase_of_mem hm] at h1
      omega
    · have h1 := nodup_le M l hn (fun x hx => by
        have h3 := h x hx
        by_cases e : x = M
        · subst e; exact (hm hx).elim
        · omega)
      omega
/-- All but block b is as it was: so what lies below b is. -/
theorem grown_below {A B : World} {b n₀ : Nat} (h : A.grownBy B (some b)) (hb : n₀ ≤ b) (hs : n₀ ≤ A.heap.size) : Below n₀ A B :=
  ⟨h.os, h.tape, h.output, h.size, fun k hk => h.block k (by omega) (by simp; omega)⟩
theorem below_grown {A B : World} (b : Nat) (h : Below A.heap.size A B) : A.grownBy B (some b) := ⟨h.os, h.tape, h.output, h.size, fun k hk _ => h.block k hk⟩
theorem grown_trans {A B C : World} {b : Nat} (h : A.grownBy B (some b)) (k : B.grownBy C (some b)) : A.grownBy C (some b) :=
  ⟨k.os.trans h.os, k.tape.trans h.tape, k.output.trans h.output, Nat.le_trans h.size k.size, fun i hi hne => (k.block i (Nat.lt_of_lt_of_le hi h.size) hne).trans (h.block i hi hne)⟩
theorem gcell {A B : World} {b : Nat} (h : A.grownBy B (some b)) : ∀ k o, k < A.heap.size → k ≠ b → B.cell? ⟨k, o, none⟩ = A.cell? ⟨k, o, none⟩ := fun k o hk hne => World.cell?_of_block (a := ⟨k, o, none⟩) (h.block k hk (by simp; exact hne))
theorem isT_grown {A B : World} {b n₀ : Nat} (h : A.grownBy B (some b)) (hb : n₀ ≤ b) (hs : n₀ ≤ A.heap.size) {n : Nat} {t : Tm n} (hT : IsT n₀ A t) : IsT n₀ B t := hT.below (grown_below h hb hs)
end Go.Proofs.Ytjdanfhbccpnpaa

/- Substituting twice. -/
namespace Go.Proofs.Ytjdanfhbccpnpaa
open Go.RowKit Go.Shelf

theorem sub_varNd (σ : Int → List Nd) (N : Int) : [varNd N].flatMap (subN σ) = σ N := by simp [subN, varNd]
theorem sub_sub (σ τ : Int → List Nd) (c : List Nd) : (c.flatMap (subN σ)).flatMap (subN τ) = c.flatMap (subN fun N => (σ N).flatMap (subN τ)) := by
  rw [List.flatMap_assoc]
  refine flatMap_same c fun x _ => ?_
  unfold subN
  by_cases h : x.1 = 1
  · rw [if_pos h, if_pos h]
  · rw [if_neg h, if_neg h]
    simp [h]
end Go.Proofs.Ytjdanfhbccpnpaa

