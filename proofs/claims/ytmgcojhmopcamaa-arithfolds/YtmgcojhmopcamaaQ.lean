import Derived.Test.YtmgcojhmopcamaaP
/- The contracts of term.becoming and its closure: what a variable becomes by a list of binds. -/
namespace Go.Proofs.Ytmgcojhmopcamaa
open Go.RowKit Go.Shelf

/-- The binds by their codes. -/
def cb {n : Nat} (bs : List (Int × Tm n)) : List (Int × List Nd) := bs.map fun p => (p.1, code p.2)
/-- What a variable becomes. -/
def lookC (c : List (Int × List Nd)) (N : Int) : List Nd := match c.find? (fun p => p.1 == N) with | some p => p.2 | none => [varNd N]

theorem Rises.unique {n : Nat} {bs : List (Int × Tm n)} (h : Rises bs) {i j : Nat} {p q : Int × Tm n} (hi : bs[i]? = some p) (hj : bs[j]? = some q) (e : p.1 = q.1) : i = j := by
  by_cases h1 : i < j
  · have := h i j p q hi hj h1; omega
  · by_cases h2 : j < i
    · have := h j i q p hj hi h2; omega
    · omega
theorem lookC_some {n : Nat} {bs : List (Int × Tm n)} (h : Rises bs) {i : Nat} {p : Int × Tm n} (hi : bs[i]? = some p) : lookC (cb bs) p.1 = code p.2 := by
  unfold lookC cb
  rw [List.find?_map]
  cases hf : bs.find? ((fun q : Int × List Nd => q.1 == p.1) ∘ fun p => (p.1, code p.2)) with
  | none =>
    have := List.find?_eq_none.1 hf p (List.mem_of_getElem? hi)
    simp at this
  | some q =>
    have hq := List.find?_some hf
    simp at hq
    obtain ⟨j, hj⟩ := List.mem_iff_getElem?.1 (List.mem_of_find?_eq_some hf)
    have e := h.unique hj hi hq
    subst e
    rw [hi] at hj
    cases hj
    rfl
theorem lookC_none {n : Nat} {bs : List (Int × Tm n)} {N : Int} (h : ∀ p ∈ bs, p.1 ≠ N) : lookC (cb bs) N = [varNd N] := by
  unfold lookC cb
  rw [List.find?_map]
  have : bs.find? ((fun q : Int × List Nd => q.1 == N) ∘ fun p => (p.1, code p.2)) = none := List.find?_eq_none.2 fun p hp => by simpa using h p hp
  rw [this]; rfl

/-- One new block ahead of a callee that keeps what lay. -/
theorem below_one {W W1 : World} {o : Obj} (h : Below (W.alloc o).heap.size (W.alloc o) W1) : Below W.heap.size W W1 :=
  ((Below.refl _ W).alloc (Nat.le_refl _) _).trans (h.mono (by simp))

end Go.Proofs.Ytmgcojhmopcamaa

