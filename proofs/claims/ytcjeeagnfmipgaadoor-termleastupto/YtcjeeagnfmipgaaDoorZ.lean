import Derived.Test.YtcjeeagnfmipgaaDoorVs
import Derived.Deep.RegionHeld3
/- The contract of hornref.SameBinds. -/
namespace Go.Proofs.YtcjeeagnfmipgaaDoor
open Go.RowKit Go.Shelf

def sameP {n : Nat} (p q : Int × Tm n) : Bool := decide (p.1 = q.1) && sameT p.2 q.2
def sameBs {n : Nat} (a b : List (Int × Tm n)) : Bool := all2 sameP a b
theorem all2_len {α : Type} {f : α → α → Bool} : ∀ (a b : List α), all2 f a b = true → a.length = b.length
  | [], [], _ => rfl
  | [], _ :: _, h => by simp [all2] at h
  | _ :: _, [], h => by simp [all2] at h
  | x :: a, y :: b, h => by simp only [all2, Bool.and_eq_true] at h; simp [all2_len a b h.2]
theorem sameBs_len {n : Nat} {a b : List (Int × Tm n)} (h : a.length ≠ b.length) : sameBs a b = false := by
  cases hh : sameBs a b
  · rfl
  · exact (h (all2_len a b hh)).elim
/-- Two lists of binds are the same just if their codes are. -/
theorem sameBs_code {n : Nat} : ∀ (a b : List (Int × Tm n)), (∀ p ∈ a, Wl p.2) → (∀ p ∈ b, Wl p.2) → (sameBs a b = true ↔ cb a = cb b)
  | [], [], _, _ => by simp [sameBs, all2, cb]
  | [], _ :: _, _, _ => by simp [sameBs, all2, cb]
  | _ :: _, [], _, _ => by simp [sameBs, all2, cb]
  | x :: a, y :: b, ha, hb => by
    have ih := sameBs_code a b (fun p hp => ha p (by simp [hp])) (fun p hp => hb p (by simp [hp]))
    unfold sameBs cb at ih ⊢
    simp only [all2, sameP, List.map_cons, List.cons.injEq, Bool.and_eq_true, decide_eq_true_eq, ih, Prod.mk.injEq, sameT_code (ha x (by simp)) (hb y (by simp))]

end Go.Proofs.YtcjeeagnfmipgaaDoor

