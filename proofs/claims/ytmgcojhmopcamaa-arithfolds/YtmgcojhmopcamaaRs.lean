import Derived.Test.YtmgcojhmopcamaaQ
import Derived.Test.YtmgcojhmopcamaaH
import Derived.Deep.QuietTactic
import Derived.BigQuiet
/- The contracts of term.isRising and term.checkBinds. -/
namespace Go.Proofs.Ytmgcojhmopcamaa
open Go.RowKit Go.Shelf

/-- A substitution: numbers of variables, rising. -/
def Subst {n : Nat} (bs : List (Int × Tm n)) : Prop := (∀ p ∈ bs, 0 ≤ p.1 ∧ p.1 ≤ 1099511627776) ∧ Rises bs

/-- What isRising answers. -/
def RiseSays {n : Nat} (bs : List (Int × Tm n)) (e : Ending) : Prop := ∃ f : Bool, e = .returned (.bool f) ∧ (f = true ↔ Subst bs)
theorem rise_no {n : Nat} {bs : List (Int × Tm n)} (h : ¬ Subst bs) : RiseSays bs (.returned (.bool false)) := ⟨false, rfl, (fun h => by cases h), fun k => (h k).elim⟩
theorem rise_yes {n : Nat} {bs : List (Int × Tm n)} (h : Subst bs) : RiseSays bs (.returned (.bool true)) := ⟨true, rfl, fun _ => h, fun _ => rfl⟩
theorem subst_take_succ {n : Nat} {bs : List (Int × Tm n)} {j : Nat} {p : Int × Tm n} (hp : bs[j]? = some p) (h : Subst (bs.take j)) (h0 : 0 ≤ p.1) (h1 : p.1 ≤ 1099511627776) (hl : ∀ q, 0 < j → bs[j - 1]? = some q → q.1 < p.1) : Subst (bs.take (j + 1)) := by
  obtain ⟨hj, rfl⟩ := List.getElem?_eq_some_iff.1 hp
  have ht : bs.take (j + 1) = bs.take j ++ [bs[j]] := List.take_succ_eq_append_getElem hj
  have hlen : (bs.take j).length = j := by simp; omega
  refine ⟨fun q hq => ?_, fun i k q z hi hk hik => ?_⟩
  · rw [ht, List.mem_append] at hq
    rcases hq with hq | hq
    · exact h.1 q hq
    · simp at hq; subst hq; exact ⟨h0, h1⟩
  · rw [ht] at hi hk
    by_cases hkj : k < j
    · rw [List.getElem?_append_left (by omega)] at hi hk
      exact h.2 i k q z hi hk hik
    · rw [List.getElem?_append_right (by omega), hlen] at hk
      have hk0 : k - j = 0 := by
        by_cases e : k - j = 0
        · exact e
        · rw [List.getElem?_eq_none (by simp; omega)] at hk; cases hk
      rw [hk0] at hk
      simp at hk
      subst hk
      have hij : i < j := by omega
      rw [List.getElem?_append_left (by omega)] at hi
      rw [List.getElem?_take] at hi
      simp only [hij, if_true] at hi
      have hj1 : bs[j - 1]? = some (bs[j - 1]'(by omega)) := List.getElem?_eq_getElem (by omega)
      have hlast := hl _ (by omega) hj1
      by_cases e : i = j - 1
      · subst e; rw [hj1] at hi; cases hi; exact hlast
      · have hh := h.2 i (j - 1) q (bs[j - 1]'(by omega)) (by rw [List.getElem?_take]; simp only [hij, if_true]; exact hi) (by rw [List.getElem?_take]; simp only [show j - 1 < j by omega, if_true]; exact hj1) (by omega)
        omega

end Go.Proofs.Ytmgcojhmopcamaa

/- The contract of term.checkBinds. -/
namespace Go.Proofs.Ytmgcojhmopcamaa
open Go.RowKit Go.Shelf

/-- A list of binds and where it lies. -/
structure BL (n : Nat) where
  a : Option Addr
  len : Nat
  cap : Nat
  bs : List (Int × Tm n)
def okB {n : Nat} (L : BL n) : Prop := ∀ p ∈ L.bs, okT p.2 = true
/-- What checkBinds answers. -/
def BindSays {n : Nat} (Ls : List (BL n)) (e : Ending) : Prop := ∃ r : Int, e = .returned (.int .i64 r) ∧ ((¬ ∀ L ∈ Ls, okB L) → r = 2) ∧ ((∀ L ∈ Ls, okB L) → (¬ ∀ L ∈ Ls, Subst L.bs) → r = 1) ∧ ((∀ L ∈ Ls, okB L) → (∀ L ∈ Ls, Subst L.bs) → r = 0)
theorem says_two {n : Nat} {Ls : List (BL n)} (h : ¬ ∀ L ∈ Ls, okB L) : BindSays Ls (.returned (.int .i64 2)) := ⟨2, rfl, fun _ => rfl, fun k => (h k).elim, fun k => (h k).elim⟩
theorem says_one {n : Nat} {Ls : List (BL n)} (h : ∀ L ∈ Ls, okB L) (h' : ¬ ∀ L ∈ Ls, Subst L.bs) : BindSays Ls (.returned (.int .i64 1)) := ⟨1, rfl, fun k => (k h).elim, fun _ _ => rfl, fun _ k => (h' k).elim⟩
theorem says_zero {n : Nat} {Ls : List (BL n)} (h : ∀ L ∈ Ls, okB L) (h' : ∀ L ∈ Ls, Subst L.bs) : BindSays Ls (.returned (.int .i64 0)) := ⟨0, rfl, fun k => (k h).elim, fun _ k => (k h').elim, fun _ _ => rfl⟩
/-- The first j have it. -/
def Fst {α : Type} (p : α → Prop) (l : List α) (j : Nat) : Prop := ∀ i x, l[i]? = some x → i < j → p x
theorem Fst.next {α : Type} {p : α → Prop} {l : List α} {j : Nat} {x : α} (h : Fst p l j) (hx : l[j]? = some x) (hp : p x) : Fst p l (j + 1) := fun i y hy hi => by
  by_cases e : i = j
  · subst e; rw [hx] at hy; cases hy; exact hp
  · exact h i y hy (by omega)
theorem Fst.all {α : Type} {p : α → Prop} {l : List α} {j : Nat} (h : Fst p l j) (hj : l.length ≤ j) : ∀ x ∈ l, p x := fun x hx => by
  obtain ⟨i, hi⟩ := List.mem_iff_getElem?.1 hx
  exact h i x hi (by have := (List.getElem?_eq_some_iff.1 hi).1; omega)

end Go.Proofs.Ytmgcojhmopcamaa

