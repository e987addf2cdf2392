import Derived.Test.YtcjeeagnfmipgaaDoorF
/- The contract of hornref.Same: it answers sameT of two terms; nothing that lay is changed. -/
namespace Go.Proofs.YtcjeeagnfmipgaaDoor
open Go.RowKit Go.Shelf

theorem ret_bool {a b : Bool} (h : a = b) : Ending.returned (.bool a) = .returned (.bool b) := by rw [h]
theorem all2_stop {α : Type} {f : α → α → Bool} : ∀ (a b : List α) (j : Nat) (u v : α), a[j]? = some u → b[j]? = some v → f u v = false → all2 f a b = false := by
  intro a
  induction a with
  | nil => intro b j u v h; simp at h
  | cons x a ih =>
    intro b j u v hu hv hne
    cases b with
    | nil => simp at hv
    | cons y b =>
      cases j with
      | zero => simp at hu hv; subst hu; subst hv; simp [all2, hne]
      | succ j =>
        simp only [List.getElem?_cons_succ] at hu hv
        simp [all2, ih b j u v hu hv hne]
theorem all2_next {α : Type} {f : α → α → Bool} : ∀ (a b : List α) (j : Nat) (u v : α), a[j]? = some u → b[j]? = some v → all2 f (a.take j) (b.take j) = true → f u v = true → all2 f (a.take (j + 1)) (b.take (j + 1)) = true := by
  intro a
  induction a with
  | nil => intro b j u v h; simp at h
  | cons x a ih =>
    intro b j u v hu hv h hne
    cases b with
    | nil => simp at hv
    | cons y b =>
      cases j with
      | zero => simp at hu hv; subst hu; subst hv; simp [all2, hne]
      | succ j =>
        simp only [List.take_succ_cons, all2, Bool.and_eq_true] at h ⊢
        simp only [List.getElem?_cons_succ] at hu hv
        exact ⟨h.1, by simpa using ih b j u v hu hv h.2 hne⟩

end Go.Proofs.YtcjeeagnfmipgaaDoor

