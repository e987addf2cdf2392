import Derived.Test.YtffbhinpmlcopabArZa
import Derived.Test.YtffbhinpmlcopabArH
import Derived.Test.YtffbhinpmlcopabHm
import Derived.Test.YtffbhinpmlcopabY
/- Codes of what is folded and put in: well made, of 64 bits; Eval of what Apply makes. -/
namespace Go.Proofs.Ytffbhinpmlcopab
open Go.RowKit Go.Shelf

def numC (c : List Nd) : Prop := ∀ x ∈ c, inR x.2.1
theorem nums_m {n : Nat} {t : Tm n} : numsT t ↔ numC (code t) := by
  constructor
  · intro h x hx
    obtain ⟨y, hy, rfl⟩ := List.mem_map.1 hx
    exact h y hy
  · intro h y hy
    exact h y.nd (List.mem_map.2 ⟨y, hy, rfl⟩)
theorem fold_fine : ∀ {n : Nat} {t : Tm n}, Wl t → okT t = true → numsT t → (foldC t).all okM = true ∧ numC (foldC t) := by
  intro n
  induction n with
  | zero => intro t; exact Empty.elim t
  | succ n ih =>
    intro t hw hok hnum
    have hin := evT_in t hnum
    obtain ⟨x, kids⟩ := t
    obtain ⟨hwm, hk⟩ := ok_kids hok
    obtain ⟨hN, hnk⟩ := numsT_succ hnum
    have hx : okM x.nd = true := by rw [← ok_m]; exact hwm
    by_cases h4 : x.k = 4
    · rw [foldC_comp h4]
      cases he : evT (n := n + 1) ((x, kids) : TV × List (Tm n)) with
      | ok m =>
        have := hin m he
        refine ⟨by simp [foldV, intC, okM], fun y hy => ?_⟩
        have hy' : y = (2, m, [], 0) := by simpa [foldV, intC] using hy
        subst hy'
        exact this
      | error c =>
        have h0 : x.N = 0 := by rcases wm_cases hwm with ⟨h, _⟩ | ⟨h, _⟩ | ⟨_, h, _⟩ <;> first | exact h | (exfalso; omega)
        have hx' : okM (4, 0, x.s.toList, x.len) = true := by rw [← h4, ← h0]; exact hx
        refine ⟨?_, fun y hy => ?_⟩
        · simp only [foldV, List.all_cons, hx', Bool.true_and, List.all_flatMap, List.all_eq_true]
          exact fun u hu => List.all_eq_true.1 (ih (hw.2 u hu) (hk u hu) (hnk u hu)).1
        · simp only [foldV, List.mem_cons, List.mem_flatMap] at hy
          rcases hy with rfl | ⟨u, hu, hy⟩
          · show inR 0
            simp [inR]
          · exact (ih (hw.2 u hu) (hk u hu) (hnk u hu)).2 y hy
    · obtain ⟨h0, -⟩ := leaf_kids hw hok h4
      rw [foldC_leaf h4]
      refine ⟨?_, fun y hy => ?_⟩
      · have hx' : okM (x.k, x.N, x.s.toList, 0) = true := by rw [← h0]; exact hx
        simp [hx']
      · have hy' : y = (x.k, x.N, x.s.toList, 0) := by simpa using hy
        subst hy'
        exact hN

/-- What a variable becomes, as a term. -/
def sig {n : Nat} (bs : List (Int × Tm n)) (N : Int) : Tm (n + 1) :=
  match bs.find? (fun p => p.1 == N) with
  | some p => p.2.lift
  | none => ((varV N, []) : TV × List (Tm n))
theorem find_map {α β : Type} (f : α → β) (p : β → Bool) : ∀ l : List α, (l.map f).find? p = (l.find? fun x => p (f x)).map f
  | [] => rfl
  | x :: l => by
    simp only [List.map_cons, List.find?_cons]
    cases p (f x)
    · exact find_map f p l
    · rfl
theorem sig_code {n : Nat} (bs : List (Int × Tm n)) (N : Int) : code (sig bs N) = lookC (cb bs) N := by
  unfold sig lookC cb
  rw [find_map]
  cases h : bs.find? (fun p => p.1 == N) with
  | none =>
    simp only [Option.map_none]
    rw [code_succ]
    simp [varV, varNd, TV.nd]
  | some p =>
    simp only [Option.map_some]
    exact lift_code _
theorem sig_wl {n : Nat} {bs : List (Int × Tm n)} (h : ∀ p ∈ bs, Wl p.2) (N : Int) : Wl (sig bs N) := by
  unfold sig
  cases hf : bs.find? (fun p => p.1 == N) with
  | none => exact ⟨rfl, fun u hu => by cases hu⟩
  | some p => exact lift_wl (h p (List.mem_of_find?_eq_some hf))
theorem sub_fine {n : Nat} {bs : List (Int × Tm n)} (hb : ∀ p ∈ bs, okT p.2 = true ∧ numsT p.2) {c : List Nd} (hc : c.all okM = true) (hn : numC c) :
    (c.flatMap (subN (lookC (cb bs)))).all okM = true ∧ numC (c.flatMap (subN (lookC (cb bs)))) := by
  have key : ∀ x ∈ c, ∀ y ∈ subN (lookC (cb bs)) x, okM y = true ∧ inR y.2.1 := by
    intro x hx y hy
    unfold subN at hy
    by_cases h1 : x.1 = 1
    · rw [if_pos h1] at hy
      unfold lookC cb at hy
      rw [find_map] at hy
      cases hf : bs.find? (fun p => p.1 == x.2.1) with
      | none =>
        rw [hf] at hy
        have hy' : y = varNd x.2.1 := by simpa using hy
        subst hy'
        have ho := List.all_eq_true.1 hc x hx
        have hi := hn x hx
        obtain ⟨k, N, s, l⟩ := x
        simp only at h1 hi ⊢
        subst h1
        simp only [okM, if_true, Bool.and_eq_true] at ho
        refine ⟨?_, hi⟩
        simp only [varNd, okM, if_true, Bool.and_eq_true]
        exact ⟨⟨⟨ho.1.1.1, ho.1.1.2⟩, by simp⟩, by simp⟩
      | some p =>
        rw [hf] at hy
        have hm := hb p (List.mem_of_find?_eq_some hf)
        have hy' : y ∈ code p.2 := hy
        have h2 := hm.1
        rw [okT_m] at h2
        exact ⟨List.all_eq_true.1 h2 y hy', (nums_m.1 hm.2) y hy'⟩
    · rw [if_neg h1] at hy
      have hy' : y = x := by simpa using hy
      subst hy'
      exact ⟨List.all_eq_true.1 hc y hx, hn y hx⟩
  refine ⟨List.all_eq_true.2 fun y hy => ?_, fun y hy => ?_⟩
  · obtain ⟨x, hx, hy⟩ := List.mem_flatMap.1 hy
    exact (key x hx y hy).1
  · obtain ⟨x, hx, hy⟩ := List.mem_flatMap.1 hy
    exact (key x hx y hy).2

/-- Eval of a term that is known by its code. -/
theorem eval_code {D p : Nat} {S : Nat → Prop} {W : World} {x : TV} {c : List Nd} (h : HoldsS D S W x.val c) (u : Tm p) (hu : Wl u) (hc : code u = c) (hok : c.all okM = true) (hn : numC c) (hD : p + D ≤ 2199023255552 := by omega) :
    Calls Try.prog 8 #[x.val] W fun e W' => NumSays W.heap.size (evT u) e W' ∧ Below W.heap.size W W' := by
  obtain ⟨t, h1, h2, -, h4⟩ := h (p + D) (by omega) hD
  have he : evT t = evT u := by
    rw [← liftBy_ev D u]
    exact evT_code h2.wl (liftBy_wl D hu) (by rw [h4, liftBy_code, hc])
  have hE := eval_ok t W h2 (by rw [okT_m, h4]; exact hok) (nums_m.2 (by rw [h4]; exact hn))
  rw [he, ← h1] at hE
  exact hE
end Go.Proofs.Ytffbhinpmlcopab

