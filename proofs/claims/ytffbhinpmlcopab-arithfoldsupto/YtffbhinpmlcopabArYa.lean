import Derived.Test.YtffbhinpmlcopabArG
import Derived.Test.YtffbhinpmlcopabLr
/- What is folded: mathematics; rows of terms, each with its code. -/
namespace Go.Proofs.Ytffbhinpmlcopab
open Go.RowKit Go.Shelf

def foldV (r : Except (List Nd) Int) (c : List Nd) : List Nd :=
  match r with
  | .ok m => intC m
  | .error _ => c
/-- The code of what a term is folded to. -/
def foldC : {n : Nat} → Tm n → List Nd
  | 0, t => Empty.elim t
  | n + 1, t => if t.tv.k = 4 then foldV (evT (n := n + 1) t) ((4, 0, t.tv.s.toList, t.tv.len) :: t.kids.flatMap foldC) else [(t.tv.k, t.tv.N, t.tv.s.toList, 0)]
theorem foldC_comp {n : Nat} {x : TV} {kids : List (Tm n)} (h : x.k = 4) : foldC (n := n + 1) ((x, kids) : TV × List (Tm n)) = foldV (evT (n := n + 1) ((x, kids) : TV × List (Tm n))) ((4, 0, x.s.toList, x.len) :: kids.flatMap foldC) := if_pos h
theorem foldC_leaf {n : Nat} {x : TV} {kids : List (Tm n)} (h : x.k ≠ 4) : foldC (n := n + 1) ((x, kids) : TV × List (Tm n)) = [(x.k, x.N, x.s.toList, 0)] := if_neg h
theorem op_zero (s : List UInt8) : opOf s 0 = none := rfl
/-- A term that has a number is folded to it. -/
theorem fold_ok : ∀ {n : Nat} {t : Tm n}, okT t = true → ∀ {m : Int}, evT t = .ok m → foldC t = intC m := by
  intro n
  cases n with
  | zero => intro t; exact Empty.elim t
  | succ n =>
    intro t hok m he
    obtain ⟨⟨k, N, s, a, len, cap⟩, kids⟩ := t
    obtain ⟨hwm, -⟩ := ok_kids hok
    by_cases h4 : k = 4
    · rw [foldC_comp h4, he]; rfl
    · rw [foldC_leaf h4]
      rw [evT_succ] at he
      unfold nodeR at he
      simp only at he hwm ⊢
      by_cases h2 : k = 2
      · rw [if_pos h2] at he
        cases he
        subst h2
        have hs : s.toList = [] := by simp [wmB] at hwm; exact hwm.1
        rw [hs]; rfl
      · rw [if_neg h2] at he
        by_cases h1 : k = 1
        · rw [if_pos h1] at he; cases he
        · rw [if_neg h1] at he
          have hl : len = 0 := by rcases wm_cases hwm with ⟨h, _⟩ | ⟨_, h⟩ | ⟨h, _⟩ <;> first | exact h | (exfalso; omega)
          rw [hl, op_zero] at he
          cases he
/-- One that has none is folded to what is no integer. -/
theorem fold_err : ∀ {n : Nat} {t : Tm n}, okT t = true → ∀ {c : List Nd}, evT t = .error c → ∃ k N s l r, foldC t = (k, N, s, l) :: r ∧ k ≠ 2 := by
  intro n
  cases n with
  | zero => intro t; exact Empty.elim t
  | succ n =>
    intro t hok c he
    obtain ⟨⟨k, N, s, a, len, cap⟩, kids⟩ := t
    by_cases h4 : k = 4
    · rw [foldC_comp h4, he]
      exact ⟨_, _, _, _, _, rfl, by omega⟩
    · rw [foldC_leaf h4]
      rw [evT_succ] at he
      unfold nodeR at he
      simp only at he ⊢
      by_cases h2 : k = 2
      · rw [if_pos h2] at he; cases he
      · exact ⟨_, _, _, _, _, rfl, h2⟩

/-- The first j of the Args stand written in block B, at every number of storeys from D on, each of its code. -/
def WrittenL (D B j : Nat) (W : World) (cs : List (List Nd)) : Prop :=
  ∀ M, D ≤ M → ∃ ks : List (Tm M), ks.length = j ∧ (∀ i u, ks[i]? = some u → cellsAt W B (i * 4) u.tv ∧ IsW W.heap.size W u ∧ NewW (B + 1) W u) ∧ ks.map code = cs ∧ (ks.flatMap blks).Nodup
theorem WrittenL.zero (D B : Nat) (W : World) : WrittenL D B 0 W [] := fun M _ => ⟨[], rfl, fun i u h => by simp at h, rfl, List.nodup_nil⟩
theorem WrittenL.flat {D B j : Nat} {W : World} {cs : List (List Nd)} (h : WrittenL D B j W cs) : Written D B j W cs.flatten := fun M hM => by
  obtain ⟨ks, h1, h2, h3, h4⟩ := h M hM
  exact ⟨ks, h1, h2, by rw [← h3, List.flatMap_def], h4⟩
theorem WrittenL.next {D B j lo : Nat} {W W5 : World} {cs : List (List Nd)} {c' : List Nd} {len : Nat} {x : TV} (h : WrittenL D B j W cs) (hj : j < len) (hr : Row4 W5 B len) (hb : Below W.heap.size W W5) (hB : B < W.heap.size) (hv : HoldsT D lo W5 x.val c') (hlo : W.heap.size ≤ lo) :
    WrittenL D B (j + 1) (set4 W5 B (j * 4) x) (cs ++ [c']) := fun M hM => by
  obtain ⟨ks, hl, hk, hc, hnd⟩ := h M hM
  obtain ⟨u, hu, hT, hN0, hcu⟩ := hv M hM
  have hN : NewW (B + 1) W5 u := hN0.mono (by omega)
  have hux : u.tv = x := by
    simp only [TV.val, Value.agg.injEq] at hu
    simp at hu
    obtain ⟨e1, e2, e3, e4, e5, e6⟩ := hu
    cases hx : u.tv; cases x; simp_all
  refine ⟨ks ++ [u], by simp [hl], fun i z hz => ?_, by simp [hc, hcu], kids_apart (fun i z hz => (hk i z hz).2.2) hnd hN0 hlo⟩
  by_cases hi : i < j
  · rw [List.getElem?_append_left (by omega)] at hz
    obtain ⟨k1, k2, k3⟩ := hk i z hz
    have k1' := k1.kept (hb.block B hB)
    refine ⟨?_, ?_, (k3.below hb).kept (fun q hq _ => set4_other W5 B (j * 4) x (by omega))⟩
    · exact ⟨(set4_far W5 B (j * 4) x (by omega)).trans k1'.1, (set4_far W5 B (j * 4) x (by omega)).trans k1'.2.1, (set4_far W5 B (j * 4) x (by omega)).trans k1'.2.2.1, (set4_far W5 B (j * 4) x (by omega)).trans k1'.2.2.2⟩
    · rw [set4_size]
      exact ((k2.below hb).mono hb.size).from (fun q hq => set4_other W5 B (j * 4) x (by omega)) k3.new
  · rw [List.getElem?_append_right (by omega)] at hz
    have hi2 : i - ks.length = 0 := by
      by_cases e : i - ks.length = 0
      · exact e
      · rw [List.getElem?_eq_none (by simp; omega)] at hz; cases hz
    rw [hi2] at hz
    simp at hz
    subst hz
    obtain rfl : i = j := by omega
    refine ⟨?_, ?_, hN.kept (fun q hq _ => set4_other W5 B (i * 4) x (by omega))⟩
    · rw [hux]
      have g : ∀ q, q < len * 4 → (W5.cell? ⟨B, q, none⟩).isSome = true := fun q hq => by obtain ⟨⟨v, hv⟩, _⟩ := hr.cell hq; rw [hv]; rfl
      exact set4_cells W5 B (i * 4) x (g _ (by omega)) (g _ (by omega)) (g _ (by omega)) (g _ (by omega))
    · rw [set4_size]
      exact hT.from (fun q hq => set4_other W5 B (i * 4) x (by omega)) hN.new
theorem WrittenL.kept {D B j : Nat} {W W5 : World} {cs : List (List Nd)} (h : WrittenL D B j W cs) (hb : Below W.heap.size W W5) (hB : B < W.heap.size) : WrittenL D B j W5 cs := fun M hM => by
  obtain ⟨ks, hl, hk, hc, hnd⟩ := h M hM
  refine ⟨ks, hl, fun i u hu => ?_, hc, hnd⟩
  obtain ⟨k1, k2, k3⟩ := hk i u hu
  exact ⟨k1.kept (hb.block B hB), (k2.below hb).mono hb.size, k3.below hb⟩
theorem map_take {α β : Type} (f : α → β) (l : List α) (j : Nat) (u : α) (h : l[j]? = some u) : (l.take (j + 1)).map f = (l.take j).map f ++ [f u] := by
  obtain ⟨hj, rfl⟩ := List.getElem?_eq_some_iff.1 h
  rw [List.take_succ_eq_append_getElem hj, List.map_append]; rfl

/-- What stands written of an Arg, by its number. -/
def Speaks {n M : Nat} (kids : List (Tm n)) (ks : List (Tm M)) : Prop :=
  ∀ (i : Nat) (u : Tm n) (v : Tm M), kids[i]? = some u → ks[i]? = some v → (∀ m, evT u = .ok m → v.tv.k = 2 ∧ v.tv.N = m) ∧ (∀ c, evT u = .error c → v.tv.k ≠ 2)
theorem code_head : ∀ {n : Nat} (t : Tm n), ∃ r, code t = t.tv.nd :: r := by
  intro n
  cases n with
  | zero => intro t; exact Empty.elim t
  | succ n => intro t; exact ⟨_, code_succ t.tv t.kids⟩
theorem speaks {n M : Nat} {kids : List (Tm n)} {ks : List (Tm M)} (hok : ∀ u ∈ kids, okT u = true) (h : ks.map code = kids.map foldC) : Speaks kids ks := fun i u v hu hv => by
  have h1 : (ks.map code)[i]? = some (code v) := by rw [List.getElem?_map, hv]; rfl
  have h2 : (kids.map foldC)[i]? = some (foldC u) := by rw [List.getElem?_map, hu]; rfl
  rw [h, h2] at h1
  have he : foldC u = code v := by injection h1
  obtain ⟨r, hr⟩ := code_head v
  have hku := hok u (List.mem_of_getElem? hu)
  refine ⟨fun m hm => ?_, fun c hc => ?_⟩
  · rw [fold_ok hku hm, hr] at he
    simp only [intC, TV.nd, List.cons.injEq, Prod.mk.injEq] at he
    exact ⟨he.1.1.symm, he.1.2.1.symm⟩
  · obtain ⟨k, N, s, l, q, hq, hne⟩ := fold_err hku hc
    rw [hq, hr] at he
    simp only [TV.nd, List.cons.injEq, Prod.mk.injEq] at he
    rw [← he.1.1]
    exact hne
/-- The number of a compound by those of its Args. -/
def compR (s : List UInt8) (len : Nat) (r : Except (List Nd) (List Int)) : Except (List Nd) Int :=
  match opOf s len with
  | none => .error (notC s len)
  | some f => fromArgs f r
theorem evT_comp {n : Nat} {x : TV} {kids : List (Tm n)} (h : x.k = 4) : evT (n := n + 1) ((x, kids) : TV × List (Tm n)) = compR x.s.toList x.len (evL evT kids) := by
  rw [evT_succ]
  unfold nodeR
  rw [if_neg (by omega), if_neg (by omega)]
  rfl
end Go.Proofs.Ytffbhinpmlcopab

