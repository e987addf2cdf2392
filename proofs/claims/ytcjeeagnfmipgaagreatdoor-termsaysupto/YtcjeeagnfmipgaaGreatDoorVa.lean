import Derived.Test.YtcjeeagnfmipgaaGreatDoorLms
import Derived.Test.YtcjeeagnfmipgaaGreatDoorVms
import Derived.Test.YtcjeeagnfmipgaaGreatDoorG
/- The contract of hornref.Variant: two terms are variants just if, numbered from 0 on, they are the same. -/
namespace Go.Proofs.YtcjeeagnfmipgaaGreatDoor
open Go.RowKit Go.Shelf Go.Maps

/-- Two parts side by side, but for the numbers of variables. -/
def likeN (x y : Nd) : Prop := x.1 = y.1 ∧ x.2.2.1 = y.2.2.1 ∧ x.2.2.2 = y.2.2.2 ∧ (x.1 ≠ 1 → x.2.1 = y.2.1)
/-- Two places of variables, side by side: the same here just if the same there. -/
def pairN (x y x' y' : Nd) : Prop := x.1 = 1 → x'.1 = 1 → (x.2.1 = x'.2.1 ↔ y.2.1 = y'.2.1)
/-- The i-th parts, held against all ahead of them. -/
def VarAt (c d : List Nd) (i : Nat) : Prop := ∀ x y, c[i]? = some x → d[i]? = some y → likeN x y ∧ ∀ (j : Nat) x' y', c[j]? = some x' → d[j]? = some y' → j < i → pairN x y x' y'
theorem canon_at (f : Int) (c : List Nd) : canon f c = c.map fun x => if x.1 = 1 then varNd (f + ((stepsN stpN [] c).idxOf x.2.1 : Nat)) else x := by
  unfold canon
  generalize stepsN stpN [] c = v
  induction c with
  | nil => rfl
  | cons x c ih =>
    rw [List.flatMap_cons, List.map_cons, ih]
    unfold subN renN
    split <;> rfl
/-- What stands in d where a variable comes first in c. -/
def rhoN (c d : List Nd) (N : Int) : Int := match (c.zip d).find? (fun p => decide (p.1.1 = 1) && decide (p.1.2.1 = N)) with | some p => p.2.2.1 | none => 0
theorem rhoN_at {c d : List Nd} (hv : ∀ i, VarAt c d i) {i : Nat} {x y : Nd} (hx : c[i]? = some x) (hy : d[i]? = some y) (hk : x.1 = 1) : rhoN c d x.2.1 = y.2.1 := by
  unfold rhoN
  have hz : (c.zip d)[i]? = some (x, y) := by rw [List.getElem?_zip_eq_some]; exact ⟨hx, hy⟩
  cases hf : (c.zip d).find? (fun p => decide (p.1.1 = 1) && decide (p.1.2.1 = x.2.1)) with
  | none =>
    have := List.find?_eq_none.1 hf _ (List.mem_of_getElem? hz)
    simp [hk] at this
  | some p =>
    obtain ⟨hp, j, hj, hpj, hbef⟩ := List.find?_eq_some_iff_getElem.1 hf
    simp only [Bool.and_eq_true, decide_eq_true_eq] at hp
    have hjz : (c.zip d)[j]? = some p := by rw [List.getElem?_eq_getElem hj, hpj]
    obtain ⟨hcj, hdj⟩ := List.getElem?_zip_eq_some.1 hjz
    have hji : ¬ i < j := fun hlt => by
      have h1 := hbef i hlt
      have h2 := (List.getElem?_eq_some_iff.1 hz).2
      rw [h2] at h1
      simp [hk] at h1
    by_cases e : j = i
    · subst e; rw [hz] at hjz; cases hjz; rfl
    · exact (((hv i x y hx hy).2 j p.1 p.2 hcj hdj (by omega) hk hp.1).1 hp.2.symm).symm
theorem variant_canon {c d : List Nd} (hd : okC d) : (c.length = d.length ∧ ∀ i, VarAt c d i) → canon 0 c = canon 0 d := by
  rintro ⟨hl, hv⟩
  have hcd : d = c.flatMap (subN fun N => [varNd (rhoN c d N)]) := by
    have e : c.flatMap (subN fun N => [varNd (rhoN c d N)]) = c.map fun x => if x.1 = 1 then varNd (rhoN c d x.2.1) else x := by
      generalize rhoN c d = ρ
      clear hl hv
      induction c with
      | nil => rfl
      | cons x c ih =>
        rw [List.flatMap_cons, List.map_cons, ih]
        unfold subN
        split <;> rfl
    rw [e]
    refine List.ext_getElem? fun i => ?_
    rw [List.getElem?_map]
    cases hx : c[i]? with
    | none =>
      rw [List.getElem?_eq_none_iff] at hx
      simp only [Option.map_none]
      rw [List.getElem?_eq_none_iff]
      omega
    | some x =>
      have hi : i < d.length := by have := (List.getElem?_eq_some_iff.1 hx).1; omega
      have hy : d[i]? = some d[i] := List.getElem?_eq_getElem hi
      rw [hy]
      simp only [Option.map_some, Option.some.injEq]
      obtain ⟨⟨l1, l2, l3, l4⟩, _⟩ := hv i x _ hx hy
      split
      · rename_i hk
        rw [rhoN_at hv hx hy hk]
        exact (okNd_var (List.all_eq_true.1 hd _ (List.getElem_mem hi)) (l1 ▸ hk)).2
      · rename_i hk
        have l5 := l4 hk
        generalize d[i] = y at *
        obtain ⟨x1, x2, x3, x4⟩ := x
        obtain ⟨y1, y2, y3, y4⟩ := y
        simp_all
  have hinj : InjOn (rhoN c d) (IsVarOf c) := by
    rintro M N ⟨x, hx, hk, rfl⟩ ⟨x', hx', hk', rfl⟩ he
    obtain ⟨i, hi⟩ := List.mem_iff_getElem?.1 hx
    obtain ⟨j, hj⟩ := List.mem_iff_getElem?.1 hx'
    have hil : i < d.length := by have := (List.getElem?_eq_some_iff.1 hi).1; omega
    have hjl : j < d.length := by have := (List.getElem?_eq_some_iff.1 hj).1; omega
    have hyi : d[i]? = some d[i] := List.getElem?_eq_getElem hil
    have hyj : d[j]? = some d[j] := List.getElem?_eq_getElem hjl
    rw [rhoN_at hv hi hyi hk, rhoN_at hv hj hyj hk'] at he
    rcases Nat.lt_trichotomy i j with h | h | h
    · exact (((hv j _ _ hj hyj).2 i _ _ hi hyi h hk' hk).2 he.symm).symm
    · subst h; rw [hi] at hj; cases hj; rfl
    · exact ((hv i _ _ hi hyi).2 j _ _ hj hyj h hk hk').2 he
  have h := canon_ren (f := 0) hinj
  rw [← hcd] at h
  exact h.symm
theorem canon_variant {c d : List Nd} (hc : okC c) (hd : okC d) (h : canon 0 c = canon 0 d) : c.length = d.length ∧ ∀ i, VarAt c d i := by
  rw [canon_at, canon_at] at h
  have hl : c.length = d.length := by have := congrArg List.length h; simpa using this
  have hat : ∀ (i : Nat) x y, c[i]? = some x → d[i]? = some y → (if x.1 = 1 then varNd (0 + ((stepsN stpN [] c).idxOf x.2.1 : Nat)) else x) = (if y.1 = 1 then varNd (0 + ((stepsN stpN [] d).idxOf y.2.1 : Nat)) else y) := fun i x y hx hy => by
    have h1 := congrArg (·[i]?) h
    simp only [List.getElem?_map, hx, hy, Option.map_some, Option.some.injEq] at h1
    exact h1
  have hvar : ∀ (i : Nat) x y, c[i]? = some x → d[i]? = some y → (x.1 = 1 ↔ y.1 = 1) := fun i x y hx hy => by
    have h1 := hat i x y hx hy
    have h2 := congrArg Prod.fst h1
    constructor
    · intro e; rw [if_pos e] at h2
      split at h2
      · assumption
      · exact h2.symm
    · intro e; rw [if_pos e] at h2
      split at h2
      · assumption
      · exact h2
  have hidx : ∀ (i : Nat) x y, c[i]? = some x → d[i]? = some y → x.1 = 1 → (stepsN stpN [] c).idxOf x.2.1 = (stepsN stpN [] d).idxOf y.2.1 := fun i x y hx hy hk => by
    have h1 := hat i x y hx hy
    rw [if_pos hk, if_pos ((hvar i x y hx hy).1 hk)] at h1
    simp only [varNd, Prod.mk.injEq] at h1
    omega
  have hinj : ∀ (e : List Nd) (x x' : Nd), x ∈ e → x' ∈ e → x.1 = 1 → x'.1 = 1 → (stepsN stpN [] e).idxOf x.2.1 = (stepsN stpN [] e).idxOf x'.2.1 → x.2.1 = x'.2.1 := fun e x x' hx hx' hk hk' he => by
    have m := (steps_mem e [] x.2.1).2 (.inr ⟨x, hx, hk, rfl⟩)
    have m' := (steps_mem e [] x'.2.1).2 (.inr ⟨x', hx', hk', rfl⟩)
    have l := List.idxOf_lt_length_of_mem m
    have l' := List.idxOf_lt_length_of_mem m'
    have g := List.getElem_idxOf l
    have g' := List.getElem_idxOf l'
    rw [← g, ← g']
    exact getElem_congr_idx he
  refine ⟨hl, fun i x y hx hy => ⟨?_, fun j x' y' hx' hy' hji hk hk' => ?_⟩⟩
  · by_cases hk : x.1 = 1
    · have hk2 := (hvar i x y hx hy).1 hk
      have e1 := (okNd_var (List.all_eq_true.1 hc x (List.mem_of_getElem? hx)) hk).2
      have e2 := (okNd_var (List.all_eq_true.1 hd y (List.mem_of_getElem? hy)) hk2).2
      rw [e1, e2]
      exact ⟨rfl, rfl, rfl, fun h => (h rfl).elim⟩
    · have hk2 : ¬ y.1 = 1 := fun e => hk ((hvar i x y hx hy).2 e)
      have h1 := hat i x y hx hy
      rw [if_neg hk, if_neg hk2] at h1
      subst h1
      exact ⟨rfl, rfl, rfl, fun _ => rfl⟩
  · have e1 := hidx i x y hx hy hk
    have e2 := hidx j x' y' hx' hy' hk'
    have hy1 := (hvar i x y hx hy).1 hk
    have hy2 := (hvar j x' y' hx' hy').1 hk'
    constructor
    · intro e
      exact hinj d y y' (List.mem_of_getElem? hy) (List.mem_of_getElem? hy') hy1 hy2 (by rw [← e1, ← e2, e])
    · intro e
      exact hinj c x x' (List.mem_of_getElem? hx) (List.mem_of_getElem? hx') hk hk' (by rw [e1, e2, e])
end Go.Proofs.YtcjeeagnfmipgaaGreatDoor

