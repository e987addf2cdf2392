import Derived.Test.YtdjlekcapfeniaaNs
/- Numbering variables: mathematics. -/
namespace Go.Proofs.Ytdjlekcapfeniaa
open Go.RowKit Go.Shelf

def stpN (c : List Int) (N : Int) : List Int := if N ∈ c then c else c ++ [N]
def renN (f : Int) (c : List Int) (N : Int) : List Nd := [varNd (f + (c.idxOf N : Nat))]
theorem stpN_ext (c : List Int) (N : Int) : ∃ d, stpN c N = c ++ d := by
  unfold stpN
  split
  · exact ⟨[], by simp⟩
  · exact ⟨[N], rfl⟩
theorem stpN_mem (c : List Int) (N : Int) : N ∈ stpN c N := by
  unfold stpN
  split
  · assumption
  · simp
theorem stepsN_ext : ∀ (l : List Nd) (c : List Int), ∃ d, stepsN stpN c l = c ++ d
  | [], c => ⟨[], by simp [stepsN]⟩
  | x :: l, c => by
    have e : stepsN stpN c (x :: l) = stepsN stpN (if x.1 = 1 then stpN c x.2.1 else c) l := rfl
    rw [e]
    obtain ⟨d, hd⟩ := stepsN_ext l (if x.1 = 1 then stpN c x.2.1 else c)
    rw [hd]
    split
    · obtain ⟨d', hd'⟩ := stpN_ext c x.2.1
      exact ⟨d' ++ d, by rw [hd', List.append_assoc]⟩
    · exact ⟨d, rfl⟩
theorem idxOf_ext {c : List Int} {N : Int} (h : N ∈ c) (d : List Int) : (c ++ d).idxOf N = c.idxOf N := by
  rw [List.idxOf_append, if_pos h]

theorem varV_holds (M : Int) (lo : Nat) (W : World) : HoldsT 1 lo W (varV M).val [varNd M] := by
  have hh := holds_leaf (varV M) rfl rfl rfl (by simp [varV, ByteArray.size]) lo W
  rw [varV_nd] at hh
  exact hh
end Go.Proofs.Ytdjlekcapfeniaa

/- A term renumbered, by its code: mathematics. -/
namespace Go.Proofs.Ytdjlekcapfeniaa
open Go.RowKit Go.Shelf

/-- The variables of a row of parts get numbers from f on, in the order of their coming. -/
def canon (f : Int) (c : List Nd) : List Nd := c.flatMap (subN (renN f (stepsN stpN [] c)))
def IsVarOf (c : List Nd) (N : Int) : Prop := ∃ x ∈ c, x.1 = 1 ∧ x.2.1 = N
theorem sub_congr_on {σ τ : Int → List Nd} {c : List Nd} (h : ∀ N, IsVarOf c N → σ N = τ N) : c.flatMap (subN σ) = c.flatMap (subN τ) :=
  flatMap_same c fun x hx => by
    unfold subN
    by_cases hk : x.1 = 1
    · rw [if_pos hk, if_pos hk, h _ ⟨x, hx, hk, rfl⟩]
    · rw [if_neg hk, if_neg hk]
theorem steps_mem : ∀ (c : List Nd) (acc : List Int) (N : Int), N ∈ stepsN stpN acc c ↔ N ∈ acc ∨ IsVarOf c N
  | [], acc, N => by simp [stepsN, IsVarOf]
  | x :: c, acc, N => by
    have e : stepsN stpN acc (x :: c) = stepsN stpN (if x.1 = 1 then stpN acc x.2.1 else acc) c := rfl
    rw [e, steps_mem c]
    have hv : IsVarOf (x :: c) N ↔ (x.1 = 1 ∧ x.2.1 = N) ∨ IsVarOf c N := by
      unfold IsVarOf
      constructor
      · rintro ⟨y, hy, h⟩
        rcases List.mem_cons.1 hy with rfl | hy
        · exact .inl h
        · exact .inr ⟨y, hy, h⟩
      · rintro (h | ⟨y, hy, h⟩)
        · exact ⟨x, by simp, h⟩
        · exact ⟨y, by simp [hy], h⟩
    rw [hv]
    by_cases hk : x.1 = 1
    · rw [if_pos hk]
      unfold stpN
      split
      · rename_i hm
        constructor
        · rintro (h | h)
          · exact .inl h
          · exact .inr (.inr h)
        · rintro (h | ⟨_, rfl⟩ | h)
          · exact .inl h
          · exact .inl hm
          · exact .inr h
      · constructor
        · rintro (h | h)
          · rcases List.mem_append.1 h with h | h
            · exact .inl h
            · simp at h; exact .inr (.inl ⟨hk, h.symm⟩)
          · exact .inr (.inr h)
        · rintro (h | ⟨_, rfl⟩ | h)
          · exact .inl (List.mem_append_left _ h)
          · exact .inl (List.mem_append_right _ (by simp))
          · exact .inr h
    · rw [if_neg hk]
      constructor
      · rintro (h | h)
        · exact .inl h
        · exact .inr (.inr h)
      · rintro (h | ⟨h, _⟩ | h)
        · exact .inl h
        · exact (hk h).elim
        · exact .inr h
end Go.Proofs.Ytdjlekcapfeniaa

