import Derived.Test.YtcjeeagnfmipgaaDoorMa
import Derived.Test.YtcjeeagnfmipgaaDoorCms
/- Contracts by codes alone (no storeys): Apply, Compose, Match, Same, SameBinds. -/
namespace Go.Proofs.YtcjeeagnfmipgaaDoor
open Go.RowKit Go.Shelf Go.Maps

/-- v is a list of binds of the codes c, at most k. -/
def LV (D : Nat) (W : World) (v : Value) (k : Nat) (c : List (Int × List Nd)) : Prop := ∃ a len cap l, v = .slice a len cap ∧ SrcB D W a len l c ∧ len ≤ k
/-- v is a term of the code c. -/
def TC (D : Nat) (W : World) (v : Value) (c : List Nd) : Prop := D ≤ 2199023255552 ∧ HoldsS D (fun _ => True) W v c
theorem LV.below {D : Nat} {W W' : World} {v : Value} {k : Nat} {c : List (Int × List Nd)} (h : LV D W v k c) (hb : Below W.heap.size W W') : LV D W' v k c := by
  obtain ⟨a, len, cap, l, h1, h2, h3⟩ := h
  exact ⟨a, len, cap, l, h1, h2.below hb, h3⟩
theorem LV.mono {D D' : Nat} {W : World} {v : Value} {k : Nat} {c : List (Int × List Nd)} (h : LV D W v k c) (hD : D ≤ D') (hDl : D' ≤ 2199023255552 := by omega) : LV D' W v k c := by
  obtain ⟨a, len, cap, l, h1, h2, h3⟩ := h
  exact ⟨a, len, cap, l, h1, ⟨hDl, fun M hM => h2.2 M (by omega)⟩, h3⟩
theorem TC.mono {D D' : Nat} {W : World} {v : Value} {c : List Nd} (h : TC D W v c) (hD : D ≤ D') (hDl : D' ≤ 2199023255552 := by omega) : TC D' W v c := ⟨hDl, HoldsS.mono h.2 hD (fun _ h => h)⟩
theorem TC.below {D : Nat} {W W' : World} {v : Value} {c : List Nd} (h : TC D W v c) (hb : Below W.heap.size W W') : TC D W' v c := ⟨h.1, HoldsS.below h.2 hb⟩
theorem HoldsS.tc {D : Nat} {S : Nat → Prop} {W : World} {v : Value} {c : List Nd} (h : HoldsS D S W v c) (hDl : D ≤ 2199023255552 := by omega) : TC D W v c := ⟨hDl, HoldsS.mono h (Nat.le_refl _) (fun _ _ => trivial)⟩
theorem OutB.lv {D : Nat} {W : World} {v : Value} {k : Nat} {c : List (Int × List Nd)} (h : OutB D W v k c) : LV D W v k c := by
  obtain ⟨a, len, cap, l, h1, h2, h3, _⟩ := h
  exact ⟨a, len, cap, l, h1, h2, h3⟩
theorem tc_of {n : Nat} {t : Tm n} {W : World} (hT : IsT W.heap.size W t) : TC n W t.tv.val (code t) := (holdsS_of hT hT.blk).tc hT.lim
theorem isL_lift {n₀ : Nat} {W : World} {n : Nat} {a : Option Addr} {len : Nat} {bs : List (Int × Tm n)} (h : IsL n₀ W a len bs) (hl : n + 1 ≤ 2199023255552) : IsL n₀ W a len (bs.map fun p => (p.1, p.2.lift)) := by
  obtain ⟨h1, h2, h3⟩ := h
  refine ⟨by simpa using h1, h2, ?_⟩
  rcases h3 with h3 | ⟨b, off, ha, hb, hk⟩
  · exact .inl (by simp [h3])
  · refine .inr ⟨b, off, ha, hb, fun j p hp => ?_⟩
    rw [List.getElem?_map] at hp
    cases hq : bs[j]? with
    | none => rw [hq] at hp; simp at hp
    | some q =>
      rw [hq] at hp
      simp at hp
      subst hp
      obtain ⟨k1, k2, k3⟩ := hk j q hq
      exact ⟨k1, by simpa [lift_tv] using k2, lift_isT k3 hl⟩
theorem srcB_of {n : Nat} {W : World} {a : Option Addr} {len : Nat} {bs : List (Int × Tm n)} (h : IsL W.heap.size W a len bs) (hDl : n ≤ 2199023255552 := by omega) : SrcB n W a len (bs.map fun p => (p.1, p.2.tv)) (cb bs) := ⟨hDl, fun M hM hlm => by
  obtain ⟨k, rfl⟩ : ∃ k, M = n + k := ⟨M - n, by omega⟩
  clear hM
  induction k with
  | zero => exact ⟨bs, h, rfl, rfl⟩
  | succ k ih =>
    obtain ⟨ks, k1, k2, k3⟩ := ih (by omega)
    refine ⟨ks.map fun p => (p.1, p.2.lift), isL_lift k1 (by omega), ?_, ?_⟩
    · rw [← k2]; simp [cb, lift_code]
    · rw [← k3]; simp [lift_tv]⟩
theorem lv_of {n : Nat} {W : World} {a : Option Addr} {len cap : Nat} {bs : List (Int × Tm n)} (h : IsL W.heap.size W a len bs) (hDl : n ≤ 2199023255552 := by omega) : LV n W (.slice a len cap) len (cb bs) := ⟨a, len, cap, _, rfl, srcB_of h hDl, Nat.le_refl _⟩

/-- All parts are well made. -/
def okC (c : List Nd) : Prop := c.all okNd = true
/-- Binds that are a substitution, by their codes. -/
structure SubC (c : List (Int × List Nd)) : Prop where
  ok : ∀ p ∈ c, okC p.2
  key : ∀ p ∈ c, 0 ≤ p.1 ∧ p.1 ≤ 1099511627776
  rise : c.Pairwise fun p q => p.1 < q.1
theorem SubC.once {c : List (Int × List Nd)} (h : SubC c) : Once c := h.rise.imp fun h => by omega
theorem rises_pairwise {n : Nat} {bs : List (Int × Tm n)} : Rises bs ↔ (cb bs).Pairwise fun p q => p.1 < q.1 := by
  unfold Rises cb
  rw [List.pairwise_map, List.pairwise_iff_getElem]
  constructor
  · intro h i j hi hj hij
    exact h i j _ _ (List.getElem?_eq_getElem hi) (List.getElem?_eq_getElem hj) hij
  · intro h i j p q hp hq hij
    obtain ⟨hi, rfl⟩ := List.getElem?_eq_some_iff.1 hp
    obtain ⟨hj, rfl⟩ := List.getElem?_eq_some_iff.1 hq
    exact h i j hi hj hij
theorem cb_all {n : Nat} {bs : List (Int × Tm n)} {P : Int → List Nd → Prop} : (∀ p ∈ cb bs, P p.1 p.2) ↔ ∀ p ∈ bs, P p.1 (code p.2) := by
  unfold cb
  constructor
  · intro h p hp
    exact h (p.1, code p.2) (List.mem_map.2 ⟨p, hp, rfl⟩)
  · intro h p hp
    obtain ⟨q, hq, rfl⟩ := List.mem_map.1 hp
    exact h q hq
theorem subC_iff {n : Nat} {bs : List (Int × Tm n)} : SubC (cb bs) ↔ (∀ p ∈ bs, okT p.2 = true) ∧ Subst bs := by
  constructor
  · intro h
    refine ⟨fun p hp => ?_, ?_, rises_pairwise.2 h.rise⟩
    · rw [okT_code]; exact (cb_all (P := fun _ c => okC c)).1 h.ok p hp
    · exact (cb_all (P := fun N _ => 0 ≤ N ∧ N ≤ 1099511627776)).1 h.key
  · rintro ⟨h1, h2, h3⟩
    refine ⟨(cb_all (P := fun _ c => okC c)).2 fun p hp => ?_, (cb_all (P := fun N _ => 0 ≤ N ∧ N ≤ 1099511627776)).2 h2, rises_pairwise.1 h3⟩
    unfold okC
    rw [← okT_code]; exact h1 p hp

end Go.Proofs.YtcjeeagnfmipgaaDoor

