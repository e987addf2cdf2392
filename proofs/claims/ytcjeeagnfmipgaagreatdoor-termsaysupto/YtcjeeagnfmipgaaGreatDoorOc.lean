import Derived.Test.YtcjeeagnfmipgaaGreatDoorTb
/- Contracts for the law TermSays' function one, in the form that its walk takes. -/
namespace Go.Proofs.YtcjeeagnfmipgaaGreatDoor
open Go.RowKit Go.Shelf Go.Maps

theorem parts_code {n : Nat} (t : Tm n) : (code t).length = (parts t).length := by simp [code]
theorem vars_s {n : Nat} (t : Tm n) (W : World) (hT : IsT W.heap.size W t) (hok : okT t = true) (hl : (parts t).length ≤ 4194304) :
    Calls Tryz.prog 26 #[t.tv.val] W fun e W' => ∃ va vc, e = .returned (.tuple #[.slice va (varsC [] (code t)).length vc, .int .i64 0]) ∧ Below W.heap.size W W' ∧ IsN W' va (varsC [] (code t)).length (varsC [] (code t)) :=
  (vars_any t W hT hok hl).mono fun e W' h => by
    obtain ⟨v, h1, h2, h3⟩ := h
    have hv := varsC_len [] (code t)
    rw [parts_code] at hv
    obtain ⟨va, vc, rfl, hN⟩ := h2.isN (by simp at hv; omega)
    exact ⟨va, vc, h1, h3, hN⟩
theorem rvars_s {n : Nat} (t : Tm n) (W : World) (hT : IsT W.heap.size W t) (hok : okT t = true) (hl : (parts t).length ≤ 4194304) :
    Calls Tryz.prog 39 #[.slice (some ⟨W.heap.size, 0, none⟩) 1 1] (W.alloc (.cells #[.int .i64 t.tv.k, .int .i64 t.tv.N, .string t.tv.s, .slice t.tv.a t.tv.len t.tv.cap] 24)) fun e W' => ∃ va vc, e = .returned (.slice va (varsC [] (code t)).length vc) ∧ Below W.heap.size W W' ∧ IsN W' va (varsC [] (code t)).length (varsC [] (code t)) := by
  have hbA : Below W.heap.size W (W.alloc (.cells #[.int .i64 t.tv.k, .int .i64 t.tv.N, .string t.tv.s, .slice t.tv.a t.tv.len t.tv.cap] 24)) := (Below.refl _ W).alloc (Nat.le_refl _) _
  have hb := BoxT.new W t.tv
  refine (rVars_one t W.heap.size 0 1 _ ((hT.below hbA).mono hbA.size) ⟨hb.c0, hb.c1, hb.c2, hb.c3⟩ hok (by rw [parts_code]; exact hl)).mono fun e W' h => ?_
  obtain ⟨v, h1, h2, h3⟩ := h
  have hv := varsC_len [] (code t)
  rw [parts_code] at hv
  obtain ⟨va, vc, rfl, hN⟩ := h3.isN (by simp at hv; omega)
  exact ⟨va, vc, h1, hbA.trans (h2.mono hbA.size), hN⟩
theorem flat_s {n : Nat} (t : Tm n) (W : World) (hT : IsT W.heap.size W t) (hl : (parts t).length ≤ 4194304) :
    Calls Tryz.prog 36 #[t.tv.val] W fun e W' => ∃ ga gc, e = .returned (.slice ga (parts t).length gc) ∧ Below W.heap.size W W' :=
  (flat_any n t W hT (by omega)).mono fun e W' h => by
    obtain ⟨v, h1, h2, h3⟩ := h
    obtain ⟨ga, gc, rfl⟩ := row_slice h3
    exact ⟨ga, gc, h1, h2⟩
theorem HoldsT.tc {D lo : Nat} {W : World} {v : Value} {c : List Nd} (h : HoldsT D lo W v c) (hD : D ≤ 2199023255552 := by omega) : TC D W v c := h.holdsS.tc hD
/-- What Rename answers, by codes. -/
def RenC (D : Nat) (c : List Nd) (L : Nat) (f : Int) (W : World) (x : TV) (k r : Int) : Prop :=
  (0 ≤ f ∧ f ≤ 1099511627776 ∧ f + (L : Nat) ≤ 1099511627777 ∧ r = 0 ∧ k = f + (L : Nat) ∧ TC D W x.val c) ∨
  (0 ≤ f ∧ f ≤ 1099511627776 ∧ ¬ f + (L : Nat) ≤ 1099511627777 ∧ r = 9 ∧ k = 0 ∧ x = zeroT) ∨
  (¬ (0 ≤ f ∧ f ≤ 1099511627776) ∧ r = 1 ∧ k = 0 ∧ x = zeroT)
theorem RenC.below {D : Nat} {c : List Nd} {L : Nat} {f : Int} {W W' : World} {x : TV} {k r : Int} (h : RenC D c L f W x k r) (hb : Below W.heap.size W W') : RenC D c L f W' x k r := by
  rcases h with ⟨h1, h2, h3, h4, h5, h6⟩ | h | h
  · exact .inl ⟨h1, h2, h3, h4, h5, h6.below hb⟩
  · exact .inr (.inl h)
  · exact .inr (.inr h)
theorem rename_s {n : Nat} (t : Tm n) (f : Int) (W : World) (hT : IsT W.heap.size W t) (hok : okT t = true) (hn40 : n ≤ 1048576 := by omega) :
    Calls Tryz.prog 15 #[t.tv.val, .int .i64 f] W fun e W' => ∃ (x : TV) (k r : Int), e = .returned (.tuple #[x.val, .int .i64 k, .int .i64 r]) ∧ Below W.heap.size W W' ∧ RenC (n + 1) (canon f (code t)) (varsC [] (code t)).length f W' x k r :=
  (rename_full t f W hT hok).mono fun e W' h => by
    obtain ⟨x, k, r, h1, h2, h3⟩ := h
    refine ⟨x, k, r, h1, h2, ?_⟩
    rcases h3 with ⟨g1, g2, g3, g4, g5, g6⟩ | h | h
    · exact .inl ⟨g1, g2, g3, g4, g5, g6.tc⟩
    · exact .inr (.inl h)
    · exact .inr (.inr h)
/-- What At answers, by codes. -/
def AtC (D : Nat) (c : Option (List Nd)) (W : World) (x : TV) (r : Int) : Prop :=
  (c = none ∧ x = zeroT ∧ r = 8) ∨ ∃ d, c = some d ∧ r = 0 ∧ TC D W x.val d
theorem AtC.below {D : Nat} {c : Option (List Nd)} {W W' : World} {x : TV} {r : Int} (h : AtC D c W x r) (hb : Below W.heap.size W W') : AtC D c W' x r := by
  rcases h with h | ⟨d, h1, h2, h3⟩
  · exact .inl h
  · exact .inr ⟨d, h1, h2, h3.below hb⟩
def atCode (r : Option (Σ m, Tm m)) : Option (List Nd) := r.map fun p => code p.2
end Go.Proofs.YtcjeeagnfmipgaaGreatDoor

