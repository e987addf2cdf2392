import Derived.Test.YtcjeeagnfmipgaaDoorVms
import Derived.Test.YtcjeeagnfmipgaaDoorTw
/- The law hornkeep.TermVariants: it answers true, whatever the two terms and the number (within a bound of the terms' parts). -/
namespace Go.Proofs.YtcjeeagnfmipgaaDoor
open Go.RowKit Go.Shelf Go.Maps

theorem variant_c {D : Nat} {W : World} {v v' : Value} {c c' : List Nd} (h : TC D W v c) (h' : TC D W v' c') (hD39 : D ≤ 549755813888 := by omega) :
    Calls Tryd.prog 7 #[v, v'] W fun e W' => ∃ (f : Bool) (r : Int), e = .returned (.tuple #[.bool f, .int .i64 r]) ∧ Below W.heap.size W W' ∧ (okC c → okC c' → f = decide (canon 0 c = canon 0 c')) := by
  obtain ⟨p, rfl, hp, _, rfl⟩ := h.2 D (Nat.le_refl _) h.1
  obtain ⟨t, rfl, ht, _, rfl⟩ := h'.2 D (Nat.le_refl _) h'.1
  by_cases hok : (okT p && okT t) = true
  · rw [Bool.and_eq_true] at hok
    refine (variant_any p t W hp ht hok.1 hok.2 hD39).mono fun e W' h => ?_
    exact ⟨_, _, h.1, h.2, fun _ _ => rfl⟩
  · refine (variant_no p t W hp ht (by simpa using hok)).mono fun e W' h => ?_
    refine ⟨_, _, h.1, h.2, fun h1 h2 => ?_⟩
    unfold okC at h1 h2
    rw [← okT_code] at h1 h2
    exact (hok (by rw [h1, h2]; rfl)).elim
theorem zero_tc (D : Nat) (W : World) (hDl : D + 1 ≤ 2199023255552 := by omega) : TC (D + 1) W (⟨0, 0, ⟨#[]⟩, none, 0, 0⟩ : TV).val [(⟨0, 0, ⟨#[]⟩, none, 0, 0⟩ : TV).nd] :=
  ((holds_leaf ⟨0, 0, ⟨#[]⟩, none, 0, 0⟩ rfl rfl rfl (by simp [ByteArray.size]) 0 W).mono (by omega) (Nat.le_refl _)).holdsS.tc hDl
/-- What Rename answers: a term in any case; where there is no error, one that is numbered as the first. -/
theorem ren_tc {n : Nat} {t : Tm n} {lo : Nat} {W' : World} {x : TV} {r : Int} (h : RenSays t lo W' x r) (hDl : n + 1 ≤ 2199023255552 := by omega) : ∃ c, TC (n + 1) W' x.val c ∧ (r = 0 → okC c ∧ canon 0 (code t) = canon 0 c) := by
  rcases h with ⟨rfl, f, h1, h2⟩ | ⟨h1, rfl⟩
  · exact ⟨_, h2.holdsS.tc hDl, fun _ => ⟨h1, (canon_canon f (code t)).symm⟩⟩
  · exact ⟨_, zero_tc n W' hDl, fun h => (h1 h).elim⟩

end Go.Proofs.YtcjeeagnfmipgaaDoor

