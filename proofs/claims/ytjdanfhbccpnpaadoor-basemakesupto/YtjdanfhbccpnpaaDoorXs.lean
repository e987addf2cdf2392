import Derived.Test.YtjdanfhbccpnpaaDoorV
import Derived.Test.YtjdanfhbccpnpaaDoorT
import Derived.Deep.DeepMust
/- The contract of hornref.Apply: each variable of a term gives way to what the binds say; the answer may share memory with the binds. -/
namespace Go.Proofs.YtjdanfhbccpnpaaDoor
open Go.RowKit Go.Shelf

/-- Old memory (below ns), or laid since. -/
def Mix (ns lo : Nat) (b : Nat) : Prop := b < ns ∨ lo ≤ b

theorem addr_add (b o n : Nat) : Addr.add ⟨b, o, none⟩ n = ⟨b, o + n, none⟩ := by
  unfold Addr.add; split
  · rename_i h; subst h; rfl
  · rfl
theorem new_cells {W5 : World} {x : TV} : ∀ j u, x.row[j]? = some u → (W5.alloc (.cells #[.int .i64 x.k, .int .i64 x.N, .string x.s, .slice x.a x.len x.cap] 24)).cell? ((⟨W5.heap.size, 0, none⟩ : Addr).add j) = some u := by
  intro j u hj
  rw [addr_add, Nat.zero_add]
  match j, hj with
  | 0, hj => simp [TV.row] at hj; subst hj; simp
  | 1, hj => simp [TV.row] at hj; subst hj; simp
  | 2, hj => simp [TV.row] at hj; subst hj; simp
  | 3, hj => simp [TV.row] at hj; subst hj; simp
  | j + 4, hj => simp [TV.row] at hj
theorem row_one {x : TV} : ∀ u ∈ x.row, u.oneCell' = true := by
  intro u hu
  simp [TV.row] at hu
  rcases hu with rfl | rfl | rfl | rfl <;> rfl

/-- The end of hornref.Apply at a term that is no variable: the row of its new Args put into its box, and this into the result. -/
theorem args_end {D : Nat} {ns : Nat} {W wr : World} {k N : Int} {s : ByteArray} {len : Nat} {v : Value} {l : List TV} {c : List Nd} (hl : l.length = len) (hl50 : len ≤ 50) (hs : s.size ≤ 9223372036854775807) (hB : Below W.heap.size W wr) (hns : ns ≤ W.heap.size)
    (hm : Made D (Mix ns (W.heap.size + 2)) (W.heap.size + 2) wr v l c) :
    ∃ a' cap', v = .slice a' len cap' ∧ (let x : TV := ⟨k, N, s, a', len, cap'⟩
      Below W.heap.size W (set4 (wr.setCell ⟨W.heap.size, 3, none⟩ v) (W.heap.size + 1) 0 x) ∧ HoldsS (D + 1) (Mix ns W.heap.size) (set4 (wr.setCell ⟨W.heap.size, 3, none⟩ v) (W.heap.size + 1) 0 x) x.val ((k, N, s.toList, len) :: c)) := by
  have hoc := owns_cells hm.owns
  obtain ⟨a', cap', hv⟩ : ∃ a' cap', v = .slice a' len cap' := by
    rcases hoc with ⟨hv, hn⟩ | ⟨g, cp, hv, _⟩
    · subst hn; simp at hl; subst hl; exact ⟨none, 0, hv⟩
    · exact ⟨_, cp, by rw [hv, hl]⟩
  refine ⟨a', cap', hv, ?_⟩
  intro x
  have hother : ∀ b, b ≠ W.heap.size → b ≠ W.heap.size + 1 → (set4 (wr.setCell ⟨W.heap.size, 3, none⟩ v) (W.heap.size + 1) 0 x).heap[b]? = wr.heap[b]? := fun b h1 h2 =>
    (set4_other _ _ 0 x h2).trans (Below.heap_setCell _ _ _ _ h1)
  have hsz' : (set4 (wr.setCell ⟨W.heap.size, 3, none⟩ v) (W.heap.size + 1) 0 x).heap.size = wr.heap.size := by rw [set4_size]; simp
  refine ⟨set4_below (hB.setCell (p := ⟨W.heap.size, 3, none⟩) (Nat.le_refl _) _) (by omega) 0 x, fun m hm' hlim => ?_⟩
  obtain ⟨M, rfl⟩ : ∃ M, m = M + 1 := ⟨m - 1, by omega⟩
  obtain ⟨ks, k1, k2, k3⟩ := hm.kids M (by omega) (by omega)
  have hcl : len ≤ cap' := by
    rcases hm.owns.2 with ⟨h, hn⟩ | ⟨g, cp, cur, h, _, _, hnc, _⟩
    · omega
    · rw [hv] at h
      simp at h
      omega
  have hkl : ks.length = len := by rw [← hl, ← k1]; simp
  have hT : ∀ u ∈ ks, IsT wr.heap.size (set4 (wr.setCell ⟨W.heap.size, 3, none⟩ v) (W.heap.size + 1) 0 x) u := fun u hu =>
    (k2 u hu).1.fromS (fun b hb => hother b (by have := hb.2; unfold Mix at this; omega) (by have := hb.2; unfold Mix at this; omega)) (k2 u hu).2
  have hS : ∀ u ∈ ks, BlkT (Mix ns W.heap.size) u := fun u hu => (k2 u hu).2.mono fun b hb => by have := hb.2; unfold Mix at this ⊢; omega
  refine ⟨((x, ks) : TV × List (Tm M)), rfl, ?_, ?_, ?_⟩
  · rw [hsz']
    refine ⟨hkl.symm, ⟨?_, hcl, hlim⟩, hs, ?_⟩
    · show len ≤ _
      omega
    · rcases hoc with ⟨_, hn⟩ | ⟨g, cp, hv2, hg1, hg2, hcells⟩
      · left
        show ks = []
        apply List.length_eq_zero_iff.1
        rw [hkl, ← hl, hn]; rfl
      · right
        rw [hv] at hv2
        simp at hv2
        obtain ⟨e1, _, _⟩ := hv2
        refine ⟨g, 0, e1, hg2, fun j u hu => ⟨?_, hT u (List.mem_of_getElem? hu)⟩⟩
        rw [Nat.zero_add]
        have hu' : ks[j]? = some u := hu
        have : l[j]? = some u.tv := by rw [← k1, List.getElem?_map, hu']; rfl
        exact (hcells j u.tv this).kept (hother g (by omega) (by omega))
  · refine ⟨?_, hS⟩
    rcases hoc with ⟨_, hn⟩ | ⟨g, cp, hv2, hg1, hg2, hcells⟩
    · left
      show ks = []
      apply List.length_eq_zero_iff.1
      rw [hkl, ← hl, hn]; rfl
    · right
      rw [hv] at hv2
      simp at hv2
      obtain ⟨e1, _, _⟩ := hv2
      exact ⟨g, 0, e1, by unfold Mix; omega⟩
  · rw [code_succ, k3]; rfl

end Go.Proofs.YtjdanfhbccpnpaaDoor

/- The contracts of hornref.Binds, hornlaw.none and hornref.SameBinds. -/
namespace Go.Proofs.YtjdanfhbccpnpaaDoor
open Go.RowKit Go.Shelf

set_option maxHeartbeats 400000 in
theorem none_any (x : TV) (w : World) : Calls Tryd.prog 12 #[x.val] w fun e W' => e = .returned (.bool (decide (x.k = 0) && (decide (x.N = 0) && (decide (x.s.toList = []) && ((x.len : Int) == 0))))) ∧ Below w.heap.size w W' := by
  simp only [TV.val]
  go_enter Tryd.func12, Tryd.ntmps12
  go_wp2
  all_goals go_ret
  all_goals refine ⟨?_, (Below.refl _ w).alloc (Nat.le_refl _) _⟩
  all_goals simp_all

end Go.Proofs.YtjdanfhbccpnpaaDoor

