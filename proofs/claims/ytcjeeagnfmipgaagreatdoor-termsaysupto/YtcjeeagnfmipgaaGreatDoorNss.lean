import Derived.Test.YtcjeeagnfmipgaaGreatDoorLr
import Derived.Test.YtcjeeagnfmipgaaGreatDoorSs
import Derived.Test.YtcjeeagnfmipgaaGreatDoorDs
import Derived.Maps.RangeWalk
import Derived.Maps.OwnSet
import Derived.Maps.Views
/- Terms in new memory, where only the blocks of a state change. -/
namespace Go.Proofs.YtcjeeagnfmipgaaGreatDoor
open Go.RowKit Go.Shelf

theorem IsT.grb {X : Nat → Prop} {lo : Nat} {A W : World} (h : GrB X A.heap.size A W) (hX : ∀ k, X k → k < lo) {n : Nat} {t : Tm n} (hT : IsT A.heap.size A t) (hN : NewT lo t) : IsT W.heap.size W t :=
  (hT.fromS (S := fun b => lo ≤ b ∧ b < A.heap.size) (fun b hb => h.block b hb.2 (fun hx => by have := hX b hx; have := hb.1; omega)) (hN.blk.and hT.blk)).mono h.size
theorem IsW.grb {X : Nat → Prop} {lo : Nat} {A W : World} {n : Nat} {t : Tm n} (hT : IsW A.heap.size A t) (h : GrB X A.heap.size A W) (hX : ∀ k, X k → k < lo) (hN : NewT lo t) : IsW W.heap.size W t := fun hl => (hT hl).grb h hX hN
theorem HoldsT.grb {X : Nat → Prop} {D lo : Nat} {A W : World} {v : Value} {c : List Nd} (h : HoldsT D lo A v c) (hg : GrB X A.heap.size A W) (hX : ∀ k, X k → k < lo) : HoldsT D lo W v c := fun m hm => by
  obtain ⟨t, h1, h2, h3, h4⟩ := h m hm
  exact ⟨t, h1, h2.grb hg hX h3.new, h3.kept (fun b hb hlt => hg.block b hlt (fun hx => by have := hX b hx; omega)), h4⟩
end Go.Proofs.YtcjeeagnfmipgaaGreatDoor

/- Whether parts are well made, by their codes. -/
namespace Go.Proofs.YtcjeeagnfmipgaaGreatDoor
open Go.RowKit Go.Shelf

/-- Whether a part is well made, by its node. -/
def okM : Nd → Bool
  | (k, N, s, len) =>
    if k = 1 then decide (0 ≤ N) && decide (N ≤ 1099511627776) && decide (s = []) && ((len : Int) == 0)
    else if k = 2 then decide (s = []) && ((len : Int) == 0)
    else if k = 3 then decide (N = 0) && decide ((s.length : Int) ≤ 100) && ((len : Int) == 0)
    else if k = 4 then decide (N = 0) && decide ((s.length : Int) ≤ 100) && decide (1 ≤ (len : Int)) && decide ((len : Int) ≤ 50)
    else false
theorem bytes_long (s : ByteArray) : s.toList.length = s.size := by rw [ByteArray.toList_eq]; simp
theorem ok_m (x : TV) : x.ok = okM x.nd := by
  show wmB x.k x.N x.s x.len = okM (x.k, x.N, x.s.toList, x.len)
  unfold wmB okM
  rw [← bytes_long]
theorem okT_m {n : Nat} (t : Tm n) : okT t = (code t).all okM := by
  unfold okT code
  rw [List.all_map]
  congr 1
  funext x
  exact ok_m x
end Go.Proofs.YtcjeeagnfmipgaaGreatDoor

/- Keys that are numbers; what a world keeps but for a map's block. -/
namespace Go.Proofs.YtcjeeagnfmipgaaGreatDoor
open Go.RowKit Go.Shelf Go.Maps

theorem Tryz.keyed2 : Keyed Tryz.prog 2 := int_keyed Tryz.underlying2
theorem key_i64 {N : Int} (h0 : 0 ≤ N) (h1 : N ≤ 1099511627776) : keyOf Tryz.prog 2 (.int .i64 N) = some (.int .i64 N) :=
  keyOf_int_mk Tryz.underlying2 (by simp [Lit.wf, IntKind.min, IntKind.max, IntKind.signed, IntKind.bits]; omega)

theorem nodup_le : ∀ (M : Nat) (l : List Nat), l.Nodup → (∀ x ∈ l, x < M) → l.length ≤ M
  | 0, l, _, h => by
    cases l with
    | nil => simp
    | cons a l => have := h a (by simp); omega
  | M + 1, l, hn, h => by
    by_cases hm : M ∈ l
    · have h1 := nodup_le M (l.erase M) (hn.erase _) (fun x hx => by
        have h2 := (List.Nodup.mem_erase_iff hn).1 hx
        have h3 := h x h2.2
        have h4 := h2.1
        omega)
      rw [List.length_erase_of_mem hm] at h1
      omega
    · have h1 := nodup_le M l hn (fun x hx => by
        have h3 := h x hx
        by_cases e : x = M
        · subst e; exact (hm hx).elim
        · omega)
      omega
/-- All but block b is as it was: so what lies below b is. -/
theorem grown_below {A B : World} {b n₀ : Nat} (h : A.grownBy B (some b)) (hb : n₀ ≤ b) (hs : n₀ ≤ A.heap.size) : Below n₀ A B :=
  ⟨h.os, h.tape, h.output, h.size, fun k hk => h.block k (by omega) (by simp; omega)⟩
theorem below_grown {A B : World} (b : Nat) (h : Below A.heap.size A B) : A.grownBy B (some b) := ⟨h.os, h.tape, h.output, h.size, fun k hk _ => h.block k hk⟩
theorem grown_trans {A B C : World} {b : Nat} (h : A.grownBy B (some b)) (k : B.grownBy C (some b)) : A.grownBy C (some b) :=
  ⟨k.os.trans h.os, k.tape.trans h.tape, k.output.trans h.output, Nat.le_trans h.size k.size, fun i hi hne => (k.block i (Nat.lt_of_lt_of_le hi h.size) hne).trans (h.block i hi hne)⟩
theorem gcell {A B : World} {b : Nat} (h : A.grownBy B (some b)) : ∀ k o, k < A.heap.size → k ≠ b → B.cell? ⟨k, o, none⟩ = A.cell? ⟨k, o, none⟩ := fun k o hk hne => World.cell?_of_block (a := ⟨k, o, none⟩) (h.block k hk (by simp; exact hne))
theorem isT_grown {A B : World} {b n₀ : Nat} (h : A.grownBy B (some b)) (hb : n₀ ≤ b) (hs : n₀ ≤ A.heap.size) {n : Nat} {t : Tm n} (hT : IsT n₀ A t) : IsT n₀ B t := hT.below (grown_below h hb hs)
end Go.Proofs.YtcjeeagnfmipgaaGreatDoor

