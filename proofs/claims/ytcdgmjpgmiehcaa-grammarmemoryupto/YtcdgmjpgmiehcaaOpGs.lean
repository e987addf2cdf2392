import Derived.Test.YtcdgmjpgmiehcaaBaBs
import Derived.Test.YtcdgmjpgmiehcaaHcs
import Derived.Test.YtcdgmjpgmiehcaaLr
import Derived.Test.YtcdgmjpgmiehcaaUs
import Derived.Test.YtcdgmjpgmiehcaaTs
import Derived.Maps.RangeWalk
import Derived.Maps.OwnSet
import Derived.Maps.Views
import Derived.Test.YtcdgmjpgmiehcaaJ
import Derived.Deep.RegionHeld3
import Derived.Deep.Cut
/- strings.Split at a blank: the contract. -/
namespace Go.Proofs.Ytcdgmjpgmiehcaa
open Go.RowKit Go.Shelf Go.Maps

end Go.Proofs.Ytcdgmjpgmiehcaa

/- hornref.Reserved. -/
namespace Go.Proofs.Ytcdgmjpgmiehcaa
open Go.RowKit Go.Shelf Go.Maps

def resT0 : ByteArray := ⟨#[116, 114, 117, 101, 32, 102, 97, 105, 108, 32, 33, 32, 110, 108]⟩
def resN0 : List ByteArray := [⟨#[116, 114, 117, 101]⟩, ⟨#[102, 97, 105, 108]⟩, ⟨#[33]⟩, ⟨#[110, 108]⟩]
theorem resS0 : Lib.splitB ⟨#[32]⟩ 0 (Lib.countB resT0 ⟨#[32]⟩) resT0 = resN0 := by kernel_rfl
theorem resC0 : Lib.countB resT0 ⟨#[32]⟩ + 1 = 4 := by kernel_rfl
theorem resZ0 : resT0.size < 4294967281 := by decide +kernel
theorem resL0 : resN0.length = 4 := by decide +kernel
def resT1 : ByteArray := ⟨([92, 43, 32, 116, 104, 114, 111, 119, 32, 118, 97, 114, 32, 110, 111, 110, 118, 97, 114, 32, 97, 116, 111, 109, 32, 105, 110, 116, 101, 103, 101, 114, 32, 97, 116, 111, 109, 105, 99, 32, 99, 111, 109, 112, 111, 117, 110, 100].append [32, 99, 97, 108, 108, 97, 98, 108, 101, 32, 103, 114, 111, 117, 110, 100, 32, 97, 115, 115, 101, 114, 116, 122, 32, 97, 115, 115, 101, 114, 116, 97, 32, 114, 101, 116, 114, 97, 99, 116, 32, 112, 114, 105, 110, 116, 32, 58, 45]).toArray⟩
def resN1 : List ByteArray := [⟨#[92, 43]⟩, ⟨#[116, 104, 114, 111, 119]⟩, ⟨#[118, 97, 114]⟩, ⟨#[110, 111, 110, 118, 97, 114]⟩, ⟨#[97, 116, 111, 109]⟩, ⟨#[105, 110, 116, 101, 103, 101, 114]⟩, ⟨#[97, 116, 111, 109, 105, 99]⟩, ⟨#[99, 111, 109, 112, 111, 117, 110, 100]⟩, ⟨#[99, 97, 108, 108, 97, 98, 108, 101]⟩, ⟨#[103, 114, 111, 117, 110, 100]⟩, ⟨#[97, 115, 115, 101, 114, 116, 122]⟩, ⟨#[97, 115, 115, 101, 114, 116, 97]⟩, ⟨#[114, 101, 116, 114, 97, 99, 116]⟩, ⟨#[112, 114, 105, 110, 116]⟩, ⟨#[58, 45]⟩]
theorem resS1 : Lib.splitB ⟨#[32]⟩ 0 (Lib.countB resT1 ⟨#[32]⟩) resT1 = resN1 := by kernel_rfl
theorem resC1 : Lib.countB resT1 ⟨#[32]⟩ + 1 = 15 := by kernel_rfl
theorem resZ1 : resT1.size < 4294967281 := by decide +kernel
theorem resL1 : resN1.length = 15 := by decide +kernel
def resT2 : ByteArray := ⟨([44, 32, 59, 32, 45, 62, 32, 61, 32, 92, 61, 32, 61, 61, 32, 92, 61, 61, 32, 64, 60, 32, 64, 62, 32, 64, 61, 60, 32, 64, 62, 61, 32, 61, 46, 46, 32, 99, 111, 112, 121, 95, 116, 101, 114, 109, 32, 105, 115, 32, 61, 58, 61, 32].append [61, 92, 61, 32, 60, 32, 62, 32, 61, 60, 32, 62, 61, 32, 97, 116, 111, 109, 95, 108, 101, 110, 103, 116, 104, 32, 97, 116, 111, 109, 95, 99, 104, 97, 114, 115, 32, 108, 101, 110, 103, 116, 104, 32, 115, 111, 114, 116, 32, 58, 45, 32, 45, 45, 62]).toArray⟩
def resN2 : List ByteArray := [⟨#[44]⟩, ⟨#[59]⟩, ⟨#[45, 62]⟩, ⟨#[61]⟩, ⟨#[92, 61]⟩, ⟨#[61, 61]⟩, ⟨#[92, 61, 61]⟩, ⟨#[64, 60]⟩, ⟨#[64, 62]⟩, ⟨#[64, 61, 60]⟩, ⟨#[64, 62, 61]⟩, ⟨#[61, 46, 46]⟩, ⟨#[99, 111, 112, 121, 95, 116, 101, 114, 109]⟩, ⟨#[105, 115]⟩, ⟨#[61, 58, 61]⟩, ⟨#[61, 92, 61]⟩, ⟨#[60]⟩, ⟨#[62]⟩, ⟨#[61, 60]⟩, ⟨#[62, 61]⟩, ⟨#[97, 116, 111, 109, 95, 108, 101, 110, 103, 116, 104]⟩, ⟨#[97, 116, 111, 109, 95, 99, 104, 97, 114, 115]⟩, ⟨#[108, 101, 110, 103, 116, 104]⟩, ⟨#[115, 111, 114, 116]⟩, ⟨#[58, 45]⟩, ⟨#[45, 45, 62]⟩]
theorem resS2 : Lib.splitB ⟨#[32]⟩ 0 (Lib.countB resT2 ⟨#[32]⟩) resT2 = resN2 := by kernel_rfl
theorem resC2 : Lib.countB resT2 ⟨#[32]⟩ + 1 = 26 := by kernel_rfl
theorem resZ2 : resT2.size < 4294967281 := by decide +kernel
theorem resL2 : resN2.length = 26 := by decide +kernel
def resT3 : ByteArray := ⟨#[99, 97, 116, 99, 104, 32, 102, 105, 110, 100, 97, 108, 108, 32, 99, 111, 109, 112, 97, 114, 101, 32, 102, 117, 110, 99, 116, 111, 114, 32, 97, 114, 103, 32, 98, 101, 116, 119, 101, 101, 110]⟩
def resN3 : List ByteArray := [⟨#[99, 97, 116, 99, 104]⟩, ⟨#[102, 105, 110, 100, 97, 108, 108]⟩, ⟨#[99, 111, 109, 112, 97, 114, 101]⟩, ⟨#[102, 117, 110, 99, 116, 111, 114]⟩, ⟨#[97, 114, 103]⟩, ⟨#[98, 101, 116, 119, 101, 101, 110]⟩]
theorem resS3 : Lib.splitB ⟨#[32]⟩ 0 (Lib.countB resT3 ⟨#[32]⟩) resT3 = resN3 := by kernel_rfl
theorem resC3 : Lib.countB resT3 ⟨#[32]⟩ + 1 = 6 := by kernel_rfl
theorem resZ3 : resT3.size < 4294967281 := by decide +kernel
theorem resL3 : resN3.length = 6 := by decide +kernel
/-- Is a predicate reserved? -/
def resB (s : List UInt8) (n : Int) : Bool :=
  if s == [99, 97, 108, 108] then decide (1 ≤ n) && decide (n ≤ 8)
  else if n = 0 then resN0.any fun x => x.toList == s
  else if n = 1 then resN1.any fun x => x.toList == s
  else if n = 2 then resN2.any fun x => x.toList == s
  else if n = 3 then resN3.any fun x => x.toList == s
  else false
theorem names_cell {w : World} (L : List ByteArray) {j : Nat} {x : ByteArray} (h : L[j]? = some x) : (w.alloc (.cells (L.map Value.string).toArray 9)).cell? ⟨w.heap.size, j, none⟩ = some (.string x) := by
  have hb := World.alloc_heap_new w (.cells (L.map Value.string).toArray 9)
  simp only [World.cell?, hb]
  simp [h]
end Go.Proofs.Ytcdgmjpgmiehcaa

/- Terms in new memory, where only the blocks of a state change. -/
namespace Go.Proofs.Ytcdgmjpgmiehcaa
open Go.RowKit Go.Shelf

theorem IsT.grb {X : Nat → Prop} {lo : Nat} {A W : World} (h : GrB X A.heap.size A W) (hX : ∀ k, X k → k < lo) {n : Nat} {t : Tm n} (hT : IsT A.heap.size A t) (hN : NewT lo t) : IsT W.heap.size W t :=
  (hT.fromS (S := fun b => lo ≤ b ∧ b < A.heap.size) (fun b hb => h.block b hb.2 (fun hx => by have := hX b hx; have := hb.1; omega)) (hN.blk.and hT.blk)).mono h.size
theorem IsW.grb {X : Nat → Prop} {lo : Nat} {A W : World} {n : Nat} {t : Tm n} (hT : IsW A.heap.size A t) (h : GrB X A.heap.size A W) (hX : ∀ k, X k → k < lo) (hN : NewT lo t) : IsW W.heap.size W t := fun hl => (hT hl).grb h hX hN
theorem HoldsT.grb {X : Nat → Prop} {D lo : Nat} {A W : World} {v : Value} {c : List Nd} (h : HoldsT D lo A v c) (hg : GrB X A.heap.size A W) (hX : ∀ k, X k → k < lo) : HoldsT D lo W v c := fun m hm => by
  obtain ⟨t, h1, h2, h3, h4⟩ := h m hm
  exact ⟨t, h1, h2.grb hg hX h3.new, h3.kept (fun b hb hlt => hg.block b hlt (fun hx => by have := hX b hx; omega)), h4⟩
end Go.Proofs.Ytcdgmjpgmiehcaa

/- Numbering variables: mathematics. -/
namespace Go.Proofs.Ytcdgmjpgmiehcaa
open Go.RowKit Go.Shelf

def stpN (c : List Int) (N : Int) : List Int := if N ∈ c then c else c ++ [N]
def renN (f : Int) (c : List Int) (N : Int) : List Nd := [varNd (f + (c.idxOf N : Nat))]
theorem stpN_ext (c : List Int) (N : Int) : ∃ d, stpN c N = c ++ d := by
  unfold stpN
  split
  · exact ⟨[], by simp⟩
  · exact ⟨[N], rfl⟩
theorem stpN_mem (c : List Int) (N : Int) : N ∈ stpN c N := by
  unfold stpN
  split
  · assumption
  · simp
theorem stepsN_ext : ∀ (l : List Nd) (c : List Int), ∃ d, stepsN stpN c l = c ++ d
  | [], c => ⟨[], by simp [stepsN]⟩
  | x :: l, c => by
    have e : stepsN stpN c (x :: l) = stepsN stpN (if x.1 = 1 then stpN c x.2.1 else c) l := rfl
    rw [e]
    obtain ⟨d, hd⟩ := stepsN_ext l (if x.1 = 1 then stpN c x.2.1 else c)
    rw [hd]
    split
    · obtain ⟨d', hd'⟩ := stpN_ext c x.2.1
      exact ⟨d' ++ d, by rw [hd', List.append_assoc]⟩
    · exact ⟨d, rfl⟩
theorem idxOf_ext {c : List Int} {N : Int} (h : N ∈ c) (d : List Int) : (c ++ d).idxOf N = c.idxOf N := by
  rw [List.idxOf_append, if_pos h]

theorem varV_holds (M : Int) (lo : Nat) (W : World) : HoldsT 1 lo W (varV M).val [varNd M] := by
  have hh := holds_leaf (varV M) rfl rfl rfl (by simp [varV, ByteArray.size]) lo W
  rw [varV_nd] at hh
  exact hh
end Go.Proofs.Ytcdgmjpgmiehcaa

/- Rows of numbers: the contracts of hornref.Has and hornref.SameNumbers. -/
namespace Go.Proofs.Ytcdgmjpgmiehcaa
open Go.RowKit Go.Shelf Go.Maps

def i64s (l : List Int) : List Value := l.map (Value.int .i64)
/-- Numbers that lie in a row. -/
def IsN (W : World) (a : Option Addr) (len : Nat) (ns : List Int) : Prop :=
  len = ns.length ∧ len ≤ 1152921504606846976 ∧ (ns = [] ∨ ∃ b off, a = some ⟨b, off, none⟩ ∧ b < W.heap.size ∧ ∀ (j : Nat) N, ns[j]? = some N → W.cell? ⟨b, off + j, none⟩ = some (.int .i64 N))
theorem IsN.below {W W' : World} {a : Option Addr} {len : Nat} {ns : List Int} (h : IsN W a len ns) (hb : Below W.heap.size W W') : IsN W' a len ns := by
  obtain ⟨h1, h2, h3⟩ := h
  refine ⟨h1, h2, ?_⟩
  rcases h3 with h3 | ⟨b, off, ha, hlt, hk⟩
  · exact .inl h3
  · exact .inr ⟨b, off, ha, Nat.lt_of_lt_of_le hlt hb.size, fun j N hj => (hb.cell (p := ⟨b, off + j, none⟩) hlt).trans (hk j N hj)⟩
/-- A row of numbers of the call's own. -/
def OwnN (base : Nat) (W : World) (v : Value) (ns : List Int) : Prop := W.ownsRow base 2 1 v ns.length (i64s ns)
theorem OwnN.isN {base : Nat} {W : World} {v : Value} {ns : List Int} (h : OwnN base W v ns) (hl : ns.length ≤ 1152921504606846976) : ∃ a cap, v = .slice a ns.length cap ∧ IsN W a ns.length ns := by
  obtain ⟨_, h2⟩ := h
  rcases h2 with ⟨hv, hn⟩ | ⟨g, cap, cur, hv, hg, hb, _, _, _, htk⟩
  · exact ⟨none, 0, by rw [hv, hn], rfl, hl, .inl (List.length_eq_zero_iff.1 hn)⟩
  · refine ⟨_, cap, hv, rfl, hl, .inr ⟨g, 0, rfl, (Array.getElem?_eq_some_iff.1 hb).1, fun j N hj => ?_⟩⟩
    have hj' : (i64s ns)[j]? = some (.int .i64 N) := by unfold i64s; rw [List.getElem?_map, hj]; rfl
    rw [← htk, List.getElem?_take] at hj'
    split at hj'
    · simp [World.cell?, hb]
      simpa using hj'
    · cases hj'
theorem OwnN.nil (base : Nat) (W : World) : OwnN base W (.slice none 0 0) [] := ⟨rfl, .inl ⟨rfl, rfl⟩⟩
/-- The j-th number. -/
theorem num_at {W : World} {a : Option Addr} {len : Nat} {ns : List Int} (h : IsN W a len ns) {j : Nat} (hj : j < len) : ∃ N b off, ns[j]? = some N ∧ a = some ⟨b, off, none⟩ ∧ W.cell? ⟨b, off + j, none⟩ = some (.int .i64 N) := by
  obtain ⟨h1, _, h3⟩ := h
  obtain ⟨N, hN⟩ : ∃ N, ns[j]? = some N := ⟨ns[j]'(by omega), List.getElem?_eq_getElem (by omega)⟩
  have hne : ns ≠ [] := by rintro rfl; simp at hN
  obtain ⟨b, off, ha, _, hk⟩ := h3.resolve_left hne
  exact ⟨N, b, off, hN, ha, hk j N hN⟩

/-- What Has answers. -/
def hasI (ns : List Int) (N : Int) : Int := if N ∈ ns then (ns.idxOf N : Nat) else -1
theorem hasI_at {ns : List Int} {N : Int} {j : Nat} (h : ns[j]? = some N) (hn : ∀ i M, ns[i]? = some M → i < j → M ≠ N) : hasI ns N = (j : Nat) := by
  unfold hasI
  rw [if_pos (List.mem_of_getElem? h)]
  obtain ⟨hj, hjN⟩ := List.getElem?_eq_some_iff.1 h
  have h1 : ns.idxOf N < ns.length := List.idxOf_lt_length_of_mem (List.mem_of_getElem? h)
  have h2 : ns[ns.idxOf N] = N := List.getElem_idxOf h1
  have h3 : ¬ ns.idxOf N < j := fun hlt => hn _ _ (List.getElem?_eq_getElem h1) hlt h2
  have h4 : ¬ j < ns.idxOf N := fun hlt => by
    have := List.not_of_lt_findIdx (p := (· == N)) (xs := ns) (i := j) hlt
    simp [hjN] at this
  have : ns.idxOf N = j := by omega
  rw [this]
theorem hasI_no {ns : List Int} {N : Int} (h : N ∉ ns) : hasI ns N = -1 := if_neg h
theorem hasI_neg {ns : List Int} {N : Int} : hasI ns N < 0 ↔ N ∉ ns := by
  unfold hasI
  split <;> simp_all

end Go.Proofs.Ytcdgmjpgmiehcaa

/- The contracts of hornref.vars and of hornref.Vars at one term: the variables, in the order of their coming. -/
namespace Go.Proofs.Ytcdgmjpgmiehcaa
open Go.RowKit Go.Shelf Go.Maps

theorem Try.infoN : (Try.prog.info? 2).map (fun i => (i.zero, i.size, i.bytes)) = some (some (.int .i64 0), 1, 8) := by kernel_rfl
theorem OwnN.kept {base : Nat} {W W' : World} {v : Value} {ns : List Int} (h : OwnN base W v ns) (hb : ∀ g, v.ownBlock = some g → W'.heap[g]? = W.heap[g]?) : OwnN base W' v ns := owns_below h hb
theorem OwnN.lt {base : Nat} {W : World} {v : Value} {ns : List Int} (h : OwnN base W v ns) {g : Nat} (hg : v.ownBlock = some g) : base ≤ g ∧ g < W.heap.size := owns_lt h hg
theorem OwnN.slice {base : Nat} {W : World} {v : Value} {ns : List Int} (h : OwnN base W v ns) : ∃ a cap, v = .slice a ns.length cap := by
  obtain ⟨_, h2⟩ := h
  rcases h2 with ⟨hv, hn⟩ | ⟨g, cap, cur, hv, _⟩
  · exact ⟨none, 0, by rw [hv, hn]⟩
  · exact ⟨_, cap, hv⟩
/-- A row that has grown: the row, and that of what lay only the row's own block may be another. -/
structure GrownN (base : Nat) (v : Value) (W : World) (v' : Value) (ns : List Int) (W' : World) : Prop where
  own : OwnN base W' v' ns
  grb : GrB (fun k => v.ownBlock = some k) W.heap.size W W'
  blk : v'.ownBlock = v.ownBlock ∨ ∀ g, v'.ownBlock = some g → W.heap.size ≤ g
theorem GrownN.refl {base : Nat} {v : Value} {W : World} {ns : List Int} (h : OwnN base W v ns) : GrownN base v W v ns W := ⟨h, GrB.refl _ _ _, .inl rfl⟩
theorem GrownN.trans {base : Nat} {v v1 v2 : Value} {W W1 W2 : World} {ns ns' : List Int} (h : GrownN base v W v1 ns W1) (k : GrownN base v1 W1 v2 ns' W2) : GrownN base v W v2 ns' W2 := by
  have hs := h.grb.size
  refine ⟨k.own, h.grb.trans ⟨k.grb.os, k.grb.tape, k.grb.output, k.grb.size, fun b hb hne => k.grb.block b (by omega) fun e => ?_⟩, ?_⟩
  · rcases h.blk with e' | e'
    · exact hne (e' ▸ e)
    · have := e' b e; omega
  · rcases k.blk with e | e
    · rw [e]; exact h.blk
    · exact .inr fun g hg => by have := e g hg; omega

theorem one_new {W : World} {N : Int} : ∀ j u, ([.int .i64 N] : List Value)[j]? = some u → (W.alloc (.cells #[.int .i64 N] 2)).cell? ((⟨W.heap.size, 0, none⟩ : Addr).add j) = some u := by
  intro j u hj
  rw [addr_add, Nat.zero_add]
  match j, hj with
  | 0, hj => simp at hj; subst hj; simp
  | j + 1, hj => simp at hj
theorem one_one {N : Int} : ∀ u ∈ ([.int .i64 N] : List Value), u.oneCell' = true := by
  intro u hu
  simp at hu
  subst hu
  rfl

/-- The variables of a term, behind those that there are. -/
abbrev varsC (acc : List Int) (c : List Nd) : List Int := stepsN stpN acc c
theorem varsC_len (acc : List Int) (c : List Nd) : (varsC acc c).length ≤ acc.length + c.length := by
  induction c generalizing acc with
  | nil => simp [varsC, stepsN]
  | cons x c ih =>
    have e : varsC acc (x :: c) = varsC (if x.1 = 1 then stpN acc x.2.1 else acc) c := rfl
    rw [e]
    refine Nat.le_trans (ih _) ?_
    simp only [List.length_cons]
    split
    · unfold stpN
      split
      · omega
      · simp; omega
    · omega

end Go.Proofs.Ytcdgmjpgmiehcaa

/- A term renumbered, by its code: mathematics. -/
namespace Go.Proofs.Ytcdgmjpgmiehcaa
open Go.RowKit Go.Shelf

/-- The variables of a row of parts get numbers from f on, in the order of their coming. -/
def canon (f : Int) (c : List Nd) : List Nd := c.flatMap (subN (renN f (stepsN stpN [] c)))
def IsVarOf (c : List Nd) (N : Int) : Prop := ∃ x ∈ c, x.1 = 1 ∧ x.2.1 = N
theorem sub_congr_on {σ τ : Int → List Nd} {c : List Nd} (h : ∀ N, IsVarOf c N → σ N = τ N) : c.flatMap (subN σ) = c.flatMap (subN τ) :=
  flatMap_same c fun x hx => by
    unfold subN
    by_cases hk : x.1 = 1
    · rw [if_pos hk, if_pos hk, h _ ⟨x, hx, hk, rfl⟩]
    · rw [if_neg hk, if_neg hk]
theorem steps_mem : ∀ (c : List Nd) (acc : List Int) (N : Int), N ∈ stepsN stpN acc c ↔ N ∈ acc ∨ IsVarOf c N
  | [], acc, N => by simp [stepsN, IsVarOf]
  | x :: c, acc, N => by
    have e : stepsN stpN acc (x :: c) = stepsN stpN (if x.1 = 1 then stpN acc x.2.1 else acc) c := rfl
    rw [e, steps_mem c]
    have hv : IsVarOf (x :: c) N ↔ (x.1 = 1 ∧ x.2.1 = N) ∨ IsVarOf c N := by
      unfold IsVarOf
      constructor
      · rintro ⟨y, hy, h⟩
        rcases List.mem_cons.1 hy with rfl | hy
        · exact .inl h
        · exact .inr ⟨y, hy, h⟩
      · rintro (h | ⟨y, hy, h⟩)
        · exact ⟨x, by simp, h⟩
        · exact ⟨y, by simp [hy], h⟩
    rw [hv]
    by_cases hk : x.1 = 1
    · rw [if_pos hk]
      unfold stpN
      split
      · rename_i hm
        constructor
        · rintro (h | h)
          · exact .inl h
          · exact .inr (.inr h)
        · rintro (h | ⟨_, rfl⟩ | h)
          · exact .inl h
          · exact .inl hm
          · exact .inr h
      · constructor
        · rintro (h | h)
          · rcases List.mem_append.1 h with h | h
            · exact .inl h
            · simp at h; exact .inr (.inl ⟨hk, h.symm⟩)
          · exact .inr (.inr h)
        · rintro (h | ⟨_, rfl⟩ | h)
          · exact .inl (List.mem_append_left _ h)
          · exact .inl (List.mem_append_right _ (by simp))
          · exact .inr h
    · rw [if_neg hk]
      constructor
      · rintro (h | h)
        · exact .inl h
        · exact .inr (.inr h)
      · rintro (h | ⟨h, _⟩ | h)
        · exact .inl h
        · exact (hk h).elim
        · exact .inr h
end Go.Proofs.Ytcdgmjpgmiehcaa

/- The contracts of hornref.Swap and hornref.Rename: variables get new numbers. -/
namespace Go.Proofs.Ytcdgmjpgmiehcaa
open Go.RowKit Go.Shelf Go.Maps

theorem steps_all {c : List Nd} : ∀ N, IsVarOf c N → N ∈ varsC [] c := fun N h => (steps_mem c [] N).2 (.inr h)
theorem ret_same {v v' : Value} (h : v = v') : Ending.returned v = .returned v' := by rw [h]

end Go.Proofs.Ytcdgmjpgmiehcaa

/- Whether parts are well made, by their codes. -/
namespace Go.Proofs.Ytcdgmjpgmiehcaa
open Go.RowKit Go.Shelf

/-- Whether a part is well made, by its node. -/
def okM : Nd → Bool
  | (k, N, s, len) =>
    if k = 1 then decide (0 ≤ N) && decide (N ≤ 1099511627776) && decide (s = []) && ((len : Int) == 0)
    else if k = 2 then decide (s = []) && ((len : Int) == 0)
    else if k = 3 then decide (N = 0) && decide ((s.length : Int) ≤ 100) && ((len : Int) == 0)
    else if k = 4 then decide (N = 0) && decide ((s.length : Int) ≤ 100) && decide (1 ≤ (len : Int)) && decide ((len : Int) ≤ 50)
    else false
theorem bytes_long (s : ByteArray) : s.toList.length = s.size := by rw [ByteArray.toList_eq]; simp
theorem ok_m (x : TV) : x.ok = okM x.nd := by
  show wmB x.k x.N x.s x.len = okM (x.k, x.N, x.s.toList, x.len)
  unfold wmB okM
  rw [← bytes_long]
theorem okT_m {n : Nat} (t : Tm n) : okT t = (code t).all okM := by
  unfold okT code
  rw [List.all_map]
  congr 1
  funext x
  exact ok_m x
end Go.Proofs.Ytcdgmjpgmiehcaa

/- hornref.Vars of two terms; what hornref.Make begins with. -/
namespace Go.Proofs.Ytcdgmjpgmiehcaa
open Go.RowKit Go.Shelf

end Go.Proofs.Ytcdgmjpgmiehcaa

/- hornref.Make. -/
namespace Go.Proofs.Ytcdgmjpgmiehcaa
open Go.RowKit Go.Shelf

/-- A clause's eight cells. -/
def clV (x y : TV) : Value := .agg #[.int .i64 x.k, .int .i64 x.N, .string x.s, .slice x.a x.len x.cap, .int .i64 y.k, .int .i64 y.N, .string y.s, .slice y.a y.len y.cap]
def set8 (W : World) (b : Nat) (x y : TV) : World := set4 (set4 W b 0 x) b 4 y
theorem set8_below {n : Nat} {A W : World} (h : Below n A W) {b : Nat} (hb : n ≤ b) (x y : TV) : Below n A (set8 W b x y) := set4_below (set4_below h hb 0 x) hb 4 y
theorem mix_set8 {D ns lo : Nat} {W : World} {v : Value} {c : List Nd} (h : HoldsS D (Mix ns lo) W v c) {b : Nat} (h1 : ns ≤ b) (h2 : b < lo) (x y : TV) : HoldsS D (Mix ns lo) (set8 W b x y) v c := mix_set4 (mix_set4 h h1 h2 0 x) h1 h2 4 y
def trueL : List UInt8 := [116, 114, 117, 101]
/-- The numbers that the variables of a clause get. -/
def clVars (h b : List Nd) : List Int := varsC (varsC [] h) b
def clRen (h b c : List Nd) : List Nd := c.flatMap (subN (renN 0 (clVars h b)))
/-- May a term not be a head? -/
def headBad (x : TV) : Bool := decide (x.k = 1) || (decide (x.k = 2) || resB x.s.toList x.len)
def makeJ (bad : Bool) (h : List Nd) : Option (List Nd) → Option (List Nd × List Nd)
  | none => none
  | some b => if bad = true then none else some (clRen h b h, clRen h b b)
/-- What Make answers: both terms of a clause. -/
def ClIs (D lo : Nat) (W : World) (x y : TV) : Option (List Nd × List Nd) → Prop
  | some (h, b) => HoldsS D (Mix 0 lo) W x.val h ∧ HoldsS D (Mix 0 lo) W y.val b
  | none => x = noTerm ∧ y = noTerm
def ClSays (D lo : Nat) (r : Option (List Nd × List Nd)) (e : Ending) (W' : World) : Prop := ∃ x y : TV, e = .returned (.tuple #[clV x y, .bool r.isSome]) ∧ ClIs D lo W' x y r
theorem clVars_mem_h {h b : List Nd} : ∀ N, IsVarOf h N → N ∈ clVars h b := fun N hN => (steps_mem b _ N).2 (.inl ((steps_mem h [] N).2 (.inr hN)))
theorem clVars_mem_b {h b : List Nd} : ∀ N, IsVarOf b N → N ∈ clVars h b := fun N hN => (steps_mem b _ N).2 (.inr hN)
theorem clVars_len (h b : List Nd) : (clVars h b).length ≤ h.length + b.length := by
  have h1 := varsC_len [] h
  have h2 := varsC_len (varsC [] h) b
  simp only [List.length_nil, Nat.zero_add] at h1
  unfold clVars
  omega
end Go.Proofs.Ytcdgmjpgmiehcaa

