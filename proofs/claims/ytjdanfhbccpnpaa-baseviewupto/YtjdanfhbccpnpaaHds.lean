import Derived.Test.YtjdanfhbccpnpaaHc
import Derived.Test.YtjdanfhbccpnpaaUs
import Derived.Test.YtjdanfhbccpnpaaJ
/- Terms that share memory: Same by codes; rows that were made. -/
namespace Go.Proofs.Ytjdanfhbccpnpaa
open Go.RowKit Go.Shelf

theorem HoldsT.shared {D lo : Nat} {W : World} {v : Value} {c : List Nd} (h : HoldsT D lo W v c) {S : Nat → Prop} (hS : ∀ b, lo ≤ b → S b) : HoldsS D S W v c := fun m hm hl => by
  obtain ⟨t, h1, h2, h3, h4⟩ := h m hm
  exact ⟨t, h1, h2 hl, h3.new.blk.mono hS, h4⟩
theorem owns_base {W : World} {base base' : Nat} {e : TypeId} {sz : Nat} {v : Value} {n : Nat} {xs : List Value} (h : W.ownsRow base e sz v n xs) (hb : base' ≤ base) : W.ownsRow base' e sz v n xs := by
  obtain ⟨h1, h2⟩ := h
  refine ⟨h1, ?_⟩
  rcases h2 with h2 | ⟨g, cap, cur, hv, hg, r⟩
  · exact .inl h2
  · exact .inr ⟨g, cap, cur, hv, Nat.le_trans hb hg, r⟩
theorem Made.base {D : Nat} {S S' : Nat → Prop} {base base' : Nat} {W : World} {v : Value} {l : List TV} {c : List Nd} (h : Made D S base W v l c) (hb : base' ≤ base) (hS : ∀ b, S b → S' b) : Made D S' base' W v l c :=
  ⟨owns_base h.owns hb, fun M hM hl => by
    obtain ⟨ks, k1, k2, k3⟩ := h.kids M hM hl
    exact ⟨ks, k1, fun u hu => ⟨(k2 u hu).1, (k2 u hu).2.mono fun b hb => ⟨hb.1, hS b hb.2⟩⟩, k3⟩⟩
theorem same_mix {D D' lo : Nat} {S : Nat → Prop} {W : World} {v v' : Value} {c : List Nd} (h : HoldsT D lo W v c) (h' : HoldsS D' S W v' c) (hD : D + D' ≤ 2199023255552 := by omega) :
    Calls Try.prog 12 #[v, v'] W fun e W' => e = .returned (.bool true) ∧ Below W.heap.size W W' := by
  obtain ⟨t, rfl, hT, -, hc⟩ := h (D + D') (by omega)
  obtain ⟨t', rfl, hT', -, hc'⟩ := h' (D + D') (by omega) hD
  have hT := hT hD
  have hs := same_any _ t t' W hT hT'
  rw [sameT_code hT.wl hT'.wl, hc, hc'] at hs
  simpa using hs
end Go.Proofs.Ytjdanfhbccpnpaa

/- Whether parts are well made, by their codes. -/
namespace Go.Proofs.Ytjdanfhbccpnpaa
open Go.RowKit Go.Shelf

/-- Whether a part is well made, by its node. -/
def okM : Nd → Bool
  | (k, N, s, len) =>
    if k = 1 then decide (0 ≤ N) && decide (N ≤ 1099511627776) && decide (s = []) && ((len : Int) == 0)
    else if k = 2 then decide (s = []) && ((len : Int) == 0)
    else if k = 3 then decide (N = 0) && decide ((s.length : Int) ≤ 100) && ((len : Int) == 0)
    else if k = 4 then decide (N = 0) && decide ((s.length : Int) ≤ 100) && decide (1 ≤ (len : Int)) && decide ((len : Int) ≤ 50)
    else false
theorem bytes_long (s : ByteArray) : s.toList.length = s.size := by rw [ByteArray.toList_eq]; simp
theorem ok_m (x : TV) : x.ok = okM x.nd := by
  show wmB x.k x.N x.s x.len = okM (x.k, x.N, x.s.toList, x.len)
  unfold wmB okM
  rw [← bytes_long]
theorem okT_m {n : Nat} (t : Tm n) : okT t = (code t).all okM := by
  unfold okT code
  rw [List.all_map]
  congr 1
  funext x
  exact ok_m x
end Go.Proofs.Ytjdanfhbccpnpaa

