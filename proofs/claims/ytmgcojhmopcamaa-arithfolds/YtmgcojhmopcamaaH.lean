import Derived.Test.YtmgcojhmopcamaaF
import Derived.Test.YtmgcojhmopcamaaD
/- The contracts of term.checkAll and term.Compare: the first answers 0 where all that it is handed are terms, else 2; the second the order of two terms. -/
namespace Go.Proofs.Ytmgcojhmopcamaa
open Go.RowKit Go.Shelf

/-- What checkAll answers. -/
def chkL {n : Nat} (ts : List (Tm n)) : Int := if ts.all okT then 0 else 2
theorem chkL_yes {n : Nat} {ts : List (Tm n)} (h : ts.all okT = true) : chkL ts = 0 := if_pos h
theorem chkL_no {n : Nat} {ts : List (Tm n)} (h : ts.all okT = false) : chkL ts = 2 := if_neg (by simp [h])
theorem chk_zero {n : Nat} {t : Tm n} : chk t = 0 ↔ okT t = true := by
  unfold chk; split <;> simp_all
theorem all_no {n : Nat} {ts : List (Tm n)} {j : Nat} {u : Tm n} (h : ts[j]? = some u) (hu : okT u = false) : ts.all okT = false := by
  rw [List.all_eq_false]
  exact ⟨u, List.mem_of_getElem? h, by simp [hu]⟩

/-- Two terms, one behind the other in a new block. -/
theorem pair_lies {n : Nat} {x y : Tm n} {w : World} (hx : IsT w.heap.size w x) (hy : IsT w.heap.size w y) (W : World) (hb : Below w.heap.size w W) :
    let W' := W.alloc (.cells #[.int .i64 x.tv.k, .int .i64 x.tv.N, .string x.tv.s, .slice x.tv.a x.tv.len x.tv.cap, .int .i64 y.tv.k, .int .i64 y.tv.N, .string y.tv.s, .slice y.tv.a y.tv.len y.tv.cap] 24)
    ([x, y] : List (Tm n)) = [] ∨ ∃ b off, some (⟨W.heap.size, 0, none⟩ : Addr) = some ⟨b, off, none⟩ ∧ b < W'.heap.size ∧ ∀ j u, ([x, y] : List (Tm n))[j]? = some u → cellsAt W' b (off + j * 4) u.tv ∧ IsT W'.heap.size W' u := by
  intro W'
  have hb' : Below w.heap.size w W' := hb.alloc hb.size _
  have hsz : W'.heap.size = W.heap.size + 1 := by simp [W']
  have hle : w.heap.size ≤ W'.heap.size := hb'.size
  refine .inr ⟨W.heap.size, 0, rfl, by omega, fun j u hu => ?_⟩
  match j, hu with
  | 0, hu =>
    simp at hu; subst hu
    exact ⟨⟨by simp [W'], by simp [W'], by simp [W'], by simp [W']⟩, (hx.below hb').mono hle⟩
  | 1, hu =>
    simp at hu; subst hu
    exact ⟨⟨by simp [W'], by simp [W'], by simp [W'], by simp [W']⟩, (hy.below hb').mono hle⟩
  | j + 2, hu => simp at hu

/-- Two boxes and a pair of terms laid, and a callee that keeps what lay: what the boxes hold behind it. -/
theorem boxes_kept {x y : TV} {w W2 : World} {o : Obj} (hb : Below (((w.alloc (.cells #[.int .i64 x.k, .int .i64 x.N, .string x.s, .slice x.a x.len x.cap] 24)).alloc (.cells #[.int .i64 y.k, .int .i64 y.N, .string y.s, .slice y.a y.len y.cap] 24)).alloc o).heap.size (((w.alloc (.cells #[.int .i64 x.k, .int .i64 x.N, .string x.s, .slice x.a x.len x.cap] 24)).alloc (.cells #[.int .i64 y.k, .int .i64 y.N, .string y.s, .slice y.a y.len y.cap] 24)).alloc o) W2) :
    Below w.heap.size w W2 ∧ BoxT W2 w.heap.size x ∧ BoxT W2 (w.heap.size + 1) y := by
  have hs2 : (((w.alloc (.cells #[.int .i64 x.k, .int .i64 x.N, .string x.s, .slice x.a x.len x.cap] 24)).alloc (.cells #[.int .i64 y.k, .int .i64 y.N, .string y.s, .slice y.a y.len y.cap] 24)).alloc o).heap.size = w.heap.size + 3 := by simp
  rw [hs2] at hb
  have b1 := ((BoxT.new w x).alloc (.cells #[.int .i64 y.k, .int .i64 y.N, .string y.s, .slice y.a y.len y.cap] 24)).alloc o
  have b2 := (BoxT.new (w.alloc (.cells #[.int .i64 x.k, .int .i64 x.N, .string x.s, .slice x.a x.len x.cap] 24)) y).alloc o
  rw [World.size_alloc] at b2
  exact ⟨((((Below.refl _ w).alloc (Nat.le_refl _) _).alloc (by simp) _).alloc (by simp; omega) _).trans (hb.mono (by omega)), (hb.block _ (by omega)).trans b1, (hb.block _ (by omega)).trans b2⟩

end Go.Proofs.Ytmgcojhmopcamaa

