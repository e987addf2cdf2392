import Derived.Test.YtjdanfhbccpnpaaKs
import Derived.Test.YtjdanfhbccpnpaaF
import Derived.Test.YtjdanfhbccpnpaaG
/- Atoms, integers and compounds that hornref makes; boxes of terms; Same by codes. -/
namespace Go.Proofs.Ytjdanfhbccpnpaa
open Go.RowKit Go.Shelf

def atomV (s : ByteArray) : TV := ⟨3, 0, s, none, 0, 0⟩
def intV (n : Int) : TV := ⟨2, n, ⟨#[]⟩, none, 0, 0⟩
def compV (s : ByteArray) (a : Option Addr) (len cap : Nat) : TV := ⟨4, 0, s, a, len, cap⟩
def noTerm : TV := ⟨0, 0, ⟨#[]⟩, none, 0, 0⟩
def atomC (s : List UInt8) : List Nd := [(3, 0, s, 0)]
def intC (n : Int) : List Nd := [(2, n, [], 0)]
theorem tv_inj {x y : TV} (h : x.val = y.val) : x = y := by
  cases x; cases y
  simp [TV.val] at h
  simp_all
theorem atom_holds (s : ByteArray) (hs : s.size ≤ 9223372036854775807) (lo : Nat) (W : World) : HoldsT 1 lo W (atomV s).val (atomC s.toList) := holds_leaf (atomV s) rfl rfl rfl hs lo W
theorem emptyL : (⟨#[]⟩ : ByteArray).toList = [] := by decide +kernel
theorem int_holds (n : Int) (lo : Nat) (W : World) : HoldsT 1 lo W (intV n).val (intC n) := by
  have h := holds_leaf (intV n) rfl rfl rfl (by show (0 : Nat) ≤ _; omega) lo W
  have e : (intV n).nd = (2, n, [], 0) := by simp [TV.nd, intV]
  rw [e] at h
  exact h

theorem holds_one {D lo : Nat} {W : World} {x : TV} {cx : List Nd} (hx : HoldsT D lo W x.val cx) {b : Nat} (hlo : lo ≤ b)
    (hb : W.heap[b]? = some (.cells #[.int .i64 x.k, .int .i64 x.N, .string x.s, .slice x.a x.len x.cap] 24 (0, 0))) (s : ByteArray) (hs : s.size ≤ 9223372036854775807) (hnb : ∀ {m : Nat} (t : Tm m), t.tv = x → Wl t → code t = cx → b ∉ blks t) :
    HoldsT (D + 1) lo W (compV s (some ⟨b, 0, none⟩) 1 1).val ((4, 0, s.toList, 1) :: cx) := fun m hm => by
  obtain ⟨M, rfl⟩ : ∃ M, m = M + 1 := ⟨m - 1, by omega⟩
  obtain ⟨t, h1, h2, h3, h4⟩ := hx M (by omega)
  have hxt := tv_inj h1
  have hlt := (Array.getElem?_eq_some_iff.1 hb).1
  refine ⟨((compV s (some ⟨b, 0, none⟩) 1 1, [t]) : TV × List (Tm M)), rfl, fun hlim => ⟨rfl, ⟨by simp [Tm.tv, compV], by simp [Tm.tv, compV], hlim⟩, hs, .inr ⟨b, 0, rfl, hlt, fun j u hu => ?_⟩⟩, ⟨⟨.inr ⟨b, 0, rfl, hlo⟩, fun u hu => ?_⟩, ⟨.inr ⟨b, _, hlo, rfl, rfl, hb, rfl⟩, fun u hu => ?_⟩, ?_, ⟨rfl, fun u hu => ?_⟩⟩, ?_⟩
  · have hj : j = 0 ∧ u = t := by
      match j, hu with
      | 0, hu => exact ⟨rfl, by simpa [Tm.kids] using hu.symm⟩
      | k + 1, hu => simp [Tm.kids] at hu
    obtain ⟨rfl, rfl⟩ := hj
    refine ⟨?_, h2 (by omega)⟩
    rw [← hxt]
    refine ⟨?_, ?_, ?_, ?_⟩ <;> simp [World.cell?, hb]
  · have : u = t := by simpa [Tm.kids] using hu
    subst this
    exact h3.new
  · have : u = t := by simpa [Tm.kids] using hu
    subst this
    exact h3.wh
  · show ([b] ++ [t].flatMap blks).Nodup
    simp only [List.flatMap_cons, List.flatMap_nil, List.append_nil, List.cons_append, List.nil_append, List.nodup_cons]
    exact ⟨hnb t hxt.symm h3.wl h4, h3.ap⟩
  · have : u = t := by simpa [Tm.kids] using hu
    subst this
    exact h3.wl
  · rw [code_succ]
    simp [h4, TV.nd, compV]
theorem holds_two {D lo : Nat} {W : World} {x y : TV} {cx cy : List Nd} (hx : HoldsT D lo W x.val cx) (hy : HoldsT D lo W y.val cy) {b : Nat} (hlo : lo ≤ b)
    (hb : W.heap[b]? = some (.cells #[.int .i64 x.k, .int .i64 x.N, .string x.s, .slice x.a x.len x.cap, .int .i64 y.k, .int .i64 y.N, .string y.s, .slice y.a y.len y.cap] 24 (0, 0))) (s : ByteArray) (hs : s.size ≤ 9223372036854775807) (hx1 : cx.length = 1) (hy1 : cy.length = 1) :
    HoldsT (D + 1) lo W (compV s (some ⟨b, 0, none⟩) 2 2).val ((4, 0, s.toList, 2) :: (cx ++ cy)) := fun m hm => by
  obtain ⟨M, rfl⟩ : ∃ M, m = M + 1 := ⟨m - 1, by omega⟩
  obtain ⟨t, h1, h2, h3, h4⟩ := hx M (by omega)
  obtain ⟨u, k1, k2, k3, k4⟩ := hy M (by omega)
  have hxt := tv_inj h1
  have hyt := tv_inj k1
  have hlt := (Array.getElem?_eq_some_iff.1 hb).1
  refine ⟨((compV s (some ⟨b, 0, none⟩) 2 2, [t, u]) : TV × List (Tm M)), rfl, fun hlim => ⟨rfl, ⟨by simp [Tm.tv, compV], by simp [Tm.tv, compV], hlim⟩, hs, .inr ⟨b, 0, rfl, hlt, fun j v hv => ?_⟩⟩, ⟨⟨.inr ⟨b, 0, rfl, hlo⟩, fun v hv => ?_⟩, ⟨.inr ⟨b, _, hlo, rfl, rfl, hb, rfl⟩, fun v hv => ?_⟩, ?_, ⟨rfl, fun v hv => ?_⟩⟩, ?_⟩
  · have hj : (j = 0 ∧ v = t) ∨ (j = 1 ∧ v = u) := by
      match j, hv with
      | 0, hv => exact .inl ⟨rfl, by simpa [Tm.kids] using hv.symm⟩
      | 1, hv => exact .inr ⟨rfl, by simpa [Tm.kids] using hv.symm⟩
      | k + 2, hv => simp [Tm.kids] at hv
    rcases hj with ⟨rfl, rfl⟩ | ⟨rfl, rfl⟩
    · refine ⟨?_, h2 (by omega)⟩
      rw [← hxt]
      refine ⟨?_, ?_, ?_, ?_⟩ <;> simp [World.cell?, hb]
    · refine ⟨?_, k2 (by omega)⟩
      rw [← hyt]
      refine ⟨?_, ?_, ?_, ?_⟩ <;> simp [World.cell?, hb]
  · have : v = t ∨ v = u := by simpa [Tm.kids] using hv
    rcases this with rfl | rfl
    · exact h3.new
    · exact k3.new
  · have : v = t ∨ v = u := by simpa [Tm.kids] using hv
    rcases this with rfl | rfl
    · exact h3.wh
    · exact k3.wh
  · show ([b] ++ [t, u].flatMap blks).Nodup
    have e1 : blks t = [] := blks_leaf (by rw [h4]; exact hx1)
    have e2 : blks u = [] := blks_leaf (by rw [k4]; exact hy1)
    rw [List.flatMap_cons, List.flatMap_cons, e1, e2]
    simp
  · have : v = t ∨ v = u := by simpa [Tm.kids] using hv
    rcases this with rfl | rfl
    · exact h3.wl
    · exact k3.wl
  · rw [code_succ]
    simp [h4, k4, TV.nd, compV]

set_option maxHeartbeats 400000 in
theorem ratom_any (s : ByteArray) (w : World) : Calls Try.prog 15 #[.string s] w fun e W' => e = .returned (atomV s).val ∧ Below w.heap.size w W' := by
  go_enter Try.func15, Try.ntmps15
  go_wp2
  refine bodyPost_ret (v := (atomV s).val) (by simp [results, Try.results15, go_sem, atomV, TV.val]) rfl ⟨rfl, (Below.refl _ _).alloc (Nat.le_refl _) _⟩
/-- The first steps of number: the term's box and the result's cell. -/
theorem box_zero (W : World) (x : TV) : ∃ W2, (W.alloc (.cells #[.int .i64 x.k, .int .i64 x.N, .string x.s, .slice x.a x.len x.cap] 24)).alloc (.cells #[.int .i64 0, .int .i64 0, .string ⟨#[]⟩, .slice none 0 0] 24) = W2 ∧
    Below W.heap.size W W2 ∧ W2.heap.size = W.heap.size + 2 ∧ BoxT W2 W.heap.size x ∧ W2.heap[W.heap.size + 1]? = some (.cells #[.int .i64 0, .int .i64 0, .string ⟨#[]⟩, .slice none 0 0] 24 (0, 0)) := by
  refine ⟨_, rfl, ((Below.refl _ W).alloc (Nat.le_refl _) _).alloc (by simp) _, by simp, (BoxT.new W x).alloc _, ?_⟩
  have h := World.alloc_heap_new (W.alloc (.cells #[.int .i64 x.k, .int .i64 x.N, .string x.s, .slice x.a x.len x.cap] 24)) (.cells #[.int .i64 0, .int .i64 0, .string ⟨#[]⟩, .slice none 0 0] 24)
  rw [World.size_alloc] at h
  exact h

theorem set_cell4 {W : World} {B : Nat} {c0 c1 c2 c3 : Value} {t : TypeId} (h : W.heap[B]? = some (.cells #[c0, c1, c2, c3] t (0, 0))) (v : Value) :
    (W.setCell ⟨B, 0, none⟩ v).heap[B]? = some (.cells #[v, c1, c2, c3] t (0, 0)) ∧ (W.setCell ⟨B, 1, none⟩ v).heap[B]? = some (.cells #[c0, v, c2, c3] t (0, 0)) ∧
    (W.setCell ⟨B, 2, none⟩ v).heap[B]? = some (.cells #[c0, c1, v, c3] t (0, 0)) ∧ (W.setCell ⟨B, 3, none⟩ v).heap[B]? = some (.cells #[c0, c1, c2, v] t (0, 0)) := by
  obtain ⟨hlt, hk⟩ := Array.getElem?_eq_some_iff.1 h
  refine ⟨?_, ?_, ?_, ?_⟩
  all_goals
    show (W.heap.modify B _)[B]? = _
    rw [Array.getElem?_eq_getElem (by rw [Array.size_modify]; exact hlt), Array.getElem_modify_self, hk]
    rfl
theorem set4_box {W : World} {B : Nat} {c0 c1 c2 c3 : Value} (h : W.heap[B]? = some (.cells #[c0, c1, c2, c3] 24 (0, 0))) (x : TV) : BoxT (set4 W B 0 x) B x := by
  have h1 := (set_cell4 h (.int .i64 x.k)).1
  have h2 := (set_cell4 h1 (.int .i64 x.N)).2.1
  have h3 := (set_cell4 h2 (.string x.s)).2.2.1
  exact (set_cell4 h3 (.slice x.a x.len x.cap)).2.2.2
theorem box2_zero (W : World) (x y : TV) : ∃ W3, ((W.alloc (.cells #[.int .i64 x.k, .int .i64 x.N, .string x.s, .slice x.a x.len x.cap] 24)).alloc (.cells #[.int .i64 y.k, .int .i64 y.N, .string y.s, .slice y.a y.len y.cap] 24)).alloc (.cells #[.int .i64 0, .int .i64 0, .string ⟨#[]⟩, .slice none 0 0] 24) = W3 ∧
    Below W.heap.size W W3 ∧ W3.heap.size = W.heap.size + 3 ∧ BoxT W3 W.heap.size x ∧ BoxT W3 (W.heap.size + 1) y ∧ BoxT W3 (W.heap.size + 2) noTerm := by
  refine ⟨_, rfl, (((Below.refl _ W).alloc (Nat.le_refl _) _).alloc (by simp) _).alloc (by simp; omega) _, by simp, ((BoxT.new W x).alloc _).alloc _, ?_, ?_⟩
  · have h := (BoxT.new (W.alloc (.cells #[.int .i64 x.k, .int .i64 x.N, .string x.s, .slice x.a x.len x.cap] 24)) y).alloc (.cells #[.int .i64 0, .int .i64 0, .string ⟨#[]⟩, .slice none 0 0] 24)
    rw [World.size_alloc] at h
    exact h
  · have h := BoxT.new ((W.alloc (.cells #[.int .i64 x.k, .int .i64 x.N, .string x.s, .slice x.a x.len x.cap] 24)).alloc (.cells #[.int .i64 y.k, .int .i64 y.N, .string y.s, .slice y.a y.len y.cap] 24)) noTerm
    rw [World.size_alloc, World.size_alloc] at h
    exact h
theorem BoxT.frz {W : World} {B : Nat} {x : TV} (h : BoxT W B x) : W.frozen? ⟨B, 0, none⟩ = false ∧ W.frozen? ⟨B, 1, none⟩ = false ∧ W.frozen? ⟨B, 2, none⟩ = false ∧ W.frozen? ⟨B, 3, none⟩ = false := (zbox_kept h).2
theorem BoxT.below {A B : World} {n k : Nat} {x : TV} (h : BoxT A k x) (hb : Below n A B) (hk : k < n) : BoxT B k x := (hb.block k hk).trans h
theorem BoxT.set4 {W : World} {k b : Nat} {x : TV} (h : BoxT W k x) (hk : k ≠ b) (y : TV) : BoxT (set4 W b 0 y) k x := (set4_other W b 0 y hk).trans h
/-- Same, by codes. -/
theorem same_holds {D D' lo lo' : Nat} {W : World} {v v' : Value} {c c' : List Nd} (h : HoldsT D lo W v c) (h' : HoldsT D' lo' W v' c') (hD : D + D' ≤ 2199023255552 := by omega) :
    Calls Try.prog 12 #[v, v'] W fun e W' => e = .returned (.bool (decide (c = c'))) ∧ Below W.heap.size W W' := by
  obtain ⟨t, rfl, hT, -, hc⟩ := h (D + D') (by omega)
  obtain ⟨t', rfl, hT', -, hc'⟩ := h' (D + D') (by omega)
  have hs := same_any _ t t' W (hT hD) (hT' hD)
  rw [sameT_code (hT hD).wl (hT' hD).wl, hc, hc'] at hs
  exact hs
def noC : List Nd := [(0, 0, [], 0)]
theorem no_holds (D lo : Nat) (hD : 1 ≤ D) (W : World) : HoldsT D lo W noTerm.val noC := by
  have h := holds_leaf noTerm rfl rfl rfl (by show (0 : Nat) ≤ _; omega) lo W
  have e : noTerm.nd = (0, 0, [], 0) := by simp [TV.nd, noTerm]
  rw [e] at h
  exact h.mono hD (Nat.le_refl _)
theorem box2_only (W : World) (x y : TV) : ∃ W3, (W.alloc (.cells #[.int .i64 x.k, .int .i64 x.N, .string x.s, .slice x.a x.len x.cap] 24)).alloc (.cells #[.int .i64 y.k, .int .i64 y.N, .string y.s, .slice y.a y.len y.cap] 24) = W3 ∧
    Below W.heap.size W W3 ∧ W3.heap.size = W.heap.size + 2 ∧ BoxT W3 W.heap.size x ∧ BoxT W3 (W.heap.size + 1) y := by
  refine ⟨_, rfl, ((Below.refl _ W).alloc (Nat.le_refl _) _).alloc (by simp) _, by simp, (BoxT.new W x).alloc _, ?_⟩
  have h := BoxT.new (W.alloc (.cells #[.int .i64 x.k, .int .i64 x.N, .string x.s, .slice x.a x.len x.cap] 24)) y
  rw [World.size_alloc] at h
  exact h

theorem box_one (W : World) (x : TV) : ∃ W1, W.alloc (.cells #[.int .i64 x.k, .int .i64 x.N, .string x.s, .slice x.a x.len x.cap] 24) = W1 ∧ Below W.heap.size W W1 ∧ W1.heap.size = W.heap.size + 1 ∧ BoxT W1 W.heap.size x :=
  ⟨_, rfl, (Below.refl _ W).alloc (Nat.le_refl _) _, by simp, BoxT.new W x⟩
end Go.Proofs.Ytjdanfhbccpnpaa

