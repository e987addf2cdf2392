import Derived.Test.YtcdgmjpgmiehcaaKs
import Derived.Test.YtcdgmjpgmiehcaaFs
import Derived.Test.YtcdgmjpgmiehcaaCs
import Derived.Outline
/- Atoms, integers and compounds that hornref makes; boxes of terms; Same by codes. -/
namespace Go.Proofs.Ytcdgmjpgmiehcaa
open Go.RowKit Go.Shelf

def atomV (s : ByteArray) : TV := ⟨3, 0, s, none, 0, 0⟩
def intV (n : Int) : TV := ⟨2, n, ⟨#[]⟩, none, 0, 0⟩
def compV (s : ByteArray) (a : Option Addr) (len cap : Nat) : TV := ⟨4, 0, s, a, len, cap⟩
def noTerm : TV := ⟨0, 0, ⟨#[]⟩, none, 0, 0⟩
def atomC (s : List UInt8) : List Nd := [(3, 0, s, 0)]
def intC (n : Int) : List Nd := [(2, n, [], 0)]
theorem tv_inj {x y : TV} (h : x.val = y.val) : x = y := by
  cases x; cases y
  simp [TV.val] at h
  simp_all
theorem atom_holds (s : ByteArray) (hs : s.size ≤ 9223372036854775807) (lo : Nat) (W : World) : HoldsT 1 lo W (atomV s).val (atomC s.toList) := holds_leaf (atomV s) rfl rfl rfl hs lo W
theorem emptyL : (⟨#[]⟩ : ByteArray).toList = [] := by decide +kernel
theorem int_holds (n : Int) (lo : Nat) (W : World) : HoldsT 1 lo W (intV n).val (intC n) := by
  have h := holds_leaf (intV n) rfl rfl rfl (by show (0 : Nat) ≤ _; omega) lo W
  have e : (intV n).nd = (2, n, [], 0) := by simp [TV.nd, intV]
  rw [e] at h
  exact h

theorem holds_one {D lo : Nat} {W : World} {x : TV} {cx : List Nd} (hx : HoldsT D lo W x.val cx) {b : Nat} (hlo : lo ≤ b)
    (hb : W.heap[b]? = some (.cells #[.int .i64 x.k, .int .i64 x.N, .string x.s, .slice x.a x.len x.cap] 24 (0, 0))) (s : ByteArray) (hs : s.size ≤ 9223372036854775807) (hnb : ∀ {m : Nat} (t : Tm m), t.tv = x → Wl t → code t = cx → b ∉ blks t) :
    HoldsT (D + 1) lo W (compV s (some ⟨b, 0, none⟩) 1 1).val ((4, 0, s.toList, 1) :: cx) := fun m hm => by
  obtain ⟨M, rfl⟩ : ∃ M, m = M + 1 := ⟨m - 1, by omega⟩
  obtain ⟨t, h1, h2, h3, h4⟩ := hx M (by omega)
  have hxt := tv_inj h1
  have hlt := (Array.getElem?_eq_some_iff.1 hb).1
  refine ⟨((compV s (some ⟨b, 0, none⟩) 1 1, [t]) : TV × List (Tm M)), rfl, fun hlim => ⟨rfl, ⟨by simp [Tm.tv, compV], by simp [Tm.tv, compV], hlim⟩, hs, .inr ⟨b, 0, rfl, hlt, fun j u hu => ?_⟩⟩, ⟨⟨.inr ⟨b, 0, rfl, hlo⟩, fun u hu => ?_⟩, ⟨.inr ⟨b, _, hlo, rfl, rfl, hb, rfl⟩, fun u hu => ?_⟩, ?_, ⟨rfl, fun u hu => ?_⟩⟩, ?_⟩
  · have hj : j = 0 ∧ u = t := by
      match j, hu with
      | 0, hu => exact ⟨rfl, by simpa [Tm.kids] using hu.symm⟩
      | k + 1, hu => simp [Tm.kids] at hu
    obtain ⟨rfl, rfl⟩ := hj
    refine ⟨?_, h2 (by omega)⟩
    rw [← hxt]
    refine ⟨?_, ?_, ?_, ?_⟩ <;> simp [World.cell?, hb]
  · have : u = t := by simpa [Tm.kids] using hu
    subst this
    exact h3.new
  · have : u = t := by simpa [Tm.kids] using hu
    subst this
    exact h3.wh
  · show ([b] ++ [t].flatMap blks).Nodup
    simp only [List.flatMap_cons, List.flatMap_nil, List.append_nil, List.cons_append, List.nil_append, List.nodup_cons]
    exact ⟨hnb t hxt.symm h3.wl h4, h3.ap⟩
  · have : u = t := by simpa [Tm.kids] using hu
    subst this
    exact h3.wl
  · rw [code_succ]
    simp [h4, TV.nd, compV]
theorem holds_two {D lo : Nat} {W : World} {x y : TV} {cx cy : List Nd} (hx : HoldsT D lo W x.val cx) (hy : HoldsT D lo W y.val cy) {b : Nat} (hlo : lo ≤ b)
    (hb : W.heap[b]? = some (.cells #[.int .i64 x.k, .int .i64 x.N, .string x.s, .slice x.a x.len x.cap, .int .i64 y.k, .int .i64 y.N, .string y.s, .slice y.a y.len y.cap] 24 (0, 0))) (s : ByteArray) (hs : s.size ≤ 9223372036854775807) (hx1 : cx.length = 1) (hy1 : cy.length = 1) :
    HoldsT (D + 1) lo W (compV s (some ⟨b, 0, none⟩) 2 2).val ((4, 0, s.toList, 2) :: (cx ++ cy)) := fun m hm => by
  obtain ⟨M, rfl⟩ : ∃ M, m = M + 1 := ⟨m - 1, by omega⟩
  obtain ⟨t, h1, h2, h3, h4⟩ := hx M (by omega)
  obtain ⟨u, k1, k2, k3, k4⟩ := hy M (by omega)
  have hxt := tv_inj h1
  have hyt := tv_inj k1
  have hlt := (Array.getElem?_eq_some_iff.1 hb).1
  refine ⟨((compV s (some ⟨b, 0, none⟩) 2 2, [t, u]) : TV × List (Tm M)), rfl, fun hlim => ⟨rfl, ⟨by simp [Tm.tv, compV], by simp [Tm.tv, compV], hlim⟩, hs, .inr ⟨b, 0, rfl, hlt, fun j v hv => ?_⟩⟩, ⟨⟨.inr ⟨b, 0, rfl, hlo⟩, fun v hv => ?_⟩, ⟨.inr ⟨b, _, hlo, rfl, rfl, hb, rfl⟩, fun v hv => ?_⟩, ?_, ⟨rfl, fun v hv => ?_⟩⟩, ?_⟩
  · have hj : (j = 0 ∧ v = t) ∨ (j = 1 ∧ v = u) := by
      match j, hv with
      | 0, hv => exact .inl ⟨rfl, by simpa [Tm.kids] using hv.symm⟩
      | 1, hv => exact .inr ⟨rfl, by simpa [Tm.kids] using hv.symm⟩
      | k + 2, hv => simp [Tm.kids] at hv
    rcases hj with ⟨rfl, rfl⟩ | ⟨rfl, rfl⟩
    · refine ⟨?_, h2 (by omega)⟩
      rw [← hxt]
      refine ⟨?_, ?_, ?_, ?_⟩ <;> simp [World.cell?, hb]
    · refine ⟨?_, k2 (by omega)⟩
      rw [← hyt]
      refine ⟨?_, ?_, ?_, ?_⟩ <;> simp [World.cell?, hb]
  · have : v = t ∨ v = u := by simpa [Tm.kids] using hv
    rcases this with rfl | rfl
    · exact h3.new
    · exact k3.new
  · have : v = t ∨ v = u := by simpa [Tm.kids] using hv
    rcases this with rfl | rfl
    · exact h3.wh
    · exact k3.wh
  · show ([b] ++ [t, u].flatMap blks).Nodup
    have e1 : blks t = [] := blks_leaf (by rw [h4]; exact hx1)
    have e2 : blks u = [] := blks_leaf (by rw [k4]; exact hy1)
    rw [List.flatMap_cons, List.flatMap_cons, e1, e2]
    simp
  · have : v = t ∨ v = u := by simpa [Tm.kids] using hv
    rcases this with rfl | rfl
    · exact h3.wl
    · exact k3.wl
  · rw [code_succ]
    simp [h4, k4, TV.nd, compV]

set_option maxHeartbeats 400000 in
theorem ratom_any (s : ByteArray) (w : World) : Calls Try.prog 13 #[.string s] w fun e W' => e = .returned (atomV s).val ∧ Below w.heap.size w W' := by
  go_enter Try.func13, Try.ntmps13
  go_wp2
  refine bodyPost_ret (v := (atomV s).val) (by simp [results, Try.results13, go_sem, atomV, TV.val]) rfl ⟨rfl, (Below.refl _ _).alloc (Nat.le_refl _) _⟩
set_option maxHeartbeats 400000 in
theorem rcompound_any (s : ByteArray) (a : Option Addr) (len cap : Nat) (w : World) : Calls Try.prog 12 #[.string s, .slice a len cap] w fun e W' => e = .returned (compV s a len cap).val ∧ Below w.heap.size w W' := by
  go_enter Try.func12, Try.ntmps12
  go_wp2
  refine bodyPost_ret (v := (compV s a len cap).val) (by simp [results, Try.results12, go_sem, compV, TV.val]) rfl ⟨rfl, (Below.refl _ _).alloc (Nat.le_refl _) _⟩

/-- The first steps of number: the term's box and the result's cell. -/
theorem box_zero (W : World) (x : TV) : ∃ W2, (W.alloc (.cells #[.int .i64 x.k, .int .i64 x.N, .string x.s, .slice x.a x.len x.cap] 24)).alloc (.cells #[.int .i64 0, .int .i64 0, .string ⟨#[]⟩, .slice none 0 0] 24) = W2 ∧
    Below W.heap.size W W2 ∧ W2.heap.size = W.heap.size + 2 ∧ BoxT W2 W.heap.size x ∧ W2.heap[W.heap.size + 1]? = some (.cells #[.int .i64 0, .int .i64 0, .string ⟨#[]⟩, .slice none 0 0] 24 (0, 0)) := by
  refine ⟨_, rfl, ((Below.refl _ W).alloc (Nat.le_refl _) _).alloc (by simp) _, by simp, (BoxT.new W x).alloc _, ?_⟩
  have h := World.alloc_heap_new (W.alloc (.cells #[.int .i64 x.k, .int .i64 x.N, .string x.s, .slice x.a x.len x.cap] 24)) (.cells #[.int .i64 0, .int .i64 0, .string ⟨#[]⟩, .slice none 0 0] 24)
  rw [World.size_alloc] at h
  exact h

theorem set_cell4 {W : World} {B : Nat} {c0 c1 c2 c3 : Value} {t : TypeId} (h : W.heap[B]? = some (.cells #[c0, c1, c2, c3] t (0, 0))) (v : Value) :
    (W.setCell ⟨B, 0, none⟩ v).heap[B]? = some (.cells #[v, c1, c2, c3] t (0, 0)) ∧ (W.setCell ⟨B, 1, none⟩ v).heap[B]? = some (.cells #[c0, v, c2, c3] t (0, 0)) ∧
    (W.setCell ⟨B, 2, none⟩ v).heap[B]? = some (.cells #[c0, c1, v, c3] t (0, 0)) ∧ (W.setCell ⟨B, 3, none⟩ v).heap[B]? = some (.cells #[c0, c1, c2, v] t (0, 0)) := by
  obtain ⟨hlt, hk⟩ := Array.getElem?_eq_some_iff.1 h
  refine ⟨?_, ?_, ?_, ?_⟩
  all_goals
    show (W.heap.modify B _)[B]? = _
    rw [Array.getElem?_eq_getElem (by rw [Array.size_modify]; exact hlt), Array.getElem_modify_self, hk]
    rfl
theorem set4_box {W : World} {B : Nat} {c0 c1 c2 c3 : Value} (h : W.heap[B]? = some (.cells #[c0, c1, c2, c3] 24 (0, 0))) (x : TV) : BoxT (set4 W B 0 x) B x := by
  have h1 := (set_cell4 h (.int .i64 x.k)).1
  have h2 := (set_cell4 h1 (.int .i64 x.N)).2.1
  have h3 := (set_cell4 h2 (.string x.s)).2.2.1
  exact (set_cell4 h3 (.slice x.a x.len x.cap)).2.2.2
theorem box2_zero (W : World) (x y : TV) : ∃ W3, ((W.alloc (.cells #[.int .i64 x.k, .int .i64 x.N, .string x.s, .slice x.a x.len x.cap] 24)).alloc (.cells #[.int .i64 y.k, .int .i64 y.N, .string y.s, .slice y.a y.len y.cap] 24)).alloc (.cells #[.int .i64 0, .int .i64 0, .string ⟨#[]⟩, .slice none 0 0] 24) = W3 ∧
    Below W.heap.size W W3 ∧ W3.heap.size = W.heap.size + 3 ∧ BoxT W3 W.heap.size x ∧ BoxT W3 (W.heap.size + 1) y ∧ BoxT W3 (W.heap.size + 2) noTerm := by
  refine ⟨_, rfl, (((Below.refl _ W).alloc (Nat.le_refl _) _).alloc (by simp) _).alloc (by simp; omega) _, by simp, ((BoxT.new W x).alloc _).alloc _, ?_, ?_⟩
  · have h := (BoxT.new (W.alloc (.cells #[.int .i64 x.k, .int .i64 x.N, .string x.s, .slice x.a x.len x.cap] 24)) y).alloc (.cells #[.int .i64 0, .int .i64 0, .string ⟨#[]⟩, .slice none 0 0] 24)
    rw [World.size_alloc] at h
    exact h
  · have h := BoxT.new ((W.alloc (.cells #[.int .i64 x.k, .int .i64 x.N, .string x.s, .slice x.a x.len x.cap] 24)).alloc (.cells #[.int .i64 y.k, .int .i64 y.N, .string y.s, .slice y.a y.len y.cap] 24)) noTerm
    rw [World.size_alloc, World.size_alloc] at h
    exact h
theorem BoxT.frz {W : World} {B : Nat} {x : TV} (h : BoxT W B x) : W.frozen? ⟨B, 0, none⟩ = false ∧ W.frozen? ⟨B, 1, none⟩ = false ∧ W.frozen? ⟨B, 2, none⟩ = false ∧ W.frozen? ⟨B, 3, none⟩ = false := (zbox_kept h).2
theorem BoxT.below {A B : World} {n k : Nat} {x : TV} (h : BoxT A k x) (hb : Below n A B) (hk : k < n) : BoxT B k x := (hb.block k hk).trans h
theorem BoxT.set4 {W : World} {k b : Nat} {x : TV} (h : BoxT W k x) (hk : k ≠ b) (y : TV) : BoxT (set4 W b 0 y) k x := (set4_other W b 0 y hk).trans h
/-- Same, by codes. -/
theorem same_holds {D D' lo lo' : Nat} {W : World} {v v' : Value} {c c' : List Nd} (h : HoldsT D lo W v c) (h' : HoldsT D' lo' W v' c') (hD : D + D' ≤ 2199023255552 := by omega) :
    Calls Try.prog 18 #[v, v'] W fun e W' => e = .returned (.bool (decide (c = c'))) ∧ Below W.heap.size W W' := by
  obtain ⟨t, rfl, hT, -, hc⟩ := h (D + D') (by omega)
  obtain ⟨t', rfl, hT', -, hc'⟩ := h' (D + D') (by omega)
  have hs := same_any _ t t' W (hT hD) (hT' hD)
  rw [sameT_code (hT hD).wl (hT' hD).wl, hc, hc'] at hs
  exact hs
def noC : List Nd := [(0, 0, [], 0)]
theorem no_holds (D lo : Nat) (hD : 1 ≤ D) (W : World) : HoldsT D lo W noTerm.val noC := by
  have h := holds_leaf noTerm rfl rfl rfl (by show (0 : Nat) ≤ _; omega) lo W
  have e : noTerm.nd = (0, 0, [], 0) := by simp [TV.nd, noTerm]
  rw [e] at h
  exact h.mono hD (Nat.le_refl _)
theorem box2_only (W : World) (x y : TV) : ∃ W3, (W.alloc (.cells #[.int .i64 x.k, .int .i64 x.N, .string x.s, .slice x.a x.len x.cap] 24)).alloc (.cells #[.int .i64 y.k, .int .i64 y.N, .string y.s, .slice y.a y.len y.cap] 24) = W3 ∧
    Below W.heap.size W W3 ∧ W3.heap.size = W.heap.size + 2 ∧ BoxT W3 W.heap.size x ∧ BoxT W3 (W.heap.size + 1) y := by
  refine ⟨_, rfl, ((Below.refl _ W).alloc (Nat.le_refl _) _).alloc (by simp) _, by simp, (BoxT.new W x).alloc _, ?_⟩
  have h := BoxT.new (W.alloc (.cells #[.int .i64 x.k, .int .i64 x.N, .string x.s, .slice x.a x.len x.cap] 24)) y
  rw [World.size_alloc] at h
  exact h

theorem box_one (W : World) (x : TV) : ∃ W1, W.alloc (.cells #[.int .i64 x.k, .int .i64 x.N, .string x.s, .slice x.a x.len x.cap] 24) = W1 ∧ Below W.heap.size W W1 ∧ W1.heap.size = W.heap.size + 1 ∧ BoxT W1 W.heap.size x :=
  ⟨_, rfl, (Below.refl _ W).alloc (Nat.le_refl _) _, by simp, BoxT.new W x⟩
end Go.Proofs.Ytcdgmjpgmiehcaa

namespace Go.Proofs.Ytcdgmjpgmiehcaa
open Go.RowKit Go.Shelf

theorem okT_succ {n : Nat} (x : TV) (kids : List (Tm n)) : okT (n := n + 1) (x, kids) = (x.ok && kids.all okT) := by
  show (x :: kids.flatMap parts).all TV.ok = _
  rw [List.all_cons, List.all_flatMap]; rfl

theorem take_all {n : Nat} (kids : List (Tm n)) (j : Nat) (u : Tm n) (h : kids[j]? = some u) : (kids.take (j + 1)).all okT = ((kids.take j).all okT && okT u) := by
  obtain ⟨hj, rfl⟩ := List.getElem?_eq_some_iff.1 h
  rw [List.take_succ_eq_append_getElem hj, List.all_append, List.all_cons, List.all_nil, Bool.and_true]
theorem take_all_false {n : Nat} (kids : List (Tm n)) (j : Nat) (h : (kids.take j).all okT = false) : kids.all okT = false := by
  rw [← List.take_append_drop j kids, List.all_append, h, Bool.false_and]

end Go.Proofs.Ytcdgmjpgmiehcaa

/- The contract of term.replaceTop: a part of a term made anew, its Args left to be filled; what a state that goes on with it keeps to. -/
namespace Go.Proofs.Ytcdgmjpgmiehcaa
open Go.RowKit Go.Shelf

theorem code_take {n : Nat} (kids : List (Tm n)) (j : Nat) (u : Tm n) (h : kids[j]? = some u) : (kids.take (j + 1)).flatMap code = (kids.take j).flatMap code ++ code u := by
  obtain ⟨hj, rfl⟩ := List.getElem?_eq_some_iff.1 h
  rw [List.take_succ_eq_append_getElem hj, List.flatMap_append, List.flatMap_cons, List.flatMap_nil, List.append_nil]

theorem ok_kids {n : Nat} {x : TV} {kids : List (Tm n)} (h : okT (n := n + 1) ((x, kids) : TV × List (Tm n)) = true) : wmB x.k x.N x.s x.len = true ∧ ∀ u ∈ kids, okT u = true := by
  rw [okT_succ, Bool.and_eq_true] at h
  exact ⟨h.1, List.all_eq_true.1 h.2⟩
theorem wm_cases {k N : Int} {s : ByteArray} {len : Nat} (h : wmB k N s len = true) : (k = 1 ∧ 0 ≤ N ∧ N ≤ 1099511627776 ∧ s.toList = [] ∧ len = 0) ∨ ((k = 2 ∨ k = 3) ∧ len = 0) ∨ (k = 4 ∧ N = 0 ∧ 1 ≤ len ∧ len ≤ 50) := by
  unfold wmB at h
  split at h
  · rename_i hk
    simp at h
    exact .inl ⟨hk, h.1.1.1, h.1.1.2, h.1.2, h.2⟩
  · split at h
    · rename_i hk
      simp at h
      exact .inr (.inl ⟨.inl hk, h.2⟩)
    · split at h
      · rename_i hk
        simp at h
        exact .inr (.inl ⟨.inr hk, h.2⟩)
      · split at h
        · rename_i hk
          simp at h
          exact .inr (.inr ⟨hk, h.1.1.1, by omega, by omega⟩)
        · cases h

/-- Of what lies below B only blocks in X may have changed. -/
structure GrB (X : Nat → Prop) (B : Nat) (A W : World) : Prop where
  os : W.os = A.os
  tape : W.tape = A.tape
  output : W.output = A.output
  size : A.heap.size ≤ W.heap.size
  block : ∀ k, k < B → ¬ X k → W.heap[k]? = A.heap[k]?
theorem GrB.of_below {X : Nat → Prop} {B : Nat} {A W : World} (h : Below B A W) : GrB X B A W := ⟨h.os, h.tape, h.output, h.size, fun k hk _ => h.block k hk⟩
theorem GrB.refl (X : Nat → Prop) (B : Nat) (A : World) : GrB X B A A := GrB.of_below (Below.refl _ _)
theorem GrB.trans {X : Nat → Prop} {B : Nat} {A W W' : World} (h : GrB X B A W) (k : GrB X B W W') : GrB X B A W' :=
  ⟨k.os.trans h.os, k.tape.trans h.tape, k.output.trans h.output, Nat.le_trans h.size k.size, fun i hi hx => (k.block i hi hx).trans (h.block i hi hx)⟩
theorem GrB.mono {X : Nat → Prop} {B B' : Nat} {A W : World} (h : GrB X B A W) (hB : B' ≤ B) : GrB X B' A W := ⟨h.os, h.tape, h.output, h.size, fun k hk => h.block k (Nat.lt_of_lt_of_le hk hB)⟩
theorem GrB.below {X : Nat → Prop} {B n₀ : Nat} {A W : World} (h : GrB X B A W) (hX : ∀ k, X k → n₀ ≤ k) (hB : n₀ ≤ B) : Below n₀ A W :=
  ⟨h.os, h.tape, h.output, h.size, fun k hk => h.block k (by omega) (fun hx => by have := hX k hx; omega)⟩
theorem GrB.set4 {X : Nat → Prop} {B : Nat} {A W : World} (h : GrB X B A W) {b : Nat} (hb : B ≤ b) (o : Nat) (x : TV) : GrB X B A (set4 W b o x) :=
  h.trans (GrB.of_below (set4_below (Below.refl _ _) hb o x))
theorem GrB.cell {X : Nat → Prop} {B : Nat} {A W : World} (h : GrB X B A W) {k o : Nat} (hk : k < B) (hx : ¬ X k) : W.cell? ⟨k, o, none⟩ = A.cell? ⟨k, o, none⟩ := World.cell?_of_block (a := ⟨k, o, none⟩) (h.block k hk hx)

/-- The states behind the variables of a row of parts. -/
def stepsN {σ : Type} (stp : σ → Int → σ) (s : σ) (l : List Nd) : σ := l.foldl (fun s x => if x.1 = 1 then stp s x.2.1 else s) s
theorem stepsN_append {σ : Type} (stp : σ → Int → σ) (s : σ) (l l' : List Nd) : stepsN stp s (l ++ l') = stepsN stp (stepsN stp s l) l' := List.foldl_append
/-- What a state that goes on must keep to. -/
structure Stately {σ : Type} (I : σ → World → Prop) (X : Nat → Prop) (n₀ lo : Nat) (stp : σ → Int → σ) (β : σ → Int → List Nd) : Prop where
  low : n₀ ≤ lo
  blocks : ∀ k, X k → n₀ ≤ k ∧ k < lo
  keep : ∀ s W W', I s W → lo ≤ W.heap.size → Below lo W W' → I s W'
  stay : ∀ s N l, β (stepsN stp (stp s N) l) N = β (stp s N) N
theorem Stately.sub {σ : Type} {I : σ → World → Prop} {X : Nat → Prop} {n₀ lo : Nat} {stp : σ → Int → σ} {β : σ → Int → List Nd} (h : Stately I X n₀ lo stp β) : ∀ (l l' : List Nd) (s : σ), l.flatMap (subN (β (stepsN stp s (l ++ l')))) = l.flatMap (subN (β (stepsN stp s l)))
  | [], _, _ => rfl
  | x :: l, l', s => by
    have ih := h.sub l l' (if x.1 = 1 then stp s x.2.1 else s)
    have e1 : stepsN stp s (x :: l ++ l') = stepsN stp (if x.1 = 1 then stp s x.2.1 else s) (l ++ l') := rfl
    have e2 : stepsN stp s (x :: l) = stepsN stp (if x.1 = 1 then stp s x.2.1 else s) l := rfl
    rw [List.flatMap_cons, List.flatMap_cons, e1, e2, ih]
    congr 1
    unfold subN
    by_cases hx : x.1 = 1
    · rw [if_pos hx, if_pos hx, if_pos hx, h.stay, h.stay]
    · rw [if_neg hx, if_neg hx]

/-- A function value that says what a variable becomes, and keeps a state. -/
def BecomesX {σ : Type} (g : Nat) (lb : Array Value) (I : σ → World → Prop) (X : Nat → Prop) (lo : Nat) (stp : σ → Int → σ) (β : σ → Int → List Nd) (D : Nat) : Prop :=
  ∀ (N : Int) (W : World) (s : σ), 0 ≤ N → N ≤ 1099511627776 → lo ≤ W.heap.size → I s W → Calls Try.prog g (#[.int .i64 N] ++ lb) W fun e W' => ∃ v, e = .returned v ∧ GrB X W.heap.size W W' ∧ I (stp s N) W' ∧ HoldsT D W.heap.size W' v (β (stp s N) N)


set_option maxRecDepth 100000 in
set_option maxHeartbeats 1000000 in
theorem top_var {σ : Type} {I : σ → World → Prop} {X : Nat → Prop} {n₀ lo : Nat} {stp : σ → Int → σ} {β : σ → Int → List Nd} (hst : Stately I X n₀ lo stp β) (g : Nat) (lb : Array Value) (D : Nat) (eg : ∀ args w, (callFunc g args).run Try.prog w = .ok (.enter g args) w) (hbec : BecomesX g lb I X lo stp β D)
    (N : Int) (s : ByteArray) (a : Option Addr) (len cap : Nat) (W : World) (z : σ) (h0 : 0 ≤ N) (h1 : N ≤ 1099511627776) (hlo : lo ≤ W.heap.size) (hI : I z W) :
    Calls Try.prog 56 #[.agg #[.int .i64 1, .int .i64 N, .string s, .slice a len cap], .func (.func g) #[] lb] W fun e W' => ∃ x : TV, e = .returned (.tuple #[x.val, .slice none 0 0]) ∧ GrB X W.heap.size W W' ∧ I (stp z N) W' ∧ HoldsT D W.heap.size W' x.val (β (stp z N) N) := by
  have hB2 : Below W.heap.size W ((W.alloc (.cells #[.int .i64 1, .int .i64 N, .string s, .slice a len cap] 24)).alloc (.cells #[.int .i64 0, .int .i64 0, .string ⟨#[]⟩, .slice none 0 0] 24)) := ((Below.refl _ W).alloc (Nat.le_refl _) _).alloc (by simp) _
  have hsz : ((W.alloc (.cells #[.int .i64 1, .int .i64 N, .string s, .slice a len cap] 24)).alloc (.cells #[.int .i64 0, .int .i64 0, .string ⟨#[]⟩, .slice none 0 0] 24)).heap.size = W.heap.size + 2 := by simp
  have hcall := hbec N ((W.alloc (.cells #[.int .i64 1, .int .i64 N, .string s, .slice a len cap] 24)).alloc (.cells #[.int .i64 0, .int .i64 0, .string ⟨#[]⟩, .slice none 0 0] 24)) z h0 h1 (by omega) (hst.keep z W _ hI hlo (hB2.mono hlo))
  have hnew := World.alloc_heap_new (W.alloc (.cells #[.int .i64 1, .int .i64 N, .string s, .slice a len cap] 24)) (.cells #[.int .i64 0, .int .i64 0, .string ⟨#[]⟩, .slice none 0 0] 24)
  rw [World.size_alloc] at hnew
  have HB2 := hide hB2
  have HSZ := hide hsz
  have HNEW := hide hnew
  have HST := hide hst
  clear hbec hI hB2 hsz hnew hst
  go_enter Try.func56, Try.ntmps56
  go_wp2_with fail
  refine hcall.mono ?_
  clear hcall
  rintro e W1 ⟨v, rfl, hg1, hI1, hv⟩
  rw [unhide HSZ] at hg1 hv
  obtain ⟨t, ht, -⟩ := hv D (Nat.le_refl _)
  subst ht
  have hnx : ¬ X (W.heap.size + 1) := fun hx => by have := ((unhide HST).blocks _ hx).2; omega
  obtain ⟨⟨z0, z1, z2, z3⟩, y0, y1, y2, y3⟩ := zbox_kept ((hg1.block (W.heap.size + 1) (by omega) hnx).trans (unhide HNEW))
  have hs1 : W.heap.size + 2 ≤ W1.heap.size := by have := hg1.size; have := unhide HSZ; omega
  have hfin : HoldsT D W.heap.size (set4 W1 (W.heap.size + 1) 0 t.tv) t.tv.val (β (stp z N) N) := (holds_set4 hv (by omega) 0 t.tv).mono (Nat.le_refl _) (by omega)
  have hgf : GrB X W.heap.size W (set4 W1 (W.heap.size + 1) 0 t.tv) := ((GrB.of_below (unhide HB2)).trans (hg1.mono (by omega))).set4 (by omega) 0 t.tv
  have hIf : I (stp z N) (set4 W1 (W.heap.size + 1) 0 t.tv) := (unhide HST).keep _ _ _ hI1 (by omega) (set4_below (Below.refl _ _) (by omega) 0 t.tv)
  have HF := hide hfin
  have HG := hide hgf
  have HI := hide hIf
  clear hfin hgf hIf hv hg1 hI1 hnx
  simp only [TV.val]
  go_wp2_with fail
  exact bodyPost_ret (v := .tuple #[t.tv.val, .slice none 0 0]) (by simp [results, Try.results56, go_sem, TV.val, z0, z1, z2, z3]) rfl ⟨_, rfl, unhide HG, unhide HI, unhide HF⟩

set_option maxRecDepth 100000 in
set_option maxHeartbeats 1000000 in
theorem top_leaf (fv : Value) (k N : Int) (s : ByteArray) (a : Option Addr) (len cap : Nat) (W : World) (hk : k = 2 ∨ k = 3) (hs : s.size ≤ 9223372036854775807) :
    Calls Try.prog 56 #[.agg #[.int .i64 k, .int .i64 N, .string s, .slice a len cap], fv] W fun e W' => e = .returned (.tuple #[(⟨k, N, s, none, 0, 0⟩ : TV).val, .slice none 0 0]) ∧ Below W.heap.size W W' ∧ HoldsT 1 W.heap.size W' (⟨k, N, s, none, 0, 0⟩ : TV).val [(k, N, s.toList, 0)] := by
  have hk1 : (k == 1) = false := by simp; omega
  have hk4 : (k == 4) = false := by simp; omega
  clear hk
  go_enter Try.func56, Try.ntmps56
  go_wp2_with fail
  exact bodyPost_ret (v := .tuple #[(⟨k, N, s, none, 0, 0⟩ : TV).val, .slice none 0 0]) (by simp [results, Try.results56, go_sem, TV.val]) rfl ⟨rfl, ((Below.refl _ W).alloc (Nat.le_refl _) _).alloc (by simp) _, holds_leaf ⟨k, N, s, none, 0, 0⟩ rfl rfl rfl hs _ _⟩
theorem row4_new (W : World) (len : Nat) : Row4 (W.alloc (.cells (madeCells #[.int .i64 0, .int .i64 0, .string ⟨#[]⟩, .slice none 0 0] (len * 4)) 24)) W.heap.size len := ⟨madeCells #[.int .i64 0, .int .i64 0, .string ⟨#[]⟩, .slice none 0 0] (len * 4), World.alloc_heap_new _ _, size_madeCells _ _⟩
/-- What lies behind the call's first steps: the term's box, the cell of the result, the room that was made. -/
theorem made_world (W : World) (x : TV) (len : Nat) : ∃ W3, ((W.alloc (.cells #[.int .i64 x.k, .int .i64 x.N, .string x.s, .slice x.a x.len x.cap] 24)).alloc (.cells #[.int .i64 0, .int .i64 0, .string ⟨#[]⟩, .slice none 0 0] 24)).alloc (.cells (madeCells #[.int .i64 0, .int .i64 0, .string ⟨#[]⟩, .slice none 0 0] (len * 4)) 24) = W3 ∧
    Below W.heap.size W W3 ∧ W3.heap.size = W.heap.size + 3 ∧ BoxT W3 W.heap.size x ∧ W3.heap[W.heap.size + 1]? = some (.cells #[.int .i64 0, .int .i64 0, .string ⟨#[]⟩, .slice none 0 0] 24 (0, 0)) ∧ Row4 W3 (W.heap.size + 2) len := by
  refine ⟨_, rfl, (((Below.refl _ W).alloc (Nat.le_refl _) _).alloc (by simp) _).alloc (by simp; omega) _, by simp, ((BoxT.new W x).alloc _).alloc _, ?_, ?_⟩
  · have h := World.alloc_heap_new (W.alloc (.cells #[.int .i64 x.k, .int .i64 x.N, .string x.s, .slice x.a x.len x.cap] 24)) (.cells #[.int .i64 0, .int .i64 0, .string ⟨#[]⟩, .slice none 0 0] 24)
    rw [World.size_alloc] at h
    exact (Below.heap_alloc _ _ _ (by simp)).trans h
  · refine ⟨madeCells #[.int .i64 0, .int .i64 0, .string ⟨#[]⟩, .slice none 0 0] (len * 4), ?_, size_madeCells _ _⟩
    have h := World.alloc_heap_new ((W.alloc (.cells #[.int .i64 x.k, .int .i64 x.N, .string x.s, .slice x.a x.len x.cap] 24)).alloc (.cells #[.int .i64 0, .int .i64 0, .string ⟨#[]⟩, .slice none 0 0] 24)) (.cells (madeCells #[.int .i64 0, .int .i64 0, .string ⟨#[]⟩, .slice none 0 0] (len * 4)) 24)
    rw [World.size_alloc, World.size_alloc] at h
    exact h
set_option maxRecDepth 100000 in
set_option maxHeartbeats 1000000 in
theorem top_comp (fv : Value) (s : ByteArray) (a : Option Addr) (len cap : Nat) (W : World) (hl50 : len ≤ 50) :
    Calls Try.prog 56 #[.agg #[.int .i64 4, .int .i64 0, .string s, .slice a len cap], fv] W fun e W' => ∃ B, e = .returned (.tuple #[(⟨4, 0, s, some ⟨B, 0, none⟩, len, len⟩ : TV).val, .slice (some ⟨B, 0, none⟩) len len]) ∧ W.heap.size ≤ B ∧ Row4 W' B len ∧ Below W.heap.size W W' := by
  have hmk := make_terms len hl50
  go_enter Try.func56, Try.ntmps56
  go_wp2_with fail
  obtain ⟨A, hA⟩ : ∃ A, (W.alloc (.cells #[.int .i64 4, .int .i64 0, .string s, .slice a len cap] 24)).alloc (.cells #[.int .i64 4, .int .i64 0, .string s, .slice (some ⟨W.heap.size + 1 + 1, 0, none⟩) len len] 24) = A := ⟨_, rfl⟩
  have hs : A.heap.size = W.heap.size + 1 + 1 := by rw [← hA]; simp
  have hAb : Below W.heap.size W A := by rw [← hA]; exact ((Below.refl _ W).alloc (Nat.le_refl _) _).alloc (by simp) _
  have hbx : A.heap[W.heap.size + 1]? = some (.cells #[.int .i64 4, .int .i64 0, .string s, .slice (some ⟨W.heap.size + 1 + 1, 0, none⟩) len len] 24 (0, 0)) := by
    rw [← hA]
    have h := World.alloc_heap_new (W.alloc (.cells #[.int .i64 4, .int .i64 0, .string s, .slice a len cap] 24)) (.cells #[.int .i64 4, .int .i64 0, .string s, .slice (some ⟨W.heap.size + 1 + 1, 0, none⟩) len len] 24)
    rw [World.size_alloc] at h
    exact h
  rw [hA]
  clear hA
  have hr := row4_new A len
  rw [hs] at hr
  obtain ⟨⟨z0, z1, z2, z3⟩, -⟩ := zbox_kept ((Below.heap_alloc A (.cells (madeCells #[.int .i64 0, .int .i64 0, .string ⟨#[]⟩, .slice none 0 0] (len * 4)) 24) (W.heap.size + 1) (by omega)).trans hbx)
  exact bodyPost_ret (v := .tuple #[(⟨4, 0, s, some ⟨W.heap.size + 1 + 1, 0, none⟩, len, len⟩ : TV).val, .slice (some ⟨W.heap.size + 1 + 1, 0, none⟩) len len]) (by simp [results, Try.results56, go_sem, TV.val, z0, z1, z2, z3]) rfl ⟨_, rfl, by omega, hr, hAb.alloc (by omega) _⟩
end Go.Proofs.Ytcdgmjpgmiehcaa

