import Derived.Test.YtlbobmebbllifaaGreatJ
import Derived.Test.YtlbobmebbllifaaGreatCs
import Derived.WalkLawsBesides
import Derived.Test.YtlbobmebbllifaaGreatWk
/- The contract of term.variable; rows of terms that are written, slot by slot. -/
namespace Go.Proofs.YtlbobmebbllifaaGreat
open Go.RowKit Go.Shelf
def varV (N : Int) : TV := ⟨1, N, ⟨#[]⟩, none, 0, 0⟩
def varNd (N : Int) : Nd := (1, N, [], 0)
theorem holds_leaf (x : TV) (h0 : x.len = 0) (ha : x.a = none) (hcp : x.cap = 0) (hs : x.s.size ≤ 9223372036854775807) (lo : Nat) (W : World) : HoldsT 1 lo W x.val [x.nd] := fun m hm => by
 obtain ⟨m', rfl⟩ : ∃ m', m = m' + 1 := ⟨m - 1, by omega⟩
 refine ⟨((x, []) : TV × List (Tm m')), rfl, fun hl => ⟨h0, ⟨by simp [Tm.tv, h0], by simp [Tm.tv, h0, hcp], hl⟩, hs, .inl rfl⟩, ⟨⟨.inl rfl, fun u hu => by cases hu⟩, ⟨.inl ⟨rfl, ha, h0, hcp⟩, fun u hu => by cases hu⟩, List.nodup_nil, ⟨h0, fun u hu => by cases hu⟩⟩, ?_⟩
 rw [code_succ]; rfl
set_option maxHeartbeats 400000 in
theorem variable_any (N : Int) (w : World) : Calls Tryz.prog 63 #[.int .i64 N] w fun e W' => e = .returned (varV N).val ∧ Below w.heap.size w W' := by
 go_enter Tryz.func63, Tryz.ntmps63
 go_wp2
 refine bodyPost_ret (v := (varV N).val) (by simp [results, Tryz.results63, go_sem, varV, TV.val]) rfl ⟨rfl, (Below.refl _ _).alloc (Nat.le_refl _) _⟩
def set4 (W : World) (b o : Nat) (x : TV) : World := (((W.setCell ⟨b, o, none⟩ (.int .i64 x.k)).setCell ⟨b, o + 1, none⟩ (.int .i64 x.N)).setCell ⟨b, o + 2, none⟩ (.string x.s)).setCell ⟨b, o + 3, none⟩ (.slice x.a x.len x.cap)
theorem set4_size (W : World) (b o : Nat) (x : TV) : (set4 W b o x).heap.size = W.heap.size := by simp [set4]
theorem set4_other (W : World) (b o : Nat) (x : TV) {k : Nat} (h : k ≠ b) : (set4 W b o x).heap[k]? = W.heap[k]? := by
 unfold set4
 rw [Below.heap_setCell _ _ _ _ h, Below.heap_setCell _ _ _ _ h, Below.heap_setCell _ _ _ _ h, Below.heap_setCell _ _ _ _ h]
theorem far_ne {b p q : Nat} (h : p ≠ q) : (⟨b, p, none⟩ : Addr) ≠ ⟨b, q, none⟩ := fun e => h (by cases e; rfl)
theorem set4_far (W : World) (b o : Nat) (x : TV) {q : Nat} (h : q < o ∨ o + 3 < q) : (set4 W b o x).cell? ⟨b, q, none⟩ = W.cell? ⟨b, q, none⟩ := by
 unfold set4
 rw [World.cell?_setCell_other _ _ _ _ (far_ne (by omega)), World.cell?_setCell_other _ _ _ _ (far_ne (by omega)), World.cell?_setCell_other _ _ _ _ (far_ne (by omega)), World.cell?_setCell_other _ _ _ _ (far_ne (by omega))]
theorem set4_cells (W : World) (b o : Nat) (x : TV) (h0 : (W.cell? ⟨b, o, none⟩).isSome = true) (h1 : (W.cell? ⟨b, o + 1, none⟩).isSome = true) (h2 : (W.cell? ⟨b, o + 2, none⟩).isSome = true) (h3 : (W.cell? ⟨b, o + 3, none⟩).isSome = true) : cellsAt (set4 W b o x) b o x := by
 unfold set4
 refine ⟨?_, ?_, ?_, ?_⟩
 ·rw [World.cell?_setCell_other _ _ _ _ (by simp), World.cell?_setCell_other _ _ _ _ (by simp), World.cell?_setCell_other _ _ _ _ (by simp), World.cell?_setCell_same' _ _ _ h0]
 ·rw [World.cell?_setCell_other _ _ _ _ (by simp), World.cell?_setCell_other _ _ _ _ (by simp), World.cell?_setCell_same' _ _ _ (by rw [World.cell?_setCell_other _ _ _ _ (by simp)]; exact h1)]
 ·rw [World.cell?_setCell_other _ _ _ _ (by simp), World.cell?_setCell_same' _ _ _ (by rw [World.cell?_setCell_other _ _ _ _ (by simp), World.cell?_setCell_other _ _ _ _ (by simp)]; exact h2)]
 ·rw [World.cell?_setCell_same' _ _ _ (by rw [World.cell?_setCell_other _ _ _ _ (by simp), World.cell?_setCell_other _ _ _ _ (by simp), World.cell?_setCell_other _ _ _ _ (by simp)]; exact h3)]
theorem set4_below {n : Nat} {A W : World} (h : Below n A W) {b : Nat} (hb : n ≤ b) (o : Nat) (x : TV) : Below n A (set4 W b o x) :=
 (((h.setCell (p := ⟨b, o, none⟩) hb _).setCell (p := ⟨b, o + 1, none⟩) hb _).setCell (p := ⟨b, o + 2, none⟩) hb _).setCell (p := ⟨b, o + 3, none⟩) hb _
theorem below_two {W W1 : World} {o o' : Obj} (h : Below ((W.alloc o).alloc o').heap.size ((W.alloc o).alloc o') W1) : Below W.heap.size W W1 :=
 (((Below.refl _ W).alloc (Nat.le_refl _) _).alloc (by simp) _).trans (h.mono (by simp; omega))
theorem zbox_kept {W1 : World} {b : Nat} {c0 c1 c2 c3 : Value} (h : W1.heap[b]? = some (.cells #[c0, c1, c2, c3] 24 (0, 0))) :
  (W1.cell? ⟨b, 0, none⟩ = some c0 ∧ W1.cell? ⟨b, 1, none⟩ = some c1 ∧ W1.cell? ⟨b, 2, none⟩ = some c2 ∧ W1.cell? ⟨b, 3, none⟩ = some c3) ∧ (W1.frozen? ⟨b, 0, none⟩ = false ∧ W1.frozen? ⟨b, 1, none⟩ = false ∧ W1.frozen? ⟨b, 2, none⟩ = false ∧ W1.frozen? ⟨b, 3, none⟩ = false) := by
 refine ⟨⟨?_, ?_, ?_, ?_⟩, ?_, ?_, ?_, ?_⟩ <;> simp [World.cell?, World.frozen?, h]
theorem holds_set4 {D lo : Nat} {W1 : World} {v : Value} {c : List Nd} (h : HoldsT D lo W1 v c) {b : Nat} (hb : b < lo) (o : Nat) (x : TV) : HoldsT D lo (set4 W1 b o x) v c := fun m hm => by
 obtain ⟨t, h1, h2, h3, h4⟩ := h m hm
 exact ⟨t, h1, by rw [set4_size]; exact h2.from (fun k hk => set4_other W1 b o x (by omega)) h3.new, h3.kept (fun k hk _ => set4_other W1 b o x (by omega)), h4⟩
def subN (β : Int → List Nd) (x : Nd) : List Nd := if x.1 = 1 then β x.2.1 else [x]
def Becomes (g : Nat) (lb : Array Value) (β : Int → List Nd) (D : Nat) (w : World) : Prop :=
 ∀ (N : Int) (W : World), 0 ≤ N → N ≤ 1099511627776 → Below w.heap.size w W → Calls Tryz.prog g (#[.int .i64 N] ++ lb) W fun e W' => ∃ v, e = .returned v ∧ Below W.heap.size W W' ∧ HoldsT D W.heap.size W' v (β N)
theorem Tryz.info28 : (Tryz.prog.info? 24).map (fun i => (i.zero, i.size, i.bytes)) = some (some (.agg #[.int .i64 0, .int .i64 0, .string ⟨#[]⟩, .slice none 0 0]), 4, 56) := by kernel_rfl
theorem make_terms (len : Nat) (h : len ≤ 50) (w : World) : (Instr.makeSlice 22 (.int .i64 (len : Int)) (.int .i64 (len : Int))).run Tryz.prog w = .ok (.slice (some ⟨w.heap.size, 0, none⟩) len len) (w.alloc (.cells (madeCells #[.int .i64 0, .int .i64 0, .string ⟨#[]⟩, .slice none 0 0] (len * 4)) 24)) := by
 obtain ⟨i0, hi, hz0, hz1, hz2⟩ := info_parts Tryz.info28
 have hr := run_make (P := Tryz.prog) w 22 24 i0 _ Tryz.underlying22 hi hz0 .i64 .i64 len len (by omega) (Int.le_refl _) (by rw [hz2]; omega) (by omega)
 rw [hz1] at hr
 simpa [Value.cells] using hr
def Row4 (W : World) (B len : Nat) : Prop := ∃ arr : Array Value, W.heap[B]? = some (.cells arr 24 (0, 0)) ∧ arr.size = len * 4
theorem Row4.lt {W : World} {B len : Nat} (h : Row4 W B len) : B < W.heap.size := by obtain ⟨arr, h, _⟩ := h; exact (Array.getElem?_eq_some_iff.1 h).1
theorem Row4.cell {W : World} {B len : Nat} (h : Row4 W B len) {o : Nat} (ho : o < len * 4) : (∃ v, W.cell? ⟨B, o, none⟩ = some v) ∧ W.frozen? ⟨B, o, none⟩ = false := by
 obtain ⟨arr, h, hs⟩ := h
 refine ⟨⟨arr[o]'(by omega), ?_⟩, ?_⟩
 ·simp [World.cell?, h]
 ·simp [World.frozen?, h]
theorem Row4.kept {W W' : World} {B len : Nat} (h : Row4 W B len) (hb : W'.heap[B]? = W.heap[B]?) : Row4 W' B len := by
 obtain ⟨arr, h, hs⟩ := h
 exact ⟨arr, hb.trans h, hs⟩
theorem Row4.setCell {W : World} {B len : Nat} (h : Row4 W B len) (o : Nat) (v : Value) : Row4 (W.setCell ⟨B, o, none⟩ v) B len := by
 obtain ⟨arr, h, hs⟩ := h
 obtain ⟨hlt, hk⟩ := Array.getElem?_eq_some_iff.1 h
 refine ⟨arr.setIfInBounds o v, ?_, by simpa using hs⟩
 show (W.heap.modify B _)[B]? = _
 rw [Array.getElem?_eq_getElem (by rw [Array.size_modify]; exact hlt), Array.getElem_modify_self, hk]
 rfl
theorem Row4.set4 {W : World} {B len : Nat} (h : Row4 W B len) (o : Nat) (x : TV) : Row4 (set4 W B o x) B len :=
 (((h.setCell _ _).setCell _ _).setCell _ _).setCell _ _
theorem cellsAt.kept {W W' : World} {B o : Nat} {x : TV} (h : cellsAt W B o x) (hb : W'.heap[B]? = W.heap[B]?) : cellsAt W' B o x := by
 have hc : ∀ q, W'.cell? ⟨B, q, none⟩ = W.cell? ⟨B, q, none⟩ := fun q => World.cell?_of_block (w := W) hb
 exact ⟨(hc _).trans h.1, (hc _).trans h.2.1, (hc _).trans h.2.2.1, (hc _).trans h.2.2.2⟩
def Written (D B j : Nat) (W : World) (c : List Nd) : Prop :=
 ∀ M, D ≤ M → ∃ ks : List (Tm M), ks.length = j ∧ (∀ i u, ks[i]? = some u → cellsAt W B (i * 4) u.tv ∧ IsW W.heap.size W u ∧ NewW (B + 1) W u) ∧ ks.flatMap code = c ∧ (ks.flatMap blks).Nodup
theorem Written.zero (D B : Nat) (W : World) : Written D B 0 W [] := fun M _ => ⟨[], rfl, fun i u h => by simp at h, rfl, List.nodup_nil⟩
theorem Written.add {D B j lo : Nat} {V V' : World} {c cu : List Nd} {x : TV} (h : Written D B j V c) (hk : TK (B + 1) V V') (hB : ∀ q, q < j * 4 → V'.cell? ⟨B, q, none⟩ = V.cell? ⟨B, q, none⟩) (hc : cellsAt V' B (j * 4) x) (hx : HoldsT D lo V' x.val cu) (hlo : V.heap.size ≤ lo) (hBl : B < V.heap.size) : Written D B (j + 1) V' (c ++ cu) := fun M hM => by
 obtain ⟨ks, hl, hks, hcs, hnd⟩ := h M hM
 obtain ⟨u, hu, hT, hN0, hcu⟩ := hx M hM
 have hux : u.tv = x := by
  simp only [TV.val, Value.agg.injEq] at hu
  simp at hu
  obtain ⟨e1, e2, e3, e4, e5, e6⟩ := hu
  cases hx : u.tv; cases x; simp_all
 refine ⟨ks ++ [u], by simp [hl], fun i z hz => ?_, by simp [hcs, hcu], kids_apart (fun i z hz => (hks i z hz).2.2) hnd hN0 hlo⟩
 by_cases hi : i < j
 ·rw [List.getElem?_append_left (by omega)] at hz
  obtain ⟨⟨c0, c1, c2, c3⟩, k2, k3⟩ := hks i z hz
  exact ⟨⟨(hB _ (by omega)).trans c0, (hB _ (by omega)).trans c1, (hB _ (by omega)).trans c2, (hB _ (by omega)).trans c3⟩, fun hl => (IsT.tk hk (k2 hl) k3.wh).mono hk.size, k3.tk hk⟩
 ·rw [List.getElem?_append_right (by omega)] at hz
  have hi2 : i - ks.length = 0 := by
   by_cases e : i - ks.length = 0
   ·exact e
   ·rw [List.getElem?_eq_none (by simp; omega)] at hz; cases hz
  rw [hi2] at hz
  simp at hz
  subst hz
  obtain rfl : i = j := by omega
  rw [hux]
  exact ⟨hc, hT, hN0.mono (by omega)⟩
theorem comp_holds {D B len lo : Nat} {V : World} {s : ByteArray} {c : List Nd} (hs : s.size ≤ 9223372036854775807) (hl : len ≤ 50) (hr : Row4 V B len) (hw : Written D B len V c) (hlo : lo ≤ B) : HoldsT (D + 1) lo V (⟨4, 0, s, some ⟨B, 0, none⟩, len, len⟩ : TV).val ((4, 0, s.toList, len) :: c) := fun m hm => by
 obtain ⟨M, rfl⟩ : ∃ M, m = M + 1 := ⟨m - 1, by omega⟩
 obtain ⟨ks, hkl, hks, hkc, hnd⟩ := hw M (by omega)
 obtain ⟨arr, ha1, ha2⟩ := hr
 have hBl := (Array.getElem?_eq_some_iff.1 ha1).1
 refine ⟨((⟨4, 0, s, some ⟨B, 0, none⟩, len, len⟩, ks) : TV × List (Tm M)), rfl, fun hlim => ⟨hkl.symm, ⟨?_, Nat.le_refl _, hlim⟩, hs, .inr ⟨B, 0, rfl, hBl, fun j u hu => ?_⟩⟩, ⟨⟨.inr ⟨B, 0, rfl, hlo⟩, fun u hu => ?_⟩, ⟨.inr ⟨B, arr, hlo, rfl, rfl, ha1, ha2⟩, fun u hu => ?_⟩, row_apart (B := B) rfl (Nat.lt_succ_self _) (fun i z hz => (hks i z hz).2.2) hnd, ⟨hkl.symm, fun u hu => ?_⟩⟩, ?_⟩
 ·show len ≤ _
  omega
 ·obtain ⟨k1, k2, k3⟩ := hks j u hu
  rw [Nat.zero_add]
  exact ⟨k1, k2 (by omega)⟩
 ·obtain ⟨j, hj⟩ := List.mem_iff_getElem?.1 hu
  exact ((hks j u hj).2.2.mono (by omega)).new
 ·obtain ⟨j, hj⟩ := List.mem_iff_getElem?.1 hu
  exact ((hks j u hj).2.2.mono (by omega)).wh
 ·obtain ⟨j, hj⟩ := List.mem_iff_getElem?.1 hu
  exact (hks j u hj).2.2.wl
 ·rw [code_succ, hkc]; rfl
/- The contracts of cmp.Compare at int, int64 and string, and of term.orderTop. -/
set_option maxHeartbeats 1000000
theorem ret_int {k : IntKind} {a b : Int} (h : a = b) : Ending.returned (.int k a) = .returned (.int k b) := by rw [h]
theorem cmp3_lt {a b : Int} (h : a < b) : -1 = cmp3 a b := by unfold cmp3; rw [if_pos h]
theorem cmp3_gt {a b : Int} (h : b < a) : 1 = cmp3 a b := by unfold cmp3; rw [if_neg (by omega), if_pos h]
theorem cmp3_eq {a b : Int} (h1 : b ≤ a) (h2 : a ≤ b) : 0 = cmp3 a b := by unfold cmp3; rw [if_neg (by omega), if_neg (by omega)]
theorem cmpi_any (a b : Int) (w : World) : Calls Tryz.prog 130 #[.int .i64 a, .int .i64 b] w fun e W' => e = .returned (.int .i64 (cmp3 a b)) ∧ W' = w := by
 go_enter Tryz.func130, Tryz.ntmps130
 go_wp2
 all_goals go_ret
 all_goals refine ⟨?_, rfl⟩
 ·exact ret_int (cmp3_lt ‹_›)
 ·exact ret_int (cmp3_gt ‹b < a›)
 ·exact ret_int (cmp3_eq ‹b ≤ a› ‹a ≤ b›)
theorem cmpl_any (a b : Int) (w : World) : Calls Tryz.prog 98 #[.int .i64 a, .int .i64 b] w fun e W' => e = .returned (.int .i64 (cmp3 a b)) ∧ W' = w := by
 go_enter Tryz.func98, Tryz.ntmps98
 go_wp2
 all_goals go_ret
 all_goals refine ⟨?_, rfl⟩
 ·exact ret_int (cmp3_lt ‹_›)
 ·exact ret_int (cmp3_gt ‹b < a›)
 ·exact ret_int (cmp3_eq ‹b ≤ a› ‹a ≤ b›)
theorem cmps_any (a b : ByteArray) (w : World) : Calls Tryz.prog 131 #[.string a, .string b] w fun e W' => e = .returned (.int .i64 (cmpS a.toList b.toList)) ∧ W' = w := by
 go_enter Tryz.func131, Tryz.ntmps131
 go_wp2
 all_goals go_ret
 all_goals refine ⟨?_, rfl⟩
 ·exact ret_int (by unfold cmpS; rw [if_pos ‹_›])
 ·have h1 : Op.bytesLess a.toList b.toList = false := by assumption
  have h2 : (!a.toList == b.toList) = true := by assumption
  exact ret_int (by unfold cmpS; rw [if_neg (by rw [h1]; simp), if_neg (by simpa using h2)])
 ·have h1 : Op.bytesLess a.toList b.toList = false := by assumption
  have h2 : (!a.toList == b.toList) = false := by assumption
  exact ret_int (by unfold cmpS; rw [if_neg (by rw [h1]; simp), if_pos (by simpa using h2)])
theorem otop1 {x y : TV} (h : cmp3 x.k y.k ≠ 0) : cmp3 x.k y.k = otop x y := by unfold otop thenC; rw [if_pos h]
theorem otop2 {x y : TV} (h : cmp3 x.k y.k = 0) (h2 : cmp3 x.N y.N ≠ 0) : cmp3 x.N y.N = otop x y := by unfold otop thenC; rw [if_neg (by omega), if_pos h2]
theorem otop3 {x y : TV} (h : cmp3 x.k y.k = 0) (h2 : cmp3 x.N y.N = 0) (h3 : cmp3 x.len y.len ≠ 0) : cmp3 x.len y.len = otop x y := by unfold otop thenC; rw [if_neg (by omega), if_neg (by omega), if_pos h3]
theorem otop4 {x y : TV} (h : cmp3 x.k y.k = 0) (h2 : cmp3 x.N y.N = 0) (h3 : cmp3 x.len y.len = 0) : cmpS x.s.toList y.s.toList = otop x y := by unfold otop thenC; rw [if_neg (by omega), if_neg (by omega), if_neg (by omega)]
theorem otop_any (x y : TV) (w : World) : Calls Tryz.prog 101 #[x.val, y.val] w fun e W' => e = .returned (.int .i64 (otop x y)) ∧ Below w.heap.size w W' := by
 simp only [TV.val]
 have hB : Below w.heap.size w ((w.alloc (.cells #[.int .i64 x.k, .int .i64 x.N, .string x.s, .slice x.a x.len x.cap] 24)).alloc (.cells #[.int .i64 y.k, .int .i64 y.N, .string y.s, .slice y.a y.len y.cap] 24)) := ((Below.refl _ w).alloc (Nat.le_refl _) _).alloc (by simp) _
 have HB := hide hB
 clear hB
 have h49 := cmpi_any x.k y.k ((w.alloc (.cells #[.int .i64 x.k, .int .i64 x.N, .string x.s, .slice x.a x.len x.cap] 24)).alloc (.cells #[.int .i64 y.k, .int .i64 y.N, .string y.s, .slice y.a y.len y.cap] 24))
 have h42 := cmpl_any x.N y.N ((w.alloc (.cells #[.int .i64 x.k, .int .i64 x.N, .string x.s, .slice x.a x.len x.cap] 24)).alloc (.cells #[.int .i64 y.k, .int .i64 y.N, .string y.s, .slice y.a y.len y.cap] 24))
 have h49b := cmpi_any x.len y.len ((w.alloc (.cells #[.int .i64 x.k, .int .i64 x.N, .string x.s, .slice x.a x.len x.cap] 24)).alloc (.cells #[.int .i64 y.k, .int .i64 y.N, .string y.s, .slice y.a y.len y.cap] 24))
 have h50 := cmps_any x.s y.s ((w.alloc (.cells #[.int .i64 x.k, .int .i64 x.N, .string x.s, .slice x.a x.len x.cap] 24)).alloc (.cells #[.int .i64 y.k, .int .i64 y.N, .string y.s, .slice y.a y.len y.cap] 24))
 have e1 := @otop1 x y
 have e2 := @otop2 x y
 have e3 := @otop3 x y
 have e4 := @otop4 x y
 generalize cmp3 x.k y.k = c1 at *
 generalize cmp3 x.N y.N = c2 at *
 generalize cmp3 x.len y.len = c3 at *
 generalize cmpS x.s.toList y.s.toList = c4 at *
 generalize otop x y = r at *
 have E1 := hide e1
 have E2 := hide e2
 have E3 := hide e3
 have E4 := hide e4
 clear e1 e2 e3 e4
 by_cases hc1 : c1 = 0
 ·have hb1 : (c1 != 0) = false := by simp [hc1]
  have H1 := hide hc1
  clear hc1
  by_cases hc2 : c2 = 0
  ·have hb2 : (c2 != 0) = false := by simp [hc2]
   have H2 := hide hc2
   clear hc2
   by_cases hc3 : c3 = 0
   ·have hb3 : (c3 != 0) = false := by simp [hc3]
    have H3 := hide hc3
    clear hc3
    go_enter Tryz.func101, Tryz.ntmps101
    go_wp2_with (first
     | (go_at_call 130; refine h49.mono ?_; clear h49; rintro e w' ⟨rfl, rfl⟩)
     | (go_at_call 98; refine h42.mono ?_; clear h42; rintro e w' ⟨rfl, rfl⟩)
     | (go_at_call 130; refine h49b.mono ?_; clear h49b; rintro e w' ⟨rfl, rfl⟩)
     | (go_at_call 131; refine h50.mono ?_; clear h50; rintro e w' ⟨rfl, rfl⟩))
    go_ret
    exact ⟨ret_int ((unhide E4) (unhide H1) (unhide H2) (unhide H3)), unhide HB⟩
   ·have hb3 : (c3 != 0) = true := by simp [hc3]
    go_enter Tryz.func101, Tryz.ntmps101
    go_wp2_with (first
     | (go_at_call 130; refine h49.mono ?_; clear h49; rintro e w' ⟨rfl, rfl⟩)
     | (go_at_call 98; refine h42.mono ?_; clear h42; rintro e w' ⟨rfl, rfl⟩)
     | (go_at_call 130; refine h49b.mono ?_; clear h49b; rintro e w' ⟨rfl, rfl⟩))
    go_ret
    exact ⟨ret_int ((unhide E3) (unhide H1) (unhide H2) hc3), unhide HB⟩
  ·have hb2 : (c2 != 0) = true := by simp [hc2]
   go_enter Tryz.func101, Tryz.ntmps101
   go_wp2_with (first
    | (go_at_call 130; refine h49.mono ?_; clear h49; rintro e w' ⟨rfl, rfl⟩)
    | (go_at_call 98; refine h42.mono ?_; clear h42; rintro e w' ⟨rfl, rfl⟩))
   go_ret
   exact ⟨ret_int ((unhide E2) (unhide H1) hc2), unhide HB⟩
 ·have hb1 : (c1 != 0) = true := by simp [hc1]
  go_enter Tryz.func101, Tryz.ntmps101
  go_wp2_with (go_at_call 130; refine h49.mono ?_; clear h49; rintro e w' ⟨rfl, rfl⟩)
  go_ret
  exact ⟨ret_int ((unhide E1) hc1), unhide HB⟩
/- Rows of pairs of lists that a call keeps: two cells each. -/
def Two (k : TypeId) : Prop := ∃ i, Tryz.prog.info? k = some i ∧ i.zero = some (.agg #[.slice none 0 0, .slice none 0 0]) ∧ i.size = 2 ∧ i.bytes = 48
def cells2 (S : List (Value × Value)) : List Value := S.flatMap fun p => [p.1, p.2]
theorem cells2_len (S : List (Value × Value)) : (cells2 S).length = S.length * 2 := by
 induction S with
 | nil => rfl
 | cons a S ih =>
  have : cells2 (a :: S) = a.1 :: a.2 :: cells2 S := rfl
  rw [this]
  simp only [List.length_cons, ih]
  omega
theorem cells2_snoc (S : List (Value × Value)) (p : Value × Value) : cells2 (S ++ [p]) = cells2 S ++ [p.1, p.2] := by simp [cells2]
def Stk2 (k B g cap : Nat) (W : World) (S : List (Value × Value)) : Prop := W.ownsRow B k 2 (.slice (some ⟨g, 0, none⟩) S.length cap) S.length (cells2 S)
theorem Stk2.blk {k B g cap : Nat} {W : World} {S : List (Value × Value)} (h : Stk2 k B g cap W S) : B ≤ g ∧ S.length ≤ cap ∧ ∃ cur, W.heap[g]? = some (.cells cur k (0, 0)) ∧ cap ≤ maxLen ∧ cur.size = cap * 2 ∧ cur.toList.take (S.length * 2) = cells2 S := by
 obtain ⟨h1, h2⟩ := h
 rcases h2 with ⟨h2, _⟩ | ⟨g', cap', cur, h2, h3, h4, h5, h6, h7, h8⟩
 ·cases h2
 ·simp only [Value.slice.injEq, Option.some.injEq, Addr.mk.injEq, and_true, true_and] at h2
  obtain ⟨rfl, rfl⟩ := h2
  exact ⟨h3, h5, cur, h4, h6, h7, h8⟩
theorem stk2_mk {k B g cap : Nat} {W : World} {S : List (Value × Value)} {cur : Array Value} (h3 : B ≤ g) (h5 : S.length ≤ cap) (h4 : W.heap[g]? = some (.cells cur k (0, 0))) (h6 : cap ≤ maxLen) (h7 : cur.size = cap * 2) (h8 : cur.toList.take (S.length * 2) = cells2 S) : Stk2 k B g cap W S :=
 ⟨cells2_len S, .inr ⟨g, cap, cur, rfl, h3, h4, h5, h6, h7, h8⟩⟩
theorem Stk2.lt {k B g cap : Nat} {W : World} {S : List (Value × Value)} (h : Stk2 k B g cap W S) : g < W.heap.size := by
 obtain ⟨_, _, cur, h3, _⟩ := h.blk
 exact (Array.getElem?_eq_some_iff.1 h3).1
theorem Stk2.kept {k B g cap : Nat} {W W' : World} {S : List (Value × Value)} (h : Stk2 k B g cap W S) (hk : W'.heap[g]? = W.heap[g]?) : Stk2 k B g cap W' S := by
 obtain ⟨h1, h2, cur, h3, h4, h5, h6⟩ := h.blk
 exact stk2_mk h1 h2 (hk.trans h3) h4 h5 h6
theorem Stk2.below {k B g cap : Nat} {W W' : World} {S : List (Value × Value)} (h : Stk2 k B g cap W S) (hk : Below W.heap.size W W') : Stk2 k B g cap W' S := h.kept (hk.block g h.lt)
theorem Stk2.pop {k B g cap : Nat} {W : World} {S : List (Value × Value)} {p : Value × Value} (h : Stk2 k B g cap W (S ++ [p])) : Stk2 k B g cap W S := by
 obtain ⟨h1, h2, cur, h3, h4, h5, h6⟩ := h.blk
 simp only [List.length_append, List.length_cons, List.length_nil] at h2 h6
 refine stk2_mk h1 (by omega) h3 h4 h5 ?_
 have := congrArg (List.take (S.length * 2)) h6
 rw [List.take_take, Nat.min_eq_left (by omega), cells2_snoc, List.take_left' (cells2_len S)] at this
 exact this
theorem Stk2.top {k B g cap : Nat} {W : World} {S : List (Value × Value)} {p : Value × Value} (h : Stk2 k B g cap W (S ++ [p])) : W.cell? ⟨g, S.length * 2, none⟩ = some p.1 ∧ W.cell? ⟨g, S.length * 2 + 1, none⟩ = some p.2 ∧ W.frozen? ⟨g, S.length * 2, none⟩ = false ∧ W.frozen? ⟨g, S.length * 2 + 1, none⟩ = false := by
 have h1 := World.ownsRow.cellAt h (S.length * 2) (by simp only [List.length_append, List.length_cons, List.length_nil]; omega)
 have h2 := World.ownsRow.cellAt h (S.length * 2 + 1) (by simp only [List.length_append, List.length_cons, List.length_nil]; omega)
 have hl := cells2_len S
 rw [cells2_snoc] at h1 h2
 refine ⟨h1.trans ?_, h2.trans ?_, World.ownsRow.frozenAt h _, World.ownsRow.frozenAt h _⟩
 ·rw [List.getElem?_append_right (by omega), hl, Nat.sub_self]; rfl
 ·rw [List.getElem?_append_right (by omega), hl, Nat.add_sub_cancel_left]; rfl
theorem Stk2.set0 {k B g cap : Nat} {W : World} {S : List (Value × Value)} {p : Value × Value} (h : Stk2 k B g cap W (S ++ [p])) (v : Value) : Stk2 k B g cap (W.setCell ⟨g, S.length * 2, none⟩ v) (S ++ [(v, p.2)]) ∧ W.grownBy (W.setCell ⟨g, S.length * 2, none⟩ v) (some g) := by
 have h1 := World.ownsRow.stored h (S.length * 2) v
 refine ⟨?_, h1.2⟩
 have hl := cells2_len S
 have e : (cells2 (S ++ [p])).set (S.length * 2) v = cells2 (S ++ [(v, p.2)]) := by
  rw [cells2_snoc, cells2_snoc, List.set_append_right _ _ (by omega), hl]
  simp
 unfold Stk2
 rw [← e]
 simpa using h1.1
theorem Stk2.set1 {k B g cap : Nat} {W : World} {S : List (Value × Value)} {p : Value × Value} (h : Stk2 k B g cap W (S ++ [p])) (v : Value) : Stk2 k B g cap (W.setCell ⟨g, S.length * 2 + 1, none⟩ v) (S ++ [(p.1, v)]) ∧ W.grownBy (W.setCell ⟨g, S.length * 2 + 1, none⟩ v) (some g) := by
 have h1 := World.ownsRow.stored h (S.length * 2 + 1) v
 refine ⟨?_, h1.2⟩
 have hl := cells2_len S
 have e : (cells2 (S ++ [p])).set (S.length * 2 + 1) v = cells2 (S ++ [(p.1, v)]) := by
  rw [cells2_snoc, cells2_snoc, List.set_append_right _ _ (by omega), hl, Nat.add_sub_cancel_left]
  rfl
 unfold Stk2
 rw [← e]
 simpa using h1.1
theorem two_make {k T : TypeId} (hk : Two k) (hu : Tryz.prog.underlying T = some (.slice k)) (w : World) : (Instr.makeSlice T (.int .i64 0) (.int .i64 8)).run Tryz.prog w = .ok (.slice (some ⟨w.heap.size, 0, none⟩) 0 8) (w.alloc (.cells (madeCells #[.slice none 0 0, .slice none 0 0] 16) k)) := by
 obtain ⟨i0, hi, hz0, hz1, hz2⟩ := hk
 have hr := run_make (P := Tryz.prog) w T k i0 _ hu hi hz0 .i64 .i64 0 8 (by omega) (by omega) (by rw [hz2]; omega) (by omega)
 rw [hz1] at hr
 simpa [Value.cells] using hr
theorem two_fits {k T : TypeId} (hk : Two k) (hu : Tryz.prog.underlying T = some (.slice k)) {B : Nat} {w W : World} {p : Value × Value} {g h c : Nat} (hn : B ≤ w.heap.size) (hb : Below w.heap.size w W) (hg : w.heap.size ≤ g) (hG : W.heap[g]? = some (.cells (madeCells #[.slice none 0 0, .slice none 0 0] 16) k (0, 0))) (hH : W.cell? ⟨h, 0, none⟩ = some p.1) (hH1 : W.cell? ⟨h, 1, none⟩ = some p.2) (o1 : p.1.oneCell' = true) (o2 : p.2.oneCell' = true) :
  ∃ X, (Builtin.append_ #[T, T] T #[.slice (some ⟨g, 0, none⟩) 0 8, .slice (some ⟨h, 0, none⟩) 1 c]).run Tryz.prog W = .ok (.slice (some ⟨g, 0, none⟩) 1 8) X ∧ Stk2 k B g 8 X [p] ∧ Below w.heap.size w X := by
 obtain ⟨i0, hi, hz0, hz1, hz2⟩ := hk
 have hs : (madeCells #[Value.slice none 0 0, .slice none 0 0] 16).size = 16 := size_madeCells _ _
 obtain ⟨X, h1, h2, h3⟩ := run_append_fits (P := Tryz.prog) W B T T k i0 2 hu hi hz1 g 0 8 [] ⟨by simp, .inr ⟨g, 8, _, rfl, by omega, hG, by omega, by unfold maxLen; omega, by omega, by simp⟩⟩ ⟨h, 0, none⟩ 1 c [p.1, p.2] (by simp) (fun j u hu => by
  match j with
  | 0 => simp at hu; subst hu; simpa [Addr.add] using hH
  | 1 => simp at hu; subst hu; simpa [Addr.add] using hH1
  | j + 2 => simp at hu) (fun u hu => by simp at hu; rcases hu with rfl | rfl; exact o1; exact o2) (by omega)
 exact ⟨X, by simpa using h1, by unfold Stk2; simpa [cells2] using h2, hb.grown h3 hb.size (fun k e => by cases e; exact hg)⟩
theorem two_a {k T : TypeId} (hk : Two k) (hu : Tryz.prog.underlying T = some (.slice k)) {B : Nat} (w : World) (p : Value × Value) (o1 : p.1.oneCell' = true) (o2 : p.2.oneCell' = true) (hn : B ≤ w.heap.size) :
  ∃ X, (Builtin.append_ #[T, T] T #[.slice (some ⟨w.heap.size, 0, none⟩) 0 8, .slice (some ⟨w.heap.size + 1, 0, none⟩) 1 1]).run Tryz.prog ((w.alloc (.cells (madeCells #[.slice none 0 0, .slice none 0 0] 16) k)).alloc (.cells #[p.1, p.2] k)) = .ok (.slice (some ⟨w.heap.size, 0, none⟩) 1 8) X ∧ Stk2 k B w.heap.size 8 X [p] ∧ Below w.heap.size w X := by
 obtain ⟨A, hA⟩ : ∃ A, w.alloc (.cells (madeCells #[.slice none 0 0, .slice none 0 0] 16) k) = A := ⟨_, rfl⟩
 have hs : A.heap.size = w.heap.size + 1 := by rw [← hA]; simp
 have hAg : A.heap[w.heap.size]? = some (.cells (madeCells #[.slice none 0 0, .slice none 0 0] 16) k (0, 0)) := by rw [← hA]; exact World.alloc_heap_new w _
 have hAb : Below w.heap.size w A := by rw [← hA]; exact (Below.refl _ w).alloc (Nat.le_refl _) _
 rw [hA]
 clear hA
 have := World.alloc_heap_new A (.cells #[p.1, p.2] k)
 rw [hs] at this
 exact two_fits hk hu hn (hAb.alloc hAb.size _) (Nat.le_refl _) ((Below.heap_alloc _ _ _ (by omega)).trans hAg) (by simp [World.cell?, this]) (by simp [World.cell?, this]) o1 o2
theorem two_b {k T : TypeId} (hk : Two k) (hu : Tryz.prog.underlying T = some (.slice k)) {B : Nat} (w : World) (p : Value × Value) (o1 : p.1.oneCell' = true) (o2 : p.2.oneCell' = true) (hn : B ≤ w.heap.size) :
  ∃ X, (Builtin.append_ #[T, T] T #[.slice (some ⟨w.heap.size + 1, 0, none⟩) 0 8, .slice (some ⟨w.heap.size, 0, none⟩) 1 1]).run Tryz.prog ((w.alloc (.cells #[p.1, p.2] k)).alloc (.cells (madeCells #[.slice none 0 0, .slice none 0 0] 16) k)) = .ok (.slice (some ⟨w.heap.size + 1, 0, none⟩) 1 8) X ∧ Stk2 k B (w.heap.size + 1) 8 X [p] ∧ Below w.heap.size w X := by
 obtain ⟨A, hA⟩ : ∃ A, w.alloc (.cells #[p.1, p.2] k) = A := ⟨_, rfl⟩
 have hs : A.heap.size = w.heap.size + 1 := by rw [← hA]; simp
 have hAg : A.heap[w.heap.size]? = some (.cells #[p.1, p.2] k (0, 0)) := by rw [← hA]; exact World.alloc_heap_new w _
 have hAb : Below w.heap.size w A := by rw [← hA]; exact (Below.refl _ w).alloc (Nat.le_refl _) _
 rw [hA]
 clear hA
 have h1 := World.alloc_heap_new A (.cells (madeCells #[.slice none 0 0, .slice none 0 0] 16) k)
 rw [hs] at h1
 have := (Below.heap_alloc A (.cells (madeCells #[.slice none 0 0, .slice none 0 0] 16) k) w.heap.size (by omega)).trans hAg
 exact two_fits hk hu hn (hAb.alloc hAb.size _) (Nat.le_succ _) h1 (by simp [World.cell?, this]) (by simp [World.cell?, this]) o1 o2
theorem Stk2.push {k T : TypeId} (hk : Two k) (hu : Tryz.prog.underlying T = some (.slice k)) {B g cap h : Nat} {W : World} {S : List (Value × Value)} (hs : Stk2 k B g cap W S) (p : Value × Value) (o1 : p.1.oneCell' = true) (o2 : p.2.oneCell' = true) (hh : W.heap.size = h) (hS : (S.length + 1) * 48 ≤ 140737488355328) (hn : B ≤ W.heap.size) :
  ∃ g' cap' X, (Builtin.append_ #[T, T] T #[.slice (some ⟨g, 0, none⟩) S.length cap, .slice (some ⟨h, 0, none⟩) 1 1]).run Tryz.prog (W.alloc (.cells #[p.1, p.2] k)) = .ok (.slice (some ⟨g', 0, none⟩) (S.length + 1) cap') X ∧ Stk2 k B g' cap' X (S ++ [p]) ∧ (W.alloc (.cells #[p.1, p.2] k)).grownBy X (some g) := by
 obtain ⟨i0, hi, hz0, hz1, hz2⟩ := hk
 have h1 := World.alloc_heap_new W (.cells #[p.1, p.2] k)
 rw [hh] at h1
 have hs' : Stk2 k B g cap (W.alloc (.cells #[p.1, p.2] k)) S := hs.kept (Below.heap_alloc W _ g hs.lt)
 have hl : S.length + 1 ≤ maxLen := by unfold maxLen; omega
 obtain ⟨v', X, r1, r2, r3, r4⟩ := run_append_own (P := Tryz.prog) (W.alloc (.cells #[p.1, p.2] k)) B T T k i0 (.agg #[.slice none 0 0, .slice none 0 0]) 2 48 hu hi hz0 hz1 hz2 rfl (by omega) (.slice (some ⟨g, 0, none⟩) S.length cap) S.length (cells2 S) hs' ⟨h, 0, none⟩ 1 1 [p.1, p.2] (by simp) (fun j u hu => by
  match j with
  | 0 => simp at hu; subst hu; simp [World.cell?, Addr.add, h1]
  | 1 => simp at hu; subst hu; simp [World.cell?, Addr.add, h1]
  | j + 2 => simp at hu) (fun u hu => by simp at hu; rcases hu with rfl | rfl; exact o1; exact o2) hl hS (by simp; omega)
 rcases r2.2 with ⟨hnil, h0⟩ | ⟨g', cap', cur, rfl, q1, q2, q3, q4, q5, q6⟩
 ·omega
 ·refine ⟨g', cap', X, r1, ?_, r3⟩
  unfold Stk2
  rw [List.length_append, List.length_cons, List.length_nil, cells2_snoc]
  exact r2
end Go.Proofs.YtlbobmebbllifaaGreat
