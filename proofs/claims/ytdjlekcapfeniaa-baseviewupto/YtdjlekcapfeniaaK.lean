import Derived.Test.YtdjlekcapfeniaaJ
import Derived.Laws.MakeOwn
import Derived.Outline
/- The contract of term.variable and of term.replace. -/
namespace Go.Proofs.Ytdjlekcapfeniaa
open Go.RowKit Go.Shelf

def varV (N : Int) : TV := ⟨1, N, ⟨#[]⟩, none, 0, 0⟩
def varNd (N : Int) : Nd := (1, N, [], 0)
theorem holds_leaf (x : TV) (h0 : x.len = 0) (ha : x.a = none) (hcp : x.cap = 0) (hs : x.s.size ≤ 9223372036854775807) (lo : Nat) (W : World) : HoldsT 1 lo W x.val [x.nd] := fun m hm => by
  obtain ⟨m', rfl⟩ : ∃ m', m = m' + 1 := ⟨m - 1, by omega⟩
  refine ⟨((x, []) : TV × List (Tm m')), rfl, ⟨h0, by simp [Tm.tv, h0], hs, .inl rfl⟩, ⟨⟨.inl rfl, fun u hu => by cases hu⟩, ⟨.inl ⟨rfl, ha, h0, hcp⟩, fun u hu => by cases hu⟩, List.nodup_nil⟩, ?_⟩
  rw [code_succ]; rfl

set_option maxHeartbeats 400000 in
theorem variable_any (N : Int) (w : World) : Calls Try.prog 47 #[.int .i64 N] w fun e W' => e = .returned (varV N).val ∧ Below w.heap.size w W' := by
  go_enter Try.func47, Try.ntmps47
  go_wp2
  refine bodyPost_ret (v := (varV N).val) (by simp [results, Try.results47, go_sem, varV, TV.val]) rfl ⟨rfl, (Below.refl _ _).alloc (Nat.le_refl _) _⟩

/-- A term's four cells stored from an offset on. -/
def set4 (W : World) (b o : Nat) (x : TV) : World := (((W.setCell ⟨b, o, none⟩ (.int .i64 x.k)).setCell ⟨b, o + 1, none⟩ (.int .i64 x.N)).setCell ⟨b, o + 2, none⟩ (.string x.s)).setCell ⟨b, o + 3, none⟩ (.slice x.a x.len x.cap)
theorem set4_size (W : World) (b o : Nat) (x : TV) : (set4 W b o x).heap.size = W.heap.size := by simp [set4]
theorem set4_other (W : World) (b o : Nat) (x : TV) {k : Nat} (h : k ≠ b) : (set4 W b o x).heap[k]? = W.heap[k]? := by
  unfold set4
  rw [Below.heap_setCell _ _ _ _ h, Below.heap_setCell _ _ _ _ h, Below.heap_setCell _ _ _ _ h, Below.heap_setCell _ _ _ _ h]
theorem far_ne {b p q : Nat} (h : p ≠ q) : (⟨b, p, none⟩ : Addr) ≠ ⟨b, q, none⟩ := fun e => h (by cases e; rfl)
theorem set4_far (W : World) (b o : Nat) (x : TV) {q : Nat} (h : q < o ∨ o + 3 < q) : (set4 W b o x).cell? ⟨b, q, none⟩ = W.cell? ⟨b, q, none⟩ := by
  unfold set4
  rw [World.cell?_setCell_other _ _ _ _ (far_ne (by omega)), World.cell?_setCell_other _ _ _ _ (far_ne (by omega)), World.cell?_setCell_other _ _ _ _ (far_ne (by omega)), World.cell?_setCell_other _ _ _ _ (far_ne (by omega))]
theorem set4_cells (W : World) (b o : Nat) (x : TV) (h0 : (W.cell? ⟨b, o, none⟩).isSome = true) (h1 : (W.cell? ⟨b, o + 1, none⟩).isSome = true) (h2 : (W.cell? ⟨b, o + 2, none⟩).isSome = true) (h3 : (W.cell? ⟨b, o + 3, none⟩).isSome = true) : cellsAt (set4 W b o x) b o x := by
  unfold set4
  refine ⟨?_, ?_, ?_, ?_⟩
  · rw [World.cell?_setCell_other _ _ _ _ (by simp), World.cell?_setCell_other _ _ _ _ (by simp), World.cell?_setCell_other _ _ _ _ (by simp), World.cell?_setCell_same' _ _ _ h0]
  · rw [World.cell?_setCell_other _ _ _ _ (by simp), World.cell?_setCell_other _ _ _ _ (by simp), World.cell?_setCell_same' _ _ _ (by rw [World.cell?_setCell_other _ _ _ _ (by simp)]; exact h1)]
  · rw [World.cell?_setCell_other _ _ _ _ (by simp), World.cell?_setCell_same' _ _ _ (by rw [World.cell?_setCell_other _ _ _ _ (by simp), World.cell?_setCell_other _ _ _ _ (by simp)]; exact h2)]
  · rw [World.cell?_setCell_same' _ _ _ (by rw [World.cell?_setCell_other _ _ _ _ (by simp), World.cell?_setCell_other _ _ _ _ (by simp), World.cell?_setCell_other _ _ _ _ (by simp)]; exact h3)]
theorem set4_frozen (W : World) (b o : Nat) (x : TV) (a : Addr) : (set4 W b o x).frozen? a = W.frozen? a := by simp [set4]
theorem set4_below {n : Nat} {A W : World} (h : Below n A W) {b : Nat} (hb : n ≤ b) (o : Nat) (x : TV) : Below n A (set4 W b o x) :=
  (((h.setCell (p := ⟨b, o, none⟩) hb _).setCell (p := ⟨b, o + 1, none⟩) hb _).setCell (p := ⟨b, o + 2, none⟩) hb _).setCell (p := ⟨b, o + 3, none⟩) hb _

theorem below_two {W W1 : World} {o o' : Obj} (h : Below ((W.alloc o).alloc o').heap.size ((W.alloc o).alloc o') W1) : Below W.heap.size W W1 :=
  (((Below.refl _ W).alloc (Nat.le_refl _) _).alloc (by simp) _).trans (h.mono (by simp; omega))
/-- A cell of a zero term, kept: what the walk asks ahead of a store and of a return. -/
theorem zbox_kept {W1 : World} {b : Nat} {c0 c1 c2 c3 : Value} (h : W1.heap[b]? = some (.cells #[c0, c1, c2, c3] 24 (0, 0))) :
    (W1.cell? ⟨b, 0, none⟩ = some c0 ∧ W1.cell? ⟨b, 1, none⟩ = some c1 ∧ W1.cell? ⟨b, 2, none⟩ = some c2 ∧ W1.cell? ⟨b, 3, none⟩ = some c3) ∧ (W1.frozen? ⟨b, 0, none⟩ = false ∧ W1.frozen? ⟨b, 1, none⟩ = false ∧ W1.frozen? ⟨b, 2, none⟩ = false ∧ W1.frozen? ⟨b, 3, none⟩ = false) := by
  refine ⟨⟨?_, ?_, ?_, ?_⟩, ?_, ?_, ?_, ?_⟩ <;> simp [World.cell?, World.frozen?, h]
theorem holds_set4 {D lo : Nat} {W1 : World} {v : Value} {c : List Nd} (h : HoldsT D lo W1 v c) {b : Nat} (hb : b < lo) (o : Nat) (x : TV) : HoldsT D lo (set4 W1 b o x) v c := fun m hm => by
  obtain ⟨t, h1, h2, h3, h4⟩ := h m hm
  exact ⟨t, h1, by rw [set4_size]; exact h2.from (fun k hk => set4_other W1 b o x (by omega)) h3.new, h3.kept (fun k hk _ => set4_other W1 b o x (by omega)), h4⟩

/-- What stands in the place of a part. -/
def subN (β : Int → List Nd) (x : Nd) : List Nd := if x.1 = 1 then β x.2.1 else [x]

/-- A function value that says what a variable becomes: in every world behind w a term of the code β, in new memory. -/
def Becomes (g : Nat) (lb : Array Value) (β : Int → List Nd) (D : Nat) (w : World) : Prop :=
  ∀ (N : Int) (W : World), 0 ≤ N → N ≤ 1099511627776 → Below w.heap.size w W → Calls Try.prog g (#[.int .i64 N] ++ lb) W fun e W' => ∃ v, e = .returned v ∧ Below W.heap.size W W' ∧ HoldsT D W.heap.size W' v (β N)

set_option maxRecDepth 100000 in
set_option maxHeartbeats 1000000 in
theorem replace_var (g : Nat) (lb : Array Value) (β : Int → List Nd) (D : Nat) (w : World) (eg : ∀ args w, (callFunc g args).run Try.prog w = .ok (.enter g args) w) (hbec : Becomes g lb β D w)
    (N : Int) (s : ByteArray) (a : Option Addr) (len cap : Nat) (W : World) (h0 : 0 ≤ N) (h1 : N ≤ 1099511627776) (hb : Below w.heap.size w W) :
    Calls Try.prog 45 #[.agg #[.int .i64 1, .int .i64 N, .string s, .slice a len cap], .func (.func g) #[] lb] W fun e W' => ∃ v, e = .returned v ∧ Below W.heap.size W W' ∧ HoldsT D W.heap.size W' v (β N) := by
  go_enter Try.func45, Try.ntmps45
  go_wp2_with fail
  refine (hbec N _ h0 h1 (hb.trans ((((Below.refl _ W).alloc (Nat.le_refl _) _).alloc (by simp) _).mono hb.size))).mono ?_
  rintro e W1 ⟨v, rfl, hb1, hv⟩
  obtain ⟨t, ht, -⟩ := hv D (Nat.le_refl _)
  subst ht
  have hbk := hb1.block (W.heap.size + 1) (by simp)
  have hnew := World.alloc_heap_new (W.alloc (.cells #[.int .i64 1, .int .i64 N, .string s, .slice a len cap] 24)) (.cells #[.int .i64 0, .int .i64 0, .string ⟨#[]⟩, .slice none 0 0] 24)
  rw [World.size_alloc] at hnew
  obtain ⟨⟨z0, z1, z2, z3⟩, y0, y1, y2, y3⟩ := zbox_kept (hbk.trans hnew)
  clear hbk hnew hbec
  have hb2 := below_two hb1
  have hsz : ((W.alloc (.cells #[.int .i64 1, .int .i64 N, .string s, .slice a len cap] 24)).alloc (.cells #[.int .i64 0, .int .i64 0, .string ⟨#[]⟩, .slice none 0 0] 24)).heap.size = W.heap.size + 2 := by simp
  rw [hsz] at hv
  have hfin : HoldsT D W.heap.size (set4 W1 (W.heap.size + 1) 0 t.tv) t.tv.val (β N) := (holds_set4 hv (by omega) 0 t.tv).mono (Nat.le_refl _) (by omega)
  have hbf : Below W.heap.size W (set4 W1 (W.heap.size + 1) 0 t.tv) := set4_below hb2 (by omega) 0 t.tv
  have HF := hide hfin
  have HB := hide hbf
  clear hfin hbf hsz hv hb1 hb2 hb
  simp only [TV.val]
  go_wp2_with fail
  exact bodyPost_ret (v := t.tv.val) (by simp [results, Try.results45, go_sem, TV.val, z0, z1, z2, z3]) rfl ⟨_, rfl, unhide HB, unhide HF⟩

set_option maxRecDepth 100000 in
set_option maxHeartbeats 1000000 in
theorem replace_leaf (fv : Value) (k N : Int) (s : ByteArray) (a : Option Addr) (len cap : Nat) (W : World) (hk : k = 2 ∨ k = 3) (hs : s.size ≤ 9223372036854775807) :
    Calls Try.prog 45 #[.agg #[.int .i64 k, .int .i64 N, .string s, .slice a len cap], fv] W fun e W' => ∃ v, e = .returned v ∧ Below W.heap.size W W' ∧ HoldsT 1 W.heap.size W' v [(k, N, s.toList, 0)] := by
  have hk1 : (k == 1) = false := by simp; omega
  have hk4 : (k == 4) = false := by simp; omega
  clear hk
  go_enter Try.func45, Try.ntmps45
  go_wp2_with fail
  exact bodyPost_ret (v := (⟨k, N, s, none, 0, 0⟩ : TV).val) (by simp [results, Try.results45, go_sem, TV.val]) rfl ⟨_, rfl, ((Below.refl _ W).alloc (Nat.le_refl _) _).alloc (by simp) _, holds_leaf ⟨k, N, s, none, 0, 0⟩ rfl rfl rfl hs _ _⟩

theorem Try.info28 : (Try.prog.info? 24).map (fun i => (i.zero, i.size, i.bytes)) = some (some (.agg #[.int .i64 0, .int .i64 0, .string ⟨#[]⟩, .slice none 0 0]), 4, 56) := by kernel_rfl
theorem make_terms (len : Nat) (h : len ≤ 50) (w : World) : (Instr.makeSlice 22 (.int .i64 (len : Int)) (.int .i64 (len : Int))).run Try.prog w = .ok (.slice (some ⟨w.heap.size, 0, none⟩) len len) (w.alloc (.cells (madeCells #[.int .i64 0, .int .i64 0, .string ⟨#[]⟩, .slice none 0 0] (len * 4)) 24)) := by
  obtain ⟨i0, hi, hz0, hz1, hz2⟩ := info_parts Try.info28
  have hr := run_make (P := Try.prog) w 22 24 i0 _ Try.underlying22 hi hz0 .i64 .i64 len len (by omega) (Int.le_refl _) (by rw [hz2]; omega) (by omega)
  rw [hz1] at hr
  simpa [Value.cells] using hr

/-- A block of room for len terms. -/
def Row4 (W : World) (B len : Nat) : Prop := ∃ arr : Array Value, W.heap[B]? = some (.cells arr 24 (0, 0)) ∧ arr.size = len * 4
theorem Row4.lt {W : World} {B len : Nat} (h : Row4 W B len) : B < W.heap.size := by obtain ⟨arr, h, _⟩ := h; exact (Array.getElem?_eq_some_iff.1 h).1
theorem Row4.cell {W : World} {B len : Nat} (h : Row4 W B len) {o : Nat} (ho : o < len * 4) : (∃ v, W.cell? ⟨B, o, none⟩ = some v) ∧ W.frozen? ⟨B, o, none⟩ = false := by
  obtain ⟨arr, h, hs⟩ := h
  refine ⟨⟨arr[o]'(by omega), ?_⟩, ?_⟩
  · simp [World.cell?, h]
  · simp [World.frozen?, h]
theorem Row4.kept {W W' : World} {B len : Nat} (h : Row4 W B len) (hb : W'.heap[B]? = W.heap[B]?) : Row4 W' B len := by
  obtain ⟨arr, h, hs⟩ := h
  exact ⟨arr, hb.trans h, hs⟩
theorem Row4.setCell {W : World} {B len : Nat} (h : Row4 W B len) (o : Nat) (v : Value) : Row4 (W.setCell ⟨B, o, none⟩ v) B len := by
  obtain ⟨arr, h, hs⟩ := h
  obtain ⟨hlt, hk⟩ := Array.getElem?_eq_some_iff.1 h
  refine ⟨arr.setIfInBounds o v, ?_, by simpa using hs⟩
  show (W.heap.modify B _)[B]? = _
  rw [Array.getElem?_eq_getElem (by rw [Array.size_modify]; exact hlt), Array.getElem_modify_self, hk]
  rfl
theorem Row4.set4 {W : World} {B len : Nat} (h : Row4 W B len) (o : Nat) (x : TV) : Row4 (set4 W B o x) B len :=
  (((h.setCell _ _).setCell _ _).setCell _ _).setCell _ _
theorem cellsAt.kept {W W' : World} {B o : Nat} {x : TV} (h : cellsAt W B o x) (hb : W'.heap[B]? = W.heap[B]?) : cellsAt W' B o x := by
  have hc : ∀ q, W'.cell? ⟨B, q, none⟩ = W.cell? ⟨B, q, none⟩ := fun q => World.cell?_of_block (w := W) hb
  exact ⟨(hc _).trans h.1, (hc _).trans h.2.1, (hc _).trans h.2.2.1, (hc _).trans h.2.2.2⟩

/-- The first j of the Args stand written in block B, at every number of storeys from D on. -/
def Written (D B j : Nat) (W : World) (c : List Nd) : Prop :=
  ∀ M, D ≤ M → ∃ ks : List (Tm M), ks.length = j ∧ (∀ i u, ks[i]? = some u → cellsAt W B (i * 4) u.tv ∧ IsT W.heap.size W u ∧ NewW (B + 1) W u) ∧ ks.flatMap code = c ∧ (ks.flatMap blks).Nodup
theorem Written.zero (D B : Nat) (W : World) : Written D B 0 W [] := fun M _ => ⟨[], rfl, fun i u h => by simp at h, rfl, List.nodup_nil⟩
theorem Written.next {D B j lo : Nat} {W W5 : World} {c c' : List Nd} {len : Nat} {x : TV} (h : Written D B j W c) (hj : j < len) (hr : Row4 W5 B len) (hb : Below W.heap.size W W5) (hB : B < W.heap.size) (hv : HoldsT D lo W5 x.val c') (hlo : W.heap.size ≤ lo) :
    Written D B (j + 1) (set4 W5 B (j * 4) x) (c ++ c') := fun M hM => by
  obtain ⟨ks, hl, hk, hc, hnd⟩ := h M hM
  obtain ⟨u, hu, hT, hN0, hcu⟩ := hv M hM
  have hN : NewW (B + 1) W5 u := hN0.mono (by omega)
  have hux : u.tv = x := by
    simp only [TV.val, Value.agg.injEq] at hu
    simp at hu
    obtain ⟨e1, e2, e3, e4, e5, e6⟩ := hu
    cases hx : u.tv; cases x; simp_all
  refine ⟨ks ++ [u], by simp [hl], fun i z hz => ?_, by simp [hc, hcu], kids_apart (fun i z hz => (hk i z hz).2.2) hnd hN0 hlo⟩
  by_cases hi : i < j
  · rw [List.getElem?_append_left (by omega)] at hz
    obtain ⟨k1, k2, k3⟩ := hk i z hz
    have k1' := k1.kept (hb.block B hB)
    refine ⟨?_, ?_, (k3.below hb).kept (fun q hq _ => set4_other W5 B (j * 4) x (by omega))⟩
    · exact ⟨(set4_far W5 B (j * 4) x (by omega)).trans k1'.1, (set4_far W5 B (j * 4) x (by omega)).trans k1'.2.1, (set4_far W5 B (j * 4) x (by omega)).trans k1'.2.2.1, (set4_far W5 B (j * 4) x (by omega)).trans k1'.2.2.2⟩
    · rw [set4_size]
      exact ((k2.below hb).mono hb.size).from (fun q hq => set4_other W5 B (j * 4) x (by omega)) k3.new
  · rw [List.getElem?_append_right (by omega)] at hz
    have hi2 : i - ks.length = 0 := by
      by_cases e : i - ks.length = 0
      · exact e
      · rw [List.getElem?_eq_none (by simp; omega)] at hz; cases hz
    rw [hi2] at hz
    simp at hz
    subst hz
    obtain rfl : i = j := by omega
    refine ⟨?_, ?_, hN.kept (fun q hq _ => set4_other W5 B (i * 4) x (by omega))⟩
    · rw [hux]
      have g : ∀ q, q < len * 4 → (W5.cell? ⟨B, q, none⟩).isSome = true := fun q hq => by obtain ⟨⟨v, hv⟩, _⟩ := hr.cell hq; rw [hv]; rfl
      exact set4_cells W5 B (i * 4) x (g _ (by omega)) (g _ (by omega)) (g _ (by omega)) (g _ (by omega))
    · rw [set4_size]
      exact hT.from (fun q hq => set4_other W5 B (i * 4) x (by omega)) hN.new
end Go.Proofs.Ytdjlekcapfeniaa

