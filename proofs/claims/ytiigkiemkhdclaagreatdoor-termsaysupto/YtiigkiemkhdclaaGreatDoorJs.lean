import Derived.Test.YtiigkiemkhdclaaGreatDoorC
import Derived.Test.YtiigkiemkhdclaaGreatDoorM
import Derived.Laws.MakeOwn
import Derived.Outline
/- Terms by their parts in a row (code), new memory (NewT), and what it is for a value to hold a term of a given code (HoldsT). -/
namespace Go.Proofs.YtiigkiemkhdclaaGreatDoor
open Go.RowKit Go.Shelf

/-- A part without its Args: Kind, N, Name, how many Args. -/
abbrev Nd := Int × Int × List UInt8 × Nat
def TV.nd (x : TV) : Nd := (x.k, x.N, x.s.toList, x.len)
/-- The parts of a term in a row, a term ahead of its Args: this says all of it. -/
def code {n : Nat} (t : Tm n) : List Nd := (parts t).map TV.nd
theorem code_succ {n : Nat} (x : TV) (kids : List (Tm n)) : code (n := n + 1) ((x, kids) : TV × List (Tm n)) = x.nd :: kids.flatMap code := by
  show (x :: kids.flatMap parts).map TV.nd = _
  rw [List.map_cons, List.map_flatMap]; rfl

/-- The number of Args that is told is the number that there is. -/
def Wl : {n : Nat} → Tm n → Prop
  | 0, _ => True
  | _ + 1, t => t.tv.len = t.kids.length ∧ ∀ u ∈ t.kids, Wl u
theorem IsT.wl {n₀ : Nat} {W : World} : ∀ {n : Nat} {t : Tm n}, IsT n₀ W t → Wl t := by
  intro n
  induction n with
  | zero => intro t; exact Empty.elim t
  | succ n ih =>
    intro t ht
    obtain ⟨h1, _, _, h4⟩ := ht
    refine ⟨h1, fun u hu => ?_⟩
    rcases h4 with h4 | ⟨b, off, _, _, hk⟩
    · rw [h4] at hu; cases hu
    · obtain ⟨j, hj⟩ := List.mem_iff_getElem?.1 hu
      exact ih (hk j u hj).2

theorem nd_stop {x y : TV} : x.nd = y.nd ↔ stop x y = true := by
  simp only [TV.nd, stop, Prod.mk.injEq, Bool.and_eq_true, decide_eq_true_eq]

theorem code_same : ∀ (n : Nat) (x y : Tm n), Wl x → Wl y → ∀ r r' : List Nd, code x ++ r = code y ++ r' → sameT x y = true ∧ r = r' := by
  intro n
  induction n with
  | zero => intro x; exact Empty.elim x
  | succ n ih =>
    intro x y hx hy r r' h
    obtain ⟨x, kx⟩ := x
    obtain ⟨y, ky⟩ := y
    obtain ⟨hxl, hxk⟩ := hx
    obtain ⟨hyl, hyk⟩ := hy
    rw [code_succ, code_succ] at h
    simp only [List.cons_append, List.cons.injEq] at h
    obtain ⟨h0, h1⟩ := h
    have hst := nd_stop.1 h0
    have hll : kx.length = ky.length := by
      simp only [TV.nd, Prod.mk.injEq] at h0
      simp only [Tm.tv, Tm.kids] at hxl hyl
      omega
    have key : ∀ (a b : List (Tm n)), a.length = b.length → (∀ u ∈ a, Wl u) → (∀ u ∈ b, Wl u) → a.flatMap code ++ r = b.flatMap code ++ r' → all2 sameT a b = true ∧ r = r' := by
      intro a
      induction a with
      | nil =>
        intro b hl _ _ hh
        cases b with
        | nil => exact ⟨rfl, by simpa using hh⟩
        | cons v b => simp at hl
      | cons u a iha =>
        intro b hl ha hb hh
        cases b with
        | nil => simp at hl
        | cons v b =>
          simp only [List.flatMap_cons, List.append_assoc] at hh
          obtain ⟨k1, k2⟩ := ih u v (ha u (by simp)) (hb v (by simp)) _ _ hh
          obtain ⟨k3, k4⟩ := iha b (by simpa using hl) (fun z hz => ha z (by simp [hz])) (fun z hz => hb z (by simp [hz])) k2
          exact ⟨by simp [all2, k1, k3], k4⟩
    obtain ⟨k1, k2⟩ := key kx ky hll hxk hyk h1
    exact ⟨by simp only [sameT, Tm.tv, Tm.kids, hst, k1, Bool.and_true], k2⟩
theorem same_code : ∀ (n : Nat) (x y : Tm n), sameT x y = true → code x = code y := by
  intro n
  induction n with
  | zero => intro x; exact Empty.elim x
  | succ n ih =>
    intro x y h
    obtain ⟨x, kx⟩ := x
    obtain ⟨y, ky⟩ := y
    simp only [sameT, Tm.tv, Tm.kids, Bool.and_eq_true] at h
    obtain ⟨h1, h2⟩ := h
    rw [code_succ, code_succ, nd_stop.2 h1]
    congr 1
    clear h1
    induction kx generalizing ky with
    | nil => cases ky with
      | nil => rfl
      | cons v b => simp [all2] at h2
    | cons u a iha => cases ky with
      | nil => simp [all2] at h2
      | cons v b =>
        simp only [all2, Bool.and_eq_true] at h2
        simp only [List.flatMap_cons]
        rw [ih u v h2.1, iha b h2.2]
/-- Two terms are the same just if their codes are. -/
theorem sameT_code {n : Nat} {x y : Tm n} (hx : Wl x) (hy : Wl y) : sameT x y = decide (code x = code y) := by
  rw [Bool.eq_iff_iff, decide_eq_true_eq]
  exact ⟨same_code n x y, fun h => (code_same n x y hx hy [] [] (by rw [h])).1⟩

/-- All memory that the term has is from block lo on. -/
def NewT (lo : Nat) : {n : Nat} → Tm n → Prop
  | 0, _ => True
  | _ + 1, t => (t.kids = [] ∨ ∃ b off, t.tv.a = some ⟨b, off, none⟩ ∧ lo ≤ b) ∧ ∀ u ∈ t.kids, NewT lo u
theorem NewT.mono {lo lo' : Nat} (h : lo' ≤ lo) : ∀ {n : Nat} {t : Tm n}, NewT lo t → NewT lo' t := by
  intro n
  induction n with
  | zero => intro t; exact Empty.elim t
  | succ n ih =>
    intro t ht
    obtain ⟨h1, h2⟩ := ht
    refine ⟨?_, fun u hu => ih (h2 u hu)⟩
    rcases h1 with h1 | ⟨b, off, ha, hb⟩
    · exact .inl h1
    · exact .inr ⟨b, off, ha, by omega⟩
/-- What is from lo on lies as it lay: so does the term. -/
theorem IsT.from {n₀ lo : Nat} {A B : World} (hs : ∀ b, lo ≤ b → B.heap[b]? = A.heap[b]?) : ∀ {n : Nat} {t : Tm n}, IsT n₀ A t → NewT lo t → IsT n₀ B t := by
  intro n
  induction n with
  | zero => intro t; exact Empty.elim t
  | succ n ih =>
    intro t ht hn
    obtain ⟨h1, h2, h3, h4⟩ := ht
    obtain ⟨k1, k2⟩ := hn
    rcases h4 with h4 | ⟨b, off, ha, hb, hk⟩
    · exact ⟨h1, h2, h3, .inl h4⟩
    · rcases k1 with k1 | ⟨b', off', ha', hlo⟩
      · exact ⟨h1, h2, h3, .inl k1⟩
      · rw [ha] at ha'
        simp at ha'
        obtain ⟨rfl, rfl⟩ := ha'
        have hc : ∀ o, B.cell? ⟨b, o, none⟩ = A.cell? ⟨b, o, none⟩ := fun o => World.cell?_of_block (w := A) (hs b hlo)
        refine ⟨h1, h2, h3, .inr ⟨b, off, ha, hb, fun j u hu => ?_⟩⟩
        obtain ⟨⟨c0, c1, c2, c3⟩, hT⟩ := hk j u hu
        exact ⟨⟨(hc _).trans c0, (hc _).trans c1, (hc _).trans c2, (hc _).trans c3⟩, ih hT (k2 u (List.mem_of_getElem? hu))⟩

/-- The value v is a term of the code c, at every number of storeys from D on, its memory from block lo on. -/
def HoldsT (D lo : Nat) (W : World) (v : Value) (c : List Nd) : Prop :=
  ∀ m, D ≤ m → ∃ t : Tm m, v = t.tv.val ∧ IsT W.heap.size W t ∧ NewT lo t ∧ code t = c
theorem HoldsT.below {D lo : Nat} {A B : World} {v : Value} {c : List Nd} (h : HoldsT D lo A v c) (hb : Below A.heap.size A B) : HoldsT D lo B v c := fun m hm => by
  obtain ⟨t, h1, h2, h3, h4⟩ := h m hm
  exact ⟨t, h1, (h2.below hb).mono hb.size, h3, h4⟩
theorem HoldsT.mono {D D' lo lo' : Nat} {A : World} {v : Value} {c : List Nd} (h : HoldsT D lo A v c) (hD : D ≤ D') (hl : lo' ≤ lo) : HoldsT D' lo' A v c := fun m hm => by
  obtain ⟨t, h1, h2, h3, h4⟩ := h m (by omega)
  exact ⟨t, h1, h2, h3.mono hl, h4⟩
theorem newT_zero : ∀ {n : Nat} (t : Tm n) {n₀ : Nat} {W : World}, IsT n₀ W t → NewT 0 t := by
  intro n
  induction n with
  | zero => intro t; exact Empty.elim t
  | succ n ih =>
    intro t n₀ W ht
    obtain ⟨_, _, _, h4⟩ := ht
    rcases h4 with h4 | ⟨b, off, ha, hb, hk⟩
    · exact ⟨.inl h4, fun u hu => by rw [h4] at hu; cases hu⟩
    · exact ⟨.inr ⟨b, off, ha, Nat.zero_le _⟩, fun u hu => by
        obtain ⟨j, hj⟩ := List.mem_iff_getElem?.1 hu
        exact ih u (hk j u hj).2⟩
end Go.Proofs.YtiigkiemkhdclaaGreatDoor

/- The contract of term.variable and of term.replace. -/
namespace Go.Proofs.YtiigkiemkhdclaaGreatDoor
open Go.RowKit Go.Shelf

def varV (N : Int) : TV := ⟨1, N, ⟨#[]⟩, none, 0, 0⟩
def varNd (N : Int) : Nd := (1, N, [], 0)
theorem holds_leaf (x : TV) (h0 : x.len = 0) (hs : x.s.size ≤ 9223372036854775807) (lo : Nat) (W : World) : HoldsT 1 lo W x.val [x.nd] := fun m hm => by
  obtain ⟨m', rfl⟩ : ∃ m', m = m' + 1 := ⟨m - 1, by omega⟩
  refine ⟨((x, []) : TV × List (Tm m')), rfl, ⟨h0, by simp [Tm.tv, h0], hs, .inl rfl⟩, ⟨.inl rfl, fun u hu => by cases hu⟩, ?_⟩
  rw [code_succ]; rfl

set_option maxHeartbeats 400000 in
theorem variable_any (N : Int) (w : World) : Calls Tryz.prog 66 #[.int .i64 N] w fun e W' => e = .returned (varV N).val ∧ Below w.heap.size w W' := by
  go_enter Tryz.func66, Tryz.ntmps66
  go_wp2
  refine bodyPost_ret (v := (varV N).val) (by simp [results, Tryz.results66, go_sem, varV, TV.val]) rfl ⟨rfl, (Below.refl _ _).alloc (Nat.le_refl _) _⟩

/-- A term's four cells stored from an offset on. -/
def set4 (W : World) (b o : Nat) (x : TV) : World := (((W.setCell ⟨b, o, none⟩ (.int .i64 x.k)).setCell ⟨b, o + 1, none⟩ (.int .i64 x.N)).setCell ⟨b, o + 2, none⟩ (.string x.s)).setCell ⟨b, o + 3, none⟩ (.slice x.a x.len x.cap)
theorem set4_size (W : World) (b o : Nat) (x : TV) : (set4 W b o x).heap.size = W.heap.size := by simp [set4]
theorem set4_other (W : World) (b o : Nat) (x : TV) {k : Nat} (h : k ≠ b) : (set4 W b o x).heap[k]? = W.heap[k]? := by
  unfold set4
  rw [Below.heap_setCell _ _ _ _ h, Below.heap_setCell _ _ _ _ h, Below.heap_setCell _ _ _ _ h, Below.heap_setCell _ _ _ _ h]
theorem far_ne {b p q : Nat} (h : p ≠ q) : (⟨b, p, none⟩ : Addr) ≠ ⟨b, q, none⟩ := fun e => h (by cases e; rfl)
theorem set4_far (W : World) (b o : Nat) (x : TV) {q : Nat} (h : q < o ∨ o + 3 < q) : (set4 W b o x).cell? ⟨b, q, none⟩ = W.cell? ⟨b, q, none⟩ := by
  unfold set4
  rw [World.cell?_setCell_other _ _ _ _ (far_ne (by omega)), World.cell?_setCell_other _ _ _ _ (far_ne (by omega)), World.cell?_setCell_other _ _ _ _ (far_ne (by omega)), World.cell?_setCell_other _ _ _ _ (far_ne (by omega))]
theorem set4_cells (W : World) (b o : Nat) (x : TV) (h0 : (W.cell? ⟨b, o, none⟩).isSome = true) (h1 : (W.cell? ⟨b, o + 1, none⟩).isSome = true) (h2 : (W.cell? ⟨b, o + 2, none⟩).isSome = true) (h3 : (W.cell? ⟨b, o + 3, none⟩).isSome = true) : cellsAt (set4 W b o x) b o x := by
  unfold set4
  refine ⟨?_, ?_, ?_, ?_⟩
  · rw [World.cell?_setCell_other _ _ _ _ (by simp), World.cell?_setCell_other _ _ _ _ (by simp), World.cell?_setCell_other _ _ _ _ (by simp), World.cell?_setCell_same' _ _ _ h0]
  · rw [World.cell?_setCell_other _ _ _ _ (by simp), World.cell?_setCell_other _ _ _ _ (by simp), World.cell?_setCell_same' _ _ _ (by rw [World.cell?_setCell_other _ _ _ _ (by simp)]; exact h1)]
  · rw [World.cell?_setCell_other _ _ _ _ (by simp), World.cell?_setCell_same' _ _ _ (by rw [World.cell?_setCell_other _ _ _ _ (by simp), World.cell?_setCell_other _ _ _ _ (by simp)]; exact h2)]
  · rw [World.cell?_setCell_same' _ _ _ (by rw [World.cell?_setCell_other _ _ _ _ (by simp), World.cell?_setCell_other _ _ _ _ (by simp), World.cell?_setCell_other _ _ _ _ (by simp)]; exact h3)]
theorem set4_frozen (W : World) (b o : Nat) (x : TV) (a : Addr) : (set4 W b o x).frozen? a = W.frozen? a := by simp [set4]
theorem set4_below {n : Nat} {A W : World} (h : Below n A W) {b : Nat} (hb : n ≤ b) (o : Nat) (x : TV) : Below n A (set4 W b o x) :=
  (((h.setCell (p := ⟨b, o, none⟩) hb _).setCell (p := ⟨b, o + 1, none⟩) hb _).setCell (p := ⟨b, o + 2, none⟩) hb _).setCell (p := ⟨b, o + 3, none⟩) hb _

theorem below_two {W W1 : World} {o o' : Obj} (h : Below ((W.alloc o).alloc o').heap.size ((W.alloc o).alloc o') W1) : Below W.heap.size W W1 :=
  (((Below.refl _ W).alloc (Nat.le_refl _) _).alloc (by simp) _).trans (h.mono (by simp; omega))
/-- A cell of a zero term, kept: what the walk asks ahead of a store and of a return. -/
theorem zbox_kept {W1 : World} {b : Nat} {c0 c1 c2 c3 : Value} (h : W1.heap[b]? = some (.cells #[c0, c1, c2, c3] 24 (0, 0))) :
    (W1.cell? ⟨b, 0, none⟩ = some c0 ∧ W1.cell? ⟨b, 1, none⟩ = some c1 ∧ W1.cell? ⟨b, 2, none⟩ = some c2 ∧ W1.cell? ⟨b, 3, none⟩ = some c3) ∧ (W1.frozen? ⟨b, 0, none⟩ = false ∧ W1.frozen? ⟨b, 1, none⟩ = false ∧ W1.frozen? ⟨b, 2, none⟩ = false ∧ W1.frozen? ⟨b, 3, none⟩ = false) := by
  refine ⟨⟨?_, ?_, ?_, ?_⟩, ?_, ?_, ?_, ?_⟩ <;> simp [World.cell?, World.frozen?, h]
theorem holds_set4 {D lo : Nat} {W1 : World} {v : Value} {c : List Nd} (h : HoldsT D lo W1 v c) {b : Nat} (hb : b < lo) (o : Nat) (x : TV) : HoldsT D lo (set4 W1 b o x) v c := fun m hm => by
  obtain ⟨t, h1, h2, h3, h4⟩ := h m hm
  exact ⟨t, h1, by rw [set4_size]; exact h2.from (fun k hk => set4_other W1 b o x (by omega)) h3, h3, h4⟩

/-- What stands in the place of a part. -/
def subN (β : Int → List Nd) (x : Nd) : List Nd := if x.1 = 1 then β x.2.1 else [x]

/-- A function value that says what a variable becomes: in every world behind w a term of the code β, in new memory. -/
def Becomes (g : Nat) (lb : Array Value) (β : Int → List Nd) (D : Nat) (w : World) : Prop :=
  ∀ (N : Int) (W : World), 0 ≤ N → N ≤ 1099511627776 → Below w.heap.size w W → Calls Tryz.prog g (#[.int .i64 N] ++ lb) W fun e W' => ∃ v, e = .returned v ∧ Below W.heap.size W W' ∧ HoldsT D W.heap.size W' v (β N)

set_option maxRecDepth 100000 in
set_option maxHeartbeats 1000000 in
theorem replace_var (g : Nat) (lb : Array Value) (β : Int → List Nd) (D : Nat) (w : World) (eg : ∀ args w, (callFunc g args).run Tryz.prog w = .ok (.enter g args) w) (hbec : Becomes g lb β D w)
    (N : Int) (s : ByteArray) (a : Option Addr) (len cap : Nat) (W : World) (h0 : 0 ≤ N) (h1 : N ≤ 1099511627776) (hb : Below w.heap.size w W) :
    Calls Tryz.prog 60 #[.agg #[.int .i64 1, .int .i64 N, .string s, .slice a len cap], .func (.func g) #[] lb] W fun e W' => ∃ v, e = .returned v ∧ Below W.heap.size W W' ∧ HoldsT D W.heap.size W' v (β N) := by
  go_enter Tryz.func60, Tryz.ntmps60
  go_wp2_with fail
  refine (hbec N _ h0 h1 (hb.trans ((((Below.refl _ W).alloc (Nat.le_refl _) _).alloc (by simp) _).mono hb.size))).mono ?_
  rintro e W1 ⟨v, rfl, hb1, hv⟩
  obtain ⟨t, ht, -⟩ := hv D (Nat.le_refl _)
  subst ht
  have hbk := hb1.block (W.heap.size + 1) (by simp)
  have hnew := World.alloc_heap_new (W.alloc (.cells #[.int .i64 1, .int .i64 N, .string s, .slice a len cap] 24)) (.cells #[.int .i64 0, .int .i64 0, .string ⟨#[]⟩, .slice none 0 0] 24)
  rw [World.size_alloc] at hnew
  obtain ⟨⟨z0, z1, z2, z3⟩, y0, y1, y2, y3⟩ := zbox_kept (hbk.trans hnew)
  clear hbk hnew hbec
  have hb2 := below_two hb1
  have hsz : ((W.alloc (.cells #[.int .i64 1, .int .i64 N, .string s, .slice a len cap] 24)).alloc (.cells #[.int .i64 0, .int .i64 0, .string ⟨#[]⟩, .slice none 0 0] 24)).heap.size = W.heap.size + 2 := by simp
  rw [hsz] at hv
  have hfin : HoldsT D W.heap.size (set4 W1 (W.heap.size + 1) 0 t.tv) t.tv.val (β N) := (holds_set4 hv (by omega) 0 t.tv).mono (Nat.le_refl _) (by omega)
  have hbf : Below W.heap.size W (set4 W1 (W.heap.size + 1) 0 t.tv) := set4_below hb2 (by omega) 0 t.tv
  have HF := hide hfin
  have HB := hide hbf
  clear hfin hbf hsz hv hb1 hb2 hb
  simp only [TV.val]
  go_wp2_with fail
  exact bodyPost_ret (v := t.tv.val) (by simp [results, Tryz.results60, go_sem, TV.val, z0, z1, z2, z3]) rfl ⟨_, rfl, unhide HB, unhide HF⟩

set_option maxRecDepth 100000 in
set_option maxHeartbeats 1000000 in
theorem replace_leaf (fv : Value) (k N : Int) (s : ByteArray) (a : Option Addr) (len cap : Nat) (W : World) (hk : k = 2 ∨ k = 3) (hs : s.size ≤ 9223372036854775807) :
    Calls Tryz.prog 60 #[.agg #[.int .i64 k, .int .i64 N, .string s, .slice a len cap], fv] W fun e W' => ∃ v, e = .returned v ∧ Below W.heap.size W W' ∧ HoldsT 1 W.heap.size W' v [(k, N, s.toList, 0)] := by
  have hk1 : (k == 1) = false := by simp; omega
  have hk4 : (k == 4) = false := by simp; omega
  clear hk
  go_enter Tryz.func60, Tryz.ntmps60
  go_wp2_with fail
  exact bodyPost_ret (v := (⟨k, N, s, none, 0, 0⟩ : TV).val) (by simp [results, Tryz.results60, go_sem, TV.val]) rfl ⟨_, rfl, ((Below.refl _ W).alloc (Nat.le_refl _) _).alloc (by simp) _, holds_leaf ⟨k, N, s, none, 0, 0⟩ rfl hs _ _⟩

theorem Tryz.info28 : (Tryz.prog.info? 24).map (fun i => (i.zero, i.size, i.bytes)) = some (some (.agg #[.int .i64 0, .int .i64 0, .string ⟨#[]⟩, .slice none 0 0]), 4, 56) := by kernel_rfl
theorem make_terms (len : Nat) (h : len ≤ 50) (w : World) : (Instr.makeSlice 22 (.int .i64 (len : Int)) (.int .i64 (len : Int))).run Tryz.prog w = .ok (.slice (some ⟨w.heap.size, 0, none⟩) len len) (w.alloc (.cells (madeCells #[.int .i64 0, .int .i64 0, .string ⟨#[]⟩, .slice none 0 0] (len * 4)) 24)) := by
  obtain ⟨i0, hi, hz0, hz1, hz2⟩ := info_parts Tryz.info28
  have hr := run_make (P := Tryz.prog) w 22 24 i0 _ Tryz.underlying22 hi hz0 .i64 .i64 len len (by omega) (Int.le_refl _) (by rw [hz2]; omega) (by omega)
  rw [hz1] at hr
  simpa [Value.cells] using hr

/-- A block of room for len terms. -/
def Row4 (W : World) (B len : Nat) : Prop := ∃ arr : Array Value, W.heap[B]? = some (.cells arr 24 (0, 0)) ∧ arr.size = len * 4
theorem Row4.lt {W : World} {B len : Nat} (h : Row4 W B len) : B < W.heap.size := by obtain ⟨arr, h, _⟩ := h; exact (Array.getElem?_eq_some_iff.1 h).1
theorem Row4.cell {W : World} {B len : Nat} (h : Row4 W B len) {o : Nat} (ho : o < len * 4) : (∃ v, W.cell? ⟨B, o, none⟩ = some v) ∧ W.frozen? ⟨B, o, none⟩ = false := by
  obtain ⟨arr, h, hs⟩ := h
  refine ⟨⟨arr[o]'(by omega), ?_⟩, ?_⟩
  · simp [World.cell?, h]
  · simp [World.frozen?, h]
theorem Row4.kept {W W' : World} {B len : Nat} (h : Row4 W B len) (hb : W'.heap[B]? = W.heap[B]?) : Row4 W' B len := by
  obtain ⟨arr, h, hs⟩ := h
  exact ⟨arr, hb.trans h, hs⟩
theorem Row4.setCell {W : World} {B len : Nat} (h : Row4 W B len) (o : Nat) (v : Value) : Row4 (W.setCell ⟨B, o, none⟩ v) B len := by
  obtain ⟨arr, h, hs⟩ := h
  obtain ⟨hlt, hk⟩ := Array.getElem?_eq_some_iff.1 h
  refine ⟨arr.setIfInBounds o v, ?_, by simpa using hs⟩
  show (W.heap.modify B _)[B]? = _
  rw [Array.getElem?_eq_getElem (by rw [Array.size_modify]; exact hlt), Array.getElem_modify_self, hk]
  rfl
theorem Row4.set4 {W : World} {B len : Nat} (h : Row4 W B len) (o : Nat) (x : TV) : Row4 (set4 W B o x) B len :=
  (((h.setCell _ _).setCell _ _).setCell _ _).setCell _ _
theorem cellsAt.kept {W W' : World} {B o : Nat} {x : TV} (h : cellsAt W B o x) (hb : W'.heap[B]? = W.heap[B]?) : cellsAt W' B o x := by
  have hc : ∀ q, W'.cell? ⟨B, q, none⟩ = W.cell? ⟨B, q, none⟩ := fun q => World.cell?_of_block (w := W) hb
  exact ⟨(hc _).trans h.1, (hc _).trans h.2.1, (hc _).trans h.2.2.1, (hc _).trans h.2.2.2⟩

/-- The first j of the Args stand written in block B, at every number of storeys from D on. -/
def Written (D B j : Nat) (W : World) (c : List Nd) : Prop :=
  ∀ M, D ≤ M → ∃ ks : List (Tm M), ks.length = j ∧ (∀ i u, ks[i]? = some u → cellsAt W B (i * 4) u.tv ∧ IsT W.heap.size W u ∧ NewT (B + 1) u) ∧ ks.flatMap code = c
theorem Written.zero (D B : Nat) (W : World) : Written D B 0 W [] := fun M _ => ⟨[], rfl, fun i u h => by simp at h, rfl⟩
theorem Written.next {D B j : Nat} {W W5 : World} {c c' : List Nd} {len : Nat} {x : TV} (h : Written D B j W c) (hj : j < len) (hr : Row4 W5 B len) (hb : Below W.heap.size W W5) (hB : B < W.heap.size) (hv : HoldsT D (B + 1) W5 x.val c') :
    Written D B (j + 1) (set4 W5 B (j * 4) x) (c ++ c') := fun M hM => by
  obtain ⟨ks, hl, hk, hc⟩ := h M hM
  obtain ⟨u, hu, hT, hN, hcu⟩ := hv M hM
  have hux : u.tv = x := by
    simp only [TV.val, Value.agg.injEq] at hu
    simp at hu
    obtain ⟨e1, e2, e3, e4, e5, e6⟩ := hu
    cases hx : u.tv; cases x; simp_all
  refine ⟨ks ++ [u], by simp [hl], fun i z hz => ?_, by simp [hc, hcu]⟩
  by_cases hi : i < j
  · rw [List.getElem?_append_left (by omega)] at hz
    obtain ⟨k1, k2, k3⟩ := hk i z hz
    have k1' := k1.kept (hb.block B hB)
    refine ⟨?_, ?_, k3⟩
    · exact ⟨(set4_far W5 B (j * 4) x (by omega)).trans k1'.1, (set4_far W5 B (j * 4) x (by omega)).trans k1'.2.1, (set4_far W5 B (j * 4) x (by omega)).trans k1'.2.2.1, (set4_far W5 B (j * 4) x (by omega)).trans k1'.2.2.2⟩
    · rw [set4_size]
      exact ((k2.below hb).mono hb.size).from (fun q hq => set4_other W5 B (j * 4) x (by omega)) k3
  · rw [List.getElem?_append_right (by omega)] at hz
    have hi2 : i - ks.length = 0 := by
      by_cases e : i - ks.length = 0
      · exact e
      · rw [List.getElem?_eq_none (by simp; omega)] at hz; cases hz
    rw [hi2] at hz
    simp at hz
    subst hz
    obtain rfl : i = j := by omega
    refine ⟨?_, ?_, hN⟩
    · rw [hux]
      have g : ∀ q, q < len * 4 → (W5.cell? ⟨B, q, none⟩).isSome = true := fun q hq => by obtain ⟨⟨v, hv⟩, _⟩ := hr.cell hq; rw [hv]; rfl
      exact set4_cells W5 B (i * 4) x (g _ (by omega)) (g _ (by omega)) (g _ (by omega)) (g _ (by omega))
    · rw [set4_size]
      exact hT.from (fun q hq => set4_other W5 B (i * 4) x (by omega)) hN
end Go.Proofs.YtiigkiemkhdclaaGreatDoor

namespace Go.Proofs.YtiigkiemkhdclaaGreatDoor
open Go.RowKit Go.Shelf

theorem okT_succ {n : Nat} (x : TV) (kids : List (Tm n)) : okT (n := n + 1) (x, kids) = (x.ok && kids.all okT) := by
  show (x :: kids.flatMap parts).all TV.ok = _
  rw [List.all_cons, List.all_flatMap]; rfl

theorem take_all {n : Nat} (kids : List (Tm n)) (j : Nat) (u : Tm n) (h : kids[j]? = some u) : (kids.take (j + 1)).all okT = ((kids.take j).all okT && okT u) := by
  obtain ⟨hj, rfl⟩ := List.getElem?_eq_some_iff.1 h
  rw [List.take_succ_eq_append_getElem hj, List.all_append, List.all_cons, List.all_nil, Bool.and_true]
theorem take_all_false {n : Nat} (kids : List (Tm n)) (j : Nat) (h : (kids.take j).all okT = false) : kids.all okT = false := by
  rw [← List.take_append_drop j kids, List.all_append, h, Bool.false_and]

set_option maxRecDepth 100000 in
set_option maxHeartbeats 1000000 in
theorem formed_any : ∀ (n : Nat) (t : Tm n) (w : World), IsT w.heap.size w t → Calls Tryz.prog 5 #[t.tv.val] w fun e W' => e = .returned (.bool (okT t)) ∧ Below w.heap.size w W' := by
  intro n
  induction n with
  | zero => intro t; exact Empty.elim t
  | succ n ih =>
    intro t w ht
    obtain ⟨⟨k, kN, s, a, len, cap⟩, kids⟩ := t
    obtain ⟨hlen, hmax, hsm, hkids⟩ := ht
    simp only [Tm.tv, Tm.kids] at hlen hmax hsm hkids
    rw [okT_succ]
    simp only [Tm.tv, TV.val, TV.ok]
    have HI := hide ih
    clear ih
    have hB1 : Below w.heap.size w (w.alloc (.cells #[.int .i64 k, .int .i64 kN, .string s, .slice a len cap] 24)) := (Below.refl _ w).alloc (Nat.le_refl _) _
    by_cases hk : k = 1 ∨ k = 2 ∨ k = 3
    · have hgo : wmB k kN s len = true → kids.all okT = true := by
        intro h
        have : len = 0 := by
          rcases hk with rfl | rfl | rfl <;> simp [wmB] at h <;> omega
        have : kids = [] := List.length_eq_zero_iff.1 (by omega)
        subst this; rfl
      have hans : (wmB k kN s len && kids.all okT) = wmB k kN s len := by
        cases h : wmB k kN s len
        · rfl
        · rw [hgo h]; rfl
      rw [hans]
      clear hans hgo hkids hmax hsm HI hlen
      rcases hk with rfl | rfl | rfl
      all_goals
        go_enter Tryz.func5, Tryz.ntmps5
        go_wp2_with fail
      all_goals go_ret
      all_goals refine ⟨?_, (Below.refl _ w).alloc (Nat.le_refl _) _⟩
      all_goals simp_all [wmB]
      all_goals (intros; omega)
    · have hwm : wmB k kN s len = (decide (k = 4) && (decide (kN = 0) && decide ((s.size : Int) ≤ 100)) && decide (1 ≤ (len : Int)) && decide ((len : Int) ≤ 50)) := by
        unfold wmB
        rw [if_neg (by omega), if_neg (by omega), if_neg (by omega)]
        by_cases h4 : k = 4
        · rw [if_pos h4, decide_eq_true h4]; simp
        · rw [if_neg h4, decide_eq_false h4]; simp
      have hk1 : (k == 1) = false := by simp; omega
      have hk2 : (k == 2) = false := by simp; omega
      have hk3 : (k == 3) = false := by simp; omega
      have hl1 : len ≤ kids.length := by omega
      have hl2 : kids.length ≤ len := by omega
      clear hlen hk hB1
      cases hwm' : wmB k kN s len with
      | false =>
        rw [hwm'] at hwm
        rw [Bool.false_and]
        clear hwm'
        have HW := hide hwm
        clear hwm hkids HI
        go_enter Tryz.func5, Tryz.ntmps5
        go_wp2_with fail
        all_goals
          refine wp_loop_rounds 1 ?_
          rw [rounds_succ]
          go_wp2_with fail
        all_goals first | (go_ret; exact ⟨rfl, (Below.refl _ w).alloc (Nat.le_refl _) _⟩) | (exfalso; have h := unhide HW; clear HW; rw [decide_eq_true ‹k = 4›, decide_eq_true ‹kN = 0›, decide_eq_true ‹(s.size : Int) ≤ 100›, decide_eq_true ‹1 ≤ (len : Int)›, decide_eq_true ‹(len : Int) ≤ 50›] at h; cases h)
      | true =>
        rw [hwm'] at hwm
        simp only [Bool.true_and]
        simp at hwm
        obtain ⟨⟨⟨rfl, rfl, hs⟩, hn1⟩, hn2⟩ := hwm
        clear hwm'
        by_cases hse : s.toList = []
        all_goals
          go_enter Tryz.func5, Tryz.ntmps5
          go_wp2_with fail
          go_loopw [5, 6] (fun o i wr => ∃ j : Nat, j ≤ len ∧ i = .int .i64 j ∧ o = .bool ((kids.take j).all okT) ∧ Below (w.heap.size + 1) (w.alloc (.cells #[.int .i64 4, .int .i64 0, .string s, .slice a len cap] 24)) wr) (fun _ i _ => len - (intOf i).toNat)
          case atStart => exact ⟨0, Nat.zero_le _, rfl, by simp, Below.refl _ _⟩
          case round =>
            obtain ⟨j, hj, rfl, rfl, hb⟩ := hrel
            obtain ⟨hc, hz⟩ : wr.cell? ⟨w.heap.size, 3, none⟩ = some (.slice a len cap) ∧ w.heap.size + 1 ≤ wr.heap.size := ⟨(hb.cell (p := ⟨w.heap.size, 3, none⟩) (by simp)).trans (by simp), by have := hb.size; simp at this; omega⟩
            cases ho : (kids.take j).all okT with
            | false =>
              have HO := hide ho
              clear ho hkids
              go_wp2_with fail
              go_ret
              exact ⟨by rw [take_all_false kids j (unhide HO)]; rfl, ((Below.refl _ w).alloc (Nat.le_refl _) _).trans (hb.mono (by omega))⟩
            | true =>
              have HO := hide ho
              clear ho
              by_cases hlt : j < len
              · obtain ⟨u, hu⟩ : ∃ u, kids[j]? = some u := ⟨kids[j]'(by omega), List.getElem?_eq_getElem (by omega)⟩
                have hne : kids ≠ [] := by rintro rfl; simp at hu
                obtain ⟨b, off, rfl, hbk, hk⟩ := hkids.resolve_left hne
                obtain ⟨⟨c0, c1, c2, c3⟩, hT⟩ := hk j u hu
                have hbw : Below w.heap.size w wr := ((Below.refl _ w).alloc (Nat.le_refl _) _).trans (hb.mono (by omega))
                replace c0 := (hbw.cell (p := ⟨b, off + j * 4, none⟩) hbk).trans c0
                replace c1 := (hbw.cell (p := ⟨b, off + j * 4 + 1, none⟩) hbk).trans c1
                replace c2 := (hbw.cell (p := ⟨b, off + j * 4 + 2, none⟩) hbk).trans c2
                replace c3 := (hbw.cell (p := ⟨b, off + j * 4 + 3, none⟩) hbk).trans c3
                have ihu := (unhide HI) u wr ((hT.below hbw).mono (by omega))
                have HU := hide hu
                clear hT hk hkids hu hne hbw
                simp only [TV.val] at ihu
                go_wp2_with (go_at_call 5; refine ihu.mono ?_; clear ihu; rintro e W2 ⟨rfl, hb2⟩)
                go_roundw
                case rel => exact ⟨j + 1, by omega, by go_num, by rw [take_all kids j u (unhide HU), unhide HO]; rfl, hb.trans (hb2.mono (by omega))⟩
                case measure => simp [intOf]; omega
              · have ht : kids.take j = kids := List.take_of_length_le (by omega)
                have HT := hide ht
                clear ht hkids
                go_wp2_with fail
                go_ret
                exact ⟨by have h := unhide HO; rw [unhide HT] at h; rw [h]; rfl, ((Below.refl _ w).alloc (Nat.le_refl _) _).trans (hb.mono (by omega))⟩
end Go.Proofs.YtiigkiemkhdclaaGreatDoor

