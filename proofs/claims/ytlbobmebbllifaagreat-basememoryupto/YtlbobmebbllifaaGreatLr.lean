import Derived.Test.YtlbobmebbllifaaGreatBbRs
import Derived.LoopN
/- The contract of term.replace: each variable of a term gives way to what a function says of it, in new memory. (Written by wip/replgen.py.) -/
namespace Go.Proofs.YtlbobmebbllifaaGreat
open Go.RowKit Go.Shelf
theorem wp_loop_cps {P : Program} {c : Code} {Q : Exit → Act → World → Prop} {a : Act} {w : World} (h : ∀ R : Nat → Act → World → Prop, (∀ m a w, c.wp P (Exit.then (R m) Q) a w → R (m + 1) a w) → ∃ m, R m a w) : (Code.loop c).wp P Q a w := by
 obtain ⟨m, hm⟩ := h (Code.rounds P c Q) (fun m a w hw => hw)
 exact wp_loop_rounds m hm
def RepA (v0 fv v2 v4 v5 v6 lf : Value) (a : Act) : Prop := ∃ f : Nat → Value, a = { tmps := #[v0, fv, v2, undef, v4, v5, v6, lf, f 8, f 9, f 10, f 11, f 12, f 13, f 14, f 15, f 16, f 17, f 18, f 19, f 20, f 21, f 22, f 23, f 24, f 25, f 26, f 27, f 28, f 29, f 30, f 31, f 32, f 33, f 34, f 35, f 36, f 37, f 38, f 39, f 40, f 41, f 42, f 43, f 44, f 45, f 46, f 47, f 48, f 49, f 50, f 51, f 52, f 53, f 54, f 55, f 56, f 57, f 58, f 59, f 60, f 61, f 62, f 63, f 64, f 65, f 66, f 67, f 68, f 69, f 70, f 71, f 72, f 73, f 74, f 75, f 76, f 77, f 78, f 79, f 80, f 81, f 82, f 83, f 84, f 85, f 86, f 87, f 88, f 89, f 90, f 91, f 92, f 93, f 94, f 95, f 96, f 97, f 98, f 99, f 100], defers := [] }
theorem repA_of {v0 fv v2 v4 v5 v6 lf u8 u9 u10 u11 u12 u13 u14 u15 u16 u17 u18 u19 u20 u21 u22 u23 u24 u25 u26 u27 u28 u29 u30 u31 u32 u33 u34 u35 u36 u37 u38 u39 u40 u41 u42 u43 u44 u45 u46 u47 u48 u49 u50 u51 u52 u53 u54 u55 u56 u57 u58 u59 u60 u61 u62 u63 u64 u65 u66 u67 u68 u69 u70 u71 u72 u73 u74 u75 u76 u77 u78 u79 u80 u81 u82 u83 u84 u85 u86 u87 u88 u89 u90 u91 u92 u93 u94 u95 u96 u97 u98 u99 u100 : Value} : RepA v0 fv v2 v4 v5 v6 lf { tmps := #[v0, fv, v2, undef, v4, v5, v6, lf, u8, u9, u10, u11, u12, u13, u14, u15, u16, u17, u18, u19, u20, u21, u22, u23, u24, u25, u26, u27, u28, u29, u30, u31, u32, u33, u34, u35, u36, u37, u38, u39, u40, u41, u42, u43, u44, u45, u46, u47, u48, u49, u50, u51, u52, u53, u54, u55, u56, u57, u58, u59, u60, u61, u62, u63, u64, u65, u66, u67, u68, u69, u70, u71, u72, u73, u74, u75, u76, u77, u78, u79, u80, u81, u82, u83, u84, u85, u86, u87, u88, u89, u90, u91, u92, u93, u94, u95, u96, u97, u98, u99, u100], defers := [] } := ⟨fun i => ([u8, u9, u10, u11, u12, u13, u14, u15, u16, u17, u18, u19, u20, u21, u22, u23, u24, u25, u26, u27, u28, u29, u30, u31, u32, u33, u34, u35, u36, u37, u38, u39, u40, u41, u42, u43, u44, u45, u46, u47, u48, u49, u50, u51, u52, u53, u54, u55, u56, u57, u58, u59, u60, u61, u62, u63, u64, u65, u66, u67, u68, u69, u70, u71, u72, u73, u74, u75, u76, u77, u78, u79, u80, u81, u82, u83, u84, u85, u86, u87, u88, u89, u90, u91, u92, u93, u94, u95, u96, u97, u98, u99, u100][i - 8]?).getD undef, rfl⟩
theorem two_filling : Two 154 := by
 have h : (Tryz.prog.info? 154).map (fun i => (i.zero, i.size, i.bytes)) = some (some (.agg #[.slice none 0 0, .slice none 0 0]), 2, 48) := by kernel_rfl
 cases hi : Tryz.prog.info? 154 with
 | none => rw [hi] at h; cases h
 | some i =>
  rw [hi] at h
  simp at h
  exact ⟨i, hi, h.1, h.2.1, h.2.2⟩
structure Fr (w0 : Nat) (X : Nat → Prop) (B : Nat) (V V' : World) : Prop where
 os : V'.os = V.os
 tape : V'.tape = V.tape
 output : V'.output = V.output
 size : V.heap.size ≤ V'.heap.size
 block : ∀ b, b < V.heap.size → ¬ X b → b ≠ B → (b < w0 ∨ ∀ o, V.heap[b]? = some o → ofK 154 o = false) → V'.heap[b]? = V.heap[b]?
theorem Fr.refl (w0 : Nat) (X : Nat → Prop) (B : Nat) (V : World) : Fr w0 X B V V := ⟨rfl, rfl, rfl, Nat.le_refl _, fun _ _ _ _ _ => rfl⟩
theorem Fr.trans {w0 : Nat} {X : Nat → Prop} {B B' : Nat} {V V' V'' : World} (h : Fr w0 X B V V') (k : Fr w0 X B' V' V'') (hB : B' = B ∨ V.heap.size ≤ B') : Fr w0 X B V V'' :=
 ⟨k.os.trans h.os, k.tape.trans h.tape, k.output.trans h.output, Nat.le_trans h.size k.size, fun b hb hx hne hk => by
  have h1 := h.block b hb hx hne hk
  refine (k.block b (Nat.lt_of_lt_of_le hb h.size) hx (by omega) ?_).trans h1
  rcases hk with hk | hk
  ·exact .inl hk
  ·exact .inr fun o ho => hk o (by rw [← h1]; exact ho)⟩
theorem Fr.of_row {w0 : Nat} {X : Nat → Prop} {B g : Nat} {V V' : World} (hg : V.grownBy V' (some g)) (hw : w0 ≤ g) {arr : Array Value} (hk : V.heap[g]? = some (.cells arr 154 (0, 0))) : Fr w0 X B V V' :=
 ⟨hg.os, hg.tape, hg.output, hg.size, fun b hb _ _ hor => hg.block b hb (fun e => by
  cases e
  rcases hor with h | h
  ·omega
  ·have := h _ hk
   simp [ofK] at this)⟩
theorem Fr.tk {w0 lo : Nat} {X : Nat → Prop} {B : Nat} {V V' : World} (h : Fr w0 X B V V') (hX : ∀ k, X k → k < lo) (hB : B < lo) : TK lo V V' :=
 ⟨h.size, fun b arr hb ha => h.block b (Array.getElem?_eq_some_iff.1 ha).1 (fun hx => by have := hX b hx; omega) (by omega) (.inr fun o ho => by rw [ha] at ho; cases ho; simp [ofK])⟩
theorem Fr.below {w0 n : Nat} {X : Nat → Prop} {B : Nat} {V V' : World} (h : Fr w0 X B V V') (hX : ∀ k, X k → n ≤ k) (hB : w0 ≤ B) (hn : n ≤ w0) (hV : n ≤ V.heap.size) : Below n V V' :=
 ⟨h.os, h.tape, h.output, h.size, fun b hb => h.block b (by omega) (fun hx => by have := hX b hx; omega) (by omega) (.inl (by omega))⟩
theorem Fr.grb {w0 : Nat} {X : Nat → Prop} {B : Nat} {V V' : World} (h : Fr w0 X B V V') (hB : w0 ≤ B) (hV : w0 ≤ V.heap.size) : GrB X w0 V V' :=
 ⟨h.os, h.tape, h.output, h.size, fun b hb hx => h.block b (by omega) hx (by omega) (.inl hb)⟩
theorem Fr.term {w0 b : Nat} {X : Nat → Prop} {B : Nat} {V V' : World} (h : Fr w0 X B V V') (hx : ¬ X b) (hne : b ≠ B) {arr : Array Value} {m : Nat × Nat} (ha : V.heap[b]? = some (.cells arr 24 m)) : V'.heap[b]? = some (.cells arr 24 m) :=
 (h.block b (Array.getElem?_eq_some_iff.1 ha).1 hx hne (.inr fun o ho => by rw [ha] at ho; cases ho; simp [ofK])).trans ha
theorem set4_first (V : World) (B j : Nat) (x : TV) {q : Nat} (hq : q < j * 4) : (set4 V B (j * 4) x).cell? ⟨B, q, none⟩ = V.cell? ⟨B, q, none⟩ := set4_far V B (j * 4) x (by omega)
def TopSays {σ : Type} (I : σ → World → Prop) (X : Nat → Prop) (stp : σ → Int → σ) (β : σ → Int → List Nd) (D : Nat) {n : Nat} (u : Tm (n + 1)) (V : World) (z : σ) (e : Ending) (W' : World) : Prop :=
 (∃ x : TV, e = .returned (.tuple #[x.val, .slice none 0 0]) ∧ GrB X V.heap.size V W' ∧ u.kids = [] ∧ I (stepsN stp z (code u)) W' ∧ HoldsT (n + 1 + D) V.heap.size W' x.val ((code u).flatMap (subN (β (stepsN stp z (code u)))))) ∨
 (∃ (B : Nat) (s : ByteArray) (len : Nat), e = .returned (.tuple #[(⟨4, 0, s, some ⟨B, 0, none⟩, len, len⟩ : TV).val, .slice (some ⟨B, 0, none⟩) len len]) ∧ GrB X V.heap.size V W' ∧ V.heap.size ≤ B ∧ Row4 W' B len ∧ I z W' ∧ len = u.kids.length ∧ 1 ≤ len ∧ len ≤ 50 ∧ s.size ≤ 9223372036854775807 ∧ u.tv.nd = (4, 0, s.toList, len))
theorem top_any {σ : Type} {I : σ → World → Prop} {X : Nat → Prop} {n₀ lo : Nat} {stp : σ → Int → σ} {β : σ → Int → List Nd} (hst : Stately I X n₀ lo stp β) (g : Nat) (lb : Array Value) (D : Nat) (hD : 1 ≤ D) (eg : ∀ args w, (callFunc g args).run Tryz.prog w = .ok (.enter g args) w) (hbec : BecomesX g lb I X lo stp β D)
  {n : Nat} (u : Tm (n + 1)) (V : World) (z : σ) (hlo : lo ≤ V.heap.size) (hI : I z V) (hT : IsT n₀ V u) (hok : okT u = true) :
  Calls Tryz.prog 81 #[u.tv.val, .func (.func g) #[] lb] V fun e W' => TopSays I X stp β D u V z e W' := by
 obtain ⟨⟨k, N, s, a, len, cap⟩, kids⟩ := u
 obtain ⟨hwm, hk⟩ := ok_kids hok
 obtain ⟨h1, h2, h3, h4⟩ := hT
 simp only [Tm.tv, Tm.kids] at h1 h2 h3 h4 hwm
 rcases wm_cases hwm with ⟨rfl, hN1, hN2, hse, rfl⟩ | ⟨hk23, rfl⟩ | ⟨rfl, rfl, hl1, hl2⟩
 ·have hnil : kids = [] := List.length_eq_zero_iff.1 h1.symm
  subst hnil
  refine (top_var hst g lb D eg hbec N s a 0 cap V z hN1 hN2 hlo hI).mono fun e W' h => ?_
  obtain ⟨x, he, hb', hI', hv⟩ := h
  refine .inl ⟨x, he, hb', rfl, by rw [code_succ]; simpa [stepsN, TV.nd] using hI', ?_⟩
  rw [code_succ]
  simpa [subN, TV.nd, stepsN] using hv.mono (by omega) (Nat.le_refl _)
 ·have hnil : kids = [] := List.length_eq_zero_iff.1 h1.symm
  subst hnil
  refine (top_leaf _ k N s a 0 cap V hk23 h3).mono fun e W' h => ?_
  obtain ⟨he, hb', hv⟩ := h
  have hne : ¬ k = 1 := by omega
  have hI' := hst.keep z V W' hI hlo (hb'.mono hlo)
  refine .inl ⟨_, he, GrB.of_below hb', rfl, by rw [code_succ]; simpa [stepsN, TV.nd, hne] using hI', ?_⟩
  rw [code_succ]
  simpa [subN, TV.nd, hne, stepsN] using hv.mono (by omega) (Nat.le_refl _)
 ·refine (top_comp _ s a len cap V hl2).mono fun e W' h => ?_
  obtain ⟨B, he, hB, hr, hb'⟩ := h
  exact .inr ⟨B, s, len, he, GrB.of_below hb', hB, hr, hst.keep z V W' hI hlo (hb'.mono hlo), h1, hl1, hl2, h3, rfl⟩
theorem size_set2 (V : World) (a b : Addr) (u v : Value) : ((V.setCell a u).setCell b v).drew.heap.size = V.heap.size := by
 have h : ((V.setCell a u).setCell b v).drew.heap = ((V.setCell a u).setCell b v).heap := rfl
 rw [h]
 simp
theorem drew_heap (V : World) : V.drew.heap = V.heap := rfl
theorem fill_step {w0 : Nat} {X : Nat → Prop} {V V1 V2 V3 V4 V5 : World} {g cp B j ln : Nat} {S : List (Value × Value)} {p1 p2 s1 s2 : Value} {x u : TV}
  (hS : Stk2 154 w0 g cp V (S ++ [(p1, p2)])) (hRow : Row4 V B ln) (hj : j < ln) (hB : w0 ≤ B) (hX : ∀ k, X k → k < w0)
  (e1 : V.alloc (.cells #[.int .i64 u.k, .int .i64 u.N, .string u.s, .slice u.a u.len u.cap] 24) = V1) (g2 : GrB X V1.heap.size V1 V2)
  (e3 : V2.alloc (.cells #[.int .i64 x.k, .int .i64 x.N, .string x.s, .slice x.a x.len x.cap] 24) = V3) (e4 : (set4 V3 B (j * 4) x).drew = V4)
  (e5 : ((V4.setCell ⟨g, S.length * 2, none⟩ s1).setCell ⟨g, S.length * 2 + 1, none⟩ s2).drew = V5) :
  (Stk2 154 w0 g cp V3 (S ++ [(p1, p2)]) ∧ Row4 V3 B ln ∧ BoxT V3 V2.heap.size x) ∧ (Stk2 154 w0 g cp V4 (S ++ [(p1, p2)])) ∧
  (Stk2 154 w0 g cp V5 (S ++ [(s1, s2)]) ∧ Row4 V5 B ln ∧ cellsAt V5 B (j * 4) x ∧ (∀ q, q < j * 4 → V5.cell? ⟨B, q, none⟩ = V.cell? ⟨B, q, none⟩) ∧ BoxT V5 V.heap.size u ∧ Fr w0 X B V V5) ∧
  ((∀ b, V.heap.size ≤ b → b < V2.heap.size → V5.heap[b]? = V2.heap[b]?) ∧ Below w0 V2 V5 ∧ V.heap.size < V2.heap.size ∧ V2.heap.size ≤ V5.heap.size) := by
 have s1' : V1.heap.size = V.heap.size + 1 := by rw [← e1]; simp
 have b1 : Below V.heap.size V V1 := by rw [← e1]; exact (Below.refl _ V).alloc (Nat.le_refl _) _
 have s2' : V1.heap.size ≤ V2.heap.size := g2.size
 have s3' : V3.heap.size = V2.heap.size + 1 := by rw [← e3]; simp
 have b3 : Below V2.heap.size V2 V3 := by rw [← e3]; exact (Below.refl _ V2).alloc (Nat.le_refl _) _
 have hgl := hS.lt
 have hg0 := hS.blk.1
 have hBl := hRow.lt
 have hgB : g ≠ B := fun e => by
  obtain ⟨_, _, cur, h1, _⟩ := hS.blk
  obtain ⟨arr, h2, _⟩ := hRow
  rw [← e, h1] at h2
  simp at h2
 have kept3 : ∀ b, b < V.heap.size → ¬ X b → V3.heap[b]? = V.heap[b]? := fun b hb hx => ((b3.block b (by omega)).trans (g2.block b (by omega) hx)).trans (b1.block b hb)
 have nX : ∀ b, w0 ≤ b → ¬ X b := fun b hb hx => by have := hX b hx; omega
 have S3 : Stk2 154 w0 g cp V3 (S ++ [(p1, p2)]) := hS.kept (kept3 g hgl (nX g hg0))
 have R3 : Row4 V3 B ln := hRow.kept (kept3 B hBl (nX B hB))
 have S4 : Stk2 154 w0 g cp V4 (S ++ [(p1, p2)]) := by rw [← e4]; exact S3.kept (by rw [drew_heap]; exact set4_other V3 B (j * 4) x hgB)
 have k4 : ∀ b, b ≠ B → V4.heap[b]? = V3.heap[b]? := fun b hb => by rw [← e4, drew_heap]; exact set4_other V3 B (j * 4) x hb
 have z4 : V4.heap.size = V3.heap.size := by rw [← e4, drew_heap]; exact set4_size V3 B (j * 4) x
 have q1 := S4.set0 s1
 have q2 := q1.1.set1 s2
 have S5 : Stk2 154 w0 g cp V5 (S ++ [(s1, s2)]) := by rw [← e5]; exact q2.1
 have k5 : ∀ b, b ≠ g → V5.heap[b]? = V4.heap[b]? := fun b hb => by
  rw [← e5]
  show ((V4.setCell ⟨g, S.length * 2, none⟩ s1).setCell ⟨g, S.length * 2 + 1, none⟩ s2).heap[b]? = _
  rw [Below.heap_setCell _ ⟨g, S.length * 2 + 1, none⟩ s2 b hb, Below.heap_setCell _ ⟨g, S.length * 2, none⟩ s1 b hb]
 have z5 : V5.heap.size = V4.heap.size := by
  rw [← e5]
  exact (size_set2 _ _ _ _ _).trans rfl
 have hBg : B ≠ g := fun e => hgB e.symm
 have o3 : V3.os = V2.os ∧ V3.tape = V2.tape ∧ V3.output = V2.output := ⟨b3.os, b3.tape, b3.output⟩
 have o4 : V4.os = V3.os ∧ V4.tape = V3.tape ∧ V4.output = V3.output := by
  rw [← e4]
  have h := (set4_below (Below.refl 0 V3) (Nat.zero_le B) (j * 4) x).drew
  exact ⟨h.os, h.tape, h.output⟩
 have o5 : V5.os = V2.os ∧ V5.tape = V2.tape ∧ V5.output = V2.output := by
  have h : Below 0 V4 V5 := by rw [← e5]; exact (((Below.refl 0 V4).setCell (p := ⟨g, S.length * 2, none⟩) (Nat.zero_le _) s1).setCell (p := ⟨g, S.length * 2 + 1, none⟩) (Nat.zero_le _) s2).drew
  exact ⟨h.os.trans (o4.1.trans o3.1), h.tape.trans (o4.2.1.trans o3.2.1), h.output.trans (o4.2.2.trans o3.2.2)⟩
 have R5 : Row4 V5 B ln := by
  have h4 : Row4 (set4 V3 B (j * 4) x) B ln := R3.set4 (j * 4) x
  have h4' : Row4 V4 B ln := h4.kept (by rw [← e4, drew_heap])
  exact h4'.kept (k5 B hBg)
 have cB : ∀ q, V5.cell? ⟨B, q, none⟩ = V4.cell? ⟨B, q, none⟩ := fun q => World.cell?_of_block (w := V4) (a := ⟨B, q, none⟩) (k5 B hBg)
 have c4 : cellsAt V4 B (j * 4) x := by
  rw [← e4]
  have gg : ∀ q, q < ln * 4 → (V3.cell? ⟨B, q, none⟩).isSome = true := fun q hq => by obtain ⟨⟨v, hv⟩, _⟩ := R3.cell hq; rw [hv]; rfl
  exact (set4_cells V3 B (j * 4) x (gg _ (by omega)) (gg _ (by omega)) (gg _ (by omega)) (gg _ (by omega))).kept (by rw [drew_heap])
 refine ⟨⟨S3, R3, by rw [← e3]; exact BoxT.new V2 x⟩, S4, ⟨S5, R5, ⟨(cB _).trans c4.1, (cB _).trans c4.2.1, (cB _).trans c4.2.2.1, (cB _).trans c4.2.2.2⟩, fun q hq => ?_, ?_, ?_⟩, ⟨fun b hb1 hb2 => ?_, ?_, by omega, by omega⟩⟩
 ·refine (cB q).trans ?_
  have h1 : V4.cell? ⟨B, q, none⟩ = V3.cell? ⟨B, q, none⟩ := by rw [← e4]; exact (World.cell?_of_block (w := set4 V3 B (j * 4) x) (a := ⟨B, q, none⟩) (by rw [drew_heap])).trans (set4_first V3 B j x hq)
  exact h1.trans (World.cell?_of_block (w := V) (a := ⟨B, q, none⟩) (kept3 B hBl (nX B hB)))
 ·have hb : BoxT V1 V.heap.size u := by rw [← e1]; exact BoxT.new V u
  exact ((k5 _ (by omega)).trans ((k4 _ (by omega)).trans ((b3.block _ (by omega)).trans (g2.block _ (by omega) (nX _ (by omega)))))).trans hb
 ·refine ⟨?_, ?_, ?_, by omega, fun b hb hx hne hor => ?_⟩
  ·exact o5.1.trans (g2.os.trans b1.os)
  ·exact o5.2.1.trans (g2.tape.trans b1.tape)
  ·exact o5.2.2.trans (g2.output.trans b1.output)
  ·have hbg : b ≠ g := fun e => by
    subst e
    rcases hor with h | h
    ·omega
    ·obtain ⟨_, _, cur, h1, _⟩ := hS.blk
     have := h _ h1
     simp [ofK] at this
   exact ((k5 b hbg).trans (k4 b hne)).trans (kept3 b hb hx)
 ·exact ((k5 b (by omega)).trans (k4 b (by omega))).trans (b3.block b hb2)
 ·refine ⟨?_, ?_, ?_, by omega, fun b hb => ?_⟩
  ·exact o5.1
  ·exact o5.2.1
  ·exact o5.2.2
  ·exact ((k5 b (by omega)).trans (k4 b (by omega))).trans (b3.block b (by omega))
theorem comp_code {σ : Type} {stp : σ → Int → σ} {n : Nat} {u : Tm (n + 1)} {sl : List UInt8} {l : Nat} (h : u.tv.nd = (4, 0, sl, l)) (z : σ) : stepsN stp z (code u) = stepsN stp z (u.kids.flatMap code) ∧ ∀ γ, (code u).flatMap (subN γ) = (4, 0, sl, l) :: (u.kids.flatMap code).flatMap (subN γ) := by
 obtain ⟨x, kids⟩ := u
 have h' : x.nd = (4, 0, sl, l) := h
 rw [code_succ, h']
 exact ⟨rfl, fun γ => rfl⟩
theorem codes_cons {σ : Type} {I : σ → World → Prop} {X : Nat → Prop} {n₀ lo : Nat} {stp : σ → Int → σ} {β : σ → Int → List Nd} (hst : Stately I X n₀ lo stp β) (c cu cr : List Nd) (z : σ) : c ++ (cu ++ cr).flatMap (subN (β (stepsN stp z (cu ++ cr)))) = (c ++ cu.flatMap (subN (β (stepsN stp z cu)))) ++ cr.flatMap (subN (β (stepsN stp (stepsN stp z cu) cr))) := by
 rw [List.flatMap_append, hst.sub, stepsN_append, List.append_assoc]
theorem wpList_append_run {P : Program} (w : World) {ops : Array Oper} {rest : List Oper} {o : Oper} {a : Act} {Q : Exit → Act → World → Prop} (hgd : o.guard = none) (s x : Operand) (t u : TypeId)
  (ho : o.op = .call { callee := .builtin .append, args := #[s, x], argTypes := #[t, u] }) {v' : Value} {w' : World} (hr : (Builtin.append_ #[t, u] o.type #[a.eval s, a.eval x]).run P w = .ok v' w') (h : wpList P ops Q rest (a.put o.dst v') w') :
  wpList P ops Q (o :: rest) a w := by
 refine wpList_plain hgd fun K hK => ?_
 unfold Oper.wp execOp
 simp only [ho, resolve, invoke, builtin, Sem.run_bind, Sem.run_pure, Result.andThen_ok, List.map_toArray, List.map_cons, List.map_nil, hr]
 exact hK _ _ h
theorem grown_two {A B C : World} {g : Nat} (h : A.grownBy B (some g)) (k : B.grownBy C (some g)) : A.grownBy C (some g) :=
 ⟨k.os.trans h.os, k.tape.trans h.tape, k.output.trans h.output, Nat.le_trans h.size k.size, fun i hi hne => (k.block i (Nat.lt_of_lt_of_le hi h.size) hne).trans (h.block i hi hne)⟩
theorem grown_alloc {A C : World} {g : Nat} {o : Obj} (k : (A.alloc o).grownBy C (some g)) : A.grownBy C (some g) :=
 ⟨k.os, k.tape, k.output, Nat.le_trans (by simp) k.size, fun i hi hne => (k.block i (by simp; omega) hne).trans (Below.heap_alloc A o i hi)⟩
theorem fill_more {w0 : Nat} {X : Nat → Prop} {V Y2 Y5 Y6 : World} {g cp B j ln : Nat} {S : List (Value × Value)} {x : TV} (hS : Stk2 154 w0 g cp Y5 S) (hg : Y5.grownBy Y6 (some g)) (R5 : Row4 Y5 B ln) (cx : cellsAt Y5 B (j * 4) x) (cf : ∀ q, q < j * 4 → Y5.cell? ⟨B, q, none⟩ = V.cell? ⟨B, q, none⟩) (F5 : Fr w0 X B V Y5)
  (nb : ∀ b, V.heap.size ≤ b → b < Y2.heap.size → Y5.heap[b]? = Y2.heap[b]?) (bw : Below w0 Y2 Y5) (hgV : g < V.heap.size) (h25 : Y2.heap.size ≤ Y5.heap.size) :
  Row4 Y6 B ln ∧ cellsAt Y6 B (j * 4) x ∧ (∀ q, q < j * 4 → Y6.cell? ⟨B, q, none⟩ = V.cell? ⟨B, q, none⟩) ∧ Fr w0 X B V Y6 ∧ (∀ b, V.heap.size ≤ b → b < Y2.heap.size → Y6.heap[b]? = Y2.heap[b]?) ∧ Below w0 Y2 Y6 ∧ Y2.heap.size ≤ Y6.heap.size := by
 obtain ⟨hw, _, cur, hk, _⟩ := hS.blk
 have hBg : B ≠ g := fun e => by
  obtain ⟨arr, h2, _⟩ := R5
  rw [e, hk] at h2
  simp at h2
 have kB : Y6.heap[B]? = Y5.heap[B]? := hg.block B R5.lt (fun e => hBg (by cases e; rfl))
 have cB : ∀ q, Y6.cell? ⟨B, q, none⟩ = Y5.cell? ⟨B, q, none⟩ := fun q => World.cell?_of_block (w := Y5) (a := ⟨B, q, none⟩) kB
 have hz := F5.size
 refine ⟨R5.kept kB, cx.kept kB, fun q hq => (cB q).trans (cf q hq), F5.trans (Fr.of_row hg hw hk) (.inl rfl), fun b hb1 hb2 => (hg.block b (by omega) (fun e => by cases e; omega)).trans (nb b hb1 hb2), bw.grown hg (by omega) (fun r e => by cases e; exact hw), Nat.le_trans h25 hg.size⟩
theorem TopSays.split {σ : Type} {I : σ → World → Prop} {X : Nat → Prop} {stp : σ → Int → σ} {β : σ → Int → List Nd} {D n : Nat} {u : Tm (n + 1)} {V : World} {z : σ} {e : Ending} {W' : World} (h : TopSays I X stp β D u V z e W') :
  ∃ (x : TV) (ta : Option Addr) (tl : Nat), e = .returned (.tuple #[x.val, .slice ta tl tl]) ∧ GrB X V.heap.size V W' ∧ tl = u.kids.length ∧ tl ≤ 50 ∧
   ((u.kids = [] ∧ I (stepsN stp z (code u)) W' ∧ HoldsT (n + 1 + D) V.heap.size W' x.val ((code u).flatMap (subN (β (stepsN stp z (code u)))))) ∨
    (∃ (B : Nat) (s : ByteArray), x = ⟨4, 0, s, some ⟨B, 0, none⟩, tl, tl⟩ ∧ ta = some ⟨B, 0, none⟩ ∧ V.heap.size ≤ B ∧ Row4 W' B tl ∧ I z W' ∧ 1 ≤ tl ∧ s.size ≤ 9223372036854775807 ∧ u.tv.nd = (4, 0, s.toList, tl))) := by
 rcases h with ⟨x, h1, h2, h3, h4, h5⟩ | ⟨B, s, len, h1, h2, h3, h4, h5, h6, h7, h8, h9, h10⟩
 ·exact ⟨x, none, 0, h1, h2, by rw [h3]; rfl, by omega, .inl ⟨h3, h4, h5⟩⟩
 ·exact ⟨_, _, len, h1, h2, h6, h8, .inr ⟨B, s, rfl, rfl, h3, h4, h5, h7, h9, h10⟩⟩
set_option maxRecDepth 100000 in
set_option maxHeartbeats 4000000 in
theorem replace_anyX {σ : Type} {I : σ → World → Prop} {X : Nat → Prop} {n₀ lo : Nat} {stp : σ → Int → σ} {β : σ → Int → List Nd} (hst : Stately I X n₀ lo stp β) (gf : Nat) (lb : Array Value) (D : Nat) (hD : 1 ≤ D) (eg : ∀ args w, (callFunc gf args).run Tryz.prog w = .ok (.enter gf args) w) (hbec : BecomesX gf lb I X lo stp β D) :
  ∀ (n : Nat) (t : Tm n) (W : World) (z : σ), lo ≤ W.heap.size → I z W → IsT n₀ W t → okT t = true →
   Calls Tryz.prog 58 #[t.tv.val, .func (.func gf) #[] lb] W fun e W' => ∃ v, e = .returned v ∧ GrB X W.heap.size W W' ∧ I (stepsN stp z (code t)) W' ∧ HoldsT (n + D) W.heap.size W' v ((code t).flatMap (subN (β (stepsN stp z (code t))))) := by
 intro n t W z hlo hI hT hok
 cases n with
 | zero => exact Empty.elim t
 | succ n =>
 have hlim : n + 1 ≤ 2199023255552 := hT.2.1.2.2
 have hn0 := hst.low
 have hXlo : ∀ k, X k → n₀ ≤ k ∧ k < lo := hst.blocks
 obtain ⟨V1, eV1, gV1, sV1, bT, bZ⟩ : ∃ V1, (W.alloc (.cells #[.int .i64 t.tv.k, .int .i64 t.tv.N, .string t.tv.s, .slice t.tv.a t.tv.len t.tv.cap] 24)).alloc (.cells #[.int .i64 0, .int .i64 0, .string ⟨#[]⟩, .slice none 0 0] 24) = V1 ∧ Below W.heap.size W V1 ∧ V1.heap.size = W.heap.size + 2 ∧ BoxT V1 W.heap.size t.tv ∧ V1.heap[W.heap.size + 1]? = some (.cells #[.int .i64 0, .int .i64 0, .string ⟨#[]⟩, .slice none 0 0] 24 (0, 0)) := by
  refine ⟨_, rfl, ((Below.refl _ W).alloc (Nat.le_refl _) _).alloc (by simp) _, by simp, (BoxT.new W t.tv).alloc _, ?_⟩
  have h := World.alloc_heap_new (W.alloc (.cells #[.int .i64 t.tv.k, .int .i64 t.tv.N, .string t.tv.s, .slice t.tv.a t.tv.len t.tv.cap] 24)) (.cells #[.int .i64 0, .int .i64 0, .string ⟨#[]⟩, .slice none 0 0] 24)
  rw [World.size_alloc] at h
  exact h
 have htop := top_any hst gf lb D hD eg hbec t V1 z (by omega) (hst.keep z W V1 hI hlo (gV1.mono hlo)) (hT.below (gV1.mono (by omega))) hok
 have HST := hide hst
 have HBE := hide hbec
 have HT := hide hT
 have HOK := hide hok
 have HV1 := hide (And.intro gV1 (And.intro bT bZ))
 have HX := hide hXlo
 have HEG := hide eg
 have c0 := bT.c0
 have c1 := bT.c1
 have c2 := bT.c2
 have c3 := bT.c3
 clear hst hbec hT hok hI gV1 bT bZ hXlo eg
 simp only [TV.val] at htop ⊢
 go_enter Tryz.func58, Tryz.ntmps58
 go_wp2_with fail
 try rw [eV1]
 refine htop.mono ?_
 clear htop eV1 c0 c1 c2 c3
 rintro e V2 hts
 obtain ⟨x, ta, tl, rfl, g2, htl, htl50, hcase⟩ := hts.split
 clear hts
 rw [sV1] at g2 hcase
 obtain ⟨gV1, bT, bZ⟩ := unhide HV1
 have hnx : ∀ k, lo ≤ k → ¬ X k := fun k hk hx => by have := ((unhide HX) k hx).2; omega
 have sV2 : W.heap.size + 2 ≤ V2.heap.size := by have := g2.size; omega
 obtain ⟨V3, eV3, gV3, sV3, bX⟩ : ∃ V3, V2.alloc (.cells #[.int .i64 x.k, .int .i64 x.N, .string x.s, .slice x.a x.len x.cap] 24) = V3 ∧ Below V2.heap.size V2 V3 ∧ V3.heap.size = V2.heap.size + 1 ∧ BoxT V3 V2.heap.size x := ⟨_, rfl, (Below.refl _ _).alloc (Nat.le_refl _) _, by simp, BoxT.new V2 x⟩
 have bT3 : BoxT V3 W.heap.size t.tv := (gV3.block _ (by omega)).trans ((g2.block W.heap.size (by omega) (hnx _ hlo)).trans bT)
 have bZ3 : V3.heap[W.heap.size + 1]? = some (.cells #[.int .i64 0, .int .i64 0, .string ⟨#[]⟩, .slice none 0 0] 24 (0, 0)) := (gV3.block _ (by omega)).trans ((g2.block (W.heap.size + 1) (by omega) (hnx _ (by omega))).trans bZ)
 have gW3 : GrB X W.heap.size W V3 := ((GrB.of_below gV1).trans (g2.mono (by omega))).trans (GrB.of_below (gV3.mono (by omega)))
 have hcc := bT3.c3
 have HC := hide hcase
 have HTL := hide htl
 have sV3a : V2.heap.size + 1 ≤ V3.heap.size := by omega
 have sV3b : V3.heap.size ≤ V2.heap.size + 1 := by omega
 have H3 := hide (And.intro gV3 (And.intro bX (And.intro bZ3 gW3)))
 clear hcase gV1 bT bZ g2 gV3 bX bT3 bZ3 gW3 HV1 htl sV1 sV3
 simp only [TV.val]
 go_upto_region 2 with fail
 try rw [eV3]
 clear eV3
 have HLEN : Hid (t.tv.len = t.kids.length) := (unhide HT).1
 have HLF : Hid ((kidsL t).Is n₀ W ∧ (kidsL t).val = .slice t.tv.a t.tv.len t.tv.cap) := ⟨kidsL_is (unhide HT), kidsL_val (unhide HT)⟩
 generalize t.tv.a = a at *
 generalize t.tv.len = len at *
 generalize t.tv.cap = cap at *
 go_cut [7] from 18 (fun s wc => ∃ gs, s = .slice (some ⟨gs, 0, none⟩) 1 8 ∧ Stk2 154 W.heap.size gs 8 wc [(.slice a len cap, .slice ta tl tl)] ∧ Below V3.heap.size V3 wc)
 case first =>
  have hmk := two_make (k := 154) (T := 152) two_filling Tryz.underlying152
  obtain ⟨D0, hD0⟩ : ∃ D0, V3.drew = D0 := ⟨_, rfl⟩
  have hDb : Below V3.heap.size V3 D0 := by rw [← hD0]; exact (Below.refl _ V3).drew
  have hDs : D0.heap.size = V3.heap.size := by rw [← hD0]; rfl
  have hDc : D0.cell? ⟨W.heap.size, 3, none⟩ = some (.slice a len cap) := by rw [← hD0]; exact hcc
  obtain ⟨Xa, ea, sa, ba⟩ := two_a (k := 154) (T := 152) two_filling Tryz.underlying152 (B := W.heap.size) D0 (.slice a len cap, .slice ta tl tl) rfl rfl (by omega)
  obtain ⟨Xb, eb, sb, bb⟩ := two_b (k := 154) (T := 152) two_filling Tryz.underlying152 (B := W.heap.size) D0 (.slice a len cap, .slice ta tl tl) rfl rfl (by omega)
  rw [hDs] at ea eb sa sb
  simp only at ea eb
  have k1a : (D0.alloc (.cells (madeCells #[.slice none 0 0, .slice none 0 0] 16) 154)).cell? ⟨W.heap.size, 3, none⟩ = some (.slice a len cap) := (Below.cell ((Below.refl _ D0).alloc (Nat.le_refl _) _) (p := ⟨W.heap.size, 3, none⟩) (by simp; omega)).trans hDc
  have k1b : (D0.alloc (.cells #[.slice a len cap, .slice ta tl tl] 154)).cell? ⟨W.heap.size, 3, none⟩ = some (.slice a len cap) := (Below.cell ((Below.refl _ D0).alloc (Nat.le_refl _) _) (p := ⟨W.heap.size, 3, none⟩) (by simp; omega)).trans hDc
  have k2a : ((D0.alloc (.cells (madeCells #[.slice none 0 0, .slice none 0 0] 16) 154)).alloc (.cells #[.slice a len cap, .slice ta tl tl] 154)).cell? ⟨W.heap.size, 3, none⟩ = some (.slice a len cap) := (Below.cell (((Below.refl _ D0).alloc (Nat.le_refl _) _).alloc (by simp) _) (p := ⟨W.heap.size, 3, none⟩) (by simp; omega)).trans hDc
  have k2b : ((D0.alloc (.cells #[.slice a len cap, .slice ta tl tl] 154)).alloc (.cells (madeCells #[.slice none 0 0, .slice none 0 0] 16) 154)).cell? ⟨W.heap.size, 3, none⟩ = some (.slice a len cap) := (Below.cell (((Below.refl _ D0).alloc (Nat.le_refl _) _).alloc (by simp) _) (p := ⟨W.heap.size, 3, none⟩) (by simp; omega)).trans hDc
  have k3a : (Xa).cell? ⟨W.heap.size, 3, none⟩ = some (.slice a len cap) := (Below.cell ba (p := ⟨W.heap.size, 3, none⟩) (by simp; omega)).trans hDc
  have k3b : (Xb).cell? ⟨W.heap.size, 3, none⟩ = some (.slice a len cap) := (Below.cell bb (p := ⟨W.heap.size, 3, none⟩) (by simp; omega)).trans hDc
  have HA := hide (And.intro sa (hDb.trans (ba.mono (by omega))))
  have HB := hide (And.intro sb (hDb.trans (bb.mono (by omega))))
  clear sa ba sb bb
  refine wp_region_noPanic ?_
  refine wp_region_held_drew (S := fun w' => w'.cell? ⟨W.heap.size, 3, none⟩ = some (.slice a len cap)) (by kernel_rfl) ?_ (fun hHeld => ?_)
  ·exact hcc
  rw [hD0] at hHeld ⊢
  clear hD0
  refine wpAnyH_take (i := 1) (oi := { dst := some 19, op := Op.fieldAddr 24 (Operand.tmp 2) 3, type := 0, pos := "parts.go:54", after := #[], guard := none }) (v := ?_) rfl (by kernel_rfl) (by kernel_rfl) (by kernel_rfl) (fun _ _ _ h => h) (Or.inl ⟨by rfl, ?_⟩) hHeld ?_
  rotate_left
  ·(intro w' hSw; (try dsimp only at hSw); go_simp; try with_reducible rfl)
  try simp only [Act.put, List.setIfInBounds_toArray, List.set_cons_zero, List.set_cons_succ]
  refine wpAnyH_take (i := 2) (oi := { dst := some 20, op := Op.load 22 (Operand.tmp 19), type := 22, pos := "parts.go:54", after := #[{ on := 1, ground := Ground.data }], guard := none }) (v := ?_) rfl (by kernel_rfl) (by kernel_rfl) (by kernel_rfl) (fun _ _ _ h => h) (Or.inl ⟨by rfl, ?_⟩) hHeld ?_
  rotate_left
  ·(intro w' hSw; (try dsimp only at hSw); go_simp; try with_reducible rfl)
  try simp only [Act.put, List.setIfInBounds_toArray, List.set_cons_zero, List.set_cons_succ]
  refine wpAnyH_take (i := 3) (oi := { dst := some 21, op := Op.move (Operand.tmp 6), type := 22, pos := "parts.go:54", after := #[], guard := none }) (v := ?_) rfl (by kernel_rfl) (by kernel_rfl) (by kernel_rfl) (fun _ _ _ h => h) (Or.inl ⟨by rfl, ?_⟩) hHeld ?_
  rotate_left
  ·(intro w' hSw; (try dsimp only at hSw); go_simp; try with_reducible rfl)
  try simp only [Act.put, List.setIfInBounds_toArray, List.set_cons_zero, List.set_cons_succ]
  refine wpAnyH_take (i := 4) (oi := { dst := some 22, op := Op.build 154 #[(0, Operand.tmp 20), (1, Operand.tmp 21)], type := 154, pos := "parts.go:54", after := #[{ on := 2, ground := Ground.data }, { on := 3, ground := Ground.data }], guard := none }) (v := ?_) rfl (by kernel_rfl) (by kernel_rfl) (by kernel_rfl) (fun _ _ _ h => h) (Or.inl ⟨by rfl, ?_⟩) hHeld ?_
  rotate_left
  ·(intro w' hSw; (try dsimp only at hSw); go_simp; try with_reducible rfl)
  try simp only [Act.put, List.setIfInBounds_toArray, List.set_cons_zero, List.set_cons_succ]
  refine wpAnyH_ready (rs := [0, 5]) (by kernel_rfl) (by simp) ?_
  refine AllReadyH.cons (o := { dst := some 18, op := Op.makeSlice 152 (Operand.const (Value.int IntKind.i64 0)) (Operand.const (Value.int IntKind.i64 8)), type := 152, pos := "parts.go:54", after := #[], guard := none }) rfl (fun K hK => ?_) (AllReadyH.cons (o := { dst := some 23, op := Op.buildSlice 152 1 #[(0, Operand.tmp 22)], type := 152, pos := "parts.go:54", after := #[{ on := 4, ground := Ground.data }], guard := none }) rfl (fun K hK => ?_) AllReadyH.nil)
  ·have hHold := hHeld
   clear hHeld
   go_simp
   refine hK.out _ _ ?_ (fun hHeld => ?_)
   ·((try dsimp only); exact k1a)
   clear hK K hHold
   try simp only [Act.put, List.setIfInBounds_toArray, List.set_cons_zero, List.set_cons_succ]
   refine wpAnyH_ready (rs := [5]) (by kernel_rfl) (by simp) ?_
   refine AllReadyH.cons (o := { dst := some 23, op := Op.buildSlice 152 1 #[(0, Operand.tmp 22)], type := 152, pos := "parts.go:54", after := #[{ on := 4, ground := Ground.data }], guard := none }) rfl (fun K hK => ?_) AllReadyH.nil
   have hHold := hHeld
   clear hHeld
   go_simp
   refine hK.out _ _ ?_ (fun hHeld => ?_)
   ·((try dsimp only); exact k2a)
   clear hK K hHold
   try simp only [Act.put, List.setIfInBounds_toArray, List.set_cons_zero, List.set_cons_succ]
   refine wpAnyH_ready (rs := [6]) (by kernel_rfl) (by simp) ?_
   refine AllReadyH.cons (o := { dst := some 24, op := Op.call { callee := Callee.builtin Builtin.append, args := #[Operand.tmp 18, Operand.tmp 23], argTypes := #[152, 152] }, type := 152, pos := "parts.go:54", after := #[{ on := 0, ground := Ground.data }, { on := 5, ground := Ground.data }], guard := none }) rfl (fun K hK => ?_) AllReadyH.nil
   have hHold := hHeld
   clear hHeld
   rw [if_pos (by rfl)]
   refine wp_append_row _ _ _ rfl rfl rfl ea ?_
   refine hK.out _ _ ?_ (fun hHeld => ?_)
   ·((try dsimp only); exact k3a)
   clear hK K hHold
   try simp only [Act.put, List.setIfInBounds_toArray, List.set_cons_zero, List.set_cons_succ]
   refine wpAnyH_take (i := 7) (oi := { dst := some 7, op := Op.assign (Operand.tmp 24), type := 152, pos := "parts.go:54", after := #[{ on := 6, ground := Ground.data }, { on := 6, ground := Ground.chain }, { on := 0, ground := Ground.phase }, { on := 1, ground := Ground.phase }, { on := 2, ground := Ground.phase }, { on := 3, ground := Ground.phase }, { on := 4, ground := Ground.phase }, { on := 5, ground := Ground.phase }, { on := 6, ground := Ground.phase }], guard := none }) (v := ?_) rfl (by kernel_rfl) (by kernel_rfl) (by kernel_rfl) (fun _ _ _ h => h) (Or.inl ⟨by rfl, ?_⟩) hHeld ?_
   rotate_left
   ·(intro w' hSw; (try dsimp only at hSw); go_simp; try with_reducible rfl)
   try simp only [Act.put, List.setIfInBounds_toArray, List.set_cons_zero, List.set_cons_succ]
   refine wpAnyH_done (by kernel_rfl) ?_ _
   refine NoPanic.normal ?_
   clear hHeld
   go_wp2_with fail
   go_meet
   exact ⟨_, rfl, HA.out⟩
  ·have hHold := hHeld
   clear hHeld
   go_simp
   refine hK.out _ _ ?_ (fun hHeld => ?_)
   ·((try dsimp only); exact k1b)
   clear hK K hHold
   try simp only [Act.put, List.setIfInBounds_toArray, List.set_cons_zero, List.set_cons_succ]
   refine wpAnyH_ready (rs := [0]) (by kernel_rfl) (by simp) ?_
   refine AllReadyH.cons (o := { dst := some 18, op := Op.makeSlice 152 (Operand.const (Value.int IntKind.i64 0)) (Operand.const (Value.int IntKind.i64 8)), type := 152, pos := "parts.go:54", after := #[], guard := none }) rfl (fun K hK => ?_) AllReadyH.nil
   have hHold := hHeld
   clear hHeld
   go_simp
   refine hK.out _ _ ?_ (fun hHeld => ?_)
   ·((try dsimp only); exact k2b)
   clear hK K hHold
   try simp only [Act.put, List.setIfInBounds_toArray, List.set_cons_zero, List.set_cons_succ]
   refine wpAnyH_ready (rs := [6]) (by kernel_rfl) (by simp) ?_
   refine AllReadyH.cons (o := { dst := some 24, op := Op.call { callee := Callee.builtin Builtin.append, args := #[Operand.tmp 18, Operand.tmp 23], argTypes := #[152, 152] }, type := 152, pos := "parts.go:54", after := #[{ on := 0, ground := Ground.data }, { on := 5, ground := Ground.data }], guard := none }) rfl (fun K hK => ?_) AllReadyH.nil
   have hHold := hHeld
   clear hHeld
   rw [if_pos (by rfl)]
   refine wp_append_row _ _ _ rfl rfl rfl eb ?_
   refine hK.out _ _ ?_ (fun hHeld => ?_)
   ·((try dsimp only); exact k3b)
   clear hK K hHold
   try simp only [Act.put, List.setIfInBounds_toArray, List.set_cons_zero, List.set_cons_succ]
   refine wpAnyH_take (i := 7) (oi := { dst := some 7, op := Op.assign (Operand.tmp 24), type := 152, pos := "parts.go:54", after := #[{ on := 6, ground := Ground.data }, { on := 6, ground := Ground.chain }, { on := 0, ground := Ground.phase }, { on := 1, ground := Ground.phase }, { on := 2, ground := Ground.phase }, { on := 3, ground := Ground.phase }, { on := 4, ground := Ground.phase }, { on := 5, ground := Ground.phase }, { on := 6, ground := Ground.phase }], guard := none }) (v := ?_) rfl (by kernel_rfl) (by kernel_rfl) (by kernel_rfl) (fun _ _ _ h => h) (Or.inl ⟨by rfl, ?_⟩) hHeld ?_
   rotate_left
   ·(intro w' hSw; (try dsimp only at hSw); go_simp; try with_reducible rfl)
   try simp only [Act.put, List.setIfInBounds_toArray, List.set_cons_zero, List.set_cons_succ]
   refine wpAnyH_done (by kernel_rfl) ?_ _
   refine NoPanic.normal ?_
   clear hHeld
   go_wp2_with fail
   go_meet
   exact ⟨_, rfl, HB.out⟩
 case rest =>
 obtain ⟨gs, rfl, hS0, hb0⟩ := hcut
 have H0 := hide (And.intro hS0 hb0)
 clear hS0 hb0 hcc
 go_wp2_with fail
 refine wp_loop_cps (fun R hR => ?_)
 have HR := hide hR
 clear hR
 have pop : ∀ (k : Nat) (S : List (Value × Value)) (g cp : Nat) (p1 : Value) (pa : Option Addr) (pc : Nat) (V : World) (act : Act), RepA (.agg #[.int .i64 t.tv.k, .int .i64 t.tv.N, .string t.tv.s, .slice a len cap]) (.func (.func gf) #[] lb) (.pointer (some ⟨W.heap.size, 0, none⟩)) (.pointer (some ⟨W.heap.size + 1, 0, none⟩)) (.pointer (some ⟨V2.heap.size, 0, none⟩)) (.slice ta tl tl) (.slice (some ⟨g, 0, none⟩) (S.length + 1) cp) act →
   Stk2 154 W.heap.size g cp V (S ++ [(p1, .slice pa 0 pc)]) → S.length ≤ 2199023255552 →
   (∀ act', RepA (.agg #[.int .i64 t.tv.k, .int .i64 t.tv.N, .string t.tv.s, .slice a len cap]) (.func (.func gf) #[] lb) (.pointer (some ⟨W.heap.size, 0, none⟩)) (.pointer (some ⟨W.heap.size + 1, 0, none⟩)) (.pointer (some ⟨V2.heap.size, 0, none⟩)) (.slice ta tl tl) (.slice (some ⟨g, 0, none⟩) S.length cp) act' → R k act' V) → R (k + 1) act V := by
  intro k S g cp p1 pa pc V act hA hS hq hK
  obtain ⟨f, rfl⟩ := hA
  obtain ⟨-, ct1, -, -⟩ := hS.top
  simp only at ct1
  have hcap : S.length + 1 ≤ cp := by have := hS.blk.2.1; simp at this; omega
  have hcap' : cp ≤ 9223372036854775807 := by obtain ⟨_, _, cur, _, h, _⟩ := hS.blk; unfold maxLen at h; omega
  have HK := hide hK
  clear hK hS H0 H3 HC
  refine (unhide HR) _ _ _ ?_
  go_wp2_with fail
  exact (unhide HK) _ repA_of
 have HP := hide pop
 clear pop
 have key : ∀ (n' : Nat) (us : List (Tm n')), (∀ u ∈ us, okT u = true) → ∃ cnt : Nat, ∀ (k : Nat) (S : List (Value × Value)) (g cp B j ln : Nat) (sa : Option Addr) (scap : Nat) (tb : Option Addr) (V : World) (z : σ) (c : List Nd) (act : Act),
   RepA (.agg #[.int .i64 t.tv.k, .int .i64 t.tv.N, .string t.tv.s, .slice a len cap]) (.func (.func gf) #[] lb) (.pointer (some ⟨W.heap.size, 0, none⟩)) (.pointer (some ⟨W.heap.size + 1, 0, none⟩)) (.pointer (some ⟨V2.heap.size, 0, none⟩)) (.slice ta tl tl) (.slice (some ⟨g, 0, none⟩) (S.length + 1) cp) act → Stk2 154 W.heap.size g cp V (S ++ [(.slice sa us.length scap, .slice tb us.length us.length)]) → Lf.Is n₀ V ⟨n', sa, scap, us⟩ → (us ≠ [] → tb = some ⟨B, j * 4, none⟩) → j + us.length = ln → ln ≤ 50 →
   Row4 V B ln → W.heap.size ≤ B → Written (n' + D) B j V c → I z V → n' + S.length ≤ n → W.heap.size ≤ V.heap.size →
   (∀ (g' cp' : Nat) (V' : World) (act' : Act), RepA (.agg #[.int .i64 t.tv.k, .int .i64 t.tv.N, .string t.tv.s, .slice a len cap]) (.func (.func gf) #[] lb) (.pointer (some ⟨W.heap.size, 0, none⟩)) (.pointer (some ⟨W.heap.size + 1, 0, none⟩)) (.pointer (some ⟨V2.heap.size, 0, none⟩)) (.slice ta tl tl) (.slice (some ⟨g', 0, none⟩) S.length cp') act' → Stk2 154 W.heap.size g' cp' V' S → Fr W.heap.size X B V V' → Row4 V' B ln → Written (n' + D) B ln V' (c ++ (us.flatMap code).flatMap (subN (β (stepsN stp z (us.flatMap code))))) → I (stepsN stp z (us.flatMap code)) V' → R k act' V') →
   R (cnt + k) act V := by
  intro n'
  induction n' with
  | zero =>
   intro us _
   cases us with
   | cons u _ => exact Empty.elim u
   | nil =>
    refine ⟨1, fun k S g cp B j ln sa scap tb V z c act hA hS hIs hta hjl hl50 hRow hB0 hWr hIz hdep hVs hK => ?_⟩
    rw [Nat.add_comm]
    refine (unhide HP) k S g cp _ _ _ V act hA hS (by omega) (fun act' hA' => hK g cp V act' hA' hS.pop (Fr.refl _ _ _ _) hRow ?_ (by simpa [stepsN] using hIz))
    simp only [List.length_nil, Nat.add_zero] at hjl
    simpa [← hjl] using hWr
  | succ n' ihn =>
   have HIN := hide ihn
   clear ihn
   intro us
   induction us with
   | nil =>
    intro _
    refine ⟨1, fun k S g cp B j ln sa scap tb V z c act hA hS hIs hta hjl hl50 hRow hB0 hWr hIz hdep hVs hK => ?_⟩
    rw [Nat.add_comm]
    refine (unhide HP) k S g cp _ _ _ V act hA hS (by omega) (fun act' hA' => hK g cp V act' hA' hS.pop (Fr.refl _ _ _ _) hRow ?_ (by simpa [stepsN] using hIz))
    simp only [List.length_nil, Nat.add_zero] at hjl
    simpa [← hjl] using hWr
   | cons u r ihr =>
    intro hoks
    have hou := hoks u (by simp)
    have hkids : ∀ y ∈ u.kids, okT y = true := by obtain ⟨x0, ks0⟩ := u; exact (ok_kids hou).2
    obtain ⟨cr, hcr⟩ := ihr (fun y hy => hoks y (by simp [hy]))
    obtain ⟨ck, hck⟩ := (unhide HIN) u.kids hkids
    clear ihr hoks
    have HCR := hide hcr
    have HCK := hide hck
    have HOU := hide hou
    clear hcr hck hou hkids
    refine ⟨1 + (if u.kids = [] then (if r = [] then 1 else cr) else (if r = [] then ck else ck + cr)), fun k S g cp B j ln sa scap tb V z c act hA hS hIs hta hjl hl50 hRow hB0 hWr hIz hdep hVs hK => ?_⟩
    obtain ⟨f, rfl⟩ := hA
    obtain rfl : tb = some ⟨B, j * 4, none⟩ := hta (by simp)
    obtain ⟨b, off, rfl, hbk, ⟨c0, c1, c2, c3⟩, hTu, hl1, htl'⟩ := hIs.first
    simp only [List.length_cons] at hS hjl
    obtain ⟨ct0, ct1, -, -⟩ := hS.top
    simp only at ct0 ct1
    have hjl' : j < ln := by omega
    have hcap : S.length + 1 ≤ cp := by have := hS.blk.2.1; simp at this; omega
    have hcap' : cp ≤ 9223372036854775807 := by obtain ⟨_, _, cur, _, h, _⟩ := hS.blk; unfold maxLen at h; omega
    have hg0 := hS.blk.1
    have hq2 : S.length ≤ 2199023255552 := by omega
    obtain ⟨Y1, eY1⟩ : ∃ Y1, V.alloc (.cells #[.int .i64 u.tv.k, .int .i64 u.tv.N, .string u.tv.s, .slice u.tv.a u.tv.len u.tv.cap] 24) = Y1 := ⟨_, rfl⟩
    have gY1 : Below V.heap.size V Y1 := by rw [← eY1]; exact (Below.refl _ V).alloc (Nat.le_refl _) _
    have htop := top_any (unhide HST) gf lb D hD (unhide HEG) (unhide HBE) u Y1 z (by have := gY1.size; omega) ((unhide HST).keep z V Y1 hIz (by omega) (gY1.mono (by omega))) (hTu.below (gY1.mono (by omega))) (unhide HOU)
    have hsY1 : Y1.heap.size = V.heap.size + 1 := by rw [← eY1]; simp
    have bY1 : BoxT Y1 V.heap.size u.tv := by rw [← eY1]; exact BoxT.new V u.tv
    have n0 := bY1.c0
    have n1 := bY1.c1
    have n2 := bY1.c2
    have n3 := bY1.c3
    clear bY1
    have HXW : Hid (∀ k, X k → k < W.heap.size) := fun k hx => by have := ((unhide HX) k hx).2; omega
    obtain ⟨A, hA⟩ : ∃ A, (if scap = 1 then some (⟨b, off, none⟩ : Addr) else some ⟨b, off + 4, none⟩) = A := ⟨_, rfl⟩
    have HTLF := hide (htl' A hA)
    have HSS := hide hS
    have HRW := hide hRow
    have HWR := hide hWr
    have HKK := hide hK
    have HTU := hide hTu
    have HSY := hide hsY1
    have HGY := hide gY1
    clear hS hRow hWr hK hTu hIz hIs hta htl' hsY1 gY1 H0 H3 HC
    simp only [TV.val] at htop
    cases r with
    | nil =>
     simp only [List.length_nil, Nat.zero_add] at HSS ct0 ct1 hjl hl1
     rw [if_pos rfl, if_pos rfl]
     obtain ⟨cc, hcc⟩ : ∃ cc, (if u.kids = [] then 1 else ck) = cc := ⟨_, rfl⟩
     rw [hcc, show 1 + cc + k = cc + k + 1 by omega]
     have HCC := hide hcc
     clear hcc
     refine (unhide HR) _ _ _ ?_
     go_wp2_with fail
     try rw [eY1]
     refine htop.mono ?_
     clear htop
     rintro e Y2 hts
     obtain ⟨x2, ta2, tl2, rfl, g2, htl2, htl50', hcase⟩ := hts.split
     clear hts c0 c1 c2 c3 ct0 ct1 n0 n1 n2 n3
     obtain ⟨Y3, eY3⟩ : ∃ Y3, Y2.alloc (.cells #[.int .i64 x2.k, .int .i64 x2.N, .string x2.s, .slice x2.a x2.len x2.cap] 24) = Y3 := ⟨_, rfl⟩
     obtain ⟨Y4, eY4⟩ : ∃ Y4, (set4 Y3 B (j * 4) x2).drew = Y4 := ⟨_, rfl⟩
     obtain ⟨Y5, eY5⟩ : ∃ Y5, ((Y4.setCell ⟨g, S.length * 2, none⟩ (.slice A 0 (scap - 1))).setCell ⟨g, S.length * 2 + 1, none⟩ (.slice (some ⟨B, j * 4, none⟩) 0 0)).drew = Y5 := ⟨_, rfl⟩
     obtain ⟨⟨S3, R3, B3⟩, S4, ⟨S5, R5, cx5, cf5, B5, F5⟩, nb5, bw5, sz5, sz5'⟩ := fill_step (unhide HSS) (unhide HRW) hjl' hB0 (unhide HXW) eY1 g2 eY3 eY4 eY5
     have HTL2 := hide htl2
     have HCA := hide hcase
     have H5 := hide (And.intro S5 (And.intro R5 (And.intro cx5 (And.intro cf5 (And.intro F5 (And.intro nb5 bw5))))))
     have HG2 := hide g2
     obtain ⟨-, t31, -, -⟩ := S3.top
     obtain ⟨t40, t41, f40, f41⟩ := S4.top
     obtain ⟨t50, t51, f50, f51⟩ := S5.top
     simp only at t31 t40 t41 t50 t51
     have m0 := B3.c0
     have m1 := B3.c1
     have m2 := B3.c2
     have m3 := B3.c3
     obtain ⟨⟨_, z0⟩, y0⟩ := R3.cell (o := j * 4) (by omega)
     obtain ⟨⟨_, z1⟩, y1⟩ := R3.cell (o := j * 4 + 1) (by omega)
     obtain ⟨⟨_, z2⟩, y2⟩ := R3.cell (o := j * 4 + 2) (by omega)
     obtain ⟨⟨_, z3⟩, y3⟩ := R3.cell (o := j * 4 + 3) (by omega)
     have u53 := B5.c3
     clear htl2 hcase S3 R3 B3 S4 S5 R5 cx5 cf5 B5 F5 nb5 bw5 g2
     simp only [set4] at eY4
     simp only [TV.val]
     go_wp2_with fail
     try rw [eY3]
     go_region
     try rw [eY4]
     clear z0 z1 z2 z3 y0 y1 y2 y3 m0 m1 m2 m3 t31
     go_wp2_with fail
     go_region
     try rw [eY5]
     clear t40 t41 f40 f41
     go_wp2_with fail
     obtain ⟨S5, R5, cx5, cf5, F5, nb5, bw5⟩ := unhide H5
     have q1 := S5.set0 (.slice u.tv.a u.tv.len u.tv.cap)
     have q2 := q1.1.set1 (.slice ta2 tl2 tl2)
     obtain ⟨Y6, eY6⟩ : ∃ Y6, (Y5.setCell ⟨g, S.length * 2, none⟩ (.slice u.tv.a u.tv.len u.tv.cap)).setCell ⟨g, S.length * 2 + 1, none⟩ (.slice ta2 tl2 tl2) = Y6 := ⟨_, rfl⟩
     have hgr := grown_two q1.2 q2.2
     have S6 := q2.1
     rw [eY6] at hgr S6 ⊢
     simp only at S6
     have hgV := (unhide HSS).lt
     obtain ⟨R6, cx6, cf6, F6, nb6, bw6, sz6⟩ := fill_more S5 hgr R5 cx5 cf5 F5 nb5 bw5 hgV sz5'
     clear q1 q2 eY6 S5 R5 cx5 cf5 F5 nb5 bw5
     have nX : ∀ b, W.heap.size ≤ b → ¬ X b := fun b hb hx => by have := (unhide HXW) b hx; omega
     have TKV : ∀ V', Fr W.heap.size X B V V' → TK (B + 1) V V' := fun V' h => h.tk (fun k hx => by have := (unhide HXW) k hx; omega) (Nat.lt_succ_self _)
     have hXn : ∀ k, X k → n₀ ≤ k := fun k hx => ((unhide HX) k hx).1
     have hsY := unhide HSY
     have hTu6 : IsT n₀ Y6 u := (unhide HTU).below (F6.below hXn hB0 (by omega) (by omega))
     rcases unhide HCA with ⟨hk0, hI2, hv2⟩ | ⟨B2, s2, hx2, hta2, hB2, hR2, hI2, htp, hs2, hnd⟩
     ·have hcc1 : cc = 1 := by rw [← unhide HCC, if_pos hk0]
      have htl0 : tl2 = 0 := by rw [unhide HTL2, hk0]; rfl
      subst hcc1
      subst htl0
      rw [Nat.add_comm 1 k]
      refine (unhide HP) k S g cp _ _ _ Y6 _ repA_of S6 hq2 (fun act' hA' => ?_)
      refine (unhide HKK) g cp Y6 act' hA' S6.pop F6 R6 ?_ ?_
      ·have hw := (unhide HWR).add (TKV Y6 F6) cf6 cx6 (hv2.tk ⟨sz6, fun b arr hb ha => nb6 b (by omega) (Array.getElem?_eq_some_iff.1 ha).1⟩) (by omega) (unhide HRW).lt
       rw [← hjl]
       simpa using hw
      ·have := (unhide HST).keep _ _ _ hI2 (by omega) (bw6.mono hlo)
       simpa using this
     ·have hkn : u.kids ≠ [] := fun h => by rw [unhide HTL2, h] at htp; simp at htp
      have hcc1 : cc = ck := by rw [← unhide HCC, if_neg hkn]
      subst hcc1
      subst hta2
      have hB2l : B2 < Y2.heap.size := hR2.lt
      have hR6 : Row4 Y6 B2 tl2 := hR2.kept (nb6 B2 (by omega) hB2l)
      have hI6 := (unhide HST).keep _ _ _ hI2 (by omega) (bw6.mono hlo)
      have hlen : u.tv.len = u.kids.length := hTu6.1
      refine (unhide HCK) k S g cp B2 0 tl2 u.tv.a u.tv.cap (some ⟨B2, 0, none⟩) Y6 z [] _ repA_of (by rw [← unhide HTL2, ← hlen.trans (unhide HTL2).symm]; rw [hlen, ← unhide HTL2] at S6 ⊢; exact S6) (kidsL_is hTu6) (fun _ => by rw [Nat.zero_mul]) (by rw [Nat.zero_add]; exact (unhide HTL2).symm) htl50' hR6 (by omega) (Written.zero _ _ _) hI6 (by omega) (by omega) (fun g' cp' V' act' hA' hS' hF' hR' hW' hI' => ?_)
      have hFV : Fr W.heap.size X B V V' := F6.trans hF' (.inr (by omega))
      obtain ⟨arrB, hBb, _⟩ := R6
      have hBk : V'.heap[B]? = Y6.heap[B]? := (hF'.term (nX B hB0) (by have := (unhide HRW).lt; omega) hBb).trans hBb.symm
      have R6' : Row4 V' B ln := Row4.kept ⟨arrB, hBb, by assumption⟩ hBk
      have hcB : ∀ q, V'.cell? ⟨B, q, none⟩ = Y6.cell? ⟨B, q, none⟩ := fun q => World.cell?_of_block (w := Y6) (a := ⟨B, q, none⟩) hBk
      rw [List.nil_append] at hW'
      have hH : HoldsT (n' + 1 + D) V.heap.size V' x2.val ((4, 0, s2.toList, tl2) :: (u.kids.flatMap code).flatMap (subN (β (stepsN stp z (u.kids.flatMap code))))) := by rw [hx2]; exact (comp_holds hs2 htl50' hR' hW' (by omega)).mono (by omega) (Nat.le_refl _)
      obtain ⟨hcs, hcf⟩ := comp_code (stp := stp) hnd z
      rw [← hcf, ← hcs] at hH
      refine (unhide HKK) g' cp' V' act' hA' hS' hFV R6' ?_ ?_
      ·have hw := (unhide HWR).add (TKV V' hFV) (fun q hq => (hcB q).trans (cf6 q hq)) (cx6.kept hBk) hH (Nat.le_refl _) (unhide HRW).lt
       rw [← hjl]
       simpa using hw
      ·rw [List.flatMap_cons, List.flatMap_nil, List.append_nil, hcs]
       exact hI'
    | cons y r =>
     simp only [List.length_cons] at HSS ct0 ct1 hjl hl1
     have hrn : ¬ (y :: r = []) := by simp
     rw [if_neg hrn, if_neg hrn]
     clear hrn
     obtain ⟨cc, hcc⟩ : ∃ cc, (if u.kids = [] then cr else ck + cr) = cc := ⟨_, rfl⟩
     rw [hcc, show 1 + cc + k = cc + k + 1 by omega]
     have HCC := hide hcc
     clear hcc
     refine (unhide HR) _ _ _ ?_
     go_wp2_with fail
     try rw [eY1]
     refine htop.mono ?_
     clear htop
     rintro e Y2 hts
     obtain ⟨x2, ta2, tl2, rfl, g2, htl2, htl50', hcase⟩ := hts.split
     clear hts c0 c1 c2 c3 ct0 ct1 n0 n1 n2 n3
     obtain ⟨Y3, eY3⟩ : ∃ Y3, Y2.alloc (.cells #[.int .i64 x2.k, .int .i64 x2.N, .string x2.s, .slice x2.a x2.len x2.cap] 24) = Y3 := ⟨_, rfl⟩
     obtain ⟨Y4, eY4⟩ : ∃ Y4, (set4 Y3 B (j * 4) x2).drew = Y4 := ⟨_, rfl⟩
     obtain ⟨Y5, eY5⟩ : ∃ Y5, ((Y4.setCell ⟨g, S.length * 2, none⟩ (.slice A (r.length + 1) (scap - 1))).setCell ⟨g, S.length * 2 + 1, none⟩ (.slice (some ⟨B, j * 4 + 4, none⟩) (r.length + 1) (r.length + 1))).drew = Y5 := ⟨_, rfl⟩
     obtain ⟨⟨S3, R3, B3⟩, S4, ⟨S5, R5, cx5, cf5, B5, F5⟩, nb5, bw5, sz5, sz5'⟩ := fill_step (unhide HSS) (unhide HRW) hjl' hB0 (unhide HXW) eY1 g2 eY3 eY4 eY5
     have HTL2 := hide htl2
     have HCA := hide hcase
     have H5 := hide (And.intro S5 (And.intro R5 (And.intro cx5 (And.intro cf5 (And.intro F5 (And.intro nb5 bw5))))))
     have HG2 := hide g2
     obtain ⟨-, t31, -, -⟩ := S3.top
     obtain ⟨t40, t41, f40, f41⟩ := S4.top
     obtain ⟨t50, t51, f50, f51⟩ := S5.top
     simp only at t31 t40 t41 t50 t51
     have m0 := B3.c0
     have m1 := B3.c1
     have m2 := B3.c2
     have m3 := B3.c3
     obtain ⟨⟨_, z0⟩, y0⟩ := R3.cell (o := j * 4) (by omega)
     obtain ⟨⟨_, z1⟩, y1⟩ := R3.cell (o := j * 4 + 1) (by omega)
     obtain ⟨⟨_, z2⟩, y2⟩ := R3.cell (o := j * 4 + 2) (by omega)
     obtain ⟨⟨_, z3⟩, y3⟩ := R3.cell (o := j * 4 + 3) (by omega)
     have u53 := B5.c3
     clear htl2 hcase S3 R3 B3 S4 S5 R5 cx5 cf5 B5 F5 nb5 bw5 g2
     simp only [set4] at eY4
     simp only [TV.val]
     go_wp2_with fail
     try rw [eY3]
     go_region
     try rw [eY4]
     clear z0 z1 z2 z3 y0 y1 y2 y3 m0 m1 m2 m3 t31
     go_wp2_with fail
     go_region
     try rw [eY5]
     clear t40 t41 f40 f41
     have nX : ∀ b, W.heap.size ≤ b → ¬ X b := fun b hb hx => by have := (unhide HXW) b hx; omega
     have TKV : ∀ V', Fr W.heap.size X B V V' → TK (B + 1) V V' := fun V' h => h.tk (fun k hx => by have := (unhide HXW) k hx; omega) (Nat.lt_succ_self _)
     have hXn : ∀ k, X k → n₀ ≤ k := fun k hx => ((unhide HX) k hx).1
     have hsY := unhide HSY
     have hj4 : (j + 1) * 4 = j * 4 + 4 := by omega
     have HJ4 := hide hj4
     have HNX := hide nX
     have HTKV := hide TKV
     have HXN := hide hXn
     have HSYY := hide hsY
     clear nX TKV hXn hsY hj4
     rcases unhide HCA with ⟨hk0, hI2, hv2⟩ | ⟨B2, s2, hx2, hta2, hB2, hR2, hI2, htp, hs2, hnd⟩
     ·have hcc1 : cc = cr := by rw [← unhide HCC, if_pos hk0]
      have htl0 : tl2 = 0 := by rw [unhide HTL2, hk0]; rfl
      subst hcc1
      subst htl0
      have HVV := hide (And.intro hI2 hv2)
      clear hI2 hv2 hk0
      go_wp2_with fail
      obtain ⟨hI2, hv2⟩ := unhide HVV
      obtain ⟨S5, R5, cx5, cf5, F5, nb5, bw5⟩ := unhide H5
      have hsY := unhide HSYY
      have hI5 := (unhide HST).keep _ _ _ hI2 (by omega) (bw5.mono hlo)
      have hw := (unhide HWR).add ((unhide HTKV) Y5 F5) cf5 cx5 (hv2.tk ⟨sz5', fun b arr hb ha => nb5 b (by omega) (Array.getElem?_eq_some_iff.1 ha).1⟩) (by omega) (unhide HRW).lt
      have hF5s := F5.size
      refine (unhide HCR) k S g cp B (j + 1) ln A (scap - 1) (some ⟨B, j * 4 + 4, none⟩) Y5 _ _ _ repA_of S5 ((unhide HTLF).below (F5.below (unhide HXN) hB0 (by omega) (by omega))) (fun _ => by rw [unhide HJ4]) (by simp only [List.length_cons]; omega) hl50 R5 hB0 hw hI5 hdep (by omega) (fun g' cp' V' act' hA' hS' hF' hR' hW' hI' => ?_)
      refine (unhide HKK) g' cp' V' act' hA' hS' (F5.trans hF' (.inl rfl)) hR' ?_ ?_
      ·rw [List.flatMap_cons, codes_cons (unhide HST)]
       exact hW'
      ·rw [List.flatMap_cons, stepsN_append]
       exact hI'
     ·have hkn : u.kids ≠ [] := fun h => by rw [unhide HTL2, h] at htp; simp at htp
      have hcc1 : cc = ck + cr := by rw [← unhide HCC, if_neg hkn]
      subst hcc1
      subst hta2
      have htp' : 0 < tl2 := by omega
      obtain ⟨g6, cp6, Y6, hr, S6, hgr6⟩ := (unhide H5).1.push (T := 152) two_filling Tryz.underlying152 (.slice u.tv.a u.tv.len u.tv.cap, .slice (some ⟨B2, 0, none⟩) tl2 tl2) rfl rfl rfl (by simp only [List.length_append, List.length_cons, List.length_nil]; omega) (by have := (unhide H5).2.2.2.2.1.size; omega)
      simp only [List.length_append, List.length_cons, List.length_nil, Nat.zero_add] at hr
      have HVV := hide (And.intro hI2 (And.intro hR2 (And.intro S6 hgr6)))
      clear hI2 hR2 S6 hgr6 hkn
      go_wp2_with (at_builtin; go_must (refine wpList_append_run _ rfl _ _ _ _ rfl hr ?_))
      obtain ⟨hI2, hR2, S6, hgr6⟩ := unhide HVV
      obtain ⟨S5, R5, cx5, cf5, F5, nb5, bw5⟩ := unhide H5
      have hsY := unhide HSYY
      have hgV := (unhide HSS).lt
      obtain ⟨R6, cx6, cf6, F6, nb6, bw6, sz6⟩ := fill_more S5 (grown_alloc hgr6) R5 cx5 cf5 F5 nb5 bw5 hgV sz5'
      clear S5 R5 cx5 cf5 F5 nb5 bw5 hr
      have hTu6 : IsT n₀ Y6 u := (unhide HTU).below (F6.below (unhide HXN) hB0 (by omega) (by omega))
      have hB2l : B2 < Y2.heap.size := hR2.lt
      have hR6 : Row4 Y6 B2 tl2 := hR2.kept (nb6 B2 (by omega) hB2l)
      have hI6 := (unhide HST).keep _ _ _ hI2 (by omega) (bw6.mono hlo)
      have hlen : u.tv.len = u.kids.length := hTu6.1
      have hl2 : (S ++ [(Value.slice A (r.length + 1) (scap - 1), Value.slice (some ⟨B, j * 4 + 4, none⟩) (r.length + 1) (r.length + 1))]).length = S.length + 1 := by simp
      have hF6s := F6.size
      rw [Nat.add_assoc]
      refine (unhide HCK) (cr + k) (S ++ [(.slice A (r.length + 1) (scap - 1), .slice (some ⟨B, j * 4 + 4, none⟩) (r.length + 1) (r.length + 1))]) g6 cp6 B2 0 tl2 u.tv.a u.tv.cap (some ⟨B2, 0, none⟩) Y6 z [] _ (by rw [hl2]; exact repA_of) (by rw [hlen] at S6; rw [← unhide HTL2] at S6 ⊢; exact S6) (kidsL_is hTu6) (fun _ => by rw [Nat.zero_mul]) (by rw [Nat.zero_add]; exact (unhide HTL2).symm) htl50' hR6 (by omega) (Written.zero _ _ _) hI6 (by rw [hl2]; omega) (by omega) (fun g' cp' V' act' hA' hS' hF' hR' hW' hI' => ?_)
      have hFV : Fr W.heap.size X B V V' := F6.trans hF' (.inr (by omega))
      obtain ⟨arrB, hBb, hBz⟩ := R6
      have hBk : V'.heap[B]? = Y6.heap[B]? := (hF'.term ((unhide HNX) B hB0) (by have := (unhide HRW).lt; omega) hBb).trans hBb.symm
      have R6' : Row4 V' B ln := Row4.kept ⟨arrB, hBb, hBz⟩ hBk
      have hcB : ∀ q, V'.cell? ⟨B, q, none⟩ = Y6.cell? ⟨B, q, none⟩ := fun q => World.cell?_of_block (w := Y6) (a := ⟨B, q, none⟩) hBk
      rw [List.nil_append] at hW'
      have hH : HoldsT (n' + 1 + D) V.heap.size V' x2.val ((4, 0, s2.toList, tl2) :: (u.kids.flatMap code).flatMap (subN (β (stepsN stp z (u.kids.flatMap code))))) := by rw [hx2]; exact (comp_holds hs2 htl50' hR' hW' (by omega)).mono (by omega) (Nat.le_refl _)
      obtain ⟨hcs, hcf⟩ := comp_code (stp := stp) hnd z
      rw [← hcf, ← hcs] at hH
      have hw := (unhide HWR).add ((unhide HTKV) V' hFV) (fun q hq => (hcB q).trans (cf6 q hq)) (cx6.kept hBk) hH (Nat.le_refl _) (unhide HRW).lt
      rw [hl2] at hA'
      rw [← hcs] at hI'
      have hFVs := hFV.size
      refine (unhide HCR) k S g' cp' B (j + 1) ln A (scap - 1) (some ⟨B, j * 4 + 4, none⟩) V' _ _ act' hA' hS' ((unhide HTLF).below (hFV.below (unhide HXN) hB0 (by omega) (by omega))) (fun _ => by rw [unhide HJ4]) (by simp only [List.length_cons]; omega) hl50 R6' hB0 hw hI' hdep (by omega) (fun g3 cp3 V3' act3 hA3 hS3 hF3 hR3 hW3 hI3 => ?_)
      refine (unhide HKK) g3 cp3 V3' act3 hA3 hS3 (hFV.trans hF3 (.inl rfl)) hR3 ?_ ?_
      ·rw [List.flatMap_cons, codes_cons (unhide HST)]
       exact hW3
      ·rw [List.flatMap_cons, stepsN_append]
       exact hI3
 have HKEY := hide key
 clear key
 have fin : ∀ (g cp : Nat) (V' : World) (act : Act), RepA (.agg #[.int .i64 t.tv.k, .int .i64 t.tv.N, .string t.tv.s, .slice a len cap]) (.func (.func gf) #[] lb) (.pointer (some ⟨W.heap.size, 0, none⟩)) (.pointer (some ⟨W.heap.size + 1, 0, none⟩)) (.pointer (some ⟨V2.heap.size, 0, none⟩)) (.slice ta tl tl) (.slice (some ⟨g, 0, none⟩) 0 cp) act → GrB X W.heap.size W V' → BoxT V' V2.heap.size x → V'.heap[W.heap.size + 1]? = some (.cells #[.int .i64 0, .int .i64 0, .string ⟨#[]⟩, .slice none 0 0] 24 (0, 0)) → I (stepsN stp z (code t)) V' → HoldsT (n + 1 + D) (W.heap.size + 2) V' x.val ((code t).flatMap (subN (β (stepsN stp z (code t))))) → R (0 + 1) act V' := by
  intro g cp V' act hA hG hbx hbz hIf hH
  obtain ⟨f, rfl⟩ := hA
  have x0 := hbx.c0
  have x1 := hbx.c1
  have x2 := hbx.c2
  have x3 := hbx.c3
  have hzl := (Array.getElem?_eq_some_iff.1 hbz).1
  obtain ⟨⟨z0, z1, z2, z3⟩, y0, y1, y2, y3⟩ := zbox_kept hbz
  have f1 : GrB X W.heap.size W (set4 V' (W.heap.size + 1) 0 x) := hG.set4 (by omega) 0 x
  have f2 : I (stepsN stp z (code t)) (set4 V' (W.heap.size + 1) 0 x) := (unhide HST).keep _ _ _ hIf (by omega) (set4_below (Below.refl _ _) (by omega) 0 x)
  have f3 : HoldsT (n + 1 + D) W.heap.size (set4 V' (W.heap.size + 1) 0 x) x.val ((code t).flatMap (subN (β (stepsN stp z (code t))))) := (holds_set4 hH (by omega) 0 x).mono (Nat.le_refl _) (by omega)
  have HF := hide (And.intro f1 (And.intro f2 f3))
  clear f1 f2 f3 hG hbx hbz hIf hH H0 H3 HC HKEY HP
  refine (unhide HR) _ _ _ ?_
  go_wp2_with fail
  exact bodyPost_ret (v := x.val) (by simp [results, Tryz.results58, go_sem, TV.val, z0, z1, z2, z3]) rfl ⟨_, rfl, (unhide HF).1, (unhide HF).2.1, (unhide HF).2.2⟩
 obtain ⟨gV3, bX, bZ3, gW3⟩ := unhide H3
 obtain ⟨hS0, hb0⟩ := unhide H0
 have bX' : BoxT wc V2.heap.size x := (hb0.block _ bX.lt).trans bX
 have bZ' : wc.heap[W.heap.size + 1]? = some (.cells #[.int .i64 0, .int .i64 0, .string ⟨#[]⟩, .slice none 0 0] 24 (0, 0)) := (hb0.block _ (Array.getElem?_eq_some_iff.1 bZ3).1).trans bZ3
 have gWc : GrB X W.heap.size W wc := gW3.trans (GrB.of_below (hb0.mono (by omega)))
 have sWc := hb0.size
 have hXW : ∀ k, X k → k < W.heap.size := fun k hx => by have := ((unhide HX) k hx).2; omega
 have b2c : Below V2.heap.size V2 wc := gV3.trans (hb0.mono (by omega))
 rcases unhide HC with ⟨hk0, hI2, hv2⟩ | ⟨B0, s0, hx0, hta0, hB0, hR0, hI0, htp, hs0, hnd⟩
 ·have htl0 : tl = 0 := by rw [unhide HTL, hk0]; rfl
  subst htl0
  refine ⟨0 + 1 + 1, (unhide HP) (0 + 1) [] gs 8 _ _ _ wc _ repA_of hS0 (by simp) (fun act' hA' => ?_)⟩
  exact fin gs 8 wc act' hA' gWc bX' bZ' ((unhide HST).keep _ _ _ hI2 (by omega) (b2c.mono (by omega))) (hv2.below b2c)
 ·subst hta0
  have hB0l : B0 < V2.heap.size := hR0.lt
  have hoks : ∀ y ∈ t.kids, okT y = true := by obtain ⟨q0, ks0⟩ := t; exact (ok_kids (unhide HOK)).2
  obtain ⟨ck, hck⟩ := (unhide HKEY) n t.kids hoks
  obtain ⟨hL1, hL2⟩ := unhide HLF
  have hlen : len = t.kids.length := unhide HLEN
  have hca : (kidsL t).Is n₀ wc := hL1.below (gWc.below (fun k hx => ((unhide HX) k hx).1) (by omega))
  have hav : Value.slice a len cap = .slice (kidsL t).a t.kids.length (kidsL t).cap := hL2.symm
  rw [hav, unhide HTL] at hS0
  refine ⟨ck + (0 + 1), hck (0 + 1) [] gs 8 B0 0 tl (kidsL t).a (kidsL t).cap (some ⟨B0, 0, none⟩) wc z [] _ repA_of hS0 hca (fun _ => by rw [Nat.zero_mul]) (by rw [Nat.zero_add]; exact (unhide HTL).symm) htl50 (hR0.kept (b2c.block _ hB0l)) (by omega) (Written.zero _ _ _) ((unhide HST).keep _ _ _ hI0 (by omega) (b2c.mono (by omega))) (by simp) (by omega) (fun g' cp' V' act' hA' hS' hF' hR' hW' hI' => ?_)⟩
  rw [List.nil_append] at hW'
  obtain ⟨hcs, hcf⟩ := comp_code (stp := stp) hnd z
  have hH : HoldsT (n + 1 + D) (W.heap.size + 2) V' x.val ((4, 0, s0.toList, tl) :: (t.kids.flatMap code).flatMap (subN (β (stepsN stp z (t.kids.flatMap code))))) := by rw [hx0]; exact (comp_holds hs0 htl50 hR' hW' (by omega)).mono (by omega) (Nat.le_refl _)
  rw [← hcf, ← hcs] at hH
  rw [← hcs] at hI'
  have nX : ∀ b, W.heap.size ≤ b → ¬ X b := fun b hb hx => by have := hXW b hx; omega
  exact fin g' cp' V' act' hA' (gWc.trans (hF'.grb (by omega) (by omega))) (hF'.term (nX _ (by omega)) (by omega) bX') (hF'.term (nX _ (by omega)) (by omega) bZ') hI' hH
theorem replace_any (g : Nat) (lb : Array Value) (β : Int → List Nd) (D : Nat) (w : World) (hD : 1 ≤ D) (eg : ∀ args w, (callFunc g args).run Tryz.prog w = .ok (.enter g args) w) (hbec : Becomes g lb β D w) :
  ∀ (n : Nat) (t : Tm n) (W : World), Below w.heap.size w W → IsT W.heap.size W t → okT t = true →
   Calls Tryz.prog 58 #[t.tv.val, .func (.func g) #[] lb] W fun e W' => ∃ v, e = .returned v ∧ Below W.heap.size W W' ∧ HoldsT (n + D) W.heap.size W' v ((code t).flatMap (subN β)) := by
 intro n t W hb hT hok
 have hst : Stately (σ := Unit) (fun _ V => Below w.heap.size w V) (fun _ => False) W.heap.size W.heap.size (fun s _ => s) (fun _ N => β N) :=
  ⟨Nat.le_refl _, fun k h => h.elim, fun s A B hA hl hAB => hA.trans (hAB.mono hb.size), fun _ _ _ => rfl⟩
 have hbx : BecomesX (σ := Unit) g lb (fun _ V => Below w.heap.size w V) (fun _ => False) W.heap.size (fun s _ => s) (fun _ N => β N) D := fun N V s h0 h1 hl hI => (hbec N V h0 h1 hI).mono fun e V' h => by
  obtain ⟨v, he, hb', hv⟩ := h
  exact ⟨v, he, GrB.of_below hb', hI.trans (hb'.mono hI.size), hv⟩
 refine (replace_anyX hst g lb D hD eg hbx n t W () (Nat.le_refl _) hb hT hok).mono fun e W' h => ?_
 obtain ⟨v, he, hg, _, hv⟩ := h
 exact ⟨v, he, hg.below (fun k h => h.elim) (Nat.le_refl _), hv⟩
end Go.Proofs.YtlbobmebbllifaaGreat
