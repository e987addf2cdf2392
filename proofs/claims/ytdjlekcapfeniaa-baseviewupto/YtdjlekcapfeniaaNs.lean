import Derived.Test.YtdjlekcapfeniaaL
import Derived.Test.YtdjlekcapfeniaaUs
/- The contract of term.replace with a function that keeps a state of its own (a counter, a map): its blocks alone (X) may change. -/
namespace Go.Proofs.Ytdjlekcapfeniaa
open Go.RowKit Go.Shelf

/-- Of what lies below B only blocks in X may have changed. -/
structure GrB (X : Nat → Prop) (B : Nat) (A W : World) : Prop where
  os : W.os = A.os
  tape : W.tape = A.tape
  output : W.output = A.output
  size : A.heap.size ≤ W.heap.size
  block : ∀ k, k < B → ¬ X k → W.heap[k]? = A.heap[k]?
theorem GrB.of_below {X : Nat → Prop} {B : Nat} {A W : World} (h : Below B A W) : GrB X B A W := ⟨h.os, h.tape, h.output, h.size, fun k hk _ => h.block k hk⟩
theorem GrB.refl (X : Nat → Prop) (B : Nat) (A : World) : GrB X B A A := GrB.of_below (Below.refl _ _)
theorem GrB.trans {X : Nat → Prop} {B : Nat} {A W W' : World} (h : GrB X B A W) (k : GrB X B W W') : GrB X B A W' :=
  ⟨k.os.trans h.os, k.tape.trans h.tape, k.output.trans h.output, Nat.le_trans h.size k.size, fun i hi hx => (k.block i hi hx).trans (h.block i hi hx)⟩
theorem GrB.mono {X : Nat → Prop} {B B' : Nat} {A W : World} (h : GrB X B A W) (hB : B' ≤ B) : GrB X B' A W := ⟨h.os, h.tape, h.output, h.size, fun k hk => h.block k (Nat.lt_of_lt_of_le hk hB)⟩
theorem GrB.below {X : Nat → Prop} {B n₀ : Nat} {A W : World} (h : GrB X B A W) (hX : ∀ k, X k → n₀ ≤ k) (hB : n₀ ≤ B) : Below n₀ A W :=
  ⟨h.os, h.tape, h.output, h.size, fun k hk => h.block k (by omega) (fun hx => by have := hX k hx; omega)⟩
theorem GrB.set4 {X : Nat → Prop} {B : Nat} {A W : World} (h : GrB X B A W) {b : Nat} (hb : B ≤ b) (o : Nat) (x : TV) : GrB X B A (set4 W b o x) :=
  h.trans (GrB.of_below (set4_below (Below.refl _ _) hb o x))
theorem GrB.cell {X : Nat → Prop} {B : Nat} {A W : World} (h : GrB X B A W) {k o : Nat} (hk : k < B) (hx : ¬ X k) : W.cell? ⟨k, o, none⟩ = A.cell? ⟨k, o, none⟩ := World.cell?_of_block (a := ⟨k, o, none⟩) (h.block k hk hx)

theorem IsT.grb {X : Nat → Prop} {lo : Nat} {A W : World} (h : GrB X A.heap.size A W) (hX : ∀ k, X k → k < lo) {n : Nat} {t : Tm n} (hT : IsT A.heap.size A t) (hN : NewT lo t) : IsT W.heap.size W t :=
  (hT.fromS (S := fun b => lo ≤ b ∧ b < A.heap.size) (fun b hb => h.block b hb.2 (fun hx => by have := hX b hx; have := hb.1; omega)) (hN.blk.and hT.blk)).mono h.size
theorem HoldsT.grb {X : Nat → Prop} {D lo : Nat} {A W : World} {v : Value} {c : List Nd} (h : HoldsT D lo A v c) (hg : GrB X A.heap.size A W) (hX : ∀ k, X k → k < lo) : HoldsT D lo W v c := fun m hm => by
  obtain ⟨t, h1, h2, h3, h4⟩ := h m hm
  exact ⟨t, h1, h2.grb hg hX h3.new, h3.kept (fun b hb hlt => hg.block b hlt (fun hx => by have := hX b hx; omega)), h4⟩
theorem Written.nextX {X : Nat → Prop} {D B j lo : Nat} {W W5 : World} {c c' : List Nd} {len : Nat} {x : TV} (h : Written D B j W c) (hj : j < len) (hr : Row4 W5 B len) (hb : GrB X W.heap.size W W5) (hX : ∀ k, X k → k < B) (hB : B < W.heap.size) (hv : HoldsT D lo W5 x.val c') (hlo : W.heap.size ≤ lo) :
    Written D B (j + 1) (Proofs.Ytdjlekcapfeniaa.set4 W5 B (j * 4) x) (c ++ c') := fun M hM => by
  obtain ⟨ks, hl, hk, hc, hnd⟩ := h M hM
  obtain ⟨u, hu, hT, hN0, hcu⟩ := hv M hM
  have hN : NewW (B + 1) W5 u := hN0.mono (by omega)
  have hux : u.tv = x := by
    simp only [TV.val, Value.agg.injEq] at hu
    simp at hu
    obtain ⟨e1, e2, e3, e4, e5, e6⟩ := hu
    cases hx : u.tv; cases x; simp_all
  refine ⟨ks ++ [u], by simp [hl], fun i z hz => ?_, by simp [hc, hcu], kids_apart (fun i z hz => (hk i z hz).2.2) hnd hN0 hlo⟩
  by_cases hi : i < j
  · rw [List.getElem?_append_left (by omega)] at hz
    obtain ⟨k1, k2, k3⟩ := hk i z hz
    have k1' := k1.kept (hb.block B hB (fun hx => by have := hX B hx; omega))
    refine ⟨?_, ?_, (k3.kept (fun b hb' hlt => hb.block b hlt (fun hx => by have := hX b hx; omega))).kept (fun q hq _ => set4_other W5 B (j * 4) x (by omega))⟩
    · exact ⟨(set4_far W5 B (j * 4) x (by omega)).trans k1'.1, (set4_far W5 B (j * 4) x (by omega)).trans k1'.2.1, (set4_far W5 B (j * 4) x (by omega)).trans k1'.2.2.1, (set4_far W5 B (j * 4) x (by omega)).trans k1'.2.2.2⟩
    · rw [set4_size]
      exact (k2.grb hb (fun k hx => by have := hX k hx; omega) k3.new).from (fun q hq => set4_other W5 B (j * 4) x (by omega)) k3.new
  · rw [List.getElem?_append_right (by omega)] at hz
    have hi2 : i - ks.length = 0 := by
      by_cases e : i - ks.length = 0
      · exact e
      · rw [List.getElem?_eq_none (by simp; omega)] at hz; cases hz
    rw [hi2] at hz
    simp at hz
    subst hz
    obtain rfl : i = j := by omega
    refine ⟨?_, ?_, hN.kept (fun q hq _ => set4_other W5 B (i * 4) x (by omega))⟩
    · rw [hux]
      have g : ∀ q, q < len * 4 → (W5.cell? ⟨B, q, none⟩).isSome = true := fun q hq => by obtain ⟨⟨v, hv⟩, _⟩ := hr.cell hq; rw [hv]; rfl
      exact set4_cells W5 B (i * 4) x (g _ (by omega)) (g _ (by omega)) (g _ (by omega)) (g _ (by omega))
    · rw [set4_size]
      exact hT.from (fun q hq => set4_other W5 B (i * 4) x (by omega)) hN.new

/-- The states behind the variables of a row of parts. -/
def stepsN {σ : Type} (stp : σ → Int → σ) (s : σ) (l : List Nd) : σ := l.foldl (fun s x => if x.1 = 1 then stp s x.2.1 else s) s
theorem stepsN_append {σ : Type} (stp : σ → Int → σ) (s : σ) (l l' : List Nd) : stepsN stp s (l ++ l') = stepsN stp (stepsN stp s l) l' := List.foldl_append
/-- What a state that goes on must keep to. -/
structure Stately {σ : Type} (I : σ → World → Prop) (X : Nat → Prop) (n₀ lo : Nat) (stp : σ → Int → σ) (β : σ → Int → List Nd) : Prop where
  low : n₀ ≤ lo
  blocks : ∀ k, X k → n₀ ≤ k ∧ k < lo
  keep : ∀ s W W', I s W → lo ≤ W.heap.size → Below lo W W' → I s W'
  stay : ∀ s N l, β (stepsN stp (stp s N) l) N = β (stp s N) N
theorem Stately.sub {σ : Type} {I : σ → World → Prop} {X : Nat → Prop} {n₀ lo : Nat} {stp : σ → Int → σ} {β : σ → Int → List Nd} (h : Stately I X n₀ lo stp β) : ∀ (l l' : List Nd) (s : σ), l.flatMap (subN (β (stepsN stp s (l ++ l')))) = l.flatMap (subN (β (stepsN stp s l)))
  | [], _, _ => rfl
  | x :: l, l', s => by
    have ih := h.sub l l' (if x.1 = 1 then stp s x.2.1 else s)
    have e1 : stepsN stp s (x :: l ++ l') = stepsN stp (if x.1 = 1 then stp s x.2.1 else s) (l ++ l') := rfl
    have e2 : stepsN stp s (x :: l) = stepsN stp (if x.1 = 1 then stp s x.2.1 else s) l := rfl
    rw [List.flatMap_cons, List.flatMap_cons, e1, e2, ih]
    congr 1
    unfold subN
    by_cases hx : x.1 = 1
    · rw [if_pos hx, if_pos hx, if_pos hx, h.stay, h.stay]
    · rw [if_neg hx, if_neg hx]

/-- A function value that says what a variable becomes, and keeps a state. -/
def BecomesX {σ : Type} (g : Nat) (lb : Array Value) (I : σ → World → Prop) (X : Nat → Prop) (lo : Nat) (stp : σ → Int → σ) (β : σ → Int → List Nd) (D : Nat) : Prop :=
  ∀ (N : Int) (W : World) (s : σ), 0 ≤ N → N ≤ 1099511627776 → lo ≤ W.heap.size → I s W → Calls Try.prog g (#[.int .i64 N] ++ lb) W fun e W' => ∃ v, e = .returned v ∧ GrB X W.heap.size W W' ∧ I (stp s N) W' ∧ HoldsT D W.heap.size W' v (β (stp s N) N)

set_option maxRecDepth 100000 in
set_option maxHeartbeats 1000000 in
theorem replace_varX {σ : Type} {I : σ → World → Prop} {X : Nat → Prop} {n₀ lo : Nat} {stp : σ → Int → σ} {β : σ → Int → List Nd} (hst : Stately I X n₀ lo stp β) (g : Nat) (lb : Array Value) (D : Nat) (eg : ∀ args w, (callFunc g args).run Try.prog w = .ok (.enter g args) w) (hbec : BecomesX g lb I X lo stp β D)
    (N : Int) (s : ByteArray) (a : Option Addr) (len cap : Nat) (W : World) (z : σ) (h0 : 0 ≤ N) (h1 : N ≤ 1099511627776) (hlo : lo ≤ W.heap.size) (hI : I z W) :
    Calls Try.prog 45 #[.agg #[.int .i64 1, .int .i64 N, .string s, .slice a len cap], .func (.func g) #[] lb] W fun e W' => ∃ v, e = .returned v ∧ GrB X W.heap.size W W' ∧ I (stp z N) W' ∧ HoldsT D W.heap.size W' v (β (stp z N) N) := by
  have hB2 : Below W.heap.size W ((W.alloc (.cells #[.int .i64 1, .int .i64 N, .string s, .slice a len cap] 24)).alloc (.cells #[.int .i64 0, .int .i64 0, .string ⟨#[]⟩, .slice none 0 0] 24)) := ((Below.refl _ W).alloc (Nat.le_refl _) _).alloc (by simp) _
  have hsz : ((W.alloc (.cells #[.int .i64 1, .int .i64 N, .string s, .slice a len cap] 24)).alloc (.cells #[.int .i64 0, .int .i64 0, .string ⟨#[]⟩, .slice none 0 0] 24)).heap.size = W.heap.size + 2 := by simp
  have hcall := hbec N ((W.alloc (.cells #[.int .i64 1, .int .i64 N, .string s, .slice a len cap] 24)).alloc (.cells #[.int .i64 0, .int .i64 0, .string ⟨#[]⟩, .slice none 0 0] 24)) z h0 h1 (by omega) (hst.keep z W _ hI hlo (hB2.mono hlo))
  have hnew := World.alloc_heap_new (W.alloc (.cells #[.int .i64 1, .int .i64 N, .string s, .slice a len cap] 24)) (.cells #[.int .i64 0, .int .i64 0, .string ⟨#[]⟩, .slice none 0 0] 24)
  rw [World.size_alloc] at hnew
  have HB2 := hide hB2
  have HSZ := hide hsz
  have HNEW := hide hnew
  have HST := hide hst
  clear hbec hI hB2 hsz hnew hst
  go_enter Try.func45, Try.ntmps45
  go_wp2_with fail
  refine hcall.mono ?_
  clear hcall
  rintro e W1 ⟨v, rfl, hg1, hI1, hv⟩
  rw [unhide HSZ] at hg1 hv
  obtain ⟨t, ht, -⟩ := hv D (Nat.le_refl _)
  subst ht
  have hnx : ¬ X (W.heap.size + 1) := fun hx => by have := ((unhide HST).blocks _ hx).2; omega
  obtain ⟨⟨z0, z1, z2, z3⟩, y0, y1, y2, y3⟩ := zbox_kept ((hg1.block (W.heap.size + 1) (by omega) hnx).trans (unhide HNEW))
  have hs1 : W.heap.size + 2 ≤ W1.heap.size := by have := hg1.size; have := unhide HSZ; omega
  have hfin : HoldsT D W.heap.size (set4 W1 (W.heap.size + 1) 0 t.tv) t.tv.val (β (stp z N) N) := (holds_set4 hv (by omega) 0 t.tv).mono (Nat.le_refl _) (by omega)
  have hgf : GrB X W.heap.size W (set4 W1 (W.heap.size + 1) 0 t.tv) := ((GrB.of_below (unhide HB2)).trans (hg1.mono (by omega))).set4 (by omega) 0 t.tv
  have hIf : I (stp z N) (set4 W1 (W.heap.size + 1) 0 t.tv) := (unhide HST).keep _ _ _ hI1 (by omega) (set4_below (Below.refl _ _) (by omega) 0 t.tv)
  have HF := hide hfin
  have HG := hide hgf
  have HI := hide hIf
  clear hfin hgf hIf hv hg1 hI1 hnx
  simp only [TV.val]
  go_wp2_with fail
  exact bodyPost_ret (v := t.tv.val) (by simp [results, Try.results45, go_sem, TV.val, z0, z1, z2, z3]) rfl ⟨_, rfl, unhide HG, unhide HI, unhide HF⟩

/-- The end of replace at a compound. -/
theorem comp_endX {X : Nat → Prop} {D : Nat} {W wr : World} {s : ByteArray} {len : Nat} {c : List Nd} (hB : GrB X W.heap.size W wr) (hs : s.size ≤ 9223372036854775807) (hl : len ≤ 50) (hsz : W.heap.size + 3 ≤ wr.heap.size) (hr : Row4 wr (W.heap.size + 2) len) (hw : Written D (W.heap.size + 2) len wr c) :
    let x : TV := ⟨4, 0, s, some ⟨W.heap.size + 2, 0, none⟩, len, len⟩
    GrB X W.heap.size W (set4 wr (W.heap.size + 1) 0 x) ∧ HoldsT (D + 1) W.heap.size (set4 wr (W.heap.size + 1) 0 x) x.val ((4, 0, s.toList, len) :: c) := by
  intro x
  refine ⟨hB.set4 (by omega) 0 x, fun m hm => ?_⟩
  obtain ⟨M, rfl⟩ : ∃ M, m = M + 1 := ⟨m - 1, by omega⟩
  obtain ⟨ks, hkl, hks, hkc, hnd⟩ := hw M (by omega)
  refine ⟨((x, ks) : TV × List (Tm M)), rfl, ?_, ?_, ?_⟩
  · refine ⟨hkl.symm, ?_, hs, .inr ⟨W.heap.size + 2, 0, rfl, by rw [set4_size]; omega, fun j u hu => ?_⟩⟩
    · show len ≤ _
      omega
    · obtain ⟨k1, k2, k3⟩ := hks j u hu
      refine ⟨?_, ?_⟩
      · rw [Nat.zero_add]
        exact k1.kept (set4_other wr _ 0 x (by omega))
      · rw [set4_size]
        exact k2.from (fun q hq => set4_other wr _ 0 x (by omega)) k3.new
  · obtain ⟨arr, ha1, ha2⟩ := hr
    refine ⟨⟨.inr ⟨W.heap.size + 2, 0, rfl, by omega⟩, fun u hu => ?_⟩, ⟨.inr ⟨W.heap.size + 2, arr, by omega, rfl, rfl, (set4_other wr _ 0 x (by omega)).trans ha1, ha2⟩, fun u hu => ?_⟩, row_apart (B := W.heap.size + 2) rfl (Nat.lt_succ_self _) (fun i z hz => (hks i z hz).2.2) hnd⟩
    · obtain ⟨j, hj⟩ := List.mem_iff_getElem?.1 hu
      exact ((hks j u hj).2.2.mono (by omega)).new
    · obtain ⟨j, hj⟩ := List.mem_iff_getElem?.1 hu
      exact (((hks j u hj).2.2.kept (fun q hq _ => set4_other wr _ 0 x (by omega))).mono (by omega)).wh
  · rw [code_succ, hkc]; rfl
theorem kid_grb {n n₀ : Nat} {w wr : World} {a : Option Addr} {len : Nat} {kids : List (Tm n)} (hkids : kids = [] ∨ ∃ b off, a = some ⟨b, off, none⟩ ∧ b < n₀ ∧ ∀ j u, kids[j]? = some u → cellsAt w b (off + j * 4) u.tv ∧ IsT n₀ w u)
    (hbw : Below n₀ w wr) {j : Nat} (hj : j < len) (hl : len ≤ kids.length) :
    ∃ u b off, kids[j]? = some u ∧ a = some ⟨b, off, none⟩ ∧ cellsAt wr b (off + j * 4) u.tv ∧ IsT n₀ wr u ∧ b < n₀ := by
  obtain ⟨u, hu⟩ : ∃ u, kids[j]? = some u := ⟨kids[j]'(by omega), List.getElem?_eq_getElem (by omega)⟩
  have hne : kids ≠ [] := by rintro rfl; simp at hu
  obtain ⟨b, off, ha, hbk, hk⟩ := hkids.resolve_left hne
  obtain ⟨⟨c0, c1, c2, c3⟩, hT⟩ := hk j u hu
  exact ⟨u, b, off, hu, ha, ⟨(hbw.cell (p := ⟨b, off + j * 4, none⟩) hbk).trans c0, (hbw.cell (p := ⟨b, off + j * 4 + 1, none⟩) hbk).trans c1, (hbw.cell (p := ⟨b, off + j * 4 + 2, none⟩) hbk).trans c2, (hbw.cell (p := ⟨b, off + j * 4 + 3, none⟩) hbk).trans c3⟩, hT.below hbw, hbk⟩

set_option maxRecDepth 100000 in
set_option maxHeartbeats 1000000 in
theorem replace_compX {σ : Type} {I : σ → World → Prop} {X : Nat → Prop} {n₀ lo : Nat} {stp : σ → Int → σ} {β : σ → Int → List Nd} (hst : Stately I X n₀ lo stp β) {n : Nat} (fv : Value) (D : Nat)
    (ih : ∀ (u : Tm n) (W : World) (z : σ), lo ≤ W.heap.size → I z W → IsT n₀ W u → okT u = true → Calls Try.prog 45 #[u.tv.val, fv] W fun e W' => ∃ v, e = .returned v ∧ GrB X W.heap.size W W' ∧ I (stepsN stp z (code u)) W' ∧ HoldsT (n + D) W.heap.size W' v ((code u).flatMap (subN (β (stepsN stp z (code u))))))
    (s : ByteArray) (a : Option Addr) (len cap : Nat) (kids : List (Tm n)) (W : World) (z : σ) (hlo : lo ≤ W.heap.size) (hI : I z W) (hs : s.size ≤ 9223372036854775807) (hl50 : len ≤ 50) (hlen : len = kids.length)
    (hkids : kids = [] ∨ ∃ b off, a = some ⟨b, off, none⟩ ∧ b < n₀ ∧ ∀ j u, kids[j]? = some u → cellsAt W b (off + j * 4) u.tv ∧ IsT n₀ W u) (hok : ∀ u ∈ kids, okT u = true) :
    Calls Try.prog 45 #[.agg #[.int .i64 4, .int .i64 0, .string s, .slice a len cap], fv] W fun e W' => ∃ v, e = .returned v ∧ GrB X W.heap.size W W' ∧ I (stepsN stp z (kids.flatMap code)) W' ∧ HoldsT (n + 1 + D) W.heap.size W' v ((4, 0, s.toList, len) :: (kids.flatMap code).flatMap (subN (β (stepsN stp z (kids.flatMap code))))) := by
  have hl1 : len ≤ kids.length := by omega
  have hl2 : kids.length ≤ len := by omega
  clear hlen
  have hlow := hst.low
  have HI := hide ih
  have HO := hide hok
  have HST := hide hst
  have HIZ := hide hI
  clear ih hok hst hI
  have hmk := make_terms len hl50
  go_enter Try.func45, Try.ntmps45
  go_wp2_with fail
  obtain ⟨W3, hW3, hb3, hs3, bT, hz, hr⟩ := made_world W ⟨4, 0, s, a, len, cap⟩ len
  simp only at hW3
  rw [hW3]
  clear hW3 hmk
  have HZ := hide hz
  have HT := hide bT
  have HR := hide hr
  have HS := hide hs3
  clear hz bT hr hs3
  have hnx : ∀ k, lo ≤ k → ¬ X k := fun k hk hx => by have := ((unhide HST).blocks k hx).2; omega
  go_loopw [25] (fun i wr => ∃ j : Nat, j ≤ len ∧ i = .int .i64 j ∧ GrB X (W.heap.size + 2) W3 wr ∧ Row4 wr (W.heap.size + 2) len ∧ I (stepsN stp z ((kids.take j).flatMap code)) wr ∧ Written (n + D) (W.heap.size + 2) j wr (((kids.take j).flatMap code).flatMap (subN (β (stepsN stp z ((kids.take j).flatMap code)))))) (fun i _ => len - (intOf i).toNat)
  case atStart => exact ⟨0, Nat.zero_le _, rfl, GrB.refl _ _ _, unhide HR, (unhide HST).keep _ _ _ (unhide HIZ) hlo (hb3.mono hlo), Written.zero _ _ _⟩
  case round =>
    obtain ⟨j, hj, rfl, hg, hrow, hIj, hwr⟩ := hrel
    have hgw : GrB X W.heap.size W wr := (GrB.of_below hb3).trans (hg.mono (by omega))
    have hbw : Below n₀ W wr := hgw.below (fun k hx => ((unhide HST).blocks k hx).1) (by omega)
    have hsz : W.heap.size + 3 ≤ wr.heap.size := by have := hg.size; have := unhide HS; omega
    by_cases hlt : j < len
    · obtain ⟨u, b, off, hu, rfl, ⟨c0, c1, c2, c3⟩, hT, hbk⟩ := kid_grb hkids hbw hlt hl1
      have hbu : Below wr.heap.size wr (wr.alloc (.cells #[.int .i64 u.tv.k, .int .i64 u.tv.N, .string u.tv.s, .slice u.tv.a u.tv.len u.tv.cap] 24)) := (Below.refl _ wr).alloc (Nat.le_refl _) _
      have ihu := (unhide HI) u (wr.alloc (.cells #[.int .i64 u.tv.k, .int .i64 u.tv.N, .string u.tv.s, .slice u.tv.a u.tv.len u.tv.cap] 24)) _ (by simp; omega) ((unhide HST).keep _ _ _ hIj (by omega) (hbu.mono (by omega))) (hT.below (hbu.mono (by omega))) ((unhide HO) u (List.mem_of_getElem? hu))
      have hcode := code_take kids j u hu
      have HC := hide hcode
      have HW := hide hwr
      have HRW := hide hrow
      clear hT hkids hu hcode hwr hrow hIj
      simp only [TV.val] at ihu
      have hj1 : (j : Int) < len := by omega
      go_wp2_with fail
      refine ihu.mono ?_
      clear ihu
      rintro e W5 ⟨v, rfl, hg5, hI5, hv⟩
      rw [← stepsN_append, ← unhide HC] at hI5 hv
      obtain ⟨t5, ht5, -⟩ := hv _ (Nat.le_refl _)
      subst ht5
      have hg5' : GrB X wr.heap.size wr W5 := (GrB.of_below hbu).trans (hg5.mono hbu.size)
      have hrow5 : Row4 W5 (W.heap.size + 2) len := (unhide HRW).kept (hg5'.block _ (unhide HRW).lt (hnx _ (by omega)))
      obtain ⟨⟨_, z0⟩, y0⟩ := hrow5.cell (o := j * 4) (by omega)
      obtain ⟨⟨_, z1⟩, y1⟩ := hrow5.cell (o := j * 4 + 1) (by omega)
      obtain ⟨⟨_, z2⟩, y2⟩ := hrow5.cell (o := j * 4 + 2) (by omega)
      obtain ⟨⟨_, z3⟩, y3⟩ := hrow5.cell (o := j * 4 + 3) (by omega)
      have hfin := (unhide HW).nextX hlt hrow5 hg5' (fun k hx => by have := ((unhide HST).blocks k hx).2; omega) (unhide HRW).lt hv (by simp)
      have hsub := (unhide HST).sub ((kids.take j).flatMap code) (code u) z
      rw [← hsub, ← unhide HC, ← List.flatMap_append, ← unhide HC] at hfin
      have hfin2 := hrow5.set4 (j * 4) t5.tv
      have hfin3 : GrB X (W.heap.size + 2) W3 (set4 W5 (W.heap.size + 2) (j * 4) t5.tv) := (hg.trans (hg5'.mono (by omega))).set4 (Nat.le_refl _) _ _
      have hs5 : lo ≤ W5.heap.size := by have := hg5'.size; omega
      have hfin4 : I (stepsN stp z ((kids.take (j + 1)).flatMap code)) (set4 W5 (W.heap.size + 2) (j * 4) t5.tv) := (unhide HST).keep _ _ _ hI5 hs5 (set4_below (Below.refl _ _) (by omega) _ _)
      have G1 := hide hfin
      have G2 := hide hfin2
      have G3 := hide hfin3
      have G4 := hide hfin4
      clear hfin hfin2 hfin3 hfin4 hv hg5 hrow5 hg5' hbu hsub hI5
      simp only [TV.val]
      go_wp2_with fail
      go_roundw
      case rel => exact ⟨j + 1, by omega, by go_num, unhide G3, unhide G2, unhide G4, unhide G1⟩
      case measure => simp [intOf]; omega
    · have ht : kids.take j = kids := List.take_of_length_le (by omega)
      obtain rfl : j = len := by omega
      rw [ht] at hwr hIj
      obtain ⟨⟨z0, z1, z2, z3⟩, y0, y1, y2, y3⟩ := zbox_kept ((hg.block (W.heap.size + 1) (by omega) (hnx _ (by omega))).trans (unhide HZ))
      have bT : BoxT wr W.heap.size ⟨4, 0, s, a, j, cap⟩ := (hg.block W.heap.size (by omega) (hnx _ (by omega))).trans (unhide HT)
      have x2 := bT.c2
      obtain ⟨f1, f2⟩ := comp_endX hgw hs hl50 hsz hrow hwr
      have f3 := (unhide HST).keep _ _ _ hIj (by omega) (set4_below (Below.refl lo wr) (b := W.heap.size + 1) (by omega) 0 ⟨4, 0, s, some ⟨W.heap.size + 2, 0, none⟩, j, j⟩)
      have F1 := hide f1
      have F2 := hide f2
      have F3 := hide f3
      clear f1 f2 f3 hwr ht hkids hrow hIj
      go_wp2_with fail
      exact bodyPost_ret (v := (⟨4, 0, s, some ⟨W.heap.size + 2, 0, none⟩, j, j⟩ : TV).val) (by simp [results, Try.results45, go_sem, TV.val, z0, z1, z2, z3]) rfl ⟨_, rfl, unhide F1, unhide F3, by have h := unhide F2; rw [show n + 1 + D = n + D + 1 by omega]; exact h⟩

/-- term.replace, whatever the term, with a state. -/
theorem replace_anyX {σ : Type} {I : σ → World → Prop} {X : Nat → Prop} {n₀ lo : Nat} {stp : σ → Int → σ} {β : σ → Int → List Nd} (hst : Stately I X n₀ lo stp β) (g : Nat) (lb : Array Value) (D : Nat) (hD : 1 ≤ D) (eg : ∀ args w, (callFunc g args).run Try.prog w = .ok (.enter g args) w) (hbec : BecomesX g lb I X lo stp β D) :
    ∀ (n : Nat) (t : Tm n) (W : World) (z : σ), lo ≤ W.heap.size → I z W → IsT n₀ W t → okT t = true →
      Calls Try.prog 45 #[t.tv.val, .func (.func g) #[] lb] W fun e W' => ∃ v, e = .returned v ∧ GrB X W.heap.size W W' ∧ I (stepsN stp z (code t)) W' ∧ HoldsT (n + D) W.heap.size W' v ((code t).flatMap (subN (β (stepsN stp z (code t))))) := by
  intro n
  induction n with
  | zero => intro t; exact Empty.elim t
  | succ n ih =>
    intro t W z hlo hI hT hok
    obtain ⟨⟨k, N, s, a, len, cap⟩, kids⟩ := t
    obtain ⟨hwm, hk⟩ := ok_kids hok
    obtain ⟨h1, h2, h3, h4⟩ := hT
    simp only [Tm.tv, Tm.kids] at h1 h2 h3 h4 hwm
    rw [code_succ, List.flatMap_cons]
    rcases wm_cases hwm with ⟨rfl, hN1, hN2, hse, rfl⟩ | ⟨hk23, rfl⟩ | ⟨rfl, rfl, hl1, hl2⟩
    · have hnil : kids = [] := List.length_eq_zero_iff.1 h1.symm
      subst hnil
      refine (replace_varX hst g lb D eg hbec N s a 0 cap W z hN1 hN2 hlo hI).mono fun e W' h => ?_
      obtain ⟨v, he, hb', hI', hv⟩ := h
      exact ⟨v, he, hb', by simpa [stepsN, TV.nd] using hI', by simpa [subN, TV.nd, stepsN] using hv.mono (by omega) (Nat.le_refl _)⟩
    · have hnil : kids = [] := List.length_eq_zero_iff.1 h1.symm
      subst hnil
      refine (replace_leaf _ k N s a 0 cap W hk23 h3).mono fun e W' h => ?_
      obtain ⟨v, he, hb', hv⟩ := h
      have hne : ¬ k = 1 := by omega
      refine ⟨v, he, GrB.of_below hb', ?_, by simpa [subN, TV.nd, hne] using hv.mono (by omega) (Nat.le_refl _)⟩
      have := hst.keep z W W' hI hlo (hb'.mono hlo)
      simpa [stepsN, TV.nd, hne] using this
    · refine (replace_compX hst _ D ih s a len cap kids W z hlo hI h3 hl2 h1 h4 hk).mono fun e W' h => ?_
      obtain ⟨v, he, hb', hI', hv⟩ := h
      exact ⟨v, he, hb', by simpa [stepsN, TV.nd] using hI', by simpa [subN, TV.nd, stepsN] using hv⟩
end Go.Proofs.Ytdjlekcapfeniaa

