import Derived.Test.YtlbobmebbllifaaGreatKs
import Derived.Deep.Cut
import Derived.Deep.RegionHeld3
/- The contract of term.order: it answers ordT of two terms; nothing that lay is changed. (Written by wip/ordgen.py.) -/
namespace Go.Proofs.YtlbobmebbllifaaGreat
open Go.RowKit Go.Shelf
theorem kid_at {n : Nat} {w wr : World} {a : Option Addr} {len : Nat} {kids : List (Tm n)} (hkids : kids = [] ∨ ∃ b off, a = some ⟨b, off, none⟩ ∧ b < w.heap.size ∧ ∀ j u, kids[j]? = some u → cellsAt w b (off + j * 4) u.tv ∧ IsT w.heap.size w u)
  (hbw : Below w.heap.size w wr) {j : Nat} (hj : j < len) (hl : len ≤ kids.length) :
  ∃ u b off, kids[j]? = some u ∧ a = some ⟨b, off, none⟩ ∧ cellsAt wr b (off + j * 4) u.tv ∧ IsT wr.heap.size wr u ∧ b < w.heap.size := by
 obtain ⟨u, hu⟩ : ∃ u, kids[j]? = some u := ⟨kids[j]'(by omega), List.getElem?_eq_getElem (by omega)⟩
 have hne : kids ≠ [] := by rintro rfl; simp at hu
 obtain ⟨b, off, ha, hbk, hk⟩ := hkids.resolve_left hne
 obtain ⟨⟨c0, c1, c2, c3⟩, hT⟩ := hk j u hu
 exact ⟨u, b, off, hu, ha, ⟨(hbw.cell (p := ⟨b, off + j * 4, none⟩) hbk).trans c0, (hbw.cell (p := ⟨b, off + j * 4 + 1, none⟩) hbk).trans c1, (hbw.cell (p := ⟨b, off + j * 4 + 2, none⟩) hbk).trans c2, (hbw.cell (p := ⟨b, off + j * 4 + 3, none⟩) hbk).trans c3⟩, (hT.below hbw).mono hbw.size, hbk⟩
theorem bcell {W w1 : World} (hb : Below W.heap.size W w1) : ∀ b o, b < W.heap.size → w1.cell? ⟨b, o, none⟩ = W.cell? ⟨b, o, none⟩ := fun b o h => hb.cell (p := ⟨b, o, none⟩) h
theorem two_boxes {w W1 : World} {c0 c1 c2 c3 d0 d1 d2 d3 : Value} (hb : Below ((w.alloc (.cells #[c0, c1, c2, c3] 24)).alloc (.cells #[d0, d1, d2, d3] 24)).heap.size ((w.alloc (.cells #[c0, c1, c2, c3] 24)).alloc (.cells #[d0, d1, d2, d3] 24)) W1) :
  (Below w.heap.size w W1 ∧ w.heap.size + 2 ≤ W1.heap.size) ∧ W1.cell? ⟨w.heap.size, 3, none⟩ = some c3 ∧ W1.cell? ⟨w.heap.size + 1, 3, none⟩ = some d3 := by
 have hs := hb.size
 have hs2 : ((w.alloc (.cells #[c0, c1, c2, c3] 24)).alloc (.cells #[d0, d1, d2, d3] 24)).heap.size = w.heap.size + 2 := by simp
 rw [hs2] at hb hs
 exact ⟨⟨(((Below.refl _ w).alloc (Nat.le_refl _) _).alloc (by simp) _).trans (hb.mono (by omega)), hs⟩, (hb.cell (p := ⟨w.heap.size, 3, none⟩) (by simp)).trans (by simp), (hb.cell (p := ⟨w.heap.size + 1, 3, none⟩) (by simp)).trans (by simp)⟩
structure L2 where
 n : Nat
 a : Option Addr
 a' : Option Addr
 cap : Nat
 cap' : Nat
 ts : List (Tm n)
 ts' : List (Tm n)
def L2.fst (e : L2) : Lf := ⟨e.n, e.a, e.cap, e.ts⟩
def L2.snd (e : L2) : Lf := ⟨e.n, e.a', e.cap', e.ts'⟩
def L2.val (e : L2) : Value × Value := (e.fst.val, e.snd.val)
def L2.Is (n₀ : Nat) (W : World) (e : L2) : Prop := e.fst.Is n₀ W ∧ e.snd.Is n₀ W ∧ e.ts.length = e.ts'.length
theorem L2.Is.below {n₀ : Nat} {A B : World} (h : Below n₀ A B) {e : L2} (he : e.Is n₀ A) : e.Is n₀ B := ⟨he.1.below h, he.2.1.below h, he.2.2⟩
def ordR : List L2 → Int
 | [] => 0
 | e :: r => thenC (lexL ordT e.ts e.ts') (ordR r)
def ordS (S : List L2) : Int := ordR S.reverse
theorem ordS_snoc (S : List L2) (e : L2) : ordS (S ++ [e]) = thenC (lexL ordT e.ts e.ts') (ordS S) := by simp [ordS, ordR]
theorem thenC_r0 (c : Int) : thenC c 0 = c := by unfold thenC; split <;> omega
theorem thenC_l0 (c : Int) : thenC 0 c = c := by unfold thenC; simp
theorem thenC_assoc (a b c : Int) : thenC (thenC a b) c = thenC a (thenC b c) := by
 unfold thenC
 by_cases h : a = 0 <;> simp [h]
def cntS (S : List L2) : Nat := (S.flatMap fun e => e.ts.flatMap parts).length
theorem cntS_snoc (S : List L2) (e : L2) : cntS (S ++ [e]) = cntS S + (e.ts.flatMap parts).length := by simp [cntS]
def pairL {n : Nat} (x y : Tm (n + 1)) : L2 := ⟨n, x.tv.a, y.tv.a, x.tv.cap, y.tv.cap, x.kids, y.kids⟩
theorem pairL_is {n₀ : Nat} {W : World} {n : Nat} {x y : Tm (n + 1)} (hx : IsT n₀ W x) (hy : IsT n₀ W y) (hl : x.tv.len = y.tv.len) : (pairL x y).Is n₀ W := ⟨kidsL_is hx, kidsL_is hy, by have h1 := hx.1; have h2 := hy.1; show x.kids.length = y.kids.length; omega⟩
theorem pairL_val {n₀ : Nat} {W : World} {n : Nat} {x y : Tm (n + 1)} (hx : IsT n₀ W x) (hy : IsT n₀ W y) : (pairL x y).val = (.slice x.tv.a x.tv.len x.tv.cap, .slice y.tv.a y.tv.len y.tv.cap) := by
 have h1 := kidsL_val hx
 have h2 := kidsL_val hy
 show ((kidsL x).val, (kidsL y).val) = _
 rw [h1, h2]
theorem two_lists : Two 178 := by
 have h : (Tryz.prog.info? 178).map (fun i => (i.zero, i.size, i.bytes)) = some (some (.agg #[.slice none 0 0, .slice none 0 0]), 2, 48) := by kernel_rfl
 cases hi : Tryz.prog.info? 178 with
 | none => rw [hi] at h; cases h
 | some i =>
  rw [hi] at h
  simp at h
  exact ⟨i, hi, h.1, h.2.1, h.2.2⟩
def OrderR (w : World) (n : Nat) (res : Int) (k : Nat) (v : Value) (wr : World) : Prop :=
 ∃ (g cap : Nat) (S : List L2), v = .slice (some ⟨g, 0, none⟩) S.length cap ∧ Stk2 178 w.heap.size g cap wr (S.map L2.val) ∧ (∀ e ∈ S, e.Is w.heap.size wr) ∧ (∀ i e, S[i]? = some e → e.n + i ≤ n) ∧ ordS S = res ∧ Below w.heap.size w wr ∧ k = 2 * cntS S + S.length
theorem depth2_set {n : Nat} {S : List L2} {e e' : L2} (h : ∀ i z, (S ++ [e])[i]? = some z → z.n + i ≤ n) (he : e'.n ≤ e.n) : ∀ i z, (S ++ [e'])[i]? = some z → z.n + i ≤ n := fun i z hz => by
 by_cases hi : i < S.length
 ·exact h i z (by rw [List.getElem?_append_left hi] at hz ⊢; exact hz)
 ·rw [List.getElem?_append_right (by omega)] at hz
  have h0 : i - S.length = 0 := by
   by_cases h1 : i - S.length = 0
   ·exact h1
   ·rw [List.getElem?_eq_none (by simp; omega)] at hz; cases hz
  rw [h0] at hz
  simp at hz
  subst hz
  have := h i e (by rw [List.getElem?_append_right (by omega), h0]; rfl)
  omega
theorem depth2_push {n : Nat} {S : List L2} {e : L2} (h : ∀ i z, S[i]? = some z → z.n + i ≤ n) (he : e.n + S.length ≤ n) : ∀ i z, (S ++ [e])[i]? = some z → z.n + i ≤ n := fun i z hz => by
 by_cases hi : i < S.length
 ·exact h i z (by rw [List.getElem?_append_left hi] at hz; exact hz)
 ·rw [List.getElem?_append_right (by omega)] at hz
  have h0 : i - S.length = 0 := by
   by_cases h1 : i - S.length = 0
   ·exact h1
   ·rw [List.getElem?_eq_none (by simp; omega)] at hz; cases hz
  rw [h0] at hz
  simp at hz
  subst hz
  omega
theorem Lf.Is.first {n₀ n cap : Nat} {W : World} {a : Option Addr} {u : Tm (n + 1)} {r : List (Tm (n + 1))} (h : Lf.Is n₀ W ⟨n + 1, a, cap, u :: r⟩) : ∃ b off, a = some ⟨b, off, none⟩ ∧ b < n₀ ∧ cellsAt W b off u.tv ∧ IsT n₀ W u ∧ r.length + 1 ≤ cap ∧ ∀ A, (if cap = 1 then some (⟨b, off, none⟩ : Addr) else some ⟨b, off + 4, none⟩) = A → Lf.Is n₀ W ⟨n + 1, A, cap - 1, r⟩ := by
 have htl := tail_is h
 obtain ⟨i1, i2⟩ := h
 rcases i2 with i2 | ⟨b, off, ha, hb, hk⟩
 ·cases i2
 ·simp only at ha
  subst ha
  obtain ⟨hc, hT⟩ := hk 0 u rfl
  rw [Nat.zero_mul, Nat.add_zero] at hc
  refine ⟨b, off, rfl, hb, hc, hT, i1, fun A hA => ?_⟩
  have e : tailA (some ⟨b, off, none⟩) cap = A := by rw [← hA]; rfl
  rw [← e]
  exact htl
set_option maxRecDepth 100000 in
set_option maxHeartbeats 2000000 in
theorem order_any (n : Nat) (x y : Tm n) (w : World) (hx : IsT w.heap.size w x) (hy : IsT w.heap.size w y) : Calls Tryz.prog 86 #[x.tv.val, y.tv.val] w fun e W' => e = .returned (.int .i64 (ordT x y)) ∧ Below w.heap.size w W' := by
 cases n with
 | zero => exact Empty.elim x
 | succ n =>
  have HX := hide hx
  have HY := hide hy
  clear hx hy
  have htop : Calls Tryz.prog 101 #[.agg #[.int .i64 x.tv.k, .int .i64 x.tv.N, .string x.tv.s, .slice x.tv.a x.tv.len x.tv.cap], .agg #[.int .i64 y.tv.k, .int .i64 y.tv.N, .string y.tv.s, .slice y.tv.a y.tv.len y.tv.cap]] ((w.alloc (.cells #[.int .i64 x.tv.k, .int .i64 x.tv.N, .string x.tv.s, .slice x.tv.a x.tv.len x.tv.cap] 24)).alloc (.cells #[.int .i64 y.tv.k, .int .i64 y.tv.N, .string y.tv.s, .slice y.tv.a y.tv.len y.tv.cap] 24))
    fun e W1 => e = .returned (.int .i64 (otop x.tv y.tv)) ∧ (Below w.heap.size w W1 ∧ w.heap.size + 2 ≤ W1.heap.size) ∧ W1.cell? ⟨w.heap.size, 3, none⟩ = some (.slice x.tv.a x.tv.len x.tv.cap) ∧ W1.cell? ⟨w.heap.size + 1, 3, none⟩ = some (.slice y.tv.a y.tv.len y.tv.cap) :=
   (otop_any x.tv y.tv _).mono fun e W1 h => ⟨h.1, two_boxes h.2⟩
  have hord : ordT x y = thenC (otop x.tv y.tv) (lexL ordT x.kids y.kids) := rfl
  have HLL : Hid (otop x.tv y.tv = 0 → x.tv.len = y.tv.len) := fun h => by
   have := (@otop_zero x.tv y.tv).1 h
   simp [stop] at this
   omega
  simp only [TV.val]
  rw [hord]
  clear hord
  generalize hcc0 : otop x.tv y.tv = c at *
  clear hcc0
  by_cases hc : c = 0
  ·have hll := (unhide HLL) hc
   have hc' : (c != 0) = false := by simp [hc]
   have hfin : thenC c (lexL ordT x.kids y.kids) = lexL ordT x.kids y.kids := by unfold thenC; rw [if_neg (by omega)]
   rw [hfin]
   clear hc hfin HLL
   have hs0 : (pairL x y).Is w.heap.size w := pairL_is (unhide HX) (unhide HY) hll
   have hv0 : (pairL x y).val = (.slice x.tv.a x.tv.len x.tv.cap, .slice y.tv.a y.tv.len y.tv.cap) := pairL_val (unhide HX) (unhide HY)
   have HS0 := hide (And.intro hs0 hv0)
   have hlim : n + 1 ≤ 2199023255552 := (unhide HX).2.1.2.2
   have HR : Hid (ordS [pairL x y] = lexL ordT x.kids y.kids) := by show ordS [pairL x y] = _; simp [ordS, ordR, pairL, thenC_r0]
   clear hs0 hv0 hll
   generalize lexL ordT x.kids y.kids = res at HR ⊢
   generalize x.tv.a = a at *
   generalize x.tv.len = len at *
   generalize x.tv.cap = cap at *
   generalize y.tv.a = a' at *
   generalize y.tv.len = len' at *
   generalize y.tv.cap = cap' at *
   go_enter Tryz.func86, Tryz.ntmps86
   go_wp2_with (go_at_call 101; refine htop.mono ?_; clear htop; rintro e W1 ⟨rfl, ⟨hb1, hzz⟩, hcc, hcd⟩)
   go_upto_region 4 with fail
   go_cut [6] from 17 (fun s wc => ∃ g, s = .slice (some ⟨g, 0, none⟩) 1 8 ∧ Stk2 178 w.heap.size g 8 wc [(.slice a len cap, .slice a' len' cap')] ∧ Below W1.heap.size W1 wc)
   case first =>
    have hmk := two_make (k := 178) (T := 177) two_lists Tryz.underlying177
    obtain ⟨D0, hD0⟩ : ∃ D0, W1.drew = D0 := ⟨_, rfl⟩
    have hDb : Below W1.heap.size W1 D0 := by rw [← hD0]; exact (Below.refl _ W1).drew
    have hDs : D0.heap.size = W1.heap.size := by rw [← hD0]; rfl
    have hDc : D0.cell? ⟨w.heap.size, 3, none⟩ = some (.slice a len cap) ∧ D0.cell? ⟨w.heap.size + 1, 3, none⟩ = some (.slice a' len' cap') := by rw [← hD0]; exact ⟨hcc, hcd⟩
    obtain ⟨Xa, ea, sa, ba⟩ := two_a (k := 178) (T := 177) two_lists Tryz.underlying177 (B := w.heap.size) D0 (.slice a len cap, .slice a' len' cap') rfl rfl (by omega)
    obtain ⟨Xb, eb, sb, bb⟩ := two_b (k := 178) (T := 177) two_lists Tryz.underlying177 (B := w.heap.size) D0 (.slice a len cap, .slice a' len' cap') rfl rfl (by omega)
    rw [hDs] at ea eb sa sb
    simp only at ea eb
    have k1a : (D0.alloc (.cells (madeCells #[.slice none 0 0, .slice none 0 0] 16) 178)).cell? ⟨w.heap.size, 3, none⟩ = some (.slice a len cap) ∧ (D0.alloc (.cells (madeCells #[.slice none 0 0, .slice none 0 0] 16) 178)).cell? ⟨w.heap.size + 1, 3, none⟩ = some (.slice a' len' cap') := ⟨(Below.cell ((Below.refl _ D0).alloc (Nat.le_refl _) _) (p := ⟨w.heap.size, 3, none⟩) (by simp; omega)).trans hDc.1, (Below.cell ((Below.refl _ D0).alloc (Nat.le_refl _) _) (p := ⟨w.heap.size + 1, 3, none⟩) (by simp; omega)).trans hDc.2⟩
    have k1b : (D0.alloc (.cells #[.slice a len cap, .slice a' len' cap'] 178)).cell? ⟨w.heap.size, 3, none⟩ = some (.slice a len cap) ∧ (D0.alloc (.cells #[.slice a len cap, .slice a' len' cap'] 178)).cell? ⟨w.heap.size + 1, 3, none⟩ = some (.slice a' len' cap') := ⟨(Below.cell ((Below.refl _ D0).alloc (Nat.le_refl _) _) (p := ⟨w.heap.size, 3, none⟩) (by simp; omega)).trans hDc.1, (Below.cell ((Below.refl _ D0).alloc (Nat.le_refl _) _) (p := ⟨w.heap.size + 1, 3, none⟩) (by simp; omega)).trans hDc.2⟩
    have k2a : ((D0.alloc (.cells (madeCells #[.slice none 0 0, .slice none 0 0] 16) 178)).alloc (.cells #[.slice a len cap, .slice a' len' cap'] 178)).cell? ⟨w.heap.size, 3, none⟩ = some (.slice a len cap) ∧ ((D0.alloc (.cells (madeCells #[.slice none 0 0, .slice none 0 0] 16) 178)).alloc (.cells #[.slice a len cap, .slice a' len' cap'] 178)).cell? ⟨w.heap.size + 1, 3, none⟩ = some (.slice a' len' cap') := ⟨(Below.cell (((Below.refl _ D0).alloc (Nat.le_refl _) _).alloc (by simp) _) (p := ⟨w.heap.size, 3, none⟩) (by simp; omega)).trans hDc.1, (Below.cell (((Below.refl _ D0).alloc (Nat.le_refl _) _).alloc (by simp) _) (p := ⟨w.heap.size + 1, 3, none⟩) (by simp; omega)).trans hDc.2⟩
    have k2b : ((D0.alloc (.cells #[.slice a len cap, .slice a' len' cap'] 178)).alloc (.cells (madeCells #[.slice none 0 0, .slice none 0 0] 16) 178)).cell? ⟨w.heap.size, 3, none⟩ = some (.slice a len cap) ∧ ((D0.alloc (.cells #[.slice a len cap, .slice a' len' cap'] 178)).alloc (.cells (madeCells #[.slice none 0 0, .slice none 0 0] 16) 178)).cell? ⟨w.heap.size + 1, 3, none⟩ = some (.slice a' len' cap') := ⟨(Below.cell (((Below.refl _ D0).alloc (Nat.le_refl _) _).alloc (by simp) _) (p := ⟨w.heap.size, 3, none⟩) (by simp; omega)).trans hDc.1, (Below.cell (((Below.refl _ D0).alloc (Nat.le_refl _) _).alloc (by simp) _) (p := ⟨w.heap.size + 1, 3, none⟩) (by simp; omega)).trans hDc.2⟩
    have k3a : (Xa).cell? ⟨w.heap.size, 3, none⟩ = some (.slice a len cap) ∧ (Xa).cell? ⟨w.heap.size + 1, 3, none⟩ = some (.slice a' len' cap') := ⟨(Below.cell ba (p := ⟨w.heap.size, 3, none⟩) (by simp; omega)).trans hDc.1, (Below.cell ba (p := ⟨w.heap.size + 1, 3, none⟩) (by simp; omega)).trans hDc.2⟩
    have k3b : (Xb).cell? ⟨w.heap.size, 3, none⟩ = some (.slice a len cap) ∧ (Xb).cell? ⟨w.heap.size + 1, 3, none⟩ = some (.slice a' len' cap') := ⟨(Below.cell bb (p := ⟨w.heap.size, 3, none⟩) (by simp; omega)).trans hDc.1, (Below.cell bb (p := ⟨w.heap.size + 1, 3, none⟩) (by simp; omega)).trans hDc.2⟩
    have HA := hide (And.intro sa (hDb.trans (ba.mono (by omega))))
    have HB := hide (And.intro sb (hDb.trans (bb.mono (by omega))))
    clear sa ba sb bb
    refine wp_region_noPanic ?_
    refine wp_region_held_drew (S := fun w' => w'.cell? ⟨w.heap.size, 3, none⟩ = some (.slice a len cap) ∧ w'.cell? ⟨w.heap.size + 1, 3, none⟩ = some (.slice a' len' cap')) (by kernel_rfl) ?_ (fun hHeld => ?_)
    ·exact ⟨hcc, hcd⟩
    rw [hD0] at hHeld ⊢
    clear hD0
    refine wpAnyH_take (i := 1) (oi := { dst := some 18, op := Op.fieldAddr 24 (Operand.tmp 2) 3, type := 0, pos := "term.go:122", after := #[], guard := none }) (v := ?_) rfl (by kernel_rfl) (by kernel_rfl) (by kernel_rfl) (fun _ _ _ h => h) (Or.inl ⟨by rfl, ?_⟩) hHeld ?_
    rotate_left
    ·(intro w' hSw; (try dsimp only at hSw); go_simp; try with_reducible rfl)
    try simp only [Act.put, List.setIfInBounds_toArray, List.set_cons_zero, List.set_cons_succ]
    refine wpAnyH_take (i := 2) (oi := { dst := some 19, op := Op.load 22 (Operand.tmp 18), type := 22, pos := "term.go:122", after := #[{ on := 1, ground := Ground.data }], guard := none }) (v := ?_) rfl (by kernel_rfl) (by kernel_rfl) (by kernel_rfl) (fun _ _ _ h => h) (Or.inl ⟨by rfl, ?_⟩) hHeld ?_
    rotate_left
    ·(intro w' hSw; (try dsimp only at hSw); go_simp; try with_reducible rfl)
    try simp only [Act.put, List.setIfInBounds_toArray, List.set_cons_zero, List.set_cons_succ]
    refine wpAnyH_take (i := 3) (oi := { dst := some 20, op := Op.fieldAddr 24 (Operand.tmp 3) 3, type := 0, pos := "term.go:122", after := #[], guard := none }) (v := ?_) rfl (by kernel_rfl) (by kernel_rfl) (by kernel_rfl) (fun _ _ _ h => h) (Or.inl ⟨by rfl, ?_⟩) hHeld ?_
    rotate_left
    ·(intro w' hSw; (try dsimp only at hSw); go_simp; try with_reducible rfl)
    try simp only [Act.put, List.setIfInBounds_toArray, List.set_cons_zero, List.set_cons_succ]
    refine wpAnyH_take (i := 4) (oi := { dst := some 21, op := Op.load 22 (Operand.tmp 20), type := 22, pos := "term.go:122", after := #[{ on := 3, ground := Ground.data }], guard := none }) (v := ?_) rfl (by kernel_rfl) (by kernel_rfl) (by kernel_rfl) (fun _ _ _ h => h) (Or.inl ⟨by rfl, ?_⟩) hHeld ?_
    rotate_left
    ·(intro w' hSw; (try dsimp only at hSw); go_simp; try with_reducible rfl)
    try simp only [Act.put, List.setIfInBounds_toArray, List.set_cons_zero, List.set_cons_succ]
    refine wpAnyH_take (i := 5) (oi := { dst := some 22, op := Op.build 178 #[(0, Operand.tmp 19), (1, Operand.tmp 21)], type := 178, pos := "term.go:122", after := #[{ on := 2, ground := Ground.data }, { on := 4, ground := Ground.data }], guard := none }) (v := ?_) rfl (by kernel_rfl) (by kernel_rfl) (by kernel_rfl) (fun _ _ _ h => h) (Or.inl ⟨by rfl, ?_⟩) hHeld ?_
    rotate_left
    ·(intro w' hSw; (try dsimp only at hSw); go_simp; try with_reducible rfl)
    try simp only [Act.put, List.setIfInBounds_toArray, List.set_cons_zero, List.set_cons_succ]
    refine wpAnyH_ready (rs := [0, 6]) (by kernel_rfl) (by simp) ?_
    refine AllReadyH.cons (o := { dst := some 17, op := Op.makeSlice 177 (Operand.const (Value.int IntKind.i64 0)) (Operand.const (Value.int IntKind.i64 8)), type := 177, pos := "term.go:122", after := #[], guard := none }) rfl (fun K hK => ?_) (AllReadyH.cons (o := { dst := some 23, op := Op.buildSlice 177 1 #[(0, Operand.tmp 22)], type := 177, pos := "term.go:122", after := #[{ on := 5, ground := Ground.data }], guard := none }) rfl (fun K hK => ?_) AllReadyH.nil)
    ·have hHold := hHeld
     clear hHeld
     go_simp
     refine hK.out _ _ ?_ (fun hHeld => ?_)
     ·((try dsimp only); exact k1a)
     clear hK K hHold
     try simp only [Act.put, List.setIfInBounds_toArray, List.set_cons_zero, List.set_cons_succ]
     refine wpAnyH_ready (rs := [6]) (by kernel_rfl) (by simp) ?_
     refine AllReadyH.cons (o := { dst := some 23, op := Op.buildSlice 177 1 #[(0, Operand.tmp 22)], type := 177, pos := "term.go:122", after := #[{ on := 5, ground := Ground.data }], guard := none }) rfl (fun K hK => ?_) AllReadyH.nil
     have hHold := hHeld
     clear hHeld
     go_simp
     refine hK.out _ _ ?_ (fun hHeld => ?_)
     ·((try dsimp only); exact k2a)
     clear hK K hHold
     try simp only [Act.put, List.setIfInBounds_toArray, List.set_cons_zero, List.set_cons_succ]
     refine wpAnyH_ready (rs := [7]) (by kernel_rfl) (by simp) ?_
     refine AllReadyH.cons (o := { dst := some 24, op := Op.call { callee := Callee.builtin Builtin.append, args := #[Operand.tmp 17, Operand.tmp 23], argTypes := #[177, 177] }, type := 177, pos := "term.go:122", after := #[{ on := 0, ground := Ground.data }, { on := 6, ground := Ground.data }], guard := none }) rfl (fun K hK => ?_) AllReadyH.nil
     have hHold := hHeld
     clear hHeld
     rw [if_pos (by rfl)]
     refine wp_append_row _ _ _ rfl rfl rfl ea ?_
     refine hK.out _ _ ?_ (fun hHeld => ?_)
     ·((try dsimp only); exact k3a)
     clear hK K hHold
     try simp only [Act.put, List.setIfInBounds_toArray, List.set_cons_zero, List.set_cons_succ]
     refine wpAnyH_take (i := 8) (oi := { dst := some 6, op := Op.assign (Operand.tmp 24), type := 177, pos := "term.go:122", after := #[{ on := 7, ground := Ground.data }, { on := 7, ground := Ground.chain }, { on := 0, ground := Ground.phase }, { on := 1, ground := Ground.phase }, { on := 2, ground := Ground.phase }, { on := 3, ground := Ground.phase }, { on := 4, ground := Ground.phase }, { on := 5, ground := Ground.phase }, { on := 6, ground := Ground.phase }, { on := 7, ground := Ground.phase }], guard := none }) (v := ?_) rfl (by kernel_rfl) (by kernel_rfl) (by kernel_rfl) (fun _ _ _ h => h) (Or.inl ⟨by rfl, ?_⟩) hHeld ?_
     rotate_left
     ·(intro w' hSw; (try dsimp only at hSw); go_simp; try with_reducible rfl)
     try simp only [Act.put, List.setIfInBounds_toArray, List.set_cons_zero, List.set_cons_succ]
     refine wpAnyH_done (by kernel_rfl) ?_ _
     refine NoPanic.normal ?_
     clear hHeld
     go_wp2_with fail
     go_meet
     exact ⟨_, rfl, HA.out⟩
    ·have hHold := hHeld
     clear hHeld
     go_simp
     refine hK.out _ _ ?_ (fun hHeld => ?_)
     ·((try dsimp only); exact k1b)
     clear hK K hHold
     try simp only [Act.put, List.setIfInBounds_toArray, List.set_cons_zero, List.set_cons_succ]
     refine wpAnyH_ready (rs := [0]) (by kernel_rfl) (by simp) ?_
     refine AllReadyH.cons (o := { dst := some 17, op := Op.makeSlice 177 (Operand.const (Value.int IntKind.i64 0)) (Operand.const (Value.int IntKind.i64 8)), type := 177, pos := "term.go:122", after := #[], guard := none }) rfl (fun K hK => ?_) AllReadyH.nil
     have hHold := hHeld
     clear hHeld
     go_simp
     refine hK.out _ _ ?_ (fun hHeld => ?_)
     ·((try dsimp only); exact k2b)
     clear hK K hHold
     try simp only [Act.put, List.setIfInBounds_toArray, List.set_cons_zero, List.set_cons_succ]
     refine wpAnyH_ready (rs := [7]) (by kernel_rfl) (by simp) ?_
     refine AllReadyH.cons (o := { dst := some 24, op := Op.call { callee := Callee.builtin Builtin.append, args := #[Operand.tmp 17, Operand.tmp 23], argTypes := #[177, 177] }, type := 177, pos := "term.go:122", after := #[{ on := 0, ground := Ground.data }, { on := 6, ground := Ground.data }], guard := none }) rfl (fun K hK => ?_) AllReadyH.nil
     have hHold := hHeld
     clear hHeld
     rw [if_pos (by rfl)]
     refine wp_append_row _ _ _ rfl rfl rfl eb ?_
     refine hK.out _ _ ?_ (fun hHeld => ?_)
     ·((try dsimp only); exact k3b)
     clear hK K hHold
     try simp only [Act.put, List.setIfInBounds_toArray, List.set_cons_zero, List.set_cons_succ]
     refine wpAnyH_take (i := 8) (oi := { dst := some 6, op := Op.assign (Operand.tmp 24), type := 177, pos := "term.go:122", after := #[{ on := 7, ground := Ground.data }, { on := 7, ground := Ground.chain }, { on := 0, ground := Ground.phase }, { on := 1, ground := Ground.phase }, { on := 2, ground := Ground.phase }, { on := 3, ground := Ground.phase }, { on := 4, ground := Ground.phase }, { on := 5, ground := Ground.phase }, { on := 6, ground := Ground.phase }, { on := 7, ground := Ground.phase }], guard := none }) (v := ?_) rfl (by kernel_rfl) (by kernel_rfl) (by kernel_rfl) (fun _ _ _ h => h) (Or.inl ⟨by rfl, ?_⟩) hHeld ?_
     rotate_left
     ·(intro w' hSw; (try dsimp only at hSw); go_simp; try with_reducible rfl)
     try simp only [Act.put, List.setIfInBounds_toArray, List.set_cons_zero, List.set_cons_succ]
     refine wpAnyH_done (by kernel_rfl) ?_ _
     refine NoPanic.normal ?_
     clear hHeld
     go_wp2_with fail
     go_meet
     exact ⟨_, rfl, HB.out⟩
   case rest =>
   obtain ⟨g, rfl, hS, hb⟩ := hcut
   have hbw : Below w.heap.size w wc := hb1.trans (hb.mono (by omega))
   have h0 : OrderR w n res (2 * cntS [pairL x y] + 1) (.slice (some ⟨g, 0, none⟩) 1 8) wc := ⟨g, 8, [pairL x y], rfl, by rw [List.map_cons, List.map_nil, (unhide HS0).2]; exact hS, fun e he => by simp at he; subst he; exact (unhide HS0).1.below hbw, fun i e he => by
    cases i with
    | zero => simp at he; subst he; exact Nat.le_refl _
    | succ i => simp at he, unhide HR, hbw, rfl⟩
   have H0 := hide h0
   clear h0 hS hb hbw hb1 hzz hcc hcd HS0 HR HX HY
   go_wp2_with fail
   go_loopw [6] (fun v wr => ∃ k, OrderR w n res k v wr) (fun v wr => leastK (fun k => OrderR w n res k v wr))
   case atStart => exact ⟨_, unhide H0⟩
   case round =>
    clear H0
    obtain ⟨g, cp, S, rfl, hS, hE, hD, hO, hB, hk⟩ := leastK_spec hrel
    have HM := hide hk
    have HE := hide hE
    have HD := hide hD
    have HO := hide hO
    have HB := hide hB
    clear hk hE hD hO hB hrel
    rcases List.eq_nil_or_concat S with rfl | ⟨S, e, rfl⟩
    ·have h1 : Hid (0 = res) := unhide HO
     clear HO
     go_wp2_with fail
     go_ret
     exact ⟨ret_int h1.out, unhide HB⟩
    ·simp only [List.concat_eq_append, List.map_append, List.map_cons, List.map_nil] at hS HM HE HD HO ⊢
     have htp := hS.top
     rw [List.length_map] at htp
     obtain ⟨ct0, ct1, cf0, cf1⟩ := htp
     have hlen : (S ++ [e]).length = S.length + 1 := by simp
     have hq := (unhide HD) S.length e (by simp)
     have hcap : S.length + 1 ≤ cp := by have := hS.blk.2.1; simp at this; omega
     have hcap' : cp ≤ 9223372036854775807 := by obtain ⟨_, _, cur, _, h, _⟩ := hS.blk; unfold maxLen at h; omega
     have hg0 := hS.blk.1
     have hgl := hS.lt
     have HS := hide hS
     clear hS
     rw [hlen] at HM ⊢
     clear hlen
     have HQ := hide hq
     have hq2 : S.length ≤ 2199023255552 := by omega
     clear hq
     obtain ⟨n', a1, a2, cap1, cap2, ts, ts'⟩ := e
     have hIs := (unhide HE) ⟨n', a1, a2, cap1, cap2, ts, ts'⟩ (by simp)
     obtain ⟨hI1, hI2, hI3⟩ := hIs
     simp only [L2.val, L2.fst, L2.snd, Lf.val] at ct0 ct1
     simp only [L2.fst, L2.snd] at hI1 hI2 hI3
     cases ts with
     | nil =>
      have hts' : ts' = [] := List.length_eq_zero_iff.1 hI3.symm
      subst hts'
      simp only [List.length_nil] at ct0 ct1
      go_wp2_with fail
      refine leastK_lt (k := 2 * cntS S + S.length) ⟨g, cp, S, rfl, by have := (unhide HS).pop; exact this, fun z hz => (unhide HE) z (by simp [hz]), fun i z hz => (unhide HD) i z (by rw [List.getElem?_append_left (List.getElem?_eq_some_iff.1 hz).1]; exact hz), ?_, unhide HB, rfl⟩ ?_
      ·have h := unhide HO
       rw [ordS_snoc] at h
       simpa [lexL, thenC_l0] using h
      ·have h := unhide HM
       rw [cntS_snoc] at h
       rw [h]
       simp only [List.flatMap_nil, List.length_nil]
       omega
     | cons u r =>
      cases ts' with
      | nil => simp at hI3
      | cons v r' =>
      cases n' with
      | zero => exact Empty.elim u
      | succ n' =>
      obtain ⟨b, off, rfl, hbk, ⟨c0, c1, c2, c3⟩, hTu, hl1, htl⟩ := hI1.first
      obtain ⟨b', off', rfl, hbk', ⟨d0, d1, d2, d3⟩, hTv, hl2, htl'⟩ := hI2.first
      simp only [List.length_cons] at ct0 ct1 hI3
      have hrr : r.length = r'.length := by omega
      have hot : Calls Tryz.prog 101 #[.agg #[.int .i64 u.tv.k, .int .i64 u.tv.N, .string u.tv.s, .slice u.tv.a u.tv.len u.tv.cap], .agg #[.int .i64 v.tv.k, .int .i64 v.tv.N, .string v.tv.s, .slice v.tv.a v.tv.len v.tv.cap]] wr.drew.drew fun e W2 => e = .returned (.int .i64 (otop u.tv v.tv)) ∧ Below wr.heap.size wr W2 :=
       (otop_any u.tv v.tv wr.drew.drew).mono fun e W2 h => ⟨h.1, ((Below.refl _ wr).drew.drew).trans h.2⟩
      have hz := @otop_zero u.tv v.tv
      have HLL : Hid (otop u.tv v.tv = 0 → u.tv.len = v.tv.len) := fun h => by
       have := hz.1 h
       simp [stop] at this
       omega
      have HOR : Hid (ordT u v = thenC (otop u.tv v.tv) (lexL ordT u.kids v.kids)) := by show ordT u v = _; rfl
      clear hz
      generalize otop u.tv v.tv = oc at hot HLL HOR
      have HTU := hide (And.intro hTu hTv)
      have HTL := hide (And.intro htl htl')
      have hbr : b < wr.heap.size := by have := (unhide HB).size; omega
      have hbr' : b' < wr.heap.size := by have := (unhide HB).size; omega
      clear hTu hTv htl htl' hI1 hI2 hI3
      go_wp2_with fail
      go_region
      go_wp2_with fail
      by_cases ho : oc = 0
      ·have ho' : (oc != 0) = false := by simp [ho]
       have HO0 := hide ho
       clear ho
       go_region_held3 (fun w' => w'.cell? ⟨b, off, none⟩ = some (.int .i64 u.tv.k) ∧ w'.cell? ⟨b, off + 1, none⟩ = some (.int .i64 u.tv.N) ∧ w'.cell? ⟨b, off + 2, none⟩ = some (.string u.tv.s) ∧ w'.cell? ⟨b, off + 3, none⟩ = some (.slice u.tv.a u.tv.len u.tv.cap)
        ∧ w'.cell? ⟨b', off', none⟩ = some (.int .i64 v.tv.k) ∧ w'.cell? ⟨b', off' + 1, none⟩ = some (.int .i64 v.tv.N) ∧ w'.cell? ⟨b', off' + 2, none⟩ = some (.string v.tv.s) ∧ w'.cell? ⟨b', off' + 3, none⟩ = some (.slice v.tv.a v.tv.len v.tv.cap)) (go_keep)
        (first | (go_at_call 101; refine hot.mono ?_; clear hot; rintro e W2 ⟨rfl, hb2⟩; have hbc := bcell hb2))
       obtain ⟨A, hA⟩ : ∃ A, (if cap1 = 1 then some (⟨b, off, none⟩ : Addr) else some ⟨b, off + 4, none⟩) = A := ⟨_, rfl⟩
       obtain ⟨A', hA'⟩ : ∃ A, (if cap2 = 1 then some (⟨b', off', none⟩ : Addr) else some ⟨b', off' + 4, none⟩) = A := ⟨_, rfl⟩
       have HT2 := hide (And.intro ((unhide HTL).1 A hA) ((unhide HTL).2 A' hA'))
       have hS2 := (unhide HS).below hb2
       have htp := hS2.top
       rw [List.length_map] at htp
       obtain ⟨e0, e1, f0, f1⟩ := htp
       simp only [L2.val, L2.fst, L2.snd, Lf.val, List.length_cons] at e0 e1
       have HS2 := hide hS2
       have HB2 := hide hb2
       have hc3 : W2.cell? ⟨b, off + 3, none⟩ = some (.slice u.tv.a u.tv.len u.tv.cap) := (hbc b (off + 3) hbr).trans c3
       have hd3 : W2.cell? ⟨b', off' + 3, none⟩ = some (.slice v.tv.a v.tv.len v.tv.cap) := (hbc b' (off' + 3) hbr').trans d3
       clear hS2 hb2 hbc HTL HS ct0 ct1 cf0 cf1 c0 c1 c2 c3 d0 d1 d2 d3
       have hll := (unhide HLL) (unhide HO0)
       have HLV := hide hll
       have hO2 : thenC (lexL ordT u.kids v.kids) (thenC (lexL ordT r r') (ordS S)) = res := by
        have h := unhide HO
        rw [ordS_snoc] at h
        simp only [lexL, unhide HOR, unhide HO0, thenC_l0] at h
        rw [thenC_assoc] at h
        exact h
       have HO2 := hide hO2
       have hM2 : leastK (fun k => OrderR w n res k (.slice (some ⟨g, 0, none⟩) (S.length + 1) cp) wr) = 2 * (cntS S + (1 + (u.kids.flatMap parts).length + (r.flatMap parts).length)) + (S.length + 1) := by
        have h := unhide HM
        rw [cntS_snoc] at h
        rw [h]
        simp only [List.flatMap_cons, List.length_append, kidsL_all, List.length_cons]
        have : (kidsL u).all.length = (u.kids.flatMap parts).length := rfl
        omega
       have HM2 := hide hM2
       clear hO2 hM2 hll HO HOR HO0 HM HLL
       cases r with
       | nil =>
        have hr' : r' = [] := List.length_eq_zero_iff.1 (by rw [← hrr]; rfl)
        subst hr'
        simp only [List.length_nil] at e0 e1
        clear hrr
        go_wp2_with fail
        go_region
        obtain ⟨V, hV⟩ : ∃ V, ((W2.setCell ⟨g, S.length * 2, none⟩ (.slice A 0 (cap1 - 1))).setCell ⟨g, S.length * 2 + 1, none⟩ (.slice A' 0 (cap2 - 1))).drew = V := ⟨_, rfl⟩
        have hq1 := (unhide HS2).set0 (.slice A 0 (cap1 - 1))
        have hq2' := hq1.1.set1 (.slice A' 0 (cap2 - 1))
        rw [List.length_map] at hq1 hq2'
        have hVS : Stk2 178 w.heap.size g cp V (S.map L2.val ++ [(.slice A 0 (cap1 - 1), .slice A' 0 (cap2 - 1))]) := by rw [← hV]; exact hq2'.1
        have hgW : w.heap.size ≤ W2.heap.size := Nat.le_trans (unhide HB).size (unhide HB2).size
        have hVB : Below w.heap.size W2 V := by rw [← hV]; exact (((Below.refl _ W2).grown hq1.2 hgW (fun k e => by cases e; exact hg0)).grown hq2'.2 (Nat.le_trans hgW hq1.2.size) (fun k e => by cases e; exact hg0)).drew
        have hVw : Below w.heap.size w V := ((unhide HB).trans ((unhide HB2).mono (unhide HB).size)).trans hVB
        have hVr : Below w.heap.size wr V := ((unhide HB2).mono (unhide HB).size).trans hVB
        (try rw [hV])
        clear hV hq1 hq2'
        obtain ⟨hTu, hTv⟩ := unhide HTU
        have hTu2 := hTu.below hVr
        have hTv2 := hTv.below hVr
        have hIs2 : L2.Is w.heap.size V ⟨n' + 1, A, A', cap1 - 1, cap2 - 1, [], []⟩ := ⟨(unhide HT2).1.below hVr, (unhide HT2).2.below hVr, rfl⟩
        have hEs : ∀ z ∈ S, z.Is w.heap.size V := fun z hz => ((unhide HE) z (by simp [hz])).below hVr
        have hx3 : V.cell? ⟨b, off + 3, none⟩ = some (.slice u.tv.a u.tv.len u.tv.cap) := (hVB.cell (p := ⟨b, off + 3, none⟩) hbk).trans hc3
        have hy3 : V.cell? ⟨b', off' + 3, none⟩ = some (.slice v.tv.a v.tv.len v.tv.cap) := (hVB.cell (p := ⟨b', off' + 3, none⟩) hbk').trans hd3
        have htp := hVS.top
        rw [List.length_map] at htp
        obtain ⟨e0, e1, f0, f1⟩ := htp
        simp only at e0 e1
        have hgV := hVS.lt
        have hVsz : w.heap.size ≤ V.heap.size := hVw.size
        have HV := hide (And.intro hVS (And.intro hVw (And.intro hTu2 (And.intro hTv2 (And.intro hIs2 hEs)))))
        clear hVS hVB hVw hVr hTu hTv hTu2 hTv2 hIs2 hEs hgW HS2 HB2 HTU HT2 hc3 hd3
        go_wp2_with fail
        go_region
        obtain ⟨hVS, hVw, hTu2, hTv2, hIs2, hEs⟩ := unhide HV
        have hpv := pairL_val hTu2 hTv2
        have hq1 := hVS.set0 (.slice u.tv.a u.tv.len u.tv.cap)
        have hq2' := hq1.1.set1 (.slice v.tv.a v.tv.len v.tv.cap)
        rw [List.length_map] at hq1 hq2'
        obtain ⟨X, hX⟩ : ∃ X, ((V.setCell ⟨g, S.length * 2, none⟩ (.slice u.tv.a u.tv.len u.tv.cap)).setCell ⟨g, S.length * 2 + 1, none⟩ (.slice v.tv.a v.tv.len v.tv.cap)).drew = X := ⟨_, rfl⟩
        have hXB : Below w.heap.size V X := by rw [← hX]; exact (((Below.refl _ V).grown hq1.2 hVsz (fun k e => by cases e; exact hg0)).grown hq2'.2 (Nat.le_trans hVsz hq1.2.size) (fun k e => by cases e; exact hg0)).drew
        have hXS : Stk2 178 w.heap.size g cp X ((S ++ [pairL u v]).map L2.val) := by
         rw [List.map_append, List.map_cons, List.map_nil, hpv, ← hX]
         exact hq2'.1
        (try rw [hX])
        clear hX hq1 hq2'
        go_wp2_with fail
        refine leastK_lt (k := 2 * cntS (S ++ [pairL u v]) + (S ++ [pairL u v]).length) ⟨g, cp, S ++ [pairL u v], by simp, hXS, fun z hz => ?_, depth2_set (unhide HD) (Nat.le_succ _), ?_, hVw.trans hXB, rfl⟩ ?_
        ·rcases List.mem_append.1 hz with hz | hz
         ·exact (hEs z hz).below hXB
         ·simp at hz; subst hz; exact (pairL_is hTu2 hTv2 (unhide HLV)).below hXB
        ·have h := unhide HO2
         rw [ordS_snoc]
         simpa [lexL, thenC_l0, pairL] using h
        ·rw [unhide HM2, cntS_snoc]
         simp only [pairL, List.length_append, List.length_cons, List.length_nil, List.flatMap_nil]
         omega
       | cons z r =>
        cases r' with
        | nil => simp at hrr
        | cons z' r' =>
        have hrrN : (z :: r).length = (z' :: r').length := hrr
        simp only [List.length_cons] at e0 e1
        clear hrr
        have HRN := hide hrrN
        clear hrrN
        go_wp2_with fail
        go_region
        obtain ⟨V, hV⟩ : ∃ V, ((W2.setCell ⟨g, S.length * 2, none⟩ (.slice A (r.length + 1) (cap1 - 1))).setCell ⟨g, S.length * 2 + 1, none⟩ (.slice A' (r'.length + 1) (cap2 - 1))).drew = V := ⟨_, rfl⟩
        have hq1 := (unhide HS2).set0 (.slice A (r.length + 1) (cap1 - 1))
        have hq2' := hq1.1.set1 (.slice A' (r'.length + 1) (cap2 - 1))
        rw [List.length_map] at hq1 hq2'
        have hVS : Stk2 178 w.heap.size g cp V (S.map L2.val ++ [(.slice A (r.length + 1) (cap1 - 1), .slice A' (r'.length + 1) (cap2 - 1))]) := by rw [← hV]; exact hq2'.1
        have hgW : w.heap.size ≤ W2.heap.size := Nat.le_trans (unhide HB).size (unhide HB2).size
        have hVB : Below w.heap.size W2 V := by rw [← hV]; exact (((Below.refl _ W2).grown hq1.2 hgW (fun k e => by cases e; exact hg0)).grown hq2'.2 (Nat.le_trans hgW hq1.2.size) (fun k e => by cases e; exact hg0)).drew
        have hVw : Below w.heap.size w V := ((unhide HB).trans ((unhide HB2).mono (unhide HB).size)).trans hVB
        have hVr : Below w.heap.size wr V := ((unhide HB2).mono (unhide HB).size).trans hVB
        (try rw [hV])
        clear hV hq1 hq2'
        obtain ⟨hTu, hTv⟩ := unhide HTU
        have hTu2 := hTu.below hVr
        have hTv2 := hTv.below hVr
        have hIs2 : L2.Is w.heap.size V ⟨n' + 1, A, A', cap1 - 1, cap2 - 1, z :: r, z' :: r'⟩ := ⟨(unhide HT2).1.below hVr, (unhide HT2).2.below hVr, unhide HRN⟩
        have hEs : ∀ z ∈ S, z.Is w.heap.size V := fun z hz => ((unhide HE) z (by simp [hz])).below hVr
        have hx3 : V.cell? ⟨b, off + 3, none⟩ = some (.slice u.tv.a u.tv.len u.tv.cap) := (hVB.cell (p := ⟨b, off + 3, none⟩) hbk).trans hc3
        have hy3 : V.cell? ⟨b', off' + 3, none⟩ = some (.slice v.tv.a v.tv.len v.tv.cap) := (hVB.cell (p := ⟨b', off' + 3, none⟩) hbk').trans hd3
        have htp := hVS.top
        rw [List.length_map] at htp
        obtain ⟨e0, e1, f0, f1⟩ := htp
        simp only at e0 e1
        have hgV := hVS.lt
        have hVsz : w.heap.size ≤ V.heap.size := hVw.size
        have HV := hide (And.intro hVS (And.intro hVw (And.intro hTu2 (And.intro hTv2 (And.intro hIs2 hEs)))))
        clear hVS hVB hVw hVr hTu hTv hTu2 hTv2 hIs2 hEs hgW HS2 HB2 HTU HT2 hc3 hd3
        by_cases hul : u.tv.len = 0
        ·go_wp2_with fail
         obtain ⟨hVS, hVw, hTu2, hTv2, hIs2, hEs⟩ := unhide HV
         have k1 : u.kids = [] := List.length_eq_zero_iff.1 (by rw [← hTu2.1]; exact hul)
         have k2 : v.kids = [] := List.length_eq_zero_iff.1 (by rw [← hTv2.1, ← unhide HLV]; exact hul)
         refine leastK_lt (k := 2 * cntS (S ++ [⟨n' + 1, A, A', cap1 - 1, cap2 - 1, z :: r, z' :: r'⟩]) + (S ++ [(⟨n' + 1, A, A', cap1 - 1, cap2 - 1, z :: r, z' :: r'⟩ : L2)]).length) ⟨g, cp, S ++ [⟨n' + 1, A, A', cap1 - 1, cap2 - 1, z :: r, z' :: r'⟩], by simp, by rw [List.map_append]; exact hVS, fun q hq => ?_, depth2_set (unhide HD) (Nat.le_refl _), ?_, hVw, rfl⟩ ?_
         ·rcases List.mem_append.1 hq with hq | hq
          ·exact hEs q hq
          ·simp at hq; subst hq; exact hIs2
         ·have h := unhide HO2
          rw [k1, k2] at h
          rw [ordS_snoc]
          simpa [lexL, thenC_l0] using h
         ·rw [unhide HM2, cntS_snoc, k1]
          simp only [List.length_append, List.length_cons, List.length_nil, List.flatMap_nil]
          omega
        ·have hul' : 0 < u.tv.len := by omega
         go_wp2_with fail
         obtain ⟨D1, hD1⟩ : ∃ D1, V.drew = D1 := ⟨_, rfl⟩
         have hDB : Below V.heap.size V D1 := by rw [← hD1]; exact (Below.refl _ V).drew
         have hDs : D1.heap.size = V.heap.size := by rw [← hD1]; rfl
         have hDk : D1.cell? ⟨b, off + 3, none⟩ = some (.slice u.tv.a u.tv.len u.tv.cap) ∧ D1.cell? ⟨b', off' + 3, none⟩ = some (.slice v.tv.a v.tv.len v.tv.cap) := by rw [← hD1]; exact ⟨hx3, hy3⟩
         obtain ⟨g', cp', X, hr, hXS, hgr⟩ := ((unhide HV).1.below hDB).push (T := 177) two_lists Tryz.underlying177 (.slice u.tv.a u.tv.len u.tv.cap, .slice v.tv.a v.tv.len v.tv.cap) rfl rfl rfl (by simp only [List.length_append, List.length_map, List.length_cons, List.length_nil]; omega) (by omega)
         simp only [List.length_append, List.length_map, List.length_cons, List.length_nil, Nat.zero_add] at hr
         rw [hDs] at hr
         have hga : D1.grownBy (D1.alloc (.cells #[.slice u.tv.a u.tv.len u.tv.cap, .slice v.tv.a v.tv.len v.tv.cap] 178)) none := World.grownBy_alloc D1 _ none
         have hk1 : (D1.alloc (.cells #[.slice u.tv.a u.tv.len u.tv.cap, .slice v.tv.a v.tv.len v.tv.cap] 178)).cell? ⟨b, off + 3, none⟩ = some (.slice u.tv.a u.tv.len u.tv.cap) ∧ (D1.alloc (.cells #[.slice u.tv.a u.tv.len u.tv.cap, .slice v.tv.a v.tv.len v.tv.cap] 178)).cell? ⟨b', off' + 3, none⟩ = some (.slice v.tv.a v.tv.len v.tv.cap) := ⟨(Below.cell ((Below.refl _ D1).alloc (Nat.le_refl _) _) (p := ⟨b, off + 3, none⟩) (by simp; omega)).trans hDk.1, (Below.cell ((Below.refl _ D1).alloc (Nat.le_refl _) _) (p := ⟨b', off' + 3, none⟩) (by simp; omega)).trans hDk.2⟩
         have hXD : Below w.heap.size D1 X := ((Below.refl w.heap.size D1).grown hga (by omega) (fun k e => by cases e)).grown hgr (by simp; omega) (fun k e => by cases e; exact hg0)
         have hk2 : X.cell? ⟨b, off + 3, none⟩ = some (.slice u.tv.a u.tv.len u.tv.cap) ∧ X.cell? ⟨b', off' + 3, none⟩ = some (.slice v.tv.a v.tv.len v.tv.cap) := ⟨(hXD.cell (p := ⟨b, off + 3, none⟩) hbk).trans hDk.1, (hXD.cell (p := ⟨b', off' + 3, none⟩) hbk').trans hDk.2⟩
         have HX2 := hide (And.intro hXS ((hDB.mono hVsz).trans hXD))
         clear hXS hgr hga hXD hDB
         refine wp_region_noPanic ?_
         refine wp_region_held_drew (S := fun w' => w'.cell? ⟨b, off + 3, none⟩ = some (.slice u.tv.a u.tv.len u.tv.cap) ∧ w'.cell? ⟨b', off' + 3, none⟩ = some (.slice v.tv.a v.tv.len v.tv.cap)) (by kernel_rfl) ?_ (fun hHeld => ?_)
         ·exact ⟨hx3, hy3⟩
         rw [hD1] at hHeld ⊢
         clear hD1
         refine wpAnyH_take (i := 0) (oi := { dst := some 103, op := Op.move (Operand.tmp 6), type := 177, pos := "term.go:137", after := #[], guard := none }) (v := ?_) rfl (by kernel_rfl) (by kernel_rfl) (by kernel_rfl) (fun _ _ _ h => h) (Or.inl ⟨by rfl, ?_⟩) hHeld ?_
         rotate_left
         ·(intro w' hSw; (try dsimp only at hSw); go_simp; try with_reducible rfl)
         try simp only [Act.put, List.setIfInBounds_toArray, List.set_cons_zero, List.set_cons_succ]
         refine wpAnyH_take (i := 1) (oi := { dst := some 104, op := Op.move (Operand.tmp 8), type := 65, pos := "term.go:137", after := #[], guard := none }) (v := ?_) rfl (by kernel_rfl) (by kernel_rfl) (by kernel_rfl) (fun _ _ _ h => h) (Or.inl ⟨by rfl, ?_⟩) hHeld ?_
         rotate_left
         ·(intro w' hSw; (try dsimp only at hSw); go_simp; try with_reducible rfl)
         try simp only [Act.put, List.setIfInBounds_toArray, List.set_cons_zero, List.set_cons_succ]
         refine wpAnyH_take (i := 2) (oi := { dst := some 105, op := Op.nilCheck (Operand.tmp 104), type := 0, pos := "term.go:137", after := #[{ on := 1, ground := Ground.data }], guard := none }) (v := ?_) rfl (by kernel_rfl) (by kernel_rfl) (by kernel_rfl) (fun _ _ _ h => h) (Or.inl ⟨by rfl, ?_⟩) hHeld ?_
         rotate_left
         ·(intro w' hSw; (try dsimp only at hSw); go_simp; try with_reducible rfl)
         try simp only [Act.put, List.setIfInBounds_toArray, List.set_cons_zero, List.set_cons_succ]
         refine wpAnyH_take (i := 3) (oi := { dst := some 106, op := Op.fieldAddr 24 (Operand.tmp 105) 3, type := 0, pos := "term.go:137", after := #[{ on := 2, ground := Ground.data }], guard := none }) (v := ?_) rfl (by kernel_rfl) (by kernel_rfl) (by kernel_rfl) (fun _ _ _ h => h) (Or.inl ⟨by rfl, ?_⟩) hHeld ?_
         rotate_left
         ·(intro w' hSw; (try dsimp only at hSw); go_simp; try with_reducible rfl)
         try simp only [Act.put, List.setIfInBounds_toArray, List.set_cons_zero, List.set_cons_succ]
         refine wpAnyH_take (i := 4) (oi := { dst := some 107, op := Op.load 22 (Operand.tmp 106), type := 22, pos := "term.go:137", after := #[{ on := 3, ground := Ground.data }], guard := none }) (v := ?_) rfl (by kernel_rfl) (by kernel_rfl) (by kernel_rfl) (fun _ _ _ h => h) (Or.inl ⟨by rfl, ?_⟩) hHeld ?_
         rotate_left
         ·(intro w' hSw; (try dsimp only at hSw); go_simp; try with_reducible rfl)
         try simp only [Act.put, List.setIfInBounds_toArray, List.set_cons_zero, List.set_cons_succ]
         refine wpAnyH_take (i := 5) (oi := { dst := some 108, op := Op.move (Operand.tmp 9), type := 65, pos := "term.go:137", after := #[], guard := none }) (v := ?_) rfl (by kernel_rfl) (by kernel_rfl) (by kernel_rfl) (fun _ _ _ h => h) (Or.inl ⟨by rfl, ?_⟩) hHeld ?_
         rotate_left
         ·(intro w' hSw; (try dsimp only at hSw); go_simp; try with_reducible rfl)
         try simp only [Act.put, List.setIfInBounds_toArray, List.set_cons_zero, List.set_cons_succ]
         refine wpAnyH_take (i := 6) (oi := { dst := some 109, op := Op.nilCheck (Operand.tmp 108), type := 0, pos := "term.go:137", after := #[{ on := 5, ground := Ground.data }], guard := none }) (v := ?_) rfl (by kernel_rfl) (by kernel_rfl) (by kernel_rfl) (fun _ _ _ h => h) (Or.inl ⟨by rfl, ?_⟩) hHeld ?_
         rotate_left
         ·(intro w' hSw; (try dsimp only at hSw); go_simp; try with_reducible rfl)
         try simp only [Act.put, List.setIfInBounds_toArray, List.set_cons_zero, List.set_cons_succ]
         refine wpAnyH_take (i := 7) (oi := { dst := some 110, op := Op.fieldAddr 24 (Operand.tmp 109) 3, type := 0, pos := "term.go:137", after := #[{ on := 6, ground := Ground.data }], guard := none }) (v := ?_) rfl (by kernel_rfl) (by kernel_rfl) (by kernel_rfl) (fun _ _ _ h => h) (Or.inl ⟨by rfl, ?_⟩) hHeld ?_
         rotate_left
         ·(intro w' hSw; (try dsimp only at hSw); go_simp; try with_reducible rfl)
         try simp only [Act.put, List.setIfInBounds_toArray, List.set_cons_zero, List.set_cons_succ]
         refine wpAnyH_take (i := 8) (oi := { dst := some 111, op := Op.load 22 (Operand.tmp 110), type := 22, pos := "term.go:137", after := #[{ on := 7, ground := Ground.data }], guard := none }) (v := ?_) rfl (by kernel_rfl) (by kernel_rfl) (by kernel_rfl) (fun _ _ _ h => h) (Or.inl ⟨by rfl, ?_⟩) hHeld ?_
         rotate_left
         ·(intro w' hSw; (try dsimp only at hSw); go_simp; try with_reducible rfl)
         try simp only [Act.put, List.setIfInBounds_toArray, List.set_cons_zero, List.set_cons_succ]
         refine wpAnyH_take (i := 9) (oi := { dst := some 112, op := Op.build 178 #[(0, Operand.tmp 107), (1, Operand.tmp 111)], type := 178, pos := "term.go:137", after := #[{ on := 4, ground := Ground.data }, { on := 8, ground := Ground.data }], guard := none }) (v := ?_) rfl (by kernel_rfl) (by kernel_rfl) (by kernel_rfl) (fun _ _ _ h => h) (Or.inl ⟨by rfl, ?_⟩) hHeld ?_
         rotate_left
         ·(intro w' hSw; (try dsimp only at hSw); go_simp; try with_reducible rfl)
         try simp only [Act.put, List.setIfInBounds_toArray, List.set_cons_zero, List.set_cons_succ]
         refine wpAnyH_ready (rs := [10]) (by kernel_rfl) (by simp) ?_
         refine AllReadyH.cons (o := { dst := some 113, op := Op.buildSlice 177 1 #[(0, Operand.tmp 112)], type := 177, pos := "term.go:137", after := #[{ on := 9, ground := Ground.data }], guard := none }) rfl (fun K hK => ?_) AllReadyH.nil
         have hHold := hHeld
         clear hHeld
         go_simp
         refine hK.out _ _ ?_ (fun hHeld => ?_)
         ·((try dsimp only); exact hk1)
         clear hK K hHold
         try simp only [Act.put, List.setIfInBounds_toArray, List.set_cons_zero, List.set_cons_succ]
         refine wpAnyH_ready (rs := [11]) (by kernel_rfl) (by simp) ?_
         refine AllReadyH.cons (o := { dst := some 114, op := Op.call { callee := Callee.builtin Builtin.append, args := #[Operand.tmp 103, Operand.tmp 113], argTypes := #[177, 177] }, type := 177, pos := "term.go:137", after := #[{ on := 0, ground := Ground.data }, { on := 10, ground := Ground.data }], guard := none }) rfl (fun K hK => ?_) AllReadyH.nil
         have hHold := hHeld
         clear hHeld
         rw [if_pos (by rfl)]
         refine wp_append_row _ _ _ rfl rfl rfl hr ?_
         refine hK.out _ _ ?_ (fun hHeld => ?_)
         ·((try dsimp only); exact hk2)
         clear hK K hHold
         try simp only [Act.put, List.setIfInBounds_toArray, List.set_cons_zero, List.set_cons_succ]
         refine wpAnyH_take (i := 12) (oi := { dst := some 6, op := Op.assign (Operand.tmp 114), type := 177, pos := "term.go:137", after := #[{ on := 11, ground := Ground.data }, { on := 11, ground := Ground.chain }, { on := 0, ground := Ground.phase }, { on := 1, ground := Ground.phase }, { on := 2, ground := Ground.phase }, { on := 3, ground := Ground.phase }, { on := 4, ground := Ground.phase }, { on := 5, ground := Ground.phase }, { on := 6, ground := Ground.phase }, { on := 7, ground := Ground.phase }, { on := 8, ground := Ground.phase }, { on := 9, ground := Ground.phase }, { on := 10, ground := Ground.phase }, { on := 11, ground := Ground.phase }], guard := none }) (v := ?_) rfl (by kernel_rfl) (by kernel_rfl) (by kernel_rfl) (fun _ _ _ h => h) (Or.inl ⟨by rfl, ?_⟩) hHeld ?_
         rotate_left
         ·(intro w' hSw; (try dsimp only at hSw); go_simp; try with_reducible rfl)
         try simp only [Act.put, List.setIfInBounds_toArray, List.set_cons_zero, List.set_cons_succ]
         refine wpAnyH_done (by kernel_rfl) ?_ _
         refine NoPanic.normal ?_
         clear hHeld
         go_wp2_with fail
         obtain ⟨hVS, hVw, hTu2, hTv2, hIs2, hEs⟩ := unhide HV
         obtain ⟨hXS, hXB⟩ := unhide HX2
         have hqd : n' + 1 + S.length ≤ n := unhide HQ
         have hpv := pairL_val hTu2 hTv2
         refine leastK_lt (k := 2 * cntS (S ++ [⟨n' + 1, A, A', cap1 - 1, cap2 - 1, z :: r, z' :: r'⟩] ++ [pairL u v]) + (S ++ [(⟨n' + 1, A, A', cap1 - 1, cap2 - 1, z :: r, z' :: r'⟩ : L2)] ++ [pairL u v]).length) ⟨g', cp', S ++ [⟨n' + 1, A, A', cap1 - 1, cap2 - 1, z :: r, z' :: r'⟩] ++ [pairL u v], by simp, by rw [List.map_append, List.map_cons, List.map_nil, hpv, List.map_append]; exact hXS, fun q hq => ?_, depth2_push (depth2_set (unhide HD) (Nat.le_refl _)) (by simp only [List.length_append, List.length_cons, List.length_nil]; show n' + _ ≤ n; omega), ?_, hVw.trans hXB, rfl⟩ ?_
         ·rcases List.mem_append.1 hq with hq | hq
          ·rcases List.mem_append.1 hq with hq | hq
           ·exact (hEs q hq).below hXB
           ·simp at hq; subst hq; exact hIs2.below hXB
          ·simp at hq; subst hq; exact (pairL_is hTu2 hTv2 (unhide HLV)).below hXB
         ·rw [ordS_snoc, ordS_snoc]
          exact unhide HO2
         ·rw [unhide HM2, cntS_snoc, cntS_snoc]
          simp only [pairL, List.length_append, List.length_cons, List.length_nil]
          omega
      ·have ho' : (oc != 0) = true := by simp [ho]
       have HF : Hid (oc = res) := by
        have h := unhide HO
        rw [ordS_snoc] at h
        show oc = res
        rw [← h]
        simp only [lexL, unhide HOR]
        unfold thenC
        rw [if_pos ho, if_pos ho, if_pos ho]
       clear ho HO
       go_region_held3 (fun w' => w'.cell? ⟨b, off, none⟩ = some (.int .i64 u.tv.k) ∧ w'.cell? ⟨b, off + 1, none⟩ = some (.int .i64 u.tv.N) ∧ w'.cell? ⟨b, off + 2, none⟩ = some (.string u.tv.s) ∧ w'.cell? ⟨b, off + 3, none⟩ = some (.slice u.tv.a u.tv.len u.tv.cap)
        ∧ w'.cell? ⟨b', off', none⟩ = some (.int .i64 v.tv.k) ∧ w'.cell? ⟨b', off' + 1, none⟩ = some (.int .i64 v.tv.N) ∧ w'.cell? ⟨b', off' + 2, none⟩ = some (.string v.tv.s) ∧ w'.cell? ⟨b', off' + 3, none⟩ = some (.slice v.tv.a v.tv.len v.tv.cap)) (go_keep)
        (first | (go_at_call 101; refine hot.mono ?_; clear hot; rintro e W2 ⟨rfl, hb2⟩; have hbc := bcell hb2))
       have HFB : Hid (Below w.heap.size w W2) := (unhide HB).trans (hb2.mono (unhide HB).size)
       clear hb2 hbc
       go_wp2_with fail
       go_ret
       exact ⟨ret_int HF.out, HFB.out⟩
  ·have hc' : (c != 0) = true := by simp [hc]
   have hfin : thenC c (lexL ordT x.kids y.kids) = c := by unfold thenC; rw [if_pos hc]
   rw [hfin]
   clear hc hfin HX HY HLL
   go_enter Tryz.func86, Tryz.ntmps86
   go_wp2_with (go_at_call 101; refine htop.mono ?_; clear htop; rintro e W1 ⟨rfl, ⟨hb1, _⟩, _⟩)
   go_ret
   exact ⟨rfl, hb1⟩
end Go.Proofs.YtlbobmebbllifaaGreat
