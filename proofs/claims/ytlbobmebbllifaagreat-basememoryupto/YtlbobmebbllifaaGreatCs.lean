import Derived.Test.YtlbobmebbllifaaGreatWk
import Derived.Test.YtlbobmebbllifaaGreatRfs
/- The contracts of term.parts and its closure, and of term.Check: 0 where every part of the term is well made, else 2; nothing that lay is changed. -/
namespace Go.Proofs.YtlbobmebbllifaaGreat
set_option maxHeartbeats 2000000
open Go.RowKit Go.Shelf
attribute [local go_sem] Oper.semAt_some
def TV.ok (x : TV) : Bool := wmB x.k x.N x.s x.len
def okT {n : Nat} (t : Tm n) : Bool := (parts t).all TV.ok
def chk {n : Nat} (t : Tm n) : Int := if okT t then 0 else 2
theorem chk_yes {n : Nat} {t : Tm n} (h : okT t = true) : chk t = 0 := if_pos h
theorem chk_no {n : Nat} {t : Tm n} (h : okT t = false) : chk t = 2 := if_neg (by simp [h])
def BoxT (W : World) (B : Nat) (x : TV) : Prop := W.heap[B]? = some (.cells #[.int .i64 x.k, .int .i64 x.N, .string x.s, .slice x.a x.len x.cap] 24 (0, 0))
theorem BoxT.lt {W : World} {B : Nat} {x : TV} (h : BoxT W B x) : B < W.heap.size := (Array.getElem?_eq_some_iff.1 h).1
theorem BoxT.c0 {W : World} {B : Nat} {x : TV} (h : BoxT W B x) : W.cell? ⟨B, 0, none⟩ = some (.int .i64 x.k) := by simp [World.cell?, show W.heap[B]? = _ from h]
theorem BoxT.c1 {W : World} {B : Nat} {x : TV} (h : BoxT W B x) : W.cell? ⟨B, 1, none⟩ = some (.int .i64 x.N) := by simp [World.cell?, show W.heap[B]? = _ from h]
theorem BoxT.c2 {W : World} {B : Nat} {x : TV} (h : BoxT W B x) : W.cell? ⟨B, 2, none⟩ = some (.string x.s) := by simp [World.cell?, show W.heap[B]? = _ from h]
theorem BoxT.c3 {W : World} {B : Nat} {x : TV} (h : BoxT W B x) : W.cell? ⟨B, 3, none⟩ = some (.slice x.a x.len x.cap) := by simp [World.cell?, show W.heap[B]? = _ from h]
theorem BoxT.new (W : World) (x : TV) : BoxT (W.alloc (.cells #[.int .i64 x.k, .int .i64 x.N, .string x.s, .slice x.a x.len x.cap] 24)) W.heap.size x := World.alloc_heap_new W _
theorem BoxT.alloc {W : World} {B : Nat} {x : TV} (h : BoxT W B x) (o : Obj) : BoxT (W.alloc o) B x := (Below.heap_alloc W o B h.lt).trans h
theorem boxT_owC {β : Type} (K : Nat) (B : Nat) (f : β → TV) : OwC 22 K (fun s W => BoxT W B (f s)) := fun _ _ _ _ hs hg hr => kept_otherK hg hr (show _ = _ from hs) rfl (by simp [ofK])
theorem parts_in (F : Fence) (n : Nat) (h19 : F.fn 49) (hro : F.round = none) (x : TV) (w : World) :
  CallsIn F n Tryz.prog 49 #[x.val] w fun e w' => e = .returned (.func (.func 67) #[] #[.pointer (some ⟨w.heap.size, 0, none⟩)]) ∧ w' = w.alloc (.cells #[.int .i64 x.k, .int .i64 x.N, .string x.s, .slice x.a x.len x.cap] 24) := by
 refine callsIn_of_wp Tryz.func49 rfl h19 ?_ hro
 simp only [TV.val, Tryz.ntmps49, List.size_toArray, List.length_cons, List.length_nil, Nat.reduceAdd, Nat.reduceSub, Array.replicate_succ, Array.replicate_zero, List.push_toArray, List.append_toArray, List.nil_append, List.cons_append]
 gi_wp2
 go_ret
 exact ⟨rfl, rfl⟩
theorem parts1_in (n l Bt n₀ n₁ Ba : Nat) {d : Nat} (t : Tm d) (J Jx : List TV → World → Prop) (hJ : AbC 22 Ba J)
  (hY : ∀ pre x W, x ∈ parts t → J pre W → pre.length < (parts t).length → YieldAt Fence.wide (n - 1) Tryz.prog l #[TV.val x] W fun e W' =>
   (e = .returned (.bool true) ∧ J (pre ++ [x]) W' ∧ Kp n₀ n₁ W W') ∨ (e = .returned (.bool false) ∧ Jx (pre ++ [x]) W'))
  (W : World) (hBt : BoxT W Bt t.tv) (hT : IsT n₀ W t) (hn0 : n₀ ≤ W.heap.size) (hn : n₁ ≤ W.heap.size) (hBa : Ba ≤ W.heap.size) (h0 : J [] W) :
  CallsIn Fence.wide n Tryz.prog 67 #[.func (.yield l) #[] #[], .pointer (some ⟨Bt, 0, none⟩)] W fun e W' => (∃ v, e = .returned v) ∧
   ((∃ ys, ys = parts t ∧ J ys W') ∨ (∃ pre, pre <+: parts t ∧ Jx pre W')) := by
 cases d with
 | zero => exact Empty.elim t
 | succ d =>
 have hp := walk_in l n₀ n₁ (parts t).length Ba J Jx hJ t (fun m pre x W hx hj hl => YieldAt.anyDepth rfl m (hY pre x W hx hj hl)) (n - 1) W hT hn0 hn hBa h0 (Nat.le_refl _)
 simp only [TV.val] at hp
 have c0 := hBt.c0
 have c1 := hBt.c1
 have c2 := hBt.c2
 have c3 := hBt.c3
 clear hY
 refine callsIn_of_wp Tryz.func67 rfl trivial ?_ rfl
 simp only [Tryz.ntmps67, List.size_toArray, List.length_cons, List.length_nil, Nat.reduceAdd, Nat.reduceSub, Array.replicate_succ, Array.replicate_zero, List.push_toArray, List.append_toArray, List.nil_append, List.cons_append]
 gi_wp2
 refine ⟨trivial, (fun h => by cases h), ?_⟩
 refine hp.mono ?_
 clear hp
 rintro e W1 ⟨⟨v, rfl⟩, hJ1⟩
 gi_wp2
 go_end0
 refine ⟨⟨_, rfl⟩, ?_⟩
 rcases hJ1 with h | ⟨q, hq, hx⟩
 ·exact .inl ⟨_, rfl, h⟩
 ·exact .inr ⟨q, hq, hx⟩
theorem parts_stops (n : Nat) (Bt n₀ n₁ : Nat) {d : Nat} (t : Tm d) (w : World)
  (hc : BoxT w Bt t.tv) (hT : IsT n₀ w t) (hn₀ : n₀ ≤ w.heap.size) (hn₁ : n₁ ≤ w.heap.size) :
  SeqC 22 Fence.wide n Tryz.prog 67 #[.pointer (some ⟨Bt, 0, none⟩)] (fun x : TV => #[TV.val x]) (Kp n₀ n₁) (fun ys => ys = parts t) (fun pre => pre <+: parts t) (parts t).length w := fun l J Jx W hW hJ _ hY h0 =>
 parts1_in n l Bt n₀ n₁ _ t J Jx hJ (fun pre x W _ hj hl => hY pre x W hj hl) W ((hW.block Bt hc.lt).trans hc) (hT.below (hW.mono hn₀)) (Nat.le_trans hn₀ hW.size) (Nat.le_trans hn₁ hW.size) (Nat.le_refl _) h0
set_option maxRecDepth 100000 in
theorem check_in (n : Nat) (hn : 3 ≤ n) {d : Nat} (t : Tm d) (w : World) (hT : IsT w.heap.size w t) :
  CallsIn Fence.wide n Tryz.prog 35 #[t.tv.val] w fun e W' => e = .returned (.int .i64 (chk t)) ∧ Below w.heap.size w W' := by
 have h1 : 1 ≤ n := by omega
 generalize hx0 : t.tv = x0
 have Hx0 := hide hx0
 clear hx0
 refine callsIn_of_wp_marks Tryz.func35 rfl trivial ?_ rfl
 simp only [TV.val, Tryz.ntmps35, List.size_toArray, List.length_cons, List.length_nil, Nat.reduceAdd, Nat.reduceSub, Array.replicate_succ, Array.replicate_zero, List.push_toArray, List.append_toArray, List.nil_append, List.cons_append]
 gi_wp2_with (refine ⟨trivial, ?_⟩; gi_at_call 49; refine (parts_in Fence.wide (n - 1) trivial rfl x0 _).mono ?_; rintro e w' ⟨rfl, rfl⟩)
 have bR := (Boxed.new (w.alloc (.cells #[.int .i64 x0.k, .int .i64 x0.N, .string x0.s, .slice x0.a x0.len x0.cap] 24)) 31 (.int .i64 0)).alloc (.cells #[.int .i64 x0.k, .int .i64 x0.N, .string x0.s, .slice x0.a x0.len x0.cap] 24)
 have bT := BoxT.new ((w.alloc (.cells #[.int .i64 x0.k, .int .i64 x0.N, .string x0.s, .slice x0.a x0.len x0.cap] 24)).alloc (.cells #[.int .i64 0] 31)) x0
 simp only [World.size_alloc] at bR bT
 have hB0 : Below w.heap.size w (((w.alloc (.cells #[.int .i64 x0.k, .int .i64 x0.N, .string x0.s, .slice x0.a x0.len x0.cap] 24)).alloc (.cells #[.int .i64 0] 31)).alloc (.cells #[.int .i64 x0.k, .int .i64 x0.N, .string x0.s, .slice x0.a x0.len x0.cap] 24)) := (((Below.refl _ w).alloc (Nat.le_refl _) _).alloc (by simp) _).alloc (by simp; omega) _
 have hsz : (((w.alloc (.cells #[.int .i64 x0.k, .int .i64 x0.N, .string x0.s, .slice x0.a x0.len x0.cap] 24)).alloc (.cells #[.int .i64 0] 31)).alloc (.cells #[.int .i64 x0.k, .int .i64 x0.N, .string x0.s, .slice x0.a x0.len x0.cap] 24)).heap.size = w.heap.size + 3 := by simp
 obtain ⟨W0, hW0⟩ : ∃ W0, ((w.alloc (.cells #[.int .i64 x0.k, .int .i64 x0.N, .string x0.s, .slice x0.a x0.len x0.cap] 24)).alloc (.cells #[.int .i64 0] 31)).alloc (.cells #[.int .i64 x0.k, .int .i64 x0.N, .string x0.s, .slice x0.a x0.len x0.cap] 24) = W0 := ⟨_, rfl⟩
 rw [hW0] at bR bT hB0 hsz ⊢
 clear hW0
 refine rangeC (k := 22) rfl h1 (gf := 67) (lb := #[.pointer (some ⟨w.heap.size + 1 + 1, 0, none⟩)]) rfl trivial (enters_of Tryz.func67 (by kernel_rfl) rfl)
  (parts_stops (n - 1) (w.heap.size + 1 + 1) w.heap.size W0.heap.size t W0 (by rw [unhide Hx0]; exact bT) (hT.below hB0) (by omega) (Nat.le_refl _)) Kp.trans (Kp.putObj (w := W0)) (Below.refl _ _) (fun _ => rfl)
  (fun pre W => ((pre.all TV.ok = true) ∧ Boxed W (w.heap.size + 1) 31 (.int .i64 0)) ∧ Below w.heap.size w W)
  (fun c pre W => ((c = .ret ∧ pre.all TV.ok = false) ∧ Boxed W (w.heap.size + 1) 31 (.int .i64 2)) ∧ Below w.heap.size w W)
  (OwC.and (OwC.and (owC_pure _ _ _) (owC_boxed _ _ _ _ _ rfl)) (owC_below (by omega) (Nat.le_refl _)))
  (fun c => OwC.and (OwC.and (owC_pure _ _ _) (owC_boxed _ _ _ _ _ rfl)) (owC_below (by omega) (Nat.le_refl _)))
  ⟨⟨rfl, bR⟩, hB0⟩
  (fun x a' W => ∃ Bx, w.heap.size + 1 < Bx ∧ BoxT W Bx x ∧ a' = { tmps := #[.agg #[.int .i64 x0.k, .int .i64 x0.N, .string x0.s, .slice x0.a x0.len x0.cap], .pointer (some ⟨w.heap.size, 0, none⟩), .pointer (some ⟨w.heap.size + 1, 0, none⟩), .pointer (some ⟨Bx, 0, none⟩), .agg #[.int .i64 x0.k, .int .i64 x0.N, .string x0.s, .slice x0.a x0.len x0.cap], .func (.func 67) #[] #[.pointer (some ⟨w.heap.size + 1 + 1, 0, none⟩)], x.val, undef, undef, undef], defers := [] })
  (fun x a' _ X Y row hs hg hr => by obtain ⟨Bx, h1, h2, h3⟩ := hs; exact ⟨Bx, h1, boxT_owC _ Bx (fun (_ : Unit) => x) () X Y row h2 hg hr, h3⟩)
  ?assign ?body ?done ?stop
 case assign =>
  rintro l pre x W K ⟨⟨hp, bR1⟩, hB1⟩ hK
  simp only [TV.val]
  gi_wp2
  exact hK _ _ ((KeepsOthers.alloc _ _).from _) ((Kp.refl _ _ W).alloc _) ⟨⟨hp, bR1.alloc _⟩, hB1.alloc hB1.size _⟩ ⟨W.heap.size, bR1.lt, BoxT.new W x, rfl⟩
 case body =>
  rintro l pre x a' W hl ⟨r, hr⟩ ⟨⟨hp, bR1⟩, hB1⟩ ⟨Bx, hBx, bX, rfl⟩ hlt
  have c0 := bX.c0
  have c1 := bX.c1
  have c2 := bX.c2
  have c3 := bX.c3
  have h1' : 1 ≤ n - 1 - 1 := by omega
  have bR2 := bR1.alloc (.cells #[.int .i64 x.k, .int .i64 x.N, .string x.s, .slice x.a x.len x.cap] 24)
  have cR := bR2.cell
  have fR := bR2.frozen
  cases hw : wmB x.k x.N x.s x.len with
  | true =>
   gi_wp2_with (refine ⟨trivial, ?_⟩; gi_at_call 50; refine (CallsIn.inRound l (callsIn_wide.2 (wm_any _ _ _ _ _ _ _))).mono ?_; rintro e w' ⟨rfl, rfl⟩)
   exact ⟨(KeepsOthers.alloc _ _).from _, (Kp.refl _ _ W).alloc _, ⟨⟨by simp [hp, TV.ok, hw], bR2⟩, hB1.alloc hB1.size _⟩⟩
  | false =>
   gi_wp2_with (refine ⟨trivial, ?_⟩; gi_at_call 50; refine (CallsIn.inRound l (callsIn_wide.2 (wm_any _ _ _ _ _ _ _))).mono ?_; rintro e w' ⟨rfl, rfl⟩)
   exact ⟨((KeepsOthers.alloc _ _).trans (KeepsOthers.setCell _ _ _)).from _, ⟨⟨⟨rfl, by simp [TV.ok, hw]⟩, bR2.set _⟩, (hB1.alloc hB1.size _).setCell (p := ⟨w.heap.size + 1, 0, none⟩) (by simp) _⟩⟩
 case done =>
  rintro D ys W hD rfl ⟨⟨hp, bR1⟩, hB1⟩ hK
  have cR := bR1.cell
  have fR := bR1.frozen
  gi_wp2
  have hK' := (KeepsOthers.setCell W ⟨w.heap.size + 1, 0, none⟩ (.int .i64 0)).same D _ hK rfl
  refine ⟨by simp, .inl ⟨_, _, rfl, run_takeDeferred hK', ?_⟩⟩
  have hc5 := cell_kept (World.cell?_setCell_same' W ⟨w.heap.size + 1, 0, none⟩ (.int .i64 0) (by rw [cR]; rfl)) (grownBy_putObj' _ D (.deferred none)) (fun r e => by cases e; exact ⟨_, hK', rfl⟩)
  refine ⟨.int .i64 0, ?_, by rw [chk_yes hp], (hB1.setCell (p := ⟨w.heap.size + 1, 0, none⟩) (by simp) _).trans (belowK_b (w := w) (Nat.le_refl _) _ D _ _ (by omega) hK' rfl rfl)⟩
  simp [results, Tryz.f35, go_sem, hc5]
 case stop =>
  rintro D c pre W hD hpre ⟨⟨⟨rfl, hp⟩, bR1⟩, hB1⟩ hK
  have cR := bR1.cell
  have fR := bR1.frozen
  gi_wp2
  refine ⟨by simp, .inl ⟨_, _, rfl, run_takeDeferred hK, ?_⟩⟩
  have hc5 := cell_kept cR (grownBy_putObj' _ D (.deferred none)) (fun r e => by cases e; exact ⟨_, hK, rfl⟩)
  have hno : okT t = false := by
   unfold okT
   obtain ⟨r, hr⟩ := hpre
   rw [← hr, List.all_append, hp, Bool.false_and]
  refine ⟨.int .i64 2, ?_, by rw [chk_no hno], hB1.trans (belowK_b (w := w) (Nat.le_refl _) W D _ _ (by omega) hK rfl rfl)⟩
  simp [results, Tryz.f35, go_sem, hc5]
theorem check_any {d : Nat} (t : Tm d) (w : World) (hT : IsT w.heap.size w t) :
  Calls Tryz.prog 35 #[t.tv.val] w fun e W' => e = .returned (.int .i64 (chk t)) ∧ Below w.heap.size w W' :=
 callsIn_wide.1 (check_in 3 (Nat.le_refl _) t w hT)
/- Plain mathematics: comparisons (IsCmp), put behind one another and lifted to lists; the order of terms (ordT) is a total one, and answers 0 just where the terms are the same (sameT). -/
def cmp3 (a b : Int) : Int := if a < b then -1 else if b < a then 1 else 0
def thenC (c d : Int) : Int := if c ≠ 0 then c else d
structure IsCmp {α : Type} (f : α → α → Int) : Prop where
 range : ∀ a b, -1 ≤ f a b ∧ f a b ≤ 1
 anti : ∀ a b, f b a = - f a b
 trans : ∀ a b c, f a b ≤ 0 → f b c ≤ 0 → f a c ≤ 0 ∧ (f a c = 0 → f a b = 0 ∧ f b c = 0)
theorem thenC_zero {c d : Int} : thenC c d = 0 ↔ c = 0 ∧ d = 0 := by
 unfold thenC; split <;> omega
theorem cmp3_zero {a b : Int} : cmp3 a b = 0 ↔ a = b := by
 unfold cmp3; split <;> (try split) <;> omega
def lexL {α : Type} (f : α → α → Int) : List α → List α → Int
 | [], [] => 0
 | [], _ :: _ => -1
 | _ :: _, [] => 1
 | a :: r, b :: s => thenC (f a b) (lexL f r s)
def all2 {α : Type} (f : α → α → Bool) : List α → List α → Bool
 | [], [] => true
 | a :: r, b :: s => f a b && all2 f r s
 | _, _ => false
theorem lexL_zero {α : Type} {f : α → α → Int} {g : α → α → Bool} (h : ∀ a b, f a b = 0 ↔ g a b = true) : ∀ a b : List α, lexL f a b = 0 ↔ all2 g a b = true := by
 intro a
 induction a with
 | nil => intro b; cases b <;> simp [lexL, all2]
 | cons x a ih =>
  intro b
  cases b with
  | nil => simp [lexL, all2]
  | cons y b => simp only [lexL, all2, thenC_zero, Bool.and_eq_true, h, ih]
/-! ### names -/
def cmpS (a b : List UInt8) : Int := if Op.bytesLess a b = true then -1 else if a = b then 0 else 1
theorem cmpS_eq : ∀ a b : List UInt8, cmpS a b = lexL (fun x y : UInt8 => cmp3 x.toNat y.toNat) a b := by
 intro a
 induction a with
 | nil => intro b; cases b <;> simp [cmpS, lexL, Op.bytesLess]
 | cons x a ih =>
  intro b
  cases b with
  | nil => simp [cmpS, lexL, Op.bytesLess]
  | cons y b =>
   simp only [lexL, ← ih b]
   simp only [cmpS, Op.bytesLess, cmp3, thenC]
   by_cases h1 : x < y
   ·have h1' : (x.toNat : Int) < y.toNat := by have := UInt8.lt_iff_toNat_lt.1 h1; omega
    simp [h1, h1']
   ·have h1' : ¬ (x.toNat : Int) < y.toNat := by intro h; exact h1 (UInt8.lt_iff_toNat_lt.2 (by omega))
    by_cases h2 : x = y
    ·subst h2; simp [h1]
    ·have h2' : (y.toNat : Int) < x.toNat := by
      have : x.toNat ≠ y.toNat := fun h => h2 (UInt8.toNat_inj.1 h)
      omega
     simp [h1, h1', h2, h2']
theorem cmpS_zero {a b : List UInt8} : cmpS a b = 0 ↔ a = b := by
 have h := lexL_zero (f := fun x y : UInt8 => cmp3 x.toNat y.toNat) (g := fun x y => x == y) (fun x y => by rw [cmp3_zero, beq_iff_eq, ← UInt8.toNat_inj]; omega) a b
 rw [cmpS_eq, h]
 clear h
 induction a generalizing b with
 | nil => cases b <;> simp [all2]
 | cons x a ih =>
  cases b with
  | nil => simp [all2]
  | cons y b => simp [all2, ih]
/-! ### terms -/
def otop (x y : TV) : Int := thenC (cmp3 x.k y.k) (thenC (cmp3 x.N y.N) (thenC (cmp3 x.len y.len) (cmpS x.s.toList y.s.toList)))
def stop (x y : TV) : Bool := decide (x.k = y.k) && (decide (x.N = y.N) && (decide (x.s.toList = y.s.toList) && decide (x.len = y.len)))
def ordT : {n : Nat} → Tm n → Tm n → Int
 | 0, _, _ => 0
 | _ + 1, a, b => thenC (otop a.tv b.tv) (lexL ordT a.kids b.kids)
def sameT : {n : Nat} → Tm n → Tm n → Bool
 | 0, _, _ => true
 | _ + 1, a, b => stop a.tv b.tv && all2 sameT a.kids b.kids
theorem otop_zero {x y : TV} : otop x y = 0 ↔ stop x y = true := by
 simp only [otop, stop, thenC_zero, cmp3_zero, cmpS_zero, Bool.and_eq_true, decide_eq_true_eq, Int.ofNat_inj]
 constructor
 ·rintro ⟨h1, h2, h3, h4⟩; exact ⟨h1, h2, h4, h3⟩
 ·rintro ⟨h1, h2, h4, h3⟩; exact ⟨h1, h2, h3, h4⟩
theorem ord_zero : ∀ {n : Nat} (a b : Tm n), ordT a b = 0 ↔ sameT a b = true
 | 0, a, _ => Empty.elim a
 | n + 1, a, b => by
  simp only [ordT, sameT, thenC_zero, Bool.and_eq_true, otop_zero]
  rw [lexL_zero (fun x y => ord_zero (n := n) x y)]
end Go.Proofs.YtlbobmebbllifaaGreat
