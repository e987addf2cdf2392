import Derived.Test.YtlbobmebbllifaaGreatBcKs
import Derived.Test.YtlbobmebbllifaaGreatGvA
/- Two bases built alike, and what may be spoilt beside them. -/
namespace Go.Proofs.YtlbobmebbllifaaGreat
open Go.RowKit Go.Shelf Go.Maps
theorem row4_nofix {W : World} {k cap : Nat} (h : Row4 W k cap) : NoFix W k := fun c t o hk => by
 obtain ⟨arr, h1, _⟩ := h
 rw [h1] at hk
 cases hk
 unfold FixK
 decide
theorem boxC_nofix {W : World} {k : Nat} {x y : TV} (h : BoxC W k x y) : NoFix W k := fun c t o hk => by
 have h1 : W.heap[k]? = _ := h
 rw [h1] at hk
 cases hk
 unfold FixK
 decide
theorem boxT_nofix {W : World} {k : Nat} {x : TV} (h : BoxT W k x) : NoFix W k := fun c t o hk => by
 have h1 : W.heap[k]? = _ := h
 rw [h1] at hk
 cases hk
 unfold FixK
 decide
theorem Spoils.grb {S : Nat → Prop} {A B : World} (h : Spoils S A B) : GrB S A.heap.size A B := ⟨h.os, h.tape, h.output, h.size, fun k hk hn => h.other k hk hn⟩
theorem Spoils.nofix {S : Nat → Prop} {A B : World} (h : Spoils S A B) {k : Nat} (hk : k < A.heap.size) (hS : S k) (hn : NoFix A k) : NoFix B k := by
 by_cases hr : ∃ cap, Row4 A k cap
 ·obtain ⟨cap, hr⟩ := hr
  rcases h.mark k cap hS hr with h1 | h1
  ·exact row4_nofix (hr.kept h1)
  ·exact row4_nofix h1.row
 ·have e := h.kind k hk (fun cap hc => hr ⟨cap, hc⟩)
  intro c t o hc
  exact hn c t o (e ▸ hc)
theorem Mut.spoils {M S : Nat → Prop} {A B : World} (hM : Mut M A) (h : Spoils S A B) (_hS : ∀ k, S k → M k) : Mut M B := fun k hk => by
 obtain ⟨h1, h2⟩ := hM k hk
 refine ⟨Nat.lt_of_lt_of_le h1 h.size, ?_⟩
 by_cases hs : S k
 ·exact h.nofix h1 hs h2
 ·intro c t o hc
  exact h2 c t o ((h.other k h1 hs) ▸ hc)
def StS (n₀ : Nat) (W₁ : World) (b u : Nat) (lb lu : Int) (Eb Eu : List En) (Sp : Nat → Prop) (V : World) : Prop :=
 ∃ M Ob Ou : Nat → Prop, Below n₀ W₁ V ∧ (∀ k, M k → n₀ ≤ k) ∧ n₀ ≤ V.heap.size ∧ TwoB M V b u lb lu Ob Ou Eb Eu ∧ ∀ k, Sp k → M k ∧ ¬ Ob k ∧ ¬ Ou k
section
variable {n₀ : Nat} {W₁ V V' : World} {b u : Nat} {lb lu : Int} {Eb Eu : List En} {Sp : Nat → Prop}
theorem StS.low (h : StS n₀ W₁ b u lb lu Eb Eu Sp V) : Below n₀ W₁ V ∧ n₀ ≤ V.heap.size := by
 obtain ⟨M, Ob, Ou, h1, h2, h3, h4, h5⟩ := h
 exact ⟨h1, h3⟩
theorem StS.below (h : StS n₀ W₁ b u lb lu Eb Eu Sp V) (g : Below V.heap.size V V') : StS n₀ W₁ b u lb lu Eb Eu Sp V' := by
 obtain ⟨M, Ob, Ou, h1, h2, h3, h4, h5⟩ := h
 exact ⟨M, Ob, Ou, h1.trans (g.mono h3), h2, Nat.le_trans h3 g.size, h4.below g, h5⟩
theorem StS.less {Sp' : Nat → Prop} (h : StS n₀ W₁ b u lb lu Eb Eu Sp V) (hs : ∀ k, Sp' k → Sp k) : StS n₀ W₁ b u lb lu Eb Eu Sp' V := by
 obtain ⟨M, Ob, Ou, h1, h2, h3, h4, h5⟩ := h
 exact ⟨M, Ob, Ou, h1, h2, h3, h4, fun k hk => h5 k (hs k hk)⟩
theorem StS.more (h : StS n₀ W₁ b u lb lu Eb Eu Sp V) (g : Below V.heap.size V V') : StS n₀ W₁ b u lb lu Eb Eu (fun k => Sp k ∨ (V.heap.size ≤ k ∧ k < V'.heap.size ∧ NoFix V' k)) V' := by
 obtain ⟨M, Ob, Ou, h1, h2, h3, h4, h5⟩ := h
 have hob : ∀ k, Ob k → k < V.heap.size := fun k hk => (h4.mu k (h4.fst.own hk)).1
 have hou : ∀ k, Ou k → k < V.heap.size := fun k hk => (h4.mu k (h4.snd.own hk)).1
 have gf : GrB (fun _ => False) V.heap.size V V' := GrB.of_below g
 have m1 : ∀ k, M k → M k ∨ (V.heap.size ≤ k ∧ k < V'.heap.size ∧ NoFix V' k) := fun k hk => .inl hk
 have m2 : ∀ k, M k ∨ (V.heap.size ≤ k ∧ k < V'.heap.size ∧ NoFix V' k) → M k ∨ V.heap.size ≤ k := fun k hk => hk.imp id (·.1)
 refine ⟨fun k => M k ∨ (V.heap.size ≤ k ∧ k < V'.heap.size ∧ NoFix V' k), Ob, Ou, h1.trans (g.mono h3), fun k hk => ?_, Nat.le_trans h3 g.size, ⟨fun k hk => ?_, h4.fst.step h4.mu gf (fun _ h => h.elim) m1 m2, h4.snd.step h4.mu gf (fun _ h => h.elim) m1 m2, h4.far⟩, fun k hk => ?_⟩
 ·rcases hk with hk | hk
  ·exact h2 k hk
  ·omega
 ·rcases hk with hk | hk
  ·exact (h4.mu.grow gf (fun _ h => h.elim)) k hk
  ·exact ⟨hk.2.1, hk.2.2⟩
 ·rcases hk with hk | hk
  ·exact ⟨.inl (h5 k hk).1, (h5 k hk).2⟩
  ·exact ⟨.inr hk, fun e => by have := hob k e; omega, fun e => by have := hou k e; omega⟩
theorem StS.spoil {S : Nat → Prop} (h : StS n₀ W₁ b u lb lu Eb Eu Sp V) (g : Spoils S V V') (hS : ∀ k, S k → Sp k) : StS n₀ W₁ b u lb lu Eb Eu Sp V' := by
 obtain ⟨M, Ob, Ou, h1, h2, h3, h4, h5⟩ := h
 have hM : ∀ k, S k → M k := fun k hk => (h5 k (hS k hk)).1
 refine ⟨M, Ob, Ou, h1.trans (g.grb.below (fun k hk => h2 k (hM k hk)) h3), h2, Nat.le_trans h3 g.size, ⟨h4.mu.spoils g hM, h4.fst.frame h4.mu g.grb (fun k hk => ⟨hM k hk, (h5 k (hS k hk)).2.1⟩), h4.snd.frame h4.mu g.grb (fun k hk => ⟨hM k hk, (h5 k (hS k hk)).2.2⟩), h4.far⟩, h5⟩
theorem StS.swap (h : StS n₀ W₁ b u lb lu Eb Eu Sp V) : StS n₀ W₁ u b lu lb Eu Eb Sp V := by
 obtain ⟨M, Ob, Ou, h1, h2, h3, h4, h5⟩ := h
 exact ⟨M, Ou, Ob, h1, h2, h3, h4.swap, fun k hk => ⟨(h5 k hk).1, (h5 k hk).2.2, (h5 k hk).2.1⟩⟩
theorem StS.add (h : StS n₀ W₁ b u lb lu Eb Eu Sp V) (hbig : lb < 1099511627776) {n : Nat} (t : Tm (n + 1)) (hw : Wl t) (hl : (code t).length ≤ 1048576) (hnum : numC (code t)) (hz : (makeR t).1 = 0) {D : Upto 274877906944} {S : Nat → Prop} {x y : TV} (hx : HoldsS D.1 S V x.val (makeR t).2.1) (hy : HoldsS D.1 S V y.val (makeR t).2.2) :
  Calls Tryz.prog 8 #[.pointer (some ⟨b, 0, none⟩), clV x y, .bool false] V fun e V' => (∃ v, e = .returned v) ∧ (∃ z : En, z.say = (lb + 1, (makeR t).2) ∧ StS n₀ W₁ b u (lb + 1) lu (insE Eb z) Eu Sp V') ∧ (∀ k, Sp k → V'.heap[k]? = V.heap[k]?) ∧ V.heap.size ≤ V'.heap.size := by
 obtain ⟨M, Ob, Ou, h1, h2, h3, h4, h5⟩ := h
 refine (add_made h4.fst h4.mu hbig false t hw hl hnum hz hx hy).mono ?_
 rintro e V' ⟨he, A⟩
 obtain ⟨M', O', z, a1, a2, a3, hM', g, hz', hB⟩ := A
 have hsp : ∀ k, Sp k → k < V.heap.size := fun k hk => (h4.mu k (h5 k hk).1).1
 refine ⟨he, ⟨z, hz', M', O', Ou, h1.trans (g.below (fun k hk => h2 k (h4.fst.own hk)) h3), fun k hk => ?_, Nat.le_trans h3 g.size, ⟨hM', hB, h4.snd.step h4.mu g (fun k hk => ⟨h4.fst.own hk, h4.far k hk⟩) a1 a2, fun k k1 k2 => ?_⟩, fun k hk => ⟨a1 k (h5 k hk).1, fun e => ?_, (h5 k hk).2.2⟩⟩, fun k hk => g.block k (hsp k hk) (h5 k hk).2.1, g.size⟩
 ·rcases a2 k hk with hk | hk
  ·exact h2 k hk
  ·omega
 ·rcases a3 k k1 with h6 | h6
  ·exact h4.far k h6 k2
  ·have := (h4.mu k (h4.snd.own k2)).1
   omega
 ·rcases a3 k e with h6 | h6
  ·exact (h5 k hk).2.1 h6
  ·have := hsp k hk
   omega
end
theorem stS_new {W : World} : Calls Tryz.prog 5 #[] W fun e V => ∃ b, e = .returned (.pointer (some ⟨b, 0, none⟩)) ∧ Below W.heap.size W V ∧ ∃ (M O : Nat → Prop), (∀ k, M k → W.heap.size ≤ k) ∧ Mut M V ∧ BaseAt M V b 0 O [] := by
 refine (new_at (M := fun _ => False) (fun k h => h.elim)).mono ?_
 rintro e V ⟨b, M', O, rfl, g, _, a2, _, hM, hB⟩
 exact ⟨b, rfl, g, M', O, fun k hk => (a2 k hk).resolve_left id, hM, hB⟩
theorem stS_new2 {n₀ : Nat} {W₁ V : World} {b : Nat} (h0 : n₀ ≤ V.heap.size) (hb : Below n₀ W₁ V) (h : ∃ (M O : Nat → Prop), (∀ k, M k → n₀ ≤ k) ∧ Mut M V ∧ BaseAt M V b 0 O []) : Calls Tryz.prog 5 #[] V fun e V' => ∃ u, e = .returned (.pointer (some ⟨u, 0, none⟩)) ∧ StS n₀ W₁ b u 0 0 [] [] (fun _ => False) V' := by
 obtain ⟨M, O, h1, h2, h3⟩ := h
 refine (new_at h2).mono ?_
 rintro e V' ⟨u, M', O', rfl, g, a1, a2, a3, hM, hB⟩
 refine ⟨u, rfl, M', O, O', hb.trans (g.mono h0), fun k hk => ?_, Nat.le_trans h0 g.size, ⟨hM, h3.step h2 (GrB.of_below (X := fun _ => False) g) (fun _ h => h.elim) a1 a2, hB, fun k hk hk' => ?_⟩, fun _ h => h.elim⟩
 ·rcases a2 k hk with h | h
  ·exact h1 k h
  ·omega
 ·have := (h2 k (h3.own hk)).1
  have := a3 k hk'
  omega
/- A base and two views alike, and what may be spoilt beside them. -/
def StV (n₀ : Nat) (W₁ : World) (b vb wb : Nat) (laid : Int) (E A1 A2 B1 B2 : List En) (lv lw : Int) (Sp : Nat → Prop) (V : World) : Prop :=
 ∃ M O : Nat → Prop, Below n₀ W₁ V ∧ (∀ k, M k → n₀ ≤ k) ∧ n₀ ≤ V.heap.size ∧ Mut M V ∧ BaseAt M V b laid O E ∧ VOK M V vb A1 A2 lv ∧ VOK M V wb B1 B2 lw ∧ (¬ O vb ∧ ¬ O wb ∧ vb ≠ wb) ∧ ∀ k, Sp k → M k ∧ ¬ O k ∧ k ≠ vb ∧ k ≠ wb
section
variable {n₀ : Nat} {W₁ V V' : World} {b vb wb : Nat} {laid : Int} {E A1 A2 B1 B2 : List En} {lv lw : Int} {Sp : Nat → Prop}
theorem StV.low (h : StV n₀ W₁ b vb wb laid E A1 A2 B1 B2 lv lw Sp V) : Below n₀ W₁ V ∧ n₀ ≤ V.heap.size := by
 obtain ⟨M, O, h1, h2, h3, _⟩ := h
 exact ⟨h1, h3⟩
theorem StV.less {Sp' : Nat → Prop} (h : StV n₀ W₁ b vb wb laid E A1 A2 B1 B2 lv lw Sp V) (hs : ∀ k, Sp' k → Sp k) : StV n₀ W₁ b vb wb laid E A1 A2 B1 B2 lv lw Sp' V := by
 obtain ⟨M, O, h1, h2, h3, h4, h5, h6, h7, h8, h9⟩ := h
 exact ⟨M, O, h1, h2, h3, h4, h5, h6, h7, h8, fun k hk => h9 k (hs k hk)⟩
theorem StV.more (h : StV n₀ W₁ b vb wb laid E A1 A2 B1 B2 lv lw Sp V) (g : Below V.heap.size V V') : StV n₀ W₁ b vb wb laid E A1 A2 B1 B2 lv lw (fun k => Sp k ∨ (V.heap.size ≤ k ∧ k < V'.heap.size ∧ NoFix V' k)) V' := by
 obtain ⟨M, O, h1, h2, h3, h4, h5, h6, h7, h8, h9⟩ := h
 have hob : ∀ k, O k → k < V.heap.size := fun k hk => (h4 k (h5.own hk)).1
 have hvb := (h4 vb h6.mem).1
 have hwb := (h4 wb h7.mem).1
 have gf : GrB (fun _ => False) V.heap.size V V' := GrB.of_below g
 have m1 : ∀ k, M k → M k ∨ (V.heap.size ≤ k ∧ k < V'.heap.size ∧ NoFix V' k) := fun k hk => .inl hk
 have m2 : ∀ k, M k ∨ (V.heap.size ≤ k ∧ k < V'.heap.size ∧ NoFix V' k) → M k ∨ V.heap.size ≤ k := fun k hk => hk.imp id (·.1)
 refine ⟨fun k => M k ∨ (V.heap.size ≤ k ∧ k < V'.heap.size ∧ NoFix V' k), O, h1.trans (g.mono h3), fun k hk => ?_, Nat.le_trans h3 g.size, fun k hk => ?_, h5.step h4 gf (fun _ h => h.elim) m1 m2, h6.step h4 gf (fun _ h => h.elim) m1 m2, h7.step h4 gf (fun _ h => h.elim) m1 m2, h8, fun k hk => ?_⟩
 ·rcases hk with hk | hk
  ·exact h2 k hk
  ·omega
 ·rcases hk with hk | hk
  ·exact (h4.grow gf (fun _ h => h.elim)) k hk
  ·exact ⟨hk.2.1, hk.2.2⟩
 ·rcases hk with hk | hk
  ·exact ⟨.inl (h9 k hk).1, (h9 k hk).2⟩
  ·exact ⟨.inr hk, fun e => by have := hob k e; omega, by omega, by omega⟩
theorem StV.below (h : StV n₀ W₁ b vb wb laid E A1 A2 B1 B2 lv lw Sp V) (g : Below V.heap.size V V') : StV n₀ W₁ b vb wb laid E A1 A2 B1 B2 lv lw Sp V' := (h.more g).less fun _ h => .inl h
theorem StV.spoil {S : Nat → Prop} (h : StV n₀ W₁ b vb wb laid E A1 A2 B1 B2 lv lw Sp V) (g : Spoils S V V') (hS : ∀ k, S k → Sp k) : StV n₀ W₁ b vb wb laid E A1 A2 B1 B2 lv lw Sp V' := by
 obtain ⟨M, O, h1, h2, h3, h4, h5, h6, h7, h8, h9⟩ := h
 have hM : ∀ k, S k → M k := fun k hk => (h9 k (hS k hk)).1
 exact ⟨M, O, h1.trans (g.grb.below (fun k hk => h2 k (hM k hk)) h3), h2, Nat.le_trans h3 g.size, h4.spoils g hM, h5.frame h4 g.grb (fun k hk => ⟨hM k hk, (h9 k (hS k hk)).2.1⟩), h6.kept h4 g.grb (fun k hk => ⟨hM k hk, (h9 k (hS k hk)).2.2.1⟩), h7.kept h4 g.grb (fun k hk => ⟨hM k hk, (h9 k (hS k hk)).2.2.2⟩), h8, h9⟩
theorem StV.swap (h : StV n₀ W₁ b vb wb laid E A1 A2 B1 B2 lv lw Sp V) : StV n₀ W₁ b wb vb laid E B1 B2 A1 A2 lw lv Sp V := by
 obtain ⟨M, O, h1, h2, h3, h4, h5, h6, h7, h8, h9⟩ := h
 exact ⟨M, O, h1, h2, h3, h4, h5, h7, h6, ⟨h8.2.1, h8.1, fun e => h8.2.2 e.symm⟩, fun k hk => ⟨(h9 k hk).1, (h9 k hk).2.1, (h9 k hk).2.2.2, (h9 k hk).2.2.1⟩⟩
theorem StV.next (h : StV n₀ W₁ b vb wb laid E A1 A2 B1 B2 lv lw Sp V) (s : Option (Int × List Nd × List Nd)) (hs : (stepN A1 A2 lv).map En.say = s) :
  Calls Tryz.prog 16 #[.pointer (some ⟨vb, 0, none⟩)] V fun e V' => (∃ (D : Upto 1099511627776) (x y : TV), e = .returned (.tuple #[.int .i64 (ansS s).1, clV x y, .bool (ansS s).2.1]) ∧ HoldsL D.1 (V.heap.size ≤ ·) V' x.val (ansS s).2.2.1 ∧ HoldsL D.1 (V.heap.size ≤ ·) V' y.val (ansS s).2.2.2) ∧ StV n₀ W₁ b vb wb laid E A1 A2 B1 B2 (lastS lv s) lw (fun k => Sp k ∨ (V.heap.size ≤ k ∧ k < V'.heap.size ∧ NoFix V' k)) V' ∧ (∀ k, k < V.heap.size → k ≠ vb → V'.heap[k]? = V.heap[k]?) ∧ V.heap.size ≤ V'.heap.size := by
 obtain ⟨M, O, h1, h2, h3, h4, h5, h6, h7, h8, h9⟩ := h
 refine (next_vok h6 h4 s hs).mono ?_
 rintro e V' ⟨he, g, hM', hV⟩
 have hY : ∀ k, k = vb → M k := fun k hk => hk ▸ h6.mem
 have hob : ∀ k, O k → k < V.heap.size := fun k hk => (h4 k (h5.own hk)).1
 have hvb := (h4 vb h6.mem).1
 have hwb := (h4 wb h7.mem).1
 have m1 : ∀ k, M k → M k ∨ (V.heap.size ≤ k ∧ k < V'.heap.size ∧ NoFix V' k) := fun k hk => .inl hk
 have m2 : ∀ k, M k ∨ (V.heap.size ≤ k ∧ k < V'.heap.size ∧ NoFix V' k) → M k ∨ V.heap.size ≤ k := fun k hk => hk.imp id (·.1)
 refine ⟨he, ⟨fun k => M k ∨ (V.heap.size ≤ k ∧ k < V'.heap.size ∧ NoFix V' k), O, h1.trans (g.below (fun k hk => h2 k (hY k hk)) h3), fun k hk => ?_, Nat.le_trans h3 g.size, fun k hk => ?_, h5.step h4 g (fun k hk => ⟨hY k hk, fun e => h8.1 (hk ▸ e)⟩) m1 m2, ?_, h7.step h4 g (fun k hk => ⟨hY k hk, fun e => h8.2.2 (hk.symm.trans e)⟩) m1 m2, h8, fun k hk => ?_⟩, fun k hk hn => g.block k hk hn, g.size⟩
 ·rcases hk with hk | hk
  ·exact h2 k hk
  ·omega
 ·rcases hk with hk | hk
  ·exact hM' k hk
  ·exact ⟨hk.2.1, hk.2.2⟩
 ·obtain ⟨v1, v2, v3, v4⟩ := hV
  refine ⟨v1, v2, fun e he => ⟨?_, (v3 e he).2⟩, .inl v4⟩
  have h0 := (h6.ents e he).1.step h4 g hY m2
  exact h0
 ·rcases hk with hk | hk
  ·exact ⟨.inl (h9 k hk).1, (h9 k hk).2⟩
  ·exact ⟨.inr hk, fun e => by have := hob k e; omega, by omega, by omega⟩
theorem BaseAt.get {M O : Nat → Prop} {W : World} {b : Nat} {laid : Int} {E : List En} (h : BaseAt M W b laid O E) (hbig : laid ≤ 1048576) {e : En} (he : e ∈ E) :
  Calls Tryz.prog 17 #[.pointer (some ⟨b, 0, none⟩), .int .i64 (max e.pl (-e.pl))] W fun o W' => (∃ (D : Upto 1099511627776) (x y : TV), o = .returned (.tuple #[clV x y, .int .i64 0]) ∧ HoldsL D.1 (W.heap.size ≤ ·) W' x.val e.ch ∧ HoldsL D.1 (W.heap.size ≤ ·) W' y.val e.cb) ∧ Below W.heap.size W W' := by
 obtain ⟨me, mf, ce, cf, ge, gf, F, hB, hO⟩ := h
 obtain ⟨e1, D, S, e2, e3, e4⟩ := hB.ents e he
 have hp := hB.pls e he
 have hid : ge (.int .i64 (max e.pl (-e.pl))) = some ⟨e.eb, 0, none⟩ := by
  rw [hB.get]
  have hf : E.find? (fun y => decide (max y.pl (-y.pl) = max e.pl (-e.pl))) = some e := by
   obtain ⟨y, hy⟩ : ∃ y, E.find? (fun y => decide (max y.pl (-y.pl) = max e.pl (-e.pl))) = some y := Option.isSome_iff_exists.1 (by rw [List.find?_isSome]; exact ⟨e, he, by simp⟩)
   have hy1 := List.find?_some hy
   have hy2 := List.mem_of_find?_eq_some hy
   have hpy := hB.pls y hy2
   simp only [decide_eq_true_eq] at hy1
   have heq : y = e := by
    by_cases hne : y = e
    ·exact hne
    ·have hpl : y.pl ≠ e.pl ∧ y.pl ≠ -e.pl := by
      have h1 : ∀ (l : List En), l.Pairwise (fun a b => a.pl < b.pl) → l.Pairwise (fun a b => a.pl ≠ -b.pl) → y ∈ l → e ∈ l → y ≠ e → y.pl ≠ e.pl ∧ (y.pl ≠ -e.pl ∨ e.pl ≠ -y.pl) := by
       intro l
       induction l with
       | nil => intro _ _ h; cases h
       | cons a l ih =>
        intro p1 p2 m1 m2 hn
        rw [List.pairwise_cons] at p1 p2
        rcases List.mem_cons.1 m1 with rfl | k1 <;> rcases List.mem_cons.1 m2 with rfl | k2
        ·exact absurd rfl hn
        ·have := p1.1 e k2; exact ⟨by omega, .inl (p2.1 e k2)⟩
        ·have := p1.1 y k1; exact ⟨by omega, .inr (p2.1 y k1)⟩
        ·exact ih p1.2 p2.2 k1 k2 hn
      have h2 := h1 E hB.srt hB.ids hy2 he hne
      refine ⟨h2.1, ?_⟩
      rcases h2.2 with h3 | h3
      ·exact h3
      ·omega
     omega
   rw [hy, heq]
  rw [hf]
  rfl
 refine (get_any b me mf e.eb laid e.pl (max e.pl (-e.pl)) ce ge W hB.base hB.ent (by omega) (by omega) hid e1 e2 e3 (hB.oks e he).1 (hB.oks e he).2.1 (by have := D.2; omega)).mono ?_
 rintro o W' ⟨⟨x, y, h1, h2, h3⟩, g⟩
 exact ⟨⟨⟨D.1 + 1, by have := D.2; omega⟩, x, y, h1, h2, h3⟩, g⟩
theorem StV.get (h : StV n₀ W₁ b vb wb laid E A1 A2 B1 B2 lv lw Sp V) (hbig : laid ≤ 1048576) {e : En} (he : e ∈ E) :
  Calls Tryz.prog 17 #[.pointer (some ⟨b, 0, none⟩), .int .i64 (max e.pl (-e.pl))] V fun o W' => (∃ (D : Upto 1099511627776) (x y : TV), o = .returned (.tuple #[clV x y, .int .i64 0]) ∧ HoldsL D.1 (V.heap.size ≤ ·) W' x.val e.ch ∧ HoldsL D.1 (V.heap.size ≤ ·) W' y.val e.cb) ∧ Below V.heap.size V W' := by
 obtain ⟨M, O, h1, h2, h3, h4, h5, h6⟩ := h
 exact h5.get hbig he
end
theorem StS.view {n₀ : Nat} {W₁ V : World} {b u : Nat} {laid : Int} {Eb Eu : List En} {Sp : Nat → Prop} (h : StS n₀ W₁ b u laid laid Eb Eu Sp V) (hE : SameE Eb Eu) (hbig : laid < 1048577) {n : Nat} (tg : Tm (n + 1)) (hT : IsT V.heap.size V tg) (hok : okT tg = true) (hcall : (decide (tg.tv.k = 3) || decide (tg.tv.k = 4)) = true) (hn : numC (code tg)) :
  Calls Tryz.prog 13 #[.pointer (some ⟨b, 0, none⟩), tg.tv.val] V fun e V' => ∃ vb : Nat, e = .returned (.tuple #[.pointer (some ⟨vb, 0, none⟩), .int .i64 0]) ∧ Below V.heap.size V V' ∧
   ∀ {m : Nat} (tu : Tm (m + 1)), code tu = code tg → IsT V'.heap.size V' tu → okT tu = true → (decide (tu.tv.k = 3) || decide (tu.tv.k = 4)) = true →
   Calls Tryz.prog 13 #[.pointer (some ⟨u, 0, none⟩), tu.tv.val] V' fun e V'' => ∃ (wb : Nat) (B1 B2 : List En), e = .returned (.tuple #[.pointer (some ⟨wb, 0, none⟩), .int .i64 0]) ∧ SameE (goalN Eb (code tg)).1 B1 ∧ SameE (goalN Eb (code tg)).2 B2 ∧ Below V'.heap.size V' V'' ∧ StV n₀ W₁ b vb wb laid Eb (goalN Eb (code tg)).1 (goalN Eb (code tg)).2 B1 B2 (-9223372036854775808) (-9223372036854775808) Sp V'' := by
 obtain ⟨M, Ob, Ou, h1, h2, h3, h4, h5⟩ := h
 obtain ⟨me, mf, ce, cf, ge, gf, F, hB, hO⟩ := h4.fst
 refine (view_vok hB h4.mu (by omega) tg hT hok hcall hn).mono ?_
 rintro e V' ⟨vb, rfl, hlo, g, hM', hV⟩
 refine ⟨vb, rfl, g, fun {m} tu hcu hTu hoku hcallu => ?_⟩
 have b1 : Below n₀ W₁ V' := h1.trans (g.mono h3)
 have s1 : n₀ ≤ V'.heap.size := Nat.le_trans h3 g.size
 have g0 := GrB.of_below (X := fun _ => False) g
 have e1 : ∀ k, M k ∨ k = vb → M k ∨ V.heap.size ≤ k := fun k hk => hk.imp id (fun e => by omega)
 have hU := h4.snd.step (M' := fun k => M k ∨ k = vb) h4.mu g0 (fun _ h => h.elim) (fun k hk => .inl hk) e1
 have hBb := h4.fst.step (M' := fun k => M k ∨ k = vb) h4.mu g0 (fun _ h => h.elim) (fun k hk => .inl hk) e1
 obtain ⟨me', mf', ce', cf', ge', gf', F', hB', hO'⟩ := hU
 refine (view_vok hB' hM' (by omega) tu hTu hoku hcallu (by rw [hcu]; exact hn)).mono ?_
 rintro e V'' ⟨wb, rfl, hlo', g', hM'', hV'⟩
 have g1 := GrB.of_below (X := fun _ => False) g'
 have e2 : ∀ k, (M k ∨ k = vb) ∨ k = wb → (M k ∨ k = vb) ∨ V'.heap.size ≤ k := fun k hk => hk.imp id (fun e => by omega)
 have hvl : vb < V'.heap.size := (hM' vb (.inr rfl)).1
 have hsame := goalN_same hE (code tg)
 rw [hcu] at hV'
 have hob : ∀ k, Ob k → k < V.heap.size := fun k hk => (h4.mu k (h4.fst.own hk)).1
 have hsp : ∀ k, Sp k → k < V.heap.size := fun k hk => (h4.mu k (h5 k hk).1).1
 refine ⟨wb, _, _, rfl, hsame.1, hsame.2, g', _, Ob, b1.trans (g'.mono s1), fun k hk => ?_, Nat.le_trans s1 g'.size, hM'', hBb.step hM' g1 (fun _ h => h.elim) (fun k hk => .inl hk) e2, hV.step hM' g1 (fun _ h => h.elim) (fun k hk => .inl hk) e2, hV', ⟨fun hk => by have := hob vb hk; omega, fun hk => by have := hob wb hk; have := g.size; omega, by omega⟩, fun k hk => ⟨.inl (.inl (h5 k hk).1), (h5 k hk).2.1, by have := hsp k hk; omega, by have := hsp k hk; have := g.size; omega⟩⟩
 rcases hk with (hk | rfl) | rfl
 ·exact h2 k hk
 ·omega
 ·omega
end Go.Proofs.YtlbobmebbllifaaGreat
