import Derived.Test.YtjdanfhbccpnpaaBdUs
import Derived.Test.YtjdanfhbccpnpaaBcK
/- A base in memory, told by its own blocks and its entries alone (BaseAt); Add, Remove, New over it; what Make made is laid down. -/
namespace Go.Proofs.Ytjdanfhbccpnpaa
open Go.RowKit Go.Shelf Go.Maps

/-- A base at block b: how many were laid down, its own blocks, its entries. -/
def BaseAt (M : Nat → Prop) (W : World) (b : Nat) (laid : Int) (O : Nat → Prop) (E : List En) : Prop :=
  ∃ (me mf ce cf : Nat) (ge gf : Lit → Option Addr) (F : Lit → Option Fam), BOK M W b me mf laid ce cf ge gf F E ∧ ∀ k, O k ↔ Own b me mf F k
theorem BaseAt.own {M : Nat → Prop} {W : World} {b : Nat} {laid : Int} {O : Nat → Prop} {E : List En} (h : BaseAt M W b laid O E) {k : Nat} (hk : O k) : M k := by
  obtain ⟨me, mf, ce, cf, ge, gf, F, hB, hO⟩ := h
  rcases (hO k).1 hk with rfl | rfl | rfl | ⟨p, f, hf, rfl | rfl⟩
  · exact hB.mem.1
  · exact hB.mem.2.1
  · exact hB.mem.2.2.1
  · exact (hB.mem.2.2.2 p f hf).1
  · exact (hB.mem.2.2.2 p f hf).2
theorem BaseAt.frame {M Y : Nat → Prop} {W W' : World} {b : Nat} {laid : Int} {O : Nat → Prop} {E : List En} (h : BaseAt M W b laid O E) (hM : Mut M W) (g : GrB Y W.heap.size W W') (hY : ∀ k, Y k → M k ∧ ¬ O k) : BaseAt M W' b laid O E := by
  obtain ⟨me, mf, ce, cf, ge, gf, F, hB, hO⟩ := h
  refine ⟨me, mf, ce, cf, ge, gf, F, hB.frame hM g (fun k hk => ?_), hO⟩
  have hn : ¬ Own b me mf F k := fun h => (hY k hk).2 ((hO k).2 h)
  exact ⟨(hY k hk).1, fun e => hn (.inl e), fun e => hn (.inr (.inl e)), fun e => hn (.inr (.inr (.inl e))), fun p f hf => ⟨fun e => hn (.inr (.inr (.inr ⟨p, f, hf, .inl e⟩))), fun e => hn (.inr (.inr (.inr ⟨p, f, hf, .inr e⟩)))⟩⟩
theorem BaseAt.more {M M' : Nat → Prop} {W : World} {b : Nat} {laid : Int} {O : Nat → Prop} {E : List En} (h : BaseAt M W b laid O E) (h1 : ∀ k, M k → M' k) (h2 : ∀ k, M' k → M k ∨ W.heap.size ≤ k) : BaseAt M' W b laid O E := by
  obtain ⟨me, mf, ce, cf, ge, gf, F, hB, hO⟩ := h
  exact ⟨me, mf, ce, cf, ge, gf, F, hB.more h1 h2, hO⟩
theorem BOK.step {M M' Y : Nat → Prop} {W W' : World} {b me mf : Nat} {laid : Int} {ce cf : Nat} {ge gf : Lit → Option Addr} {F : Lit → Option Fam} {E : List En} (h : BOK M W b me mf laid ce cf ge gf F E) (hM : Mut M W) (g : GrB Y W.heap.size W W') (hY : ∀ k, Y k → M k ∧ k ≠ b ∧ k ≠ me ∧ k ≠ mf ∧ ∀ p f, F p = some f → k ≠ f.fb ∧ k ≠ f.km) (h1 : ∀ k, M k → M' k) (h2 : ∀ k, M' k → M k ∨ W.heap.size ≤ k) : BOK M' W' b me mf laid ce cf ge gf F E :=
  { h.frame hM g hY with
    ents := fun e he => (h.ents e he).step hM g (fun k hk => (hY k hk).1) h2
    mem := ⟨h1 _ h.mem.1, h1 _ h.mem.2.1, h1 _ h.mem.2.2.1, fun p f hp => ⟨h1 _ (h.mem.2.2.2 p f hp).1, h1 _ (h.mem.2.2.2 p f hp).2⟩⟩ }
theorem BaseAt.step {M M' Y : Nat → Prop} {W W' : World} {b : Nat} {laid : Int} {O : Nat → Prop} {E : List En} (h : BaseAt M W b laid O E) (hM : Mut M W) (g : GrB Y W.heap.size W W') (hY : ∀ k, Y k → M k ∧ ¬ O k) (h1 : ∀ k, M k → M' k) (h2 : ∀ k, M' k → M k ∨ W.heap.size ≤ k) : BaseAt M' W' b laid O E := by
  obtain ⟨me, mf, ce, cf, ge, gf, F, hB, hO⟩ := h
  refine ⟨me, mf, ce, cf, ge, gf, F, hB.step hM g (fun k hk => ?_) h1 h2, hO⟩
  have hn : ¬ Own b me mf F k := fun h => (hY k hk).2 ((hO k).2 h)
  exact ⟨(hY k hk).1, fun e => hn (.inl e), fun e => hn (.inr (.inl e)), fun e => hn (.inr (.inr (.inl e))), fun p f hf => ⟨fun e => hn (.inr (.inr (.inr ⟨p, f, hf, .inl e⟩))), fun e => hn (.inr (.inr (.inr ⟨p, f, hf, .inr e⟩)))⟩⟩
theorem new_at {M : Nat → Prop} {W : World} (hM : Mut M W) : Calls Try.prog 6 #[] W fun e W' => ∃ (b : Nat) (M' O : Nat → Prop), e = .returned (.pointer (some ⟨b, 0, none⟩)) ∧ Below W.heap.size W W' ∧ (∀ k, M k → M' k) ∧ (∀ k, M' k → M k ∨ W.heap.size ≤ k) ∧ (∀ k, O k → W.heap.size ≤ k) ∧ Mut M' W' ∧ BaseAt M' W' b 0 O [] := by
  refine (new_bok hM).mono ?_
  rintro e W' ⟨b, me, mf, rfl, h1, h2, h3, g, hM', hB⟩
  refine ⟨b, _, Own b me mf (fun _ => none), rfl, g, fun k hk => .inl hk, fun k hk => ?_, fun k hk => ?_, hM', me, mf, 0, 0, _, _, _, hB, fun k => Iff.rfl⟩
  · rcases hk with hk | rfl | rfl | rfl
    · exact .inl hk
    · exact .inr h1
    · exact .inr h2
    · exact .inr h3
  · rcases hk with rfl | rfl | rfl | ⟨p, f, hf, _⟩
    · exact h1
    · exact h2
    · exact h3
    · cases hf
/-- The place of a clause that is laid down as the laid-th. -/
def plOf (laid : Int) (first : Bool) : Int := if first = true then -(laid + 1) else laid + 1
/-- What stands behind an Add. -/
def AddAt (M : Nat → Prop) (W : World) (b : Nat) (laid : Int) (O : Nat → Prop) (E : List En) (s : Int × List Nd × List Nd) (W' : World) : Prop :=
  ∃ (M' O' : Nat → Prop) (x : En), (∀ k, M k → M' k) ∧ (∀ k, M' k → M k ∨ W.heap.size ≤ k) ∧ (∀ k, O' k → O k ∨ W.heap.size ≤ k) ∧ Mut M' W' ∧ GrB O W.heap.size W W' ∧ x.say = s ∧ BaseAt M' W' b (laid + 1) O' (insE E x)
theorem add_at {M : Nat → Prop} {W : World} {b : Nat} {laid : Int} {O : Nat → Prop} {E : List En} (h : BaseAt M W b laid O E) (hM : Mut M W) (hbig : laid < 1099511627776) (first : Bool) {n : Nat} (th tb : Tm (n + 1)) (hTH : IsT W.heap.size W th) (hTB : IsT W.heap.size W tb) (hl : 2 * ((code th).length + (code tb).length + 1) ≤ 4194304) (hrem : remE th tb = 0) (hnum : numC (code th)) (hn38 : n ≤ 274877906944 := by omega) :
    Calls Try.prog 8 #[.pointer (some ⟨b, 0, none⟩), clV th.tv tb.tv, .bool first] W fun e W' => (∃ v, e = .returned v) ∧ AddAt M W b laid O E (plOf laid first, code th, code tb) W' := by
  obtain ⟨me, mf, ce, cf, ge, gf, F, hB, hO⟩ := h
  have fin : ∀ (pl : Int) (e : Ending) (W' : World), ((∃ v, e = .returned v) ∧ Added M W b me mf laid F E pl (code th) (code tb) W') → (∃ v, e = .returned v) ∧ AddAt M W b laid O E (pl, code th, code tb) W' := by
    rintro pl e W' ⟨he, M', a1, a2, a3, g, ce', cf', ge', gf', F', x, x1, x2, x3, o1, hB'⟩
    refine ⟨he, M', Own b me mf F', x, a1, a2, fun k hk => (o1 k hk).imp (fun h => (hO k).2 h) id, a3, ⟨g.os, g.tape, g.output, g.size, fun k hk hn => g.block k hk (fun e => hn ((hO k).2 e))⟩, ?_, me, mf, ce', cf', ge', gf', F', hB', fun k => Iff.rfl⟩
    show (x.pl, x.ch, x.cb) = _
    rw [x1, x2, x3]
  cases first with
  | false => exact (add_bok_last hB hM hbig th tb hTH hTB hl hrem hnum).mono fun e W' h => fin _ e W' h
  | true => exact (add_bok_first hB hM hbig th tb hTH hTB hl hrem hnum).mono fun e W' h => fin _ e W' h
theorem remove_at {M : Nat → Prop} {W : World} {b : Nat} {laid : Int} {O : Nat → Prop} {E : List En} (h : BaseAt M W b laid O E) (hM : Mut M W) (hbig : laid < 1099511627776) (id : Int) (hid0 : -9223372036854775808 ≤ id) (hid1 : id ≤ 9223372036854775807) :
    Calls Try.prog 10 #[.pointer (some ⟨b, 0, none⟩), .int .i64 id] W fun e W' => (∃ v, e = .returned v) ∧ GrB O W.heap.size W W' ∧ Mut M W' ∧ ∃ (O' : Nat → Prop) (E' : List En), (∀ k, O' k → O k) ∧ BaseAt M W' b laid O' E' := by
  obtain ⟨me, mf, ce, cf, ge, gf, F, hB, hO⟩ := h
  refine (remove_bok hB hM hbig id hid0 hid1).mono ?_
  rintro e W' ⟨he, g, hM', ge', F', E', o1, hB'⟩
  exact ⟨he, ⟨g.os, g.tape, g.output, g.size, fun k hk hn => g.block k hk (fun e => hn ((hO k).2 e))⟩, hM', Own b me mf F', E', fun k hk => (hO k).2 (o1 k hk), me, mf, ce, cf, ge', gf, F', hB', fun k => Iff.rfl⟩
/-- base.Make, its answer in new memory. -/
theorem bmake_new {n : Nat} (t : Tm (n + 1)) (W : World) (hT : IsT W.heap.size W t) (hl : 2 * (code t).length ≤ 4194304) (hn20 : n ≤ 1048576 := by omega) :
    Calls Try.prog 7 #[t.tv.val] W fun e W' => (∃ (D : Upto 274877906944) (x y : TV), e = .returned (.tuple #[clV x y, .int .i64 (makeR t).1]) ∧ HoldsS D.1 (W.heap.size ≤ ·) W' x.val (makeR t).2.1 ∧ HoldsS D.1 (W.heap.size ≤ ·) W' y.val (makeR t).2.2) ∧ Below W.heap.size W W' := by
  unfold makeR
  cases hok : okT t with
  | false =>
    refine (bmake_bad t W hT hok).mono fun e W' h => ⟨?_, h.2⟩
    rw [if_neg (by simp)]
    exact ⟨⟨1, by omega⟩, noTerm, noTerm, h.1, (no_holds 1 W.heap.size (Nat.le_refl _) W').holdsS, (no_holds 1 W.heap.size (Nat.le_refl _) W').holdsS⟩
  | true =>
    refine (bmake_ok t W hT hok hl).mono fun e W' h => ⟨?_, h.2⟩
    rw [if_pos rfl]
    obtain ⟨x, y, h1, h2⟩ := h.1
    cases hm : makeC t with
    | none =>
      rw [hm] at h1 h2
      obtain ⟨rfl, rfl⟩ := h2
      exact ⟨⟨1, by omega⟩, noTerm, noTerm, h1, (no_holds 1 W.heap.size (Nat.le_refl _) W').holdsS, (no_holds 1 W.heap.size (Nat.le_refl _) W').holdsS⟩
    | some c =>
      rw [hm] at h1 h2
      obtain ⟨c1, c2⟩ := c
      exact ⟨⟨n + 3, by omega⟩, x, y, h1, h2.1, h2.2⟩
/-- What Make made of a term is laid down. -/
theorem add_made {M : Nat → Prop} {W : World} {b : Nat} {laid : Int} {O : Nat → Prop} {E : List En} (h : BaseAt M W b laid O E) (hM : Mut M W) (hbig : laid < 1099511627776) (first : Bool) {n : Nat} (t : Tm (n + 1)) (hw : Wl t) (hl : (code t).length ≤ 1048576) (hnum : numC (code t)) (h0 : (makeR t).1 = 0) {D : Upto 274877906944} {S : Nat → Prop} {x y : TV} (hx : HoldsS D.1 S W x.val (makeR t).2.1) (hy : HoldsS D.1 S W y.val (makeR t).2.2) :
    Calls Try.prog 8 #[.pointer (some ⟨b, 0, none⟩), clV x y, .bool first] W fun e W' => (∃ v, e = .returned v) ∧ AddAt M W b laid O E (plOf laid first, (makeR t).2) W' := by
  obtain ⟨hok, hmk⟩ := makeR_ok h0
  obtain ⟨th, tb, rfl, rfl, hTH, hTB, ch, cb⟩ := holds_two_terms hx hy
  obtain ⟨-, -, hp0, -⟩ := make_back hw hok (by omega) hmk th tb hTH.wl hTB.wl ch cb
  have hlen := make_len hw hok hl hmk
  have hn := make_num hw hok hl hnum hmk
  refine (add_at h hM hbig first th tb hTH hTB (by rw [ch, cb]; exact hlen) (rem_zero hp0) (by rw [ch]; exact hn) D.2).mono fun e W' h => ?_
  rw [ch, cb] at h
  exact h
/-- Two bases, apart from each other. -/
structure TwoB (M : Nat → Prop) (W : World) (b u : Nat) (lb lu : Int) (Ob Ou : Nat → Prop) (Eb Eu : List En) : Prop where
  mu : Mut M W
  fst : BaseAt M W b lb Ob Eb
  snd : BaseAt M W u lu Ou Eu
  far : ∀ k, Ob k → ¬ Ou k
theorem TwoB.swap {M : Nat → Prop} {W : World} {b u : Nat} {lb lu : Int} {Ob Ou : Nat → Prop} {Eb Eu : List En} (h : TwoB M W b u lb lu Ob Ou Eb Eu) : TwoB M W u b lu lb Ou Ob Eu Eb := ⟨h.mu, h.snd, h.fst, fun k h1 h2 => h.far k h2 h1⟩
theorem TwoB.below {M : Nat → Prop} {W W' : World} {b u : Nat} {lb lu : Int} {Ob Ou : Nat → Prop} {Eb Eu : List En} (h : TwoB M W b u lb lu Ob Ou Eb Eu) (g : Below W.heap.size W W') : TwoB M W' b u lb lu Ob Ou Eb Eu :=
  ⟨h.mu.grow (GrB.of_below (X := fun _ => False) g) (fun _ h => h.elim), h.fst.frame h.mu (GrB.of_below (X := fun _ => False) g) (fun _ h => h.elim), h.snd.frame h.mu (GrB.of_below (X := fun _ => False) g) (fun _ h => h.elim), h.far⟩
theorem TwoB.add {M : Nat → Prop} {W W' : World} {b u : Nat} {lb lu : Int} {Ob Ou : Nat → Prop} {Eb Eu : List En} {s : Int × List Nd × List Nd} (h : TwoB M W b u lb lu Ob Ou Eb Eu) (A : AddAt M W b lb Ob Eb s W') :
    ∃ (M' Ob' : Nat → Prop) (x : En), (∀ k, M' k → M k ∨ W.heap.size ≤ k) ∧ x.say = s ∧ GrB Ob W.heap.size W W' ∧ TwoB M' W' b u (lb + 1) lu Ob' Ou (insE Eb x) Eu := by
  obtain ⟨M', O', x, a1, a2, a3, hM', g, hx, hB⟩ := A
  refine ⟨M', O', x, a2, hx, g, hM', hB, h.snd.step h.mu g (fun k hk => ⟨h.fst.own hk, h.far k hk⟩) a1 a2, fun k h1 h2 => ?_⟩
  rcases a3 k h1 with h3 | h3
  · exact h.far k h3 h2
  · have := (h.mu k (h.snd.own h2)).1
    omega
end Go.Proofs.Ytjdanfhbccpnpaa

