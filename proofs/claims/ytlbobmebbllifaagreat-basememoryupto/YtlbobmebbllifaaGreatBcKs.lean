import Derived.Test.YtlbobmebbllifaaGreatBdVs
import Derived.Test.YtlbobmebbllifaaGreatBaO
import Derived.Test.YtlbobmebbllifaaGreatTs
import Derived.Laws.AppendOwn
import Derived.OwnWalk
import Derived.Deep.DeepMust
/- What a base in memory is, and its functions' contracts, as the law BaseBack takes them. -/
namespace Go.Proofs.YtlbobmebbllifaaGreat
open Go.RowKit Go.Shelf Go.Maps
structure Bs0 (X : Nat → Prop) (W : World) (v : Value) (b me mf : Nat) : Prop where
 val : v = .pointer (some ⟨b, 0, none⟩)
 blk : BsBlk W b 0 me mf
 ent : PM 3 W me 0 (fun _ => none)
 fam : PM 80 W mf 0 (fun _ => none)
 ne : b ≠ me ∧ b ≠ mf ∧ me ≠ mf
 all : ∀ k, k = b ∨ k = me ∨ k = mf → X k
structure Bs1 (W : World) (v : Value) (h bd : List Nd) (b me mf fb km q eb : Nat) (pl : Int) (hx bx : TV) (ge gf : Lit → Option Addr) (D : Nat) : Prop where
 val : v = .pointer (some ⟨b, 0, none⟩)
 blk : BsBlk W b 1 me mf
 ent : PM 3 W me 1 ge
 fam : PM 80 W mf 1 gf
 fm : FmBlk W fb (some ⟨q, 0, none⟩) km
 tree : OneT eb 0 q W
 en : EnBlk W eb pl hx bx
 pls : -9223372036854775808 < pl ∧ pl ≤ 9223372036854775807
 small : D ≤ 1099511627775
 hh : HoldsS D anyB W hx.val h
 hb : HoldsS D anyB W bx.val bd
 oks : h.all okM = true ∧ bd.all okM = true
 g1 : ge (.int .i64 1) = some ⟨eb, 0, none⟩
 g2 : ∀ (s : ByteArray) (k : Nat), (∃ K N rest, h = (K, N, s.toList, k) :: rest) → gf (predL s k) = some ⟨fb, 0, none⟩
def BaseIs (X : Nat → Prop) (W : World) (v : Value) : List (Int × List Nd × List Nd) → Prop
 | [] => ∃ b me mf, Bs0 X W v b me mf
 | [(1, h, bd)] => ∃ (b me mf fb km q eb : Nat) (pl : Int) (hx bx : TV) (ge gf : Lit → Option Addr) (D : Nat), Bs1 W v h bd b me mf fb km q eb pl hx bx ge gf D
 | _ => False
theorem baseIs_below {X : Nat → Prop} {A B : World} {v : Value} {l : List (Int × List Nd × List Nd)} (h : BaseIs X A v l) (hb : Below A.heap.size A B) : BaseIs X B v l := by
 unfold BaseIs at h ⊢
 split at h
 ·obtain ⟨b, me, mf, m⟩ := h
  exact ⟨b, me, mf, m.val, (hb.block b m.blk.lt).trans m.blk, m.ent.kept (hb.block me m.ent.lt), m.fam.kept (hb.block mf m.fam.lt), m.ne, m.all⟩
 ·obtain ⟨b, me, mf, fb, km, q, eb, pl, hx, bx, ge, gf, D, m⟩ := h
  exact ⟨b, me, mf, fb, km, q, eb, pl, hx, bx, ge, gf, D, m.val, (hb.block b m.blk.lt).trans m.blk, m.ent.kept (hb.block me m.ent.lt), m.fam.kept (hb.block mf m.fam.lt), (hb.block fb m.fm.lt).trans m.fm, ⟨m.tree.1, (hb.block q (Array.getElem?_eq_some_iff.1 m.tree.2).1).trans m.tree.2⟩, (hb.block eb m.en.lt).trans m.en, m.pls, m.small, m.hh.below hb, m.hb.below hb, m.oks, m.g1, m.g2⟩
 ·exact h
theorem predL_same {s s' : ByteArray} {n : Nat} (h : s.toList = s'.toList) : predL s n = predL s' n := by
 unfold predL
 rw [← ByteArray.toList_eq, ← ByteArray.toList_eq, h]
theorem rem_zero {n : Nat} {th tb : Tm (n + 1)} (h : (plainR th tb).1 = 0) : remE th tb = 0 := by
 rw [plain_rem] at h
 by_cases e : remE th tb = 0
 ·exact e
 ·rw [if_neg e] at h
  exact h
theorem base_add {n : Nat} (th tb : Tm (n + 1)) (first : Bool) (X : Nat → Prop) (v : Value) (W : World) (hI : BaseIs X W v []) (hTH : IsT W.heap.size W th) (hTB : IsT W.heap.size W tb) (hl : 2 * ((code th).length + (code tb).length + 1) ≤ 4194304) (hp : (plainR th tb).1 = 0) (hn : numC (code th)) (hn38 : n ≤ 274877906944 := by omega) :
  Calls Tryz.prog 8 #[v, clV th.tv tb.tv, .bool first] W fun e W' => ∃ X' : Nat → Prop, e = .returned (.tuple #[.int .i64 1, .int .i64 0]) ∧ BaseIs X' W' v [(1, code th, code tb)] ∧ (∀ b, X' b → X b ∨ W.heap.size ≤ b) ∧ GrB X W.heap.size W W' := by
 obtain ⟨b, me, mf, m⟩ := hI
 obtain rfl := m.val
 have hrem := rem_zero hp
 obtain ⟨okh, okb⟩ : okT th = true ∧ okT tb = true := by
  unfold remE at hrem
  split at hrem
  ·assumption
  ·cases hrem
 have fin : ∀ (pl : Int), -9223372036854775808 < pl ∧ pl ≤ 9223372036854775807 → ∀ (e : Ending) (W' : World), (e = .returned (.tuple #[.int .i64 (0 + 1), .int .i64 0]) ∧ ∃ (eb fb km q1 q2 : Nat) (hx bx : TV) (kl : Lit), AddIs b 0 me mf 0 0 (fun _ => none) (fun _ => none) pl (code th) (code tb) (n + 4) W.heap.size W' eb fb km q1 q2 hx bx kl ∧ GrB (fun k => k = b ∨ k = me ∨ k = mf) W.heap.size W W') →
   ∃ X' : Nat → Prop, e = .returned (.tuple #[.int .i64 1, .int .i64 0]) ∧ BaseIs X' W' (.pointer (some ⟨b, 0, none⟩)) [(1, code th, code tb)] ∧ (∀ b, X' b → X b ∨ W.heap.size ≤ b) ∧ GrB X W.heap.size W W' := by
  rintro pl hpl e W' ⟨rfl, eb, fb, km, q1, q2, hx, bx, kl, A, g⟩
  refine ⟨fun _ => False, rfl, ⟨b, me, mf, fb, km, q1, eb, pl, hx, bx, _, _, n + 4, ⟨rfl, A.base, A.ent, A.fam, A.fm, ⟨Nat.zero_le _, A.t1.2⟩, A.en, hpl, by omega, A.hh.mono (Nat.le_refl _) (fun _ _ => trivial), A.hb.mono (Nat.le_refl _) (fun _ _ => trivial), ⟨by rw [← okT_m]; exact okh, by rw [← okT_m]; exact okb⟩, ?_, fun s k hs => ?_⟩⟩, (fun _ h => h.elim), ⟨g.os, g.tape, g.output, g.size, fun k hk hx => g.block k hk (fun e => hx (m.all k e))⟩⟩
  ·unfold updL
   exact if_pos rfl
  ·obtain ⟨K, N, rest, hs⟩ := hs
   obtain ⟨t, e1, -, -, hc⟩ := A.hh (n + 4) (Nat.le_refl _) (by omega)
   have e2 := tv_inj e1
   have hck := code_kids t
   rw [hc, hs] at hck
   simp only [List.cons.injEq] at hck
   have hnd := congrArg (fun z : Nd => (z.2.2.1, z.2.2.2)) hck.1
   simp only [TV.nd, Prod.mk.injEq] at hnd
   have hpr : predL s k = predL hx.s hx.len := by
    rw [e2, ← hnd.2]
    exact predL_same hnd.1
   rw [hpr]
   unfold updL
   exact if_pos rfl
 cases first with
 | false => exact (add_last b me mf 0 0 0 _ _ th tb W m.blk m.ent m.fam (by decide) (by decide) (by omega) (by omega) m.ne hTH hTB hl hrem hn (fun _ _ => rfl)).mono fun e W' h => fin _ (by omega) e W' h
 | true => exact (add_first b me mf 0 0 0 _ _ th tb W m.blk m.ent m.fam (by decide) (by decide) (by omega) (by omega) m.ne hTH hTB hl hrem hn (fun _ _ => rfl)).mono fun e W' h => fin _ (by omega) e W' h
def baseOps : BaseOps where
 Needs := fun _ _ => True
 Is := BaseIs
 needs := fun _ _ => trivial
 is := baseIs_below
 make := fun t _ W _ _ hT hl hn => bmake_any t W hT hl hn
 plain := fun th tb _ W _ _ hTH hTB hl hn => bplain_any th tb W hTH hTB hl hn
 new := fun _ W _ _ => (new_any W).mono fun e W' h => by
  obtain ⟨rfl, h2, h3, h4, h5, h6⟩ := h
  exact ⟨_, fun k => k = W.heap.size + 2 ∨ k = W.heap.size ∨ k = W.heap.size + 1, rfl, ⟨W.heap.size + 2, W.heap.size, W.heap.size + 1, rfl, h2, h3, h4, by omega, fun k hk => hk⟩, (fun b hb => by omega), h5⟩
 add := fun th tb first _ X v W _ _ hI hTH hTB hl hp hn hn38 => base_add th tb first X v W hI hTH hTB hl hp hn hn38
 get := fun h b _ X v W _ _ hI => by
  obtain ⟨b', me, mf, fb, km, q, eb, pl, hx, bx, ge, gf, D, m⟩ := hI
  obtain rfl := m.val
  refine (get_any b' me mf eb 1 pl 1 1 ge W m.blk m.ent (by omega) (by omega) m.g1 m.en m.hh m.hb m.oks.1 m.oks.2 (by have := m.small; omega)).mono fun e W' h => ⟨?_, h.2⟩
  obtain ⟨x', y', h1, h2, h3⟩ := h.1
  exact ⟨⟨D + 1, by have := m.small; omega⟩, x', y', h1, h2.s.mono (Nat.le_refl _) fun _ h => .inr h, h3.s.mono (Nat.le_refl _) fun _ h => .inr h⟩
 look := fun _ X v W _ _ hI => by
  obtain ⟨b', me, mf, fb, km, q, eb, pl, hx, bx, ge, gf, D, m⟩ := hI
  obtain rfl := m.val
  refine (look_one b' me mf fb km eb q 1 pl 0 1 gf pK W m.blk m.fam m.fm m.tree m.en.cs.1 m.pls.1 m.pls.2 (pK_isT W) (by decide +kernel) rfl rfl (m.g2 ⟨#[112]⟩ 0 ⟨3, 0, [], by decide +kernel⟩)).mono fun e W' h => ?_
  obtain ⟨⟨a, cap, h1⟩, h2⟩ := h
  exact ⟨a, cap, h1, h2⟩
/- A base in memory, told by its own blocks and its entries alone (BaseAt); Add, Remove, New over it; what Make made is laid down. -/
def BaseAt (M : Nat → Prop) (W : World) (b : Nat) (laid : Int) (O : Nat → Prop) (E : List En) : Prop :=
 ∃ (me mf ce cf : Nat) (ge gf : Lit → Option Addr) (F : Lit → Option Fam), BOK M W b me mf laid ce cf ge gf F E ∧ ∀ k, O k ↔ Own b me mf F k
theorem BaseAt.own {M : Nat → Prop} {W : World} {b : Nat} {laid : Int} {O : Nat → Prop} {E : List En} (h : BaseAt M W b laid O E) {k : Nat} (hk : O k) : M k := by
 obtain ⟨me, mf, ce, cf, ge, gf, F, hB, hO⟩ := h
 rcases (hO k).1 hk with rfl | rfl | rfl | ⟨p, f, hf, rfl | rfl⟩
 ·exact hB.mem.1
 ·exact hB.mem.2.1
 ·exact hB.mem.2.2.1
 ·exact (hB.mem.2.2.2 p f hf).1
 ·exact (hB.mem.2.2.2 p f hf).2
theorem BaseAt.frame {M Y : Nat → Prop} {W W' : World} {b : Nat} {laid : Int} {O : Nat → Prop} {E : List En} (h : BaseAt M W b laid O E) (hM : Mut M W) (g : GrB Y W.heap.size W W') (hY : ∀ k, Y k → M k ∧ ¬ O k) : BaseAt M W' b laid O E := by
 obtain ⟨me, mf, ce, cf, ge, gf, F, hB, hO⟩ := h
 refine ⟨me, mf, ce, cf, ge, gf, F, hB.frame hM g (fun k hk => ?_), hO⟩
 have hn : ¬ Own b me mf F k := fun h => (hY k hk).2 ((hO k).2 h)
 exact ⟨(hY k hk).1, fun e => hn (.inl e), fun e => hn (.inr (.inl e)), fun e => hn (.inr (.inr (.inl e))), fun p f hf => ⟨fun e => hn (.inr (.inr (.inr ⟨p, f, hf, .inl e⟩))), fun e => hn (.inr (.inr (.inr ⟨p, f, hf, .inr e⟩)))⟩⟩
theorem BOK.step {M M' Y : Nat → Prop} {W W' : World} {b me mf : Nat} {laid : Int} {ce cf : Nat} {ge gf : Lit → Option Addr} {F : Lit → Option Fam} {E : List En} (h : BOK M W b me mf laid ce cf ge gf F E) (hM : Mut M W) (g : GrB Y W.heap.size W W') (hY : ∀ k, Y k → M k ∧ k ≠ b ∧ k ≠ me ∧ k ≠ mf ∧ ∀ p f, F p = some f → k ≠ f.fb ∧ k ≠ f.km) (h1 : ∀ k, M k → M' k) (h2 : ∀ k, M' k → M k ∨ W.heap.size ≤ k) : BOK M' W' b me mf laid ce cf ge gf F E :=
 { h.frame hM g hY with
  ents := fun e he => (h.ents e he).step hM g (fun k hk => (hY k hk).1) h2
  mem := ⟨h1 _ h.mem.1, h1 _ h.mem.2.1, h1 _ h.mem.2.2.1, fun p f hp => ⟨h1 _ (h.mem.2.2.2 p f hp).1, h1 _ (h.mem.2.2.2 p f hp).2⟩⟩ }
theorem BaseAt.step {M M' Y : Nat → Prop} {W W' : World} {b : Nat} {laid : Int} {O : Nat → Prop} {E : List En} (h : BaseAt M W b laid O E) (hM : Mut M W) (g : GrB Y W.heap.size W W') (hY : ∀ k, Y k → M k ∧ ¬ O k) (h1 : ∀ k, M k → M' k) (h2 : ∀ k, M' k → M k ∨ W.heap.size ≤ k) : BaseAt M' W' b laid O E := by
 obtain ⟨me, mf, ce, cf, ge, gf, F, hB, hO⟩ := h
 refine ⟨me, mf, ce, cf, ge, gf, F, hB.step hM g (fun k hk => ?_) h1 h2, hO⟩
 have hn : ¬ Own b me mf F k := fun h => (hY k hk).2 ((hO k).2 h)
 exact ⟨(hY k hk).1, fun e => hn (.inl e), fun e => hn (.inr (.inl e)), fun e => hn (.inr (.inr (.inl e))), fun p f hf => ⟨fun e => hn (.inr (.inr (.inr ⟨p, f, hf, .inl e⟩))), fun e => hn (.inr (.inr (.inr ⟨p, f, hf, .inr e⟩)))⟩⟩
theorem new_at {M : Nat → Prop} {W : World} (hM : Mut M W) : Calls Tryz.prog 5 #[] W fun e W' => ∃ (b : Nat) (M' O : Nat → Prop), e = .returned (.pointer (some ⟨b, 0, none⟩)) ∧ Below W.heap.size W W' ∧ (∀ k, M k → M' k) ∧ (∀ k, M' k → M k ∨ W.heap.size ≤ k) ∧ (∀ k, O k → W.heap.size ≤ k) ∧ Mut M' W' ∧ BaseAt M' W' b 0 O [] := by
 refine (new_bok hM).mono ?_
 rintro e W' ⟨b, me, mf, rfl, h1, h2, h3, g, hM', hB⟩
 refine ⟨b, _, Own b me mf (fun _ => none), rfl, g, fun k hk => .inl hk, fun k hk => ?_, fun k hk => ?_, hM', me, mf, 0, 0, _, _, _, hB, fun k => Iff.rfl⟩
 ·rcases hk with hk | rfl | rfl | rfl
  ·exact .inl hk
  ·exact .inr h1
  ·exact .inr h2
  ·exact .inr h3
 ·rcases hk with rfl | rfl | rfl | ⟨p, f, hf, _⟩
  ·exact h1
  ·exact h2
  ·exact h3
  ·cases hf
def plOf (laid : Int) (first : Bool) : Int := if first = true then -(laid + 1) else laid + 1
def AddAt (M : Nat → Prop) (W : World) (b : Nat) (laid : Int) (O : Nat → Prop) (E : List En) (s : Int × List Nd × List Nd) (W' : World) : Prop :=
 ∃ (M' O' : Nat → Prop) (x : En), (∀ k, M k → M' k) ∧ (∀ k, M' k → M k ∨ W.heap.size ≤ k) ∧ (∀ k, O' k → O k ∨ W.heap.size ≤ k) ∧ Mut M' W' ∧ GrB O W.heap.size W W' ∧ x.say = s ∧ BaseAt M' W' b (laid + 1) O' (insE E x)
theorem add_at {M : Nat → Prop} {W : World} {b : Nat} {laid : Int} {O : Nat → Prop} {E : List En} (h : BaseAt M W b laid O E) (hM : Mut M W) (hbig : laid < 1099511627776) (first : Bool) {n : Nat} (th tb : Tm (n + 1)) (hTH : IsT W.heap.size W th) (hTB : IsT W.heap.size W tb) (hl : 2 * ((code th).length + (code tb).length + 1) ≤ 4194304) (hrem : remE th tb = 0) (hnum : numC (code th)) (hn38 : n ≤ 274877906944 := by omega) :
  Calls Tryz.prog 8 #[.pointer (some ⟨b, 0, none⟩), clV th.tv tb.tv, .bool first] W fun e W' => (∃ v, e = .returned v) ∧ AddAt M W b laid O E (plOf laid first, code th, code tb) W' := by
 obtain ⟨me, mf, ce, cf, ge, gf, F, hB, hO⟩ := h
 have fin : ∀ (pl : Int) (e : Ending) (W' : World), ((∃ v, e = .returned v) ∧ Added M W b me mf laid F E pl (code th) (code tb) W') → (∃ v, e = .returned v) ∧ AddAt M W b laid O E (pl, code th, code tb) W' := by
  rintro pl e W' ⟨he, M', a1, a2, a3, g, ce', cf', ge', gf', F', x, x1, x2, x3, o1, hB', -⟩
  refine ⟨he, M', Own b me mf F', x, a1, a2, fun k hk => (o1 k hk).imp (fun h => (hO k).2 h) id, a3, ⟨g.os, g.tape, g.output, g.size, fun k hk hn => g.block k hk (fun e => hn ((hO k).2 e))⟩, ?_, me, mf, ce', cf', ge', gf', F', hB', fun k => Iff.rfl⟩
  show (x.pl, x.ch, x.cb) = _
  rw [x1, x2, x3]
 cases first with
 | false => exact (add_bok_last hB hM hbig th tb hTH hTB hl hrem hnum).mono fun e W' h => fin _ e W' ⟨⟨_, h.1⟩, h.2⟩
 | true => exact (add_bok_first hB hM hbig th tb hTH hTB hl hrem hnum).mono fun e W' h => fin _ e W' ⟨⟨_, h.1⟩, h.2⟩
theorem bmake_new {n : Nat} (t : Tm (n + 1)) (W : World) (hT : IsT W.heap.size W t) (hl : 2 * (code t).length ≤ 4194304) (hn20 : n ≤ 1048576 := by omega) :
  Calls Tryz.prog 7 #[t.tv.val] W fun e W' => (∃ (D : Upto 274877906944) (x y : TV), e = .returned (.tuple #[clV x y, .int .i64 (makeR t).1]) ∧ HoldsL D.1 (W.heap.size ≤ ·) W' x.val (makeR t).2.1 ∧ HoldsL D.1 (W.heap.size ≤ ·) W' y.val (makeR t).2.2) ∧ Below W.heap.size W W' := by
 unfold makeR
 cases hok : okT t with
 | false =>
  refine (bmake_bad t W hT hok).mono fun e W' h => ⟨?_, h.2⟩
  rw [if_neg (by simp)]
  exact ⟨⟨1, by omega⟩, noTerm, noTerm, h.1, (no_holds 1 W.heap.size (Nat.le_refl _) W').holdsL, (no_holds 1 W.heap.size (Nat.le_refl _) W').holdsL⟩
 | true =>
  refine (bmake_ok t W hT hok hl).mono fun e W' h => ⟨?_, h.2⟩
  rw [if_pos rfl]
  obtain ⟨x, y, h1, h2⟩ := h.1
  cases hm : makeC t with
  | none =>
   rw [hm] at h1 h2
   obtain ⟨rfl, rfl⟩ := h2
   exact ⟨⟨1, by omega⟩, noTerm, noTerm, h1, (no_holds 1 W.heap.size (Nat.le_refl _) W').holdsL, (no_holds 1 W.heap.size (Nat.le_refl _) W').holdsL⟩
  | some c =>
   rw [hm] at h1 h2
   obtain ⟨c1, c2⟩ := c
   exact ⟨⟨n + 3, by omega⟩, x, y, h1, h2.1, h2.2⟩
theorem add_made {M : Nat → Prop} {W : World} {b : Nat} {laid : Int} {O : Nat → Prop} {E : List En} (h : BaseAt M W b laid O E) (hM : Mut M W) (hbig : laid < 1099511627776) (first : Bool) {n : Nat} (t : Tm (n + 1)) (hw : Wl t) (hl : (code t).length ≤ 1048576) (hnum : numC (code t)) (h0 : (makeR t).1 = 0) {D : Upto 274877906944} {S : Nat → Prop} {x y : TV} (hx : HoldsS D.1 S W x.val (makeR t).2.1) (hy : HoldsS D.1 S W y.val (makeR t).2.2) :
  Calls Tryz.prog 8 #[.pointer (some ⟨b, 0, none⟩), clV x y, .bool first] W fun e W' => (∃ v, e = .returned v) ∧ AddAt M W b laid O E (plOf laid first, (makeR t).2) W' := by
 obtain ⟨hok, hmk⟩ := makeR_ok h0
 obtain ⟨th, tb, rfl, rfl, hTH, hTB, ch, cb⟩ := holds_two_terms hx hy
 obtain ⟨-, -, hp0, -⟩ := make_back hw hok (by omega) hmk th tb hTH.wl hTB.wl ch cb
 have hlen := make_len hw hok hl hmk
 have hn := make_num hw hok hl hnum hmk
 refine (add_at h hM hbig first th tb hTH hTB (by rw [ch, cb]; exact hlen) (rem_zero hp0) (by rw [ch]; exact hn) D.2).mono fun e W' h => ?_
 rw [ch, cb] at h
 exact h
structure TwoB (M : Nat → Prop) (W : World) (b u : Nat) (lb lu : Int) (Ob Ou : Nat → Prop) (Eb Eu : List En) : Prop where
 mu : Mut M W
 fst : BaseAt M W b lb Ob Eb
 snd : BaseAt M W u lu Ou Eu
 far : ∀ k, Ob k → ¬ Ou k
theorem TwoB.swap {M : Nat → Prop} {W : World} {b u : Nat} {lb lu : Int} {Ob Ou : Nat → Prop} {Eb Eu : List En} (h : TwoB M W b u lb lu Ob Ou Eb Eu) : TwoB M W u b lu lb Ou Ob Eu Eb := ⟨h.mu, h.snd, h.fst, fun k h1 h2 => h.far k h2 h1⟩
theorem TwoB.below {M : Nat → Prop} {W W' : World} {b u : Nat} {lb lu : Int} {Ob Ou : Nat → Prop} {Eb Eu : List En} (h : TwoB M W b u lb lu Ob Ou Eb Eu) (g : Below W.heap.size W W') : TwoB M W' b u lb lu Ob Ou Eb Eu :=
 ⟨h.mu.grow (GrB.of_below (X := fun _ => False) g) (fun _ h => h.elim), h.fst.frame h.mu (GrB.of_below (X := fun _ => False) g) (fun _ h => h.elim), h.snd.frame h.mu (GrB.of_below (X := fun _ => False) g) (fun _ h => h.elim), h.far⟩
/- What is written over: the contracts of hornkeep.markTerm and of hornkeep.spoilt at terms. -/
def markV : TV := ⟨9, -77, ⟨#[115, 112, 111, 105, 108, 116]⟩, none, 0, 0⟩
structure MkT (W : World) (b cap j : Nat) : Prop where
 row : Row4 W b cap
 at4 : ∀ i, i < j → cellsAt W b (i * 4) markV
set_option maxHeartbeats 400000 in
theorem markTerm_any (w : World) : Calls Tryz.prog 23 #[] w fun e w' => e = .returned markV.val ∧ w' = w.alloc (.cells #[.int .i64 9, .int .i64 (-77), .string ⟨#[115, 112, 111, 105, 108, 116]⟩, .slice none 0 0] 24) := by
 go_enter Tryz.func23, Tryz.ntmps23
 go_wp2
 exact bodyPost_ret (v := markV.val) (by simp [results, Tryz.results23, go_sem, markV, TV.val]) rfl ⟨rfl, rfl⟩
theorem set4_at {W : World} {B len o : Nat} (h : Row4 W B len) (ho : o + 3 < len * 4) (x : TV) : cellsAt (set4 W B o x) B o x := by
 obtain ⟨⟨v0, h0⟩, _⟩ := h.cell (o := o) (by omega)
 obtain ⟨⟨v1, h1⟩, _⟩ := h.cell (o := o + 1) (by omega)
 obtain ⟨⟨v2, h2⟩, _⟩ := h.cell (o := o + 2) (by omega)
 obtain ⟨⟨v3, h3⟩, _⟩ := h.cell (o := o + 3) (by omega)
 exact set4_cells W B o x (by rw [h0]; rfl) (by rw [h1]; rfl) (by rw [h2]; rfl) (by rw [h3]; rfl)
theorem set4_off {W : World} {B o q : Nat} (x y : TV) (h : cellsAt W B q y) (hq : q + 3 < o) : cellsAt (set4 W B o x) B q y := by
 obtain ⟨h0, h1, h2, h3⟩ := h
 unfold set4
 refine ⟨?_, ?_, ?_, ?_⟩
 all_goals rw [World.cell?_setCell_other _ _ _ _ (by simp <;> omega), World.cell?_setCell_other _ _ _ _ (by simp <;> omega), World.cell?_setCell_other _ _ _ _ (by simp <;> omega), World.cell?_setCell_other _ _ _ _ (by simp <;> omega)]
 ·exact h0
 ·exact h1
 ·exact h2
 ·exact h3
theorem MkT.next {W : World} {b cap j : Nat} (h : MkT W b cap j) (hj : j < cap) : MkT (set4 W b (j * 4) markV) b cap (j + 1) := by
 refine ⟨h.row.set4 _ _, fun i hi => ?_⟩
 by_cases e : i < j
 ·exact set4_off _ _ (h.at4 i e) (by omega)
 ·have : i = j := by omega
  subst this
  exact set4_at h.row (by omega) markV
end Go.Proofs.YtlbobmebbllifaaGreat
