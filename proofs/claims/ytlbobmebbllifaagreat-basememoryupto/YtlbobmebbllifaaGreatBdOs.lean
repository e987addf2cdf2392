import Derived.Test.YtlbobmebbllifaaGreatBdLs
/- Add keeps what holds of a base. -/
namespace Go.Proofs.YtlbobmebbllifaaGreat
open Go.RowKit Go.Shelf Go.Maps
theorem Mut.grow {M Y : Nat → Prop} {W W' : World} (h : Mut M W) (g : GrB Y W.heap.size W W') (hY : ∀ k, Y k → NoFix W' k) : Mut M W' := fun k hk => by
 obtain ⟨h1, h2⟩ := h k hk
 refine ⟨Nat.lt_of_lt_of_le h1 g.size, ?_⟩
 by_cases hy : Y k
 ·exact hY k hy
 ·intro c t o hc
  rw [g.block k h1 hy] at hc
  exact h2 c t o hc
open Classical in
noncomputable def updF (F : Lit → Option Fam) (p : Lit) (f : Fam) : Lit → Option Fam := fun y => if y = p then some f else F y
theorem updF_cases {F : Lit → Option Fam} {p y : Lit} {f f' : Fam} (h : updF F p f y = some f') : (y = p ∧ f' = f) ∨ (y ≠ p ∧ F y = some f') := by
 unfold updF at h
 by_cases e : y = p
 ·rw [if_pos e] at h
  cases h
  exact .inl ⟨e, rfl⟩
 ·rw [if_neg e] at h
  exact .inr ⟨e, h⟩
theorem BOK.newPlace {M : Nat → Prop} {W : World} {b me mf : Nat} {laid : Int} {ce cf : Nat} {ge gf : Lit → Option Addr} {F : Lit → Option Fam} {E : List En} (h : BOK M W b me mf laid ce cf ge gf F E) {pl : Int} (hpl : pl = laid + 1 ∨ pl = -(laid + 1)) : ∀ y ∈ E, y.pl ≠ pl ∧ y.pl ≠ -pl := fun y hy => by
 have h1 := h.pls y hy
 have h2 := h.low
 omega
theorem rowP_ins {E : List En} {x : En} {p : Lit} (hs : SrtE E) : (predC x.ch = p → rowP (insE E x) p = insL (rowP E p) x.at) ∧ (predC x.ch ≠ p → rowP (insE E x) p = rowP E p) := by
 unfold rowP
 exact ⟨fun e => insE_row E x _ (by simpa using e), fun e => by rw [insE_out E x _ (by simpa using e) hs]⟩
theorem rowK_ins {E : List En} {x : En} {p k : Lit} (hs : SrtE E) : (predC x.ch = p → keyC x.ch = k → rowK (insE E x) p k = insL (rowK E p k) x.at) ∧ ((predC x.ch ≠ p ∨ keyC x.ch ≠ k) → rowK (insE E x) p k = rowK E p k) := by
 unfold rowK
 refine ⟨fun e e' => insE_row E x _ (by simp [e, e']), fun e => ?_⟩
 rw [insE_out E x _ ?_ hs]
 rcases e with e | e <;> simp [e]
theorem pw_two {E : List En} {R : En → En → Prop} (h : E.Pairwise R) {y z : En} (hy : y ∈ E) (hz : z ∈ E) (ne : y ≠ z) : R y z ∨ R z y := by
 induction E with
 | nil => cases hy
 | cons a E ih =>
  obtain ⟨h1, h2⟩ := List.pairwise_cons.1 h
  rcases List.mem_cons.1 hy with e | hy'
  ·rcases List.mem_cons.1 hz with e' | hz'
   ·exact absurd (e.trans e'.symm) ne
   ·rw [e]; exact .inl (h1 z hz')
  ·rcases List.mem_cons.1 hz with e' | hz'
   ·rw [e']; exact .inr (h1 y hy')
   ·exact ih h2 hy' hz'
theorem pairwise_ins {E : List En} {x : En} (h : E.Pairwise (fun a b => a.pl ≠ -b.pl)) (hx : ∀ y ∈ E, y.pl ≠ -x.pl) : (insE E x).Pairwise (fun a b => a.pl ≠ -b.pl) := by
 unfold insE
 rw [List.pairwise_append]
 refine ⟨List.Pairwise.filter _ h, List.pairwise_cons.2 ⟨?_, List.Pairwise.filter _ h⟩, ?_⟩
 ·intro y hy
  have := hx y (List.mem_filter.1 hy).1
  omega
 ·intro y hy z hz
  rcases List.mem_cons.1 hz with rfl | hz
  ·exact hx y (List.mem_filter.1 hy).1
  ·have hy1 := (List.mem_filter.1 hy)
   have hz1 := (List.mem_filter.1 hz)
   intro e
   have ne : y ≠ z := fun e' => by
    have a := hy1.2
    have b := hz1.2
    rw [e'] at a
    simp at a b
    omega
   rcases pw_two h hy1.1 hz1.1 ne with h' | h' <;> omega
theorem get_ins {M : Nat → Prop} {W : World} {b me mf : Nat} {laid : Int} {ce cf : Nat} {ge gf : Lit → Option Addr} {F : Lit → Option Fam} {E : List En} (h : BOK M W b me mf laid ce cf ge gf F E) {x : En} (hpl : x.pl = laid + 1 ∨ x.pl = -(laid + 1)) (id : Int) : updL ge (.int .i64 (laid + 1)) ⟨x.eb, 0, none⟩ (.int .i64 id) = ((insE E x).find? (fun e => decide (max e.pl (-e.pl) = id))).map (fun e => ⟨e.eb, 0, none⟩) := by
 have h0 := h.low
 unfold updL
 by_cases e : id = laid + 1
 ·rw [e, if_pos rfl, find_ins_in _ (by simp; omega) (fun y hy => by have := h.pls y hy; simp; omega)]
  rfl
 ·rw [if_neg (by simpa using e), find_ins_out h.srt _ (by simp; omega)]
  exact h.get id
theorem BOK.addK {M : Nat → Prop} {W W' : World} {b me mf : Nat} {laid : Int} {ce cf : Nat} {ge gf : Lit → Option Addr} {F : Lit → Option Fam} {E : List En} (h : BOK M W b me mf laid ce cf ge gf F E) (hM : Mut M W) {f : Fam} {x : En} (hp : F (predC x.ch) = some f) (hpl : x.pl = laid + 1 ∨ x.pl = -(laid + 1)) {D q1 q2 : Nat} (A : AddK b laid me mf ce cf ge gf x.pl x.ch x.cb D W.heap.size W' x.eb f.fb f.km q1 q2 f.ck f.gk x.hx x.bx (keyC x.ch)) (R1 : WR W x.pl x.eb f.all q1 W') (R2 : WR W x.pl x.eb (f.gk (keyC x.ch)) q2 W') (g : GrB (fun k => k = b ∨ k = me ∨ k = f.fb ∨ k = f.km) W.heap.size W W') (ho : x.ch.all okM = true ∧ x.cb.all okM = true ∧ numC x.ch) (hD : D ≤ 1099511627775 := by omega) :
  BOK M W' b me mf (laid + 1) (ce + 1) cf (updL ge (.int .i64 (laid + 1)) ⟨x.eb, 0, none⟩) gf (updF F (predC x.ch) { f with ck := f.ck + 1, all := some ⟨q1, 0, none⟩, gk := updL f.gk (keyC x.ch) ⟨q2, 0, none⟩ }) (insE E x) ∧ Mut M W' := by
 have hpm := h.mem.2.2.2 _ f hp
 have gM : GrB M W.heap.size W W' := ⟨g.os, g.tape, g.output, g.size, fun k hk hn => g.block k hk (fun hy => by rcases hy with rfl | rfl | rfl | rfl; exact hn h.mem.1; exact hn h.mem.2.1; exact hn hpm.1; exact hn hpm.2)⟩
 have hf := gM.fixed (fun k hk => (hM k hk).2)
 have hlow := h.low
 have hnew := h.newPlace hpl
 have hsrt : SrtE (insE E x) := h.srt.ins (fun y hy => (hnew y hy).1)
 have hfar := h.farF _ f hp
 refine ⟨?_, hM.grow g (fun k hk => by rcases hk with rfl | rfl | rfl | rfl; exact A.base.nofix; exact A.ent.mapB.nofix; exact A.fm.nofix; exact A.keyed.mapB.nofix)⟩
 have hold : ∀ e ∈ E, EnIs M W' e := fun e he => (h.ents e he).kept hM gM
 have hnewE : EnIs M W' x := ⟨A.en, ⟨D, hD⟩, fun k => W.heap.size ≤ k ∧ k < W'.heap.size, A.hh.bound, A.hb.bound, fun k hk => ⟨hk.2, fun hm => by have := (hM k hm).1; have := hk.1; omega⟩⟩
 exact {
  base := A.base
  ent := A.ent
  fam := A.fam
  low := by omega
  cnt := by have := h.cnt; rw [len_ins]; omega
  srt := hsrt
  pls := fun e he => by
   rcases mem_ins he with rfl | he
   ·omega
   ·have := h.pls e he; omega
  ids := pairwise_ins h.ids (fun y hy => (hnew y hy).2)
  get := get_ins h hpl
  gfs := fun p => by
   rw [h.gfs p]
   unfold updF
   by_cases e : p = predC x.ch
   ·rw [if_pos e, e, hp]; rfl
   ·rw [if_neg e]
  fams := fun p f' hp' => by
   rcases updF_cases hp' with ⟨rfl, rfl⟩ | ⟨hne, hF⟩
   ·obtain ⟨f1, f2, f3, ⟨t1, f4⟩, f5⟩ := h.fams _ f hp
    refine ⟨A.fm, A.keyed, by rw [len_ins]; push_cast; omega, ?_, fun k => ?_⟩
    ·rw [(rowP_ins h.srt).1 rfl]
     exact R1.use f4
    ·obtain ⟨t2, f6⟩ := f5 k
     by_cases e : k = keyC x.ch
     ·subst e
      rw [(rowK_ins h.srt).1 rfl rfl]
      show ∃ h, TrL W' (updL f.gk (keyC x.ch) ⟨q2, 0, none⟩ (keyC x.ch)) _ h
      unfold updL
      rw [if_pos rfl]
      exact R2.use f6
     ·rw [(rowK_ins h.srt).2 (.inr (fun e' => e e'.symm))]
      show ∃ h, TrL W' (updL f.gk (keyC x.ch) ⟨q2, 0, none⟩ k) _ h
      unfold updL
      rw [if_neg e]
      exact ⟨t2, f6.fixed (enAll_of h.ents (fun y hy => rowK_mem hy)) hf⟩
   ·obtain ⟨f1, f2, f3, ⟨t1, f4⟩, f5⟩ := h.fams p f' hF
    have hfa := h.farF p f' hF
    have hfp := h.farP p _ f' f hF hp hne
    have hfq := h.farP _ p f f' hp hF (fun e => hne e.symm)
    have hm' := h.mem.2.2.2 p f' hF
    have k1 : W'.heap[f'.fb]? = W.heap[f'.fb]? := g.block _ (hM _ hm'.1).1 (by omega)
    have k2 : W'.heap[f'.km]? = W.heap[f'.km]? := g.block _ (hM _ hm'.2).1 (by omega)
    refine ⟨k1.trans f1, f2.kept k2, by rw [len_ins]; push_cast; omega, ?_, fun k => ?_⟩
    ·rw [(rowP_ins h.srt).2 (fun e => hne e.symm)]
     exact ⟨t1, f4.fixed (enAll_of h.ents (fun y hy => rowP_mem hy)) hf⟩
    ·obtain ⟨t2, f6⟩ := f5 k
     rw [(rowK_ins h.srt).2 (.inl (fun e => hne e.symm))]
     exact ⟨t2, f6.fixed (enAll_of h.ents (fun y hy => rowK_mem hy)) hf⟩
  has := fun e he => by
   unfold updF
   by_cases e' : predC e.ch = predC x.ch
   ·exact ⟨_, if_pos e'⟩
   ·rw [if_neg e']
    rcases mem_ins he with rfl | he
    ·exact absurd rfl e'
    ·exact h.has e he
  ents := fun e he => by
   rcases mem_ins he with rfl | he
   ·exact hnewE
   ·exact hold e he
  oks := fun e he => by
   rcases mem_ins he with rfl | he
   ·exact ho
   ·exact h.oks e he
  mem := ⟨h.mem.1, h.mem.2.1, h.mem.2.2.1, fun p f' hp' => by
   rcases updF_cases hp' with ⟨_, rfl⟩ | ⟨_, hF⟩
   ·exact hpm
   ·exact h.mem.2.2.2 p f' hF⟩
  far := h.far
  farF := fun p f' hp' => by
   rcases updF_cases hp' with ⟨_, rfl⟩ | ⟨_, hF⟩
   ·exact hfar
   ·exact h.farF p f' hF
  farP := fun p p' f1 f2 h1 h2 hne => by
   rcases updF_cases h1 with ⟨e1, rfl⟩ | ⟨_, hF1⟩
   ·rcases updF_cases h2 with ⟨e2, rfl⟩ | ⟨_, hF2⟩
    ·exact absurd (e1.trans e2.symm) hne
    ·subst e1
     exact h.farP _ p' f f2 hp hF2 hne
   ·rcases updF_cases h2 with ⟨e2, rfl⟩ | ⟨_, hF2⟩
    ·subst e2
     exact h.farP p _ f1 f hF1 hp hne
    ·exact h.farP p p' f1 f2 hF1 hF2 hne }
/- Add of a predicate that was not known, and Remove, keep what holds of a base. -/
theorem oneT_trL {W : World} {eb lo q : Nat} {pl : Int} {hx bx : TV} (h : OneT eb lo q W) (he : EnBlk W eb pl hx bx) : TrL W (some ⟨q, 0, none⟩) [(eb, pl)] 1 := (TrL.nil W).node (TrL.nil W) h.2 he.place
theorem rowP_none {E : List En} {p : Lit} (h : ∀ e ∈ E, predC e.ch ≠ p) : rowP E p = [] := by
 unfold rowP
 rw [List.filter_eq_nil_iff.2 (fun e he => by simpa using h e he)]
 rfl
theorem rowK_none {E : List En} {p k : Lit} (h : ∀ e ∈ E, predC e.ch ≠ p) : rowK E p k = [] := by
 unfold rowK
 rw [List.filter_eq_nil_iff.2 (fun e he => by have := h e he; simp [this])]
 rfl
theorem BOK.addN {M : Nat → Prop} {W W' : World} {b me mf : Nat} {laid : Int} {ce cf : Nat} {ge gf : Lit → Option Addr} {F : Lit → Option Fam} {E : List En} (h : BOK M W b me mf laid ce cf ge gf F E) (hM : Mut M W) {x : En} (hp : F (predC x.ch) = none) (hpl : x.pl = laid + 1 ∨ x.pl = -(laid + 1)) {D fb km q1 q2 : Nat} (hpr : predL x.hx.s x.hx.len = predC x.ch) (A : AddIs b laid me mf ce cf ge gf x.pl x.ch x.cb D W.heap.size W' x.eb fb km q1 q2 x.hx x.bx (keyC x.ch)) (g : GrB (fun k => k = b ∨ k = me ∨ k = mf) W.heap.size W W') (ho : x.ch.all okM = true ∧ x.cb.all okM = true ∧ numC x.ch) (hD : D ≤ 1099511627775 := by omega) :
  BOK (fun k => M k ∨ k = fb ∨ k = km) W' b me mf (laid + 1) (ce + 1) (cf + 1) (updL ge (.int .i64 (laid + 1)) ⟨x.eb, 0, none⟩) (updL gf (predC x.ch) ⟨fb, 0, none⟩) (updF F (predC x.ch) ⟨fb, km, 1, some ⟨q1, 0, none⟩, updL (fun _ => none) (keyC x.ch) ⟨q2, 0, none⟩⟩) (insE E x) ∧ Mut (fun k => M k ∨ k = fb ∨ k = km) W' := by
 have gM : GrB M W.heap.size W W' := ⟨g.os, g.tape, g.output, g.size, fun k hk hn => g.block k hk (fun hy => by rcases hy with rfl | rfl | rfl; exact hn h.mem.1; exact hn h.mem.2.1; exact hn h.mem.2.2.1)⟩
 have hf := gM.fixed (fun k hk => (hM k hk).2)
 have hlow := h.low
 have hnew := h.newPlace hpl
 have hsrt : SrtE (insE E x) := h.srt.ins (fun y hy => (hnew y hy).1)
 obtain ⟨l1, l2, l3, l4⟩ := A.los
 have hb1 := (hM b h.mem.1).1
 have hb2 := (hM me h.mem.2.1).1
 have hb3 := (hM mf h.mem.2.2.1).1
 have hno : ∀ e ∈ E, predC e.ch ≠ predC x.ch := fun e he e' => by
  obtain ⟨f, hf'⟩ := h.has e he
  rw [e', hp] at hf'
  cases hf'
 have hM' : Mut M W' := hM.grow g (fun k hk => by rcases hk with rfl | rfl | rfl; exact A.base.nofix; exact A.ent.mapB.nofix; exact A.fam.mapB.nofix)
 refine ⟨?_, fun k hk => by
  rcases hk with hk | rfl | rfl
  ·exact hM' k hk
  ·exact ⟨A.fm.lt, A.fm.nofix⟩
  ·exact ⟨A.keyed.lt, A.keyed.mapB.nofix⟩⟩
 have hold : ∀ e ∈ E, EnIs (fun k => M k ∨ k = fb ∨ k = km) W' e := fun e he => ((h.ents e he).more (M' := fun k => M k ∨ k = fb ∨ k = km) (fun k hk => by rcases hk with hk | rfl | rfl; exact .inl hk; exact .inr l2; exact .inr l3)) |> fun hx => by
  obtain ⟨h1, D', S, h2, h3, h4⟩ := hx
  exact ⟨h1.fixed hf, D', S, h2.fromS (fun k hk hl => gM.block k hl (fun hm => (h4 k hk).2 (.inl hm))) gM.size, h3.fromS (fun k hk hl => gM.block k hl (fun hm => (h4 k hk).2 (.inl hm))) gM.size, fun k hk => ⟨Nat.lt_of_lt_of_le (h4 k hk).1 gM.size, (h4 k hk).2⟩⟩
 have hnewE : EnIs (fun k => M k ∨ k = fb ∨ k = km) W' x := ⟨A.en, ⟨D, hD⟩, _, A.hh.bound, A.hb.bound, fun k hk => ⟨hk.2, fun hm => by
  obtain ⟨⟨k1, k2, k3⟩, _⟩ := hk
  rcases hm with hm | rfl | rfl
  ·have := (hM k hm).1; omega
  ·omega
  ·omega⟩⟩
 exact {
  base := A.base
  ent := A.ent
  fam := by have := A.fam; rw [hpr] at this; exact this
  low := by omega
  cnt := by have := h.cnt; rw [len_ins]; omega
  srt := hsrt
  pls := fun e he => by
   rcases mem_ins he with rfl | he
   ·omega
   ·have := h.pls e he; omega
  ids := pairwise_ins h.ids (fun y hy => (hnew y hy).2)
  get := get_ins h hpl
  gfs := fun p => by
   unfold updF updL
   by_cases e : p = predC x.ch
   ·rw [if_pos e, if_pos e]; rfl
   ·rw [if_neg e, if_neg e]; exact h.gfs p
  fams := fun p f' hp' => by
   rcases updF_cases hp' with ⟨rfl, rfl⟩ | ⟨hne, hF⟩
   ·refine ⟨A.fm, A.keyed, by have := h.cnt; rw [len_ins]; push_cast; omega, ?_, fun k => ?_⟩
    ·rw [(rowP_ins h.srt).1 rfl, rowP_none hno]
     exact ⟨1, oneT_trL A.t1 A.en⟩
    ·by_cases e : k = keyC x.ch
     ·subst e
      rw [(rowK_ins h.srt).1 rfl rfl, rowK_none hno]
      show ∃ h, TrL W' (updL (fun _ => none) (keyC x.ch) ⟨q2, 0, none⟩ (keyC x.ch)) _ h
      unfold updL
      rw [if_pos rfl]
      exact ⟨1, oneT_trL A.t2 A.en⟩
     ·rw [(rowK_ins h.srt).2 (.inr (fun e' => e e'.symm)), rowK_none hno]
      show ∃ h, TrL W' (updL (fun _ => none) (keyC x.ch) ⟨q2, 0, none⟩ k) _ h
      unfold updL
      rw [if_neg e]
      exact ⟨0, TrL.nil _⟩
   ·obtain ⟨f1, f2, f3, ⟨t1, f4⟩, f5⟩ := h.fams p f' hF
    have hfa := h.farF p f' hF
    have hm' := h.mem.2.2.2 p f' hF
    have k1 : W'.heap[f'.fb]? = W.heap[f'.fb]? := g.block _ (hM _ hm'.1).1 (by omega)
    have k2 : W'.heap[f'.km]? = W.heap[f'.km]? := g.block _ (hM _ hm'.2).1 (by omega)
    refine ⟨k1.trans f1, f2.kept k2, by rw [len_ins]; push_cast; omega, ?_, fun k => ?_⟩
    ·rw [(rowP_ins h.srt).2 (fun e => hne e.symm)]
     exact ⟨t1, f4.fixed (enAll_of h.ents (fun y hy => rowP_mem hy)) hf⟩
    ·obtain ⟨t2, f6⟩ := f5 k
     rw [(rowK_ins h.srt).2 (.inl (fun e => hne e.symm))]
     exact ⟨t2, f6.fixed (enAll_of h.ents (fun y hy => rowK_mem hy)) hf⟩
  has := fun e he => by
   unfold updF
   by_cases e' : predC e.ch = predC x.ch
   ·exact ⟨_, if_pos e'⟩
   ·rw [if_neg e']
    rcases mem_ins he with rfl | he
    ·exact absurd rfl e'
    ·exact h.has e he
  ents := fun e he => by
   rcases mem_ins he with rfl | he
   ·exact hnewE
   ·exact hold e he
  oks := fun e he => by
   rcases mem_ins he with rfl | he
   ·exact ho
   ·exact h.oks e he
  mem := ⟨.inl h.mem.1, .inl h.mem.2.1, .inl h.mem.2.2.1, fun p f' hp' => by
   rcases updF_cases hp' with ⟨_, rfl⟩ | ⟨_, hF⟩
   ·exact ⟨.inr (.inl rfl), .inr (.inr rfl)⟩
   ·exact ⟨.inl (h.mem.2.2.2 p f' hF).1, .inl (h.mem.2.2.2 p f' hF).2⟩⟩
  far := h.far
  farF := fun p f' hp' => by
   rcases updF_cases hp' with ⟨_, rfl⟩ | ⟨_, hF⟩
   ·dsimp only
    omega
   ·exact h.farF p f' hF
  farP := fun p p' f1 f2 h1 h2 hne => by
   rcases updF_cases h1 with ⟨e1, rfl⟩ | ⟨_, hF1⟩
   ·rcases updF_cases h2 with ⟨e2, rfl⟩ | ⟨_, hF2⟩
    ·exact absurd (e1.trans e2.symm) hne
    ·have hm := h.mem.2.2.2 p' f2 hF2
     have a1 := (hM _ hm.1).1
     have a2 := (hM _ hm.2).1
     dsimp only
     omega
   ·have hm := h.mem.2.2.2 p f1 hF1
    have a1 := (hM _ hm.1).1
    have a2 := (hM _ hm.2).1
    rcases updF_cases h2 with ⟨e2, rfl⟩ | ⟨_, hF2⟩
    ·dsimp only
     omega
    ·exact h.farP p p' f1 f2 hF1 hF2 hne }
/- Remove keeps what holds of a base. -/
/- (*base.Base).Remove of a base of which BOK holds. -/
def Own (b me mf : Nat) (F : Lit → Option Fam) (k : Nat) : Prop := k = b ∨ k = me ∨ k = mf ∨ ∃ p f, F p = some f ∧ (k = f.fb ∨ k = f.km)
theorem rowP_len (E : List En) (p : Lit) : (rowP E p).length ≤ E.length := by
 unfold rowP
 rw [List.length_map]
 exact List.length_filter_le _ _
theorem rowK_len (E : List En) (p k : Lit) : (rowK E p k).length ≤ E.length := by
 unfold rowK
 rw [List.length_map]
 exact List.length_filter_le _ _
theorem BOK.rowsP {M : Nat → Prop} {W : World} {b me mf : Nat} {laid : Int} {ce cf : Nat} {ge gf : Lit → Option Addr} {F : Lit → Option Fam} {E : List En} (h : BOK M W b me mf laid ce cf ge gf F E) (hbig : laid < 1099511627776) (p : Lit) : EnAll W (rowP E p) ∧ Srt (rowP E p) ∧ (∀ y ∈ rowP E p, -laid ≤ y.2 ∧ y.2 ≤ laid) ∧ (rowP E p).length < 1152921504606846976 := by
 refine ⟨enAll_of h.ents (fun y hy => rowP_mem hy), by unfold rowP; exact h.srt.row _, fun y hy => ?_, by have := rowP_len E p; have := h.cnt; omega⟩
 obtain ⟨e, he, rfl⟩ := rowP_mem hy
 have := h.pls e he
 exact ⟨this.2.1, this.2.2⟩
theorem BOK.rowsK {M : Nat → Prop} {W : World} {b me mf : Nat} {laid : Int} {ce cf : Nat} {ge gf : Lit → Option Addr} {F : Lit → Option Fam} {E : List En} (h : BOK M W b me mf laid ce cf ge gf F E) (hbig : laid < 1099511627776) (p k : Lit) : EnAll W (rowK E p k) ∧ Srt (rowK E p k) ∧ (∀ y ∈ rowK E p k, -laid ≤ y.2 ∧ y.2 ≤ laid) ∧ (rowK E p k).length < 1152921504606846976 := by
 refine ⟨enAll_of h.ents (fun y hy => rowK_mem hy), by unfold rowK; exact h.srt.row _, fun y hy => ?_, by have := rowK_len E p k; have := h.cnt; omega⟩
 obtain ⟨e, he, rfl⟩ := rowK_mem hy
 have := h.pls e he
 exact ⟨this.2.1, this.2.2⟩
theorem own_upd {b me mf : Nat} {F : Lit → Option Fam} {p : Lit} {f f' : Fam} (hp : F p = some f) (h1 : f'.fb = f.fb) (h2 : f'.km = f.km) {k : Nat} (h : Own b me mf (updF F p f') k) : Own b me mf F k := by
 rcases h with h | h | h | ⟨p', g, hg, hk⟩
 ·exact .inl h
 ·exact .inr (.inl h)
 ·exact .inr (.inr (.inl h))
 ·rcases updF_cases hg with ⟨_, rfl⟩ | ⟨_, hF⟩
  ·exact .inr (.inr (.inr ⟨p, f, hp, by rw [← h1, ← h2]; exact hk⟩))
  ·exact .inr (.inr (.inr ⟨p', g, hF, hk⟩))
theorem updF_more {F : Lit → Option Fam} {q : Lit} {f' : Fam} (p : Lit) : (∃ g, updF F q f' p = some g) ↔ (∃ g, F p = some g) ∨ p = q := by
 unfold updF
 split
 ·rename_i e; subst e; exact ⟨fun _ => .inr rfl, fun _ => ⟨f', rfl⟩⟩
 ·rename_i e; exact ⟨.inl, fun h => h.resolve_right e⟩
end Go.Proofs.YtlbobmebbllifaaGreat
