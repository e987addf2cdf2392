import Derived.Test.YtlbobmebbllifaaGreatBdK
/- A base's entries as a row: what a predicate and a key of it have. -/
namespace Go.Proofs.YtlbobmebbllifaaGreat
open Go.RowKit Go.Shelf Go.Maps
def predC : List Nd → Lit
 | nd :: _ => .string (keyBytes [.string nd.2.2.1, .int .i64 (nd.2.2.2 : Int)])
 | [] => .string []
def keyN (k N : Int) (s : List UInt8) (n : Nat) : Lit := .string (keyBytes [.int .i64 k, .int .i64 N, .string s, .int .i64 (n : Int)])
def keyZ : Lit := keyN 0 0 [] 0
def keyC : List Nd → Lit
 | _ :: u :: _ => if u.1 = 1 then keyZ else keyN u.1 u.2.1 u.2.2.1 u.2.2.2
 | _ => keyZ
theorem predL_code {n : Nat} (t : Tm (n + 1)) : predL t.tv.s t.tv.len = predC (code t) := by
 rw [code_kids]
 simp only [predC, predL, TV.nd, ByteArray.toList_eq]
theorem keyOf_code {n : Nat} (t : Tm (n + 1)) {W : World} (hT : IsT W.heap.size W t) (hok : okT t = true) (hn : numC (code t)) : keyOf Tryz.prog 89 (keyOfV t) = some (keyC (code t)) := by
 obtain ⟨x, kids⟩ := t
 obtain ⟨h1, h2, h3, h4⟩ := hT
 have hk := ok_kids hok
 unfold keyOfV
 have key0 : keyOf Tryz.prog 89 (keyV 0 0 ⟨#[]⟩ 0) = some keyZ := key_key 0 0 ⟨#[]⟩ 0 (by decide) (by omega) (by omega) (by omega) (by omega) (by omega)
 cases kids with
 | nil => exact key0
 | cons u r =>
  cases n with
  | zero => exact Empty.elim u
  | succ n =>
   have hc : code (n := n + 1 + 1) ((x, u :: r) : TV × List (Tm (n + 1))) = x.nd :: u.tv.nd :: (u.kids.flatMap code ++ r.flatMap code) := by
    rw [code_succ, List.flatMap_cons, code_kids u]
    rfl
   rw [hc]
   by_cases hk1 : u.tv.k = 1
   ·have e : keyOfT (n := n + 1) ((x, u :: r) : TV × List (Tm (n + 1))) = (0, 0, ⟨#[]⟩, 0) := by unfold keyOfT; simp [Tm.kids, hk1]
    rw [e]
    have e2 : keyC (x.nd :: u.tv.nd :: (u.kids.flatMap code ++ r.flatMap code)) = keyZ := by simp [keyC, TV.nd, hk1]
    rw [e2]
    exact key0
   ·have e : keyOfT (n := n + 1) ((x, u :: r) : TV × List (Tm (n + 1))) = (u.tv.k, u.tv.N, u.tv.s, u.tv.len) := by unfold keyOfT; simp [Tm.kids, hk1]
    rw [e]
    have e2 : keyC (x.nd :: u.tv.nd :: (u.kids.flatMap code ++ r.flatMap code)) = keyL u.tv.k u.tv.N u.tv.s u.tv.len := by simp [keyC, TV.nd, hk1, keyN, keyL, ByteArray.toList_eq]
    rw [e2]
    have oku := hk.2 u (by simp)
    have hTu : IsT W.heap.size W u := by
     rcases h4 with h4 | ⟨b, off, _, _, hk'⟩
     ·cases h4
     ·exact (hk' 0 u rfl).2
    have hsu : u.tv.s.size ≤ 9223372036854775807 := hTu.2.2.1
    have hnu := hn u.tv.nd (by rw [hc]; simp)
    have hNu : -9223372036854775808 ≤ u.tv.N ∧ u.tv.N ≤ 9223372036854775807 := hnu
    have hkl : u.tv.k ≤ 4 ∧ 0 ≤ u.tv.k ∧ u.tv.len ≤ 50 := by
     rcases wm_cases (ok_top oku) with ⟨h, _, _, _, h'⟩ | ⟨h, h'⟩ | ⟨h, _, _, h'⟩ <;> omega
    exact key_key u.tv.k u.tv.N u.tv.s u.tv.len (by unfold maxLen; omega) (by omega) (by omega) (by omega) hNu.1 hNu.2
structure En where
 eb : Nat
 pl : Int
 hx : TV
 bx : TV
 ch : List Nd
 cb : List Nd
def En.at (e : En) : Nat × Int := (e.eb, e.pl)
def En.say (e : En) : Int × List Nd × List Nd := (e.pl, e.ch, e.cb)
open Classical in
noncomputable def rowP (E : List En) (p : Lit) : List (Nat × Int) := (E.filter (fun e => decide (predC e.ch = p))).map En.at
open Classical in
noncomputable def rowK (E : List En) (p k : Lit) : List (Nat × Int) := (E.filter (fun e => decide (predC e.ch = p ∧ keyC e.ch = k))).map En.at
def insE (E : List En) (x : En) : List En := E.filter (fun y => decide (y.pl < x.pl)) ++ x :: E.filter (fun y => decide (x.pl ≤ y.pl))
def SrtE (E : List En) : Prop := E.Pairwise (fun a b => a.pl < b.pl)
theorem filter_at (E : List En) (f : Nat × Int → Bool) : (E.map En.at).filter f = (E.filter (fun e => f e.at)).map En.at := by
 rw [List.filter_map]
 rfl
theorem SrtE.row {E : List En} (h : SrtE E) (f : En → Bool) : Srt ((E.filter f).map En.at) := by
 unfold Srt
 rw [List.pairwise_map]
 exact (List.Pairwise.filter f h)
theorem insE_row (E : List En) (x : En) (f : En → Bool) (hx : f x = true) : ((insE E x).filter f).map En.at = insL ((E.filter f).map En.at) x.at := by
 unfold insE insL
 rw [List.filter_append, List.filter_cons_of_pos hx, List.map_append, List.map_cons, filter_at, filter_at, List.filter_filter, List.filter_filter, List.filter_filter, List.filter_filter]
 simp only [En.at, Bool.and_comm]
 rfl
theorem insE_out (E : List En) (x : En) (f : En → Bool) (hx : f x = false) (hs : SrtE E) : ((insE E x).filter f) = E.filter f := by
 unfold insE
 rw [List.filter_append, List.filter_cons_of_neg (by simp [hx])]
 induction E with
 | nil => rfl
 | cons y E ih =>
  obtain ⟨h1, h2⟩ := List.pairwise_cons.1 hs
  by_cases hy : y.pl < x.pl
  ·rw [List.filter_cons_of_pos (by simpa using hy), List.filter_cons_of_neg (l := E) (by simp; omega)]
   by_cases hf : f y = true
   ·rw [List.filter_cons_of_pos hf, List.filter_cons_of_pos hf, List.cons_append, ih h2]
   ·rw [List.filter_cons_of_neg hf, List.filter_cons_of_neg hf, ih h2]
  ·have e1 : E.filter (fun z => decide (z.pl < x.pl)) = [] := List.filter_eq_nil_iff.2 fun z hz => by have := h1 z hz; simp; omega
   have e2 : E.filter (fun z => decide (x.pl ≤ z.pl)) = E := List.filter_eq_self.2 fun z hz => by have := h1 z hz; simp; omega
   rw [List.filter_cons_of_neg (by simpa using hy), e1, List.filter_cons_of_pos (by simp; omega), e2]
   rfl
theorem SrtE.ins {E : List En} (h : SrtE E) {x : En} (hx : ∀ y ∈ E, y.pl ≠ x.pl) : SrtE (insE E x) := by
 unfold SrtE insE
 rw [List.pairwise_append]
 refine ⟨List.Pairwise.filter _ h, List.pairwise_cons.2 ⟨?_, List.Pairwise.filter _ h⟩, ?_⟩
 ·intro y hy
  simp at hy
  have := hx y hy.1
  omega
 ·intro y hy z hz
  simp at hy
  rcases List.mem_cons.1 hz with rfl | hz
  ·exact hy.2
  ·simp at hz
   omega
/- A base in memory: what holds of it between its operations; it is kept by what changes other blocks. -/
structure Fam where
 fb : Nat
 km : Nat
 ck : Nat
 all : Option Addr
 gk : Lit → Option Addr
def Mut (M : Nat → Prop) (W : World) : Prop := ∀ k, M k → k < W.heap.size ∧ NoFix W k
def EnIs (M : Nat → Prop) (W : World) (e : En) : Prop := EnBlk W e.eb e.pl e.hx e.bx ∧ ∃ (D : Upto 1099511627775) (S : Nat → Prop), HoldsS D.1 S W e.hx.val e.ch ∧ HoldsS D.1 S W e.bx.val e.cb ∧ ∀ k, S k → k < W.heap.size ∧ ¬ M k
theorem EnIs.kept {M : Nat → Prop} {W W' : World} {e : En} (h : EnIs M W e) (hM : Mut M W) (g : GrB M W.heap.size W W') : EnIs M W' e := by
 obtain ⟨h1, D, S, h2, h3, h4⟩ := h
 have hf := g.fixed (fun k hk => (hM k hk).2)
 exact ⟨h1.fixed hf, D, S, h2.fromS (fun k hk hl => g.block k hl (h4 k hk).2) g.size, h3.fromS (fun k hk hl => g.block k hl (h4 k hk).2) g.size, fun k hk => ⟨Nat.lt_of_lt_of_le (h4 k hk).1 g.size, (h4 k hk).2⟩⟩
theorem EnIs.more {M M' : Nat → Prop} {W : World} {e : En} (h : EnIs M W e) (hM : ∀ k, M' k → M k ∨ W.heap.size ≤ k) : EnIs M' W e := by
 obtain ⟨h1, D, S, h2, h3, h4⟩ := h
 exact ⟨h1, D, S, h2, h3, fun k hk => ⟨(h4 k hk).1, fun hm => (hM k hm).elim (h4 k hk).2 (fun hl => by have := (h4 k hk).1; omega)⟩⟩
def FamIs (W : World) (laid : Int) (E : List En) (p : Lit) (f : Fam) : Prop :=
 FmBlk W f.fb f.all f.km ∧ PM 89 W f.km f.ck f.gk ∧ (f.ck : Int) ≤ 2 * laid - E.length ∧ (∃ h, TrL W f.all (rowP E p) h) ∧ ∀ k, ∃ h, TrL W (f.gk k) (rowK E p k) h
structure BOK (M : Nat → Prop) (W : World) (b me mf : Nat) (laid : Int) (ce cf : Nat) (ge gf : Lit → Option Addr) (F : Lit → Option Fam) (E : List En) : Prop where
 base : BsBlk W b laid me mf
 ent : PM 3 W me ce ge
 fam : PM 80 W mf cf gf
 low : 0 ≤ laid
 cnt : (ce : Int) ≤ laid ∧ (cf : Int) ≤ laid ∧ (E.length : Int) ≤ laid
 srt : SrtE E
 pls : ∀ e ∈ E, e.pl ≠ 0 ∧ -laid ≤ e.pl ∧ e.pl ≤ laid
 ids : E.Pairwise (fun a b => a.pl ≠ -b.pl)
 get : ∀ id : Int, ge (.int .i64 id) = (E.find? (fun e => decide (max e.pl (-e.pl) = id))).map (fun e => ⟨e.eb, 0, none⟩)
 gfs : ∀ p, gf p = (F p).map (fun f => ⟨f.fb, 0, none⟩)
 fams : ∀ p f, F p = some f → FamIs W laid E p f
 has : ∀ e ∈ E, ∃ f, F (predC e.ch) = some f
 ents : ∀ e ∈ E, EnIs M W e
 oks : ∀ e ∈ E, e.ch.all okM = true ∧ e.cb.all okM = true ∧ numC e.ch
 mem : M b ∧ M me ∧ M mf ∧ ∀ p f, F p = some f → M f.fb ∧ M f.km
 far : b ≠ me ∧ b ≠ mf ∧ me ≠ mf
 farF : ∀ p f, F p = some f → f.fb ≠ b ∧ f.fb ≠ me ∧ f.fb ≠ mf ∧ f.km ≠ b ∧ f.km ≠ me ∧ f.km ≠ mf ∧ f.fb ≠ f.km
 farP : ∀ p p' f f', F p = some f → F p' = some f' → p ≠ p' → f.fb ≠ f'.fb ∧ f.km ≠ f'.km ∧ f.fb ≠ f'.km
theorem rowP_mem {E : List En} {p : Lit} {y : Nat × Int} (h : y ∈ rowP E p) : ∃ e ∈ E, e.at = y := by
 unfold rowP at h
 obtain ⟨e, he, rfl⟩ := List.mem_map.1 h
 exact ⟨e, (List.mem_filter.1 he).1, rfl⟩
theorem rowK_mem {E : List En} {p k : Lit} {y : Nat × Int} (h : y ∈ rowK E p k) : ∃ e ∈ E, e.at = y := by
 unfold rowK at h
 obtain ⟨e, he, rfl⟩ := List.mem_map.1 h
 exact ⟨e, (List.mem_filter.1 he).1, rfl⟩
theorem enAll_of {M : Nat → Prop} {W : World} {E : List En} {L : List (Nat × Int)} (hE : ∀ e ∈ E, EnIs M W e) (hL : ∀ y ∈ L, ∃ e ∈ E, e.at = y) : EnAll W L := fun y hy => by
 obtain ⟨e, he, rfl⟩ := hL y hy
 exact ⟨e.hx, e.bx, (hE e he).1⟩
theorem BOK.frame {M Y : Nat → Prop} {W W' : World} {b me mf : Nat} {laid : Int} {ce cf : Nat} {ge gf : Lit → Option Addr} {F : Lit → Option Fam} {E : List En} (h : BOK M W b me mf laid ce cf ge gf F E) (hM : Mut M W) (g : GrB Y W.heap.size W W') (hY : ∀ k, Y k → M k ∧ k ≠ b ∧ k ≠ me ∧ k ≠ mf ∧ ∀ p f, F p = some f → k ≠ f.fb ∧ k ≠ f.km) : BOK M W' b me mf laid ce cf ge gf F E := by
 have gM : GrB M W.heap.size W W' := ⟨g.os, g.tape, g.output, g.size, fun k hk hn => g.block k hk (fun hy => hn (hY k hy).1)⟩
 have hf := gM.fixed (fun k hk => (hM k hk).2)
 have kb : ∀ k, M k → ¬ Y k → W'.heap[k]? = W.heap[k]? := fun k hm hn => g.block k (hM k hm).1 hn
 refine { h with
  base := (kb b h.mem.1 (fun hy => (hY _ hy).2.1 rfl)).trans h.base
  ent := h.ent.kept (kb me h.mem.2.1 (fun hy => (hY _ hy).2.2.1 rfl))
  fam := h.fam.kept (kb mf h.mem.2.2.1 (fun hy => (hY _ hy).2.2.2.1 rfl))
  fams := fun p f hp => ?_
  ents := fun e he => (h.ents e he).kept hM gM }
 obtain ⟨f1, f2, f3, ⟨t1, f4⟩, f5⟩ := h.fams p f hp
 have hm := h.mem.2.2.2 p f hp
 refine ⟨(kb f.fb hm.1 (fun hy => ((hY _ hy).2.2.2.2 p f hp).1 rfl)).trans f1, f2.kept (kb f.km hm.2 (fun hy => ((hY _ hy).2.2.2.2 p f hp).2 rfl)), f3, ⟨t1, f4.fixed (enAll_of h.ents (fun y hy => rowP_mem hy)) hf⟩, fun k => ?_⟩
 obtain ⟨t2, f6⟩ := f5 k
 exact ⟨t2, f6.fixed (enAll_of h.ents (fun y hy => rowK_mem hy)) hf⟩
/- with and without on trees of entries, as lay and drop want them; a base's ids. -/
theorem EnBlk.place {W : World} {eb : Nat} {pl : Int} {hx bx : TV} (h : EnBlk W eb pl hx bx) : W.cell? ⟨eb, 0, none⟩ = some (.int .i64 pl) := h.cs.1
def WR (W : World) (pl : Int) (eb : Nat) (p : Option Addr) (q : Nat) (V : World) : Prop := ∃ L0 h0 h, TrL W p L0 h0 ∧ EnAll V (insL L0 (eb, pl)) ∧ TrL V (some ⟨q, 0, none⟩) (insL L0 (eb, pl)) h
theorem withR {W V : World} {p : Option Addr} {L : List (Nat × Int)} {h pl : Int} {eb : Nat} {hx bx : TV} (ht : TrL W p L h) (he : EnAll W L) (hs : Srt L) (hd : ∀ y ∈ L, y.2 ≠ pl) (hl : L.length < 1152921504606846976) (hf : Fixed W V) (hn : EnBlk V eb pl hx bx) : WithC eb (WR W pl eb) p V := by
 have h1 := withL eb pl L.length (Nat.le_refl _) (ht.fixed he hf) hs hd hn.place hl
 unfold TreeC at h1
 unfold WithC
 refine h1.mono ?_
 rintro e V' ⟨q, h', rfl, hq, hb, t⟩
 refine ⟨q, rfl, hq, hb, L, h, h', ht, fun y hy => ?_, t⟩
 rcases insL_mem hy with rfl | hy
 ·exact ⟨hx, bx, hn.fixed (Below.fixed hb)⟩
 ·exact ((he.fixed hf).fixed (Below.fixed hb)) y hy
theorem WR.gr {W V V' : World} {pl : Int} {eb : Nat} {p : Option Addr} {q fb km : Nat} (h : WR W pl eb p q V) (g : GrB (fun k => k = fb ∨ k = km) V.heap.size V V') (hf : ∃ a, FmBlk V fb a km) (hm : MapB V km) : WR W pl eb p q V' := by
 obtain ⟨L0, h0, h1, t0, e1, t1⟩ := h
 have hx : Fixed V V' := g.fixed fun k hk => by
  rcases hk with rfl | rfl
  ·obtain ⟨a, h⟩ := hf
   exact h.nofix
  ·exact hm.nofix
 exact ⟨L0, h0, h1, t0, e1.fixed hx, t1.fixed e1 hx⟩
theorem WR.use {W V : World} {pl : Int} {eb : Nat} {p : Option Addr} {q : Nat} {L : List (Nat × Int)} {h0 : Int} (h : WR W pl eb p q V) (ht : TrL W p L h0) : ∃ h, TrL V (some ⟨q, 0, none⟩) (insL L (eb, pl)) h := by
 obtain ⟨L0, _, h1, t0, _, t1⟩ := h
 obtain ⟨rfl, _⟩ := ht.uniq t0
 exact ⟨h1, t1⟩
def En.id (e : En) : Int := max e.pl (-e.pl)
theorem find_ins_out {E : List En} {x : En} (hs : SrtE E) (f : En → Bool) (hx : f x = false) : (insE E x).find? f = E.find? f := by
 rw [← List.head?_filter, ← List.head?_filter, insE_out E x f hx hs]
theorem find_ins_in {E : List En} {x : En} (f : En → Bool) (hx : f x = true) (hE : ∀ y ∈ E, f y = false) : (insE E x).find? f = some x := by
 rw [← List.head?_filter]
 unfold insE
 have e1 : ∀ g : En → Bool, (E.filter g).filter f = [] := fun g => List.filter_eq_nil_iff.2 fun y hy => by rw [hE y (List.mem_filter.1 hy).1]; simp
 rw [List.filter_append, e1, List.nil_append, List.filter_cons_of_pos hx]
 rfl
theorem mem_ins {E : List En} {x y : En} (h : y ∈ insE E x) : y = x ∨ y ∈ E := by
 unfold insE at h
 simp at h
 rcases h with h | h | h
 ·exact .inr h.1
 ·exact .inl h
 ·exact .inr h.1
theorem len_ins {E : List En} {x : En} : (insE E x).length = E.length + 1 := by
 unfold insE
 rw [List.length_append, List.length_cons]
 induction E with
 | nil => rfl
 | cons y E ih =>
  by_cases h : y.pl < x.pl
  ·rw [List.filter_cons_of_pos (by simpa using h), List.filter_cons_of_neg (l := E) (by simp; omega), List.length_cons, List.length_cons]
   omega
  ·rw [List.filter_cons_of_neg (by simpa using h), List.filter_cons_of_pos (l := E) (by simp; omega), List.length_cons, List.length_cons]
   omega
end Go.Proofs.YtlbobmebbllifaaGreat
