import Derived.Test.YtcdgmjpgmiehcaaGmNs
/- From a task's turn to its goal: bodies without bodies; what frames keep. -/
namespace Go.Proofs.Ytcdgmjpgmiehcaa
open Go.RowKit Go.Shelf

/-- A task was taken from the row. -/
structure PopS (wb : Nat) (nx : Int) (lf lf' : Value) (S : List Task) (E : Task) (V U : World) : Prop where
  gr : GrB (fun k => k = wb) V.heap.size V U
  sz : V.heap.size < U.heap.size
  wr : WrB U wb nx lf'
  st : StkK wb U lf' S
  tk : TkB U V.heap.size E
  ow : lf'.ownBlock = lf.ownBlock
theorem PtK.point {D w0 q : Nat} {f0 : Int} {vs : List Int} {V : World} {s : List Nd} (h : PtK D w0 f0 vs V q s) : ∃ x b, PtB V q x b := by obtain ⟨x, h, _⟩ := h; exact ⟨x, _, h⟩
theorem PtIs.point {D w0 q : Nat} {f0 : Int} {vs : List Int} {V : World} {s : List Nd} (h : PtIs D w0 f0 vs V q s) : ∃ x b, PtB V q x b := by
  rcases h with h | ⟨v, _, _, _, h⟩
  · exact h.point
  · exact ⟨_, _, h⟩
theorem PtB.ne_term {W : World} {q pb : Nat} {x : TV} {b : Bool} {arr : Array Value} (h : PtB W q x b) (hp : W.heap[pb]? = some (.cells arr 24 (0, 0))) : q ≠ pb := fun e => by
  subst e
  have := (show W.heap[q]? = _ from h).symm.trans hp
  simp at this
theorem StkK.ne_pt {B : Nat} {W : World} {v : Value} {S : List Task} {q : Nat} {x : TV} {b : Bool} (h : StkK B W v S) (hp : PtB W q x b) : ∀ g, v.ownBlock = some g → g ≠ q := fun g hg e => by
  obtain ⟨_, _, cur, hc⟩ := StkW.lt h hg
  subst e
  have := hc.symm.trans hp
  simp at this
theorem StkK.ne_wr {B : Nat} {W : World} {v : Value} {S : List Task} {q : Nat} {n : Int} {l : Value} (h : StkK B W v S) (hp : WrB W q n l) : ∀ g, v.ownBlock = some g → g ≠ q := fun g hg e => by
  obtain ⟨_, _, cur, hc⟩ := StkW.lt h hg
  subst e
  have := hc.symm.trans hp
  simp at this
theorem StkK.ne_term {B : Nat} {W : World} {v : Value} {S : List Task} {q : Nat} {arr : Array Value} (h : StkK B W v S) (hp : W.heap[q]? = some (.cells arr 24 (0, 0))) : ∀ g, v.ownBlock = some g → g ≠ q := fun g hg e => by
  obtain ⟨_, _, cur, hc⟩ := StkW.lt h hg
  subst e
  have := hc.symm.trans hp
  simp at this
theorem PtK.moved {D w0 q : Nat} {f0 : Int} {vs : List Int} {V V' : World} {s : List Nd} (h : PtK D w0 f0 vs V q s) (hq : V'.heap[q]? = V.heap[q]?) (hs : ∀ k, k < w0 → V'.heap[k]? = V.heap[k]?) (hz : V.heap.size ≤ V'.heap.size) : PtK D w0 f0 vs V' q s := h.kept hq hs hz []
theorem PtIs.moved {D w0 q : Nat} {f0 : Int} {vs : List Int} {V V' : World} {s : List Nd} (h : PtIs D w0 f0 vs V q s) (hq : V'.heap[q]? = V.heap[q]?) (hs : ∀ k, k < w0 → V'.heap[k]? = V.heap[k]?) (hz : V.heap.size ≤ V'.heap.size) : PtIs D w0 f0 vs V' q s := by
  rcases h with h | ⟨v, h1, h2, h3, h4⟩
  · exact .inl (h.moved hq hs hz)
  · exact .inr ⟨v, h1, h2, h3, h4.kept hq⟩
theorem Wst.pop {D wb pf pt : Nat} {f0 : Int} {vs : List Int} {s r : List Nd} {lf lf' : Value} {S : List Task} {E : Task} {V U : World} (h : Wst D wb wb pf pt f0 vs s r lf V) (hp : PopS wb (f0 + vs.length) lf lf' S E V U) : Wst D wb wb pf pt f0 vs s r lf' U := by
  obtain ⟨x1, b1, q1⟩ := h.kf.point
  obtain ⟨x2, b2, q2⟩ := h.kt.point
  have hwl := h.wr.lt
  exact ⟨h.kf.moved (hp.gr.block pf h.kf.lt (fun e => q1.ne_wr h.wr e.symm)) (fun k hk => hp.gr.block k (by omega) (by omega)) hp.gr.size, h.kt.moved (hp.gr.block pt h.kt.lt (fun e => q2.ne_wr h.wr e.symm)) (fun k hk => hp.gr.block k (by omega) (by omega)) hp.gr.size, hp.wr, h.d1, h.w0b, h.w0f, h.w0t, h.f00, h.n40⟩
theorem isT_low {wb m : Nat} {V V' : World} {t : Tm m} (h : IsT wb V t) (hk : ∀ k, k < wb → V'.heap[k]? = V.heap[k]?) : IsT wb V' t := h.fromS (S := (· < wb)) hk h.blk
section
variable {G D wb : Nat} {f0 f : Int} {vs : List Int} {s r : List Nd} {S : List Task} {E : Task} {pb po m : Nat} {lf lf' : Value} {V U V' : World}
/-- What is known of the blocks when a task's turn comes. -/
theorem Tin.apart {u : Tm m} (h : Tin D wb f0 f vs s r S E pb po u lf V) : wb < V.heap.size ∧ E.pf < V.heap.size ∧ E.pt < V.heap.size ∧ pb < V.heap.size ∧ wb ≠ E.pf ∧ wb ≠ E.pt ∧ E.pf ≠ pb ∧ E.pt ≠ pb := by
  obtain ⟨x1, b1, q1⟩ := h.ws.kf.point
  obtain ⟨x2, b2, q2⟩ := h.ws.kt.point
  obtain ⟨arr, hp, _⟩ := h.pk
  exact ⟨h.ws.wr.lt, h.ws.kf.lt, h.ws.kt.lt, (Array.getElem?_eq_some_iff.1 hp).1, q1.ne_wr h.ws.wr, q2.ne_wr h.ws.wr, q1.ne_term hp, q2.ne_term hp⟩
/-- A goal without bodies is written and stored. -/
theorem leaf_out {n Dd : Nat} {u : Tm (n + 1)} {y : TV} (h : Tin D wb f0 f vs s r S E pb po u lf V) (hp : PopS wb (f0 + vs.length) lf lf' S E V U) (h2 : formB u.tv ≠ 2) (h3 : formB u.tv ≠ 3) (h4 : formB u.tv ≠ 4)
    (hG : HoldsG anyP Dd U.heap.size V' y.val (btwC u (renC (newR f0 (extV f0 vs r)) s) (renC (newR f0 (extV f0 vs r)) r) 0)) (hW : Wen D wb wb E.pf E.pt f0 vs s r lf' U V') (hD : Dd ≤ G) :
    TkB V' V.heap.size E ∧ Spot V' pb po ∧ Tout G D wb f0 f vs s r S E pb po u lf' V (set4 V' pb po y) := by
  obtain ⟨a1, a2, a3, a4, a5, a6, a7, a8⟩ := h.apart
  have hsz := hp.sz
  obtain ⟨arr, hpk, hpo⟩ := h.pk
  have hw0 := h.pw
  have hwl : Wl u := h.is.wl
  have hcs : Come f0 vs s := by obtain ⟨x, _, _, _, hc⟩ := h.ws.kf; exact hc
  have eE := leaf_ext (f := f) (r := r) u hwl h2 h3 h4 h.vu hcs
  have eR := leaf_ren (f := f) (f' := 0) (vs := extV f0 vs r) (s := s) (r := r) u hwl h.ok h2 h3 h4 h.vu
  rw [eR] at hG
  have kU : ∀ k, k < V.heap.size → k ≠ wb → U.heap[k]? = V.heap[k]? := fun k hk hne => hp.gr.block k hk hne
  have kV : ∀ k, k < U.heap.size → k ≠ wb → k ≠ E.pt → V'.heap[k]? = U.heap[k]? := fun k hk h1 h2 => hW.gr.block k hk (fun e => e.elim h1 h2)
  have hpb : V'.heap[pb]? = V.heap[pb]? := (kV pb (by omega) (by omega) (fun e => a8 e.symm)).trans (kU pb a4 (by omega))
  have hsp : Spot V' pb po := ⟨arr, _, hpb.trans hpk, hpo⟩
  obtain ⟨q0, y0⟩ := hsp.cell (q := po) (by omega)
  obtain ⟨q1, y1⟩ := hsp.cell (q := po + 1) (by omega)
  obtain ⟨q2, y2⟩ := hsp.cell (q := po + 2) (by omega)
  obtain ⟨q3, y3⟩ := hsp.cell (q := po + 3) (by omega)
  have ot := fun k (hk : k ≠ pb) => set4_other V' pb po y hk
  have htk : TkB V' V.heap.size E := (kV _ (by omega) (by omega) (by omega)).trans hp.tk
  have hw0t := h.ws.w0t
  refine ⟨htk, hsp, ⟨⟨y, set4_cells V' pb po y q0 q1 q2 q3, ?_⟩, ?_, ?_, ?_, ?_, ⟨⟨hW.gr.os.trans hp.gr.os, hW.gr.tape.trans hp.gr.tape, hW.gr.output.trans hp.gr.output, by rw [set4_size]; exact Nat.le_trans hp.gr.size hW.gr.size, fun k hk hx _ => ?_⟩, fun arr' T ha => set4_arr (hpb.trans ha) y⟩⟩⟩
  · rw [eE]
    exact (hG.set4 (by omega) po y).mono hD (by omega) (fun _ h => h)
  · rw [eE]
    exact hW.kf.moved (ot _ (by omega)) (fun k hk => ot k (by omega)) (by rw [set4_size]; exact Nat.le_refl _)
  · rw [eE]
    exact hW.kt.moved (ot _ (by omega)) (fun k hk => ot k (by omega)) (by rw [set4_size]; exact Nat.le_refl _)
  · rw [eE]
    exact hW.wr.kept (ot wb (by omega))
  · have hpt := ((h.ws.pop hp).kt).point
    obtain ⟨x2, b2, p2⟩ := hpt
    have sV' : StkK wb V' lf' S := hp.st.frame (fun g hg => kV g (StkW.lt hp.st hg).2.1 (hp.st.ne_wr hp.wr g hg) (hp.st.ne_pt p2 g hg))
    exact sV'.frame (fun g hg => ot g (sV'.ne_term (hpb.trans hpk) g hg))
  · exact (ot k (fun e => hx (.inr (.inr e)))).trans ((kV k (by omega) (fun e => hx (.inl e)) (fun e => hx (.inr (.inl e)))).trans (kU k hk (fun e => hx (.inl e))))
end
/-- What frames keep. -/
theorem FrT.low {wb pt pb po : Nat} {V V' : World} (h : FrT wb pt pb po V V') (hw : wb < V.heap.size) (hpt : wb ≤ pt) (hpb : wb < pb) : ∀ k, k < wb → V'.heap[k]? = V.heap[k]? := fun k hk => h.fr.block k (by omega) (by omega) (.inl hk)
theorem FrT.point {wb pt pb po q : Nat} {V V' : World} (h : FrT wb pt pb po V V') {x : TV} {b : Bool} (hq : PtB V q x b) (h1 : q ≠ wb) (h2 : q ≠ pt) (h3 : q ≠ pb) : V'.heap[q]? = V.heap[q]? := h.fr.block q hq.lt (by omega) (.inr fun o ho => by
  rw [show V.heap[q]? = _ from hq] at ho
  cases ho
  simp [ofK])
theorem FrT.terms {wb pt pb po q : Nat} {V V' : World} (h : FrT wb pt pb po V V') {arr : Array Value} (hq : V.heap[q]? = some (.cells arr 24 (0, 0))) (h1 : q ≠ wb) (h2 : q ≠ pt) (h3 : q ≠ pb) : V'.heap[q]? = V.heap[q]? := h.fr.block q (Array.getElem?_eq_some_iff.1 hq).1 (by omega) (.inr fun o ho => by
  rw [hq] at ho
  cases ho
  simp [ofK])
theorem FrT.cell {wb pt pb po : Nat} {V V' : World} (h : FrT wb pt pb po V V') {arr : Array Value} {T : TypeId} (hb : V.heap[pb]? = some (.cells arr T (0, 0))) {o : Nat} {x : TV} (hc : cellsAt V pb o x) (ho : o + 4 ≤ po ∨ po + 4 ≤ o) : cellsAt V' pb o x := by
  obtain ⟨arr', h1, _, h3⟩ := h.at4 arr T hb
  have hq : ∀ q, (q < po ∨ po + 3 < q) → V'.cell? ⟨pb, q, none⟩ = V.cell? ⟨pb, q, none⟩ := fun q hq => by simp only [World.cell?, hb, h1, h3 q hq]
  obtain ⟨c0, c1, c2, c3⟩ := hc
  exact ⟨(hq _ (by omega)).trans c0, (hq _ (by omega)).trans c1, (hq _ (by omega)).trans c2, (hq _ (by omega)).trans c3⟩
theorem FrT.row {wb pt pb po len : Nat} {V V' : World} (h : FrT wb pt pb po V V') (hb : Row4 V pb len) : Row4 V' pb len := by
  obtain ⟨arr, h1, h2⟩ := hb
  obtain ⟨arr', k1, k2, _⟩ := h.at4 arr _ h1
  exact ⟨arr', k1, by omega⟩
theorem FrT.holds {P : Nat → Prop} {wb pt pb po D lo : Nat} {V V' : World} (h : FrT wb pt pb po V V') {v : Value} {c : List Nd} (hg : HoldsG P D lo V v c) (h1 : wb < lo) (h2 : pt < lo) (h3 : pb < lo) : HoldsG P D lo V' v c :=
  hg.frame h.fr fun k _ hk => by have := hk.1; omega
end Go.Proofs.Ytcdgmjpgmiehcaa

/- From a task's turn to its goal: bodies of two. -/
namespace Go.Proofs.Ytcdgmjpgmiehcaa
open Go.RowKit Go.Shelf

section
variable {D wb : Nat} {f0 f : Int} {vs : List Int} {s r : List Nd} {S : List Task} {E : Task} {pb po m : Nat} {lf lf' : Value} {V U V' V1 V2 V3 : World}
/-- Behind top and its store: what is left to be written, and the term that waits for it. -/
structure Mid (D wb : Nat) (f0 : Int) (vs : List Int) (s r : List Nd) (E : Task) (pb po : Nat) (cv : TV) (S' : List Task) (V V1 : World) : Prop where
  cv : cellsAt V1 pb po cv
  kf : PtK D wb f0 vs V1 E.pf s
  kt : PtIs D wb f0 vs V1 E.pt r
  st : ∃ lf1, WrB V1 wb (f0 + vs.length) lf1 ∧ StkK wb V1 lf1 S'
  fr : FrT wb wb pb po V V1
  pk : ∃ arr, V1.heap[pb]? = some (.cells arr 24 (0, 0))
theorem mid_of {u : Tm m} (h : Tin D wb f0 f vs s r S E pb po u lf V) (hp : PopS wb (f0 + vs.length) lf lf' S E V U) {S' : List Task} (hg : GrB (fun k => k = wb ∨ lf'.ownBlock = some k) U.heap.size U V') (hf : FrG wb (fun k => k = wb) U V') (hst : ∃ lf1, WrB V' wb (f0 + vs.length) lf1 ∧ StkK wb V' lf1 S') (cv : TV) :
    TkB V' V.heap.size E ∧ Spot V' pb po ∧ Mid D wb f0 vs s r E pb po cv S' V (set4 V' pb po cv) := by
  obtain ⟨a1, a2, a3, a4, a5, a6, a7, a8⟩ := h.apart
  have hsz := hp.sz
  obtain ⟨arr, hpk, hpo⟩ := h.pk
  have hw0 := h.pw
  have hws := h.ws.pop hp
  obtain ⟨x1, b1, p1⟩ := hws.kf.point
  obtain ⟨x2, b2, p2⟩ := hws.kt.point
  have kU : ∀ k, k < V.heap.size → k ≠ wb → U.heap[k]? = V.heap[k]? := fun k hk hne => hp.gr.block k hk hne
  have hpkU : U.heap[pb]? = some (.cells arr 24 (0, 0)) := (kU pb a4 (by omega)).trans hpk
  have kV : ∀ k, k < U.heap.size → k ≠ wb → lf'.ownBlock ≠ some k → V'.heap[k]? = U.heap[k]? := fun k hk h1 h2 => hg.block k hk (fun e => e.elim h1 h2)
  have hpb : V'.heap[pb]? = U.heap[pb]? := kV pb (by omega) (by omega) (fun e => hp.st.ne_term hpkU pb e rfl)
  have hpkV : V'.heap[pb]? = some (.cells arr 24 (0, 0)) := hpb.trans hpkU
  have hsp : Spot V' pb po := ⟨arr, _, hpkV, hpo⟩
  obtain ⟨q0, y0⟩ := hsp.cell (q := po) (by omega)
  obtain ⟨q1, y1⟩ := hsp.cell (q := po + 1) (by omega)
  obtain ⟨q2, y2⟩ := hsp.cell (q := po + 2) (by omega)
  obtain ⟨q3, y3⟩ := hsp.cell (q := po + 3) (by omega)
  have ot := fun k (hk : k ≠ pb) => set4_other V' pb po cv hk
  have hown : ∀ g, lf'.ownBlock = some g → wb ≤ g ∧ g < V.heap.size := fun g hg => by
    have h1 := StkW.lt h.st (hp.ow ▸ hg)
    exact ⟨h1.1, h1.2.1⟩
  have hlow : ∀ k, k < wb → V'.heap[k]? = U.heap[k]? := fun k hk => kV k (by omega) (by omega) (fun e => by have := hown k e; omega)
  have hU1 := hws.kf.lt
  have hU2 := hws.kt.lt
  obtain ⟨lf1, w1, s1⟩ := hst
  refine ⟨(kV _ (by omega) (by omega) (fun e => by have := hown _ e; omega)).trans hp.tk, hsp, ⟨set4_cells V' pb po cv q0 q1 q2 q3, ?_, ?_, ⟨lf1, w1.kept (ot wb (by omega)), s1.frame (fun g hg => ot g (s1.ne_term hpkV g hg))⟩, ⟨?_, fun arr' T ha => set4_arr ((hpb.trans (kU pb a4 (by omega))).trans ha) cv⟩, ?_⟩⟩
  · exact hws.kf.moved ((ot _ a7).trans (kV _ hU1 (fun e => a5 e.symm) (fun e => hp.st.ne_pt p1 _ e rfl))) (fun k hk => (ot k (by omega)).trans (hlow k hk)) (by rw [set4_size]; exact hg.size)
  · exact hws.kt.moved ((ot _ a8).trans (kV _ hU2 (fun e => a6 e.symm) (fun e => hp.st.ne_pt p2 _ e rfl))) (fun k hk => (ot k (by omega)).trans (hlow k hk)) (by rw [set4_size]; exact hg.size)
  · have f1 : FrG wb (fun k => k = wb ∨ k = wb ∨ k = pb) V V' := ((FrG.of_grb hp.gr).trans hf).wide (fun k hk => .inl hk)
    exact ⟨f1.os, f1.tape, f1.output, by rw [set4_size]; exact f1.size, fun k hk hx hc => (ot k (fun e => hx (.inr (.inr e)))).trans (f1.block k hk hx hc)⟩
  · obtain ⟨arr', e, _⟩ := set4_arr (o := po) hpkV cv
    exact ⟨arr', e⟩
/-- The second point behind the first half. -/
theorem pt_behind {n pa R : Nat} {a : Tm n} {ra : List Nd} {fa : Int} (hk : PtIs D wb f0 vs V1 E.pt r) (hf : FrT wb pa R 0 V1 V2) (hw : wb < V1.heap.size) (hwa : wb ≤ pa) (hwR : wb < R) (h1 : E.pt ≠ wb) (h2 : E.pt ≠ pa) (h3 : E.pt ≠ R) (hwl : Wl a) (ok : okT a = true) (hv : ∀ N, IsVarOf (code a) N → N < f0) (hs : Come f0 vs s) (hr : ∀ v, r = [varNd v] → ¬ IsVarOf ra v) (hlt : ∀ N, IsVarOf r N → f0 ≤ N → N < fa) : PtIs D wb f0 (extV f0 vs (btwC a s ra fa)) V2 E.pt r := by
  obtain ⟨x2, b2, p2⟩ := hk.point
  have hq := hf.point p2 h1 h2 h3
  have hlow := hf.low hw hwa hwR
  rcases hk with hk | ⟨v, rfl, e2, e3, e4⟩
  · exact .inl (hk.kept hq hlow hf.fr.size _)
  · exact .inr ⟨v, rfl, e2, ext_not hwl ok hv hs (hr v rfl) e2 e3 (hlt v ((var_one v v).2 rfl) e2), e4.kept hq⟩
/-- Both halves are written. -/
theorem two_out {n G Ga R pa : Nat} {u : Tm m} {a b : Tm n} {xa xb : TV} {ra sb : List Nd} {fa fb : Int} {nm : ByteArray} {pfb : Nat} {S1 S2 : List Task} {lf2 lf3 : Value} {S' : List Task} (hM : Mid D wb f0 vs s r E pb po (compV nm (some ⟨R, 0, none⟩) 2 2) S' V V1) (hne : E.pf ≠ E.pt)
    (hcode : btwC u s r f = (4, 0, nm.toList, 2) :: (btwC a s ra fa ++ btwC b sb r fb)) (hnm : nm.size ≤ 9223372036854775807) (hw : wb < V.heap.size) (hwt : wb ≤ E.pt) (hwb : wb < pb) (hpb : pb < V.heap.size) (hptV : E.pt < V.heap.size) (hpfV : E.pf < V.heap.size) (hpfw : E.pf ≠ wb) (_hptw : E.pt ≠ wb) (_hpfb : E.pf ≠ pb) (hptb : E.pt ≠ pb) (hR : V.heap.size ≤ R) (hrow : Row4 V1 R 2) (hpa : pa = E.pt ∨ V.heap.size ≤ pa) (hpa1 : pa < V1.heap.size) (hpaR : pa ≠ R) (hwa : wb ≤ pa)
    (ta : Tout Ga D wb f0 fa vs s ra S1 ⟨xa, E.pf, pa, ⟨R, 0, none⟩⟩ R 0 a lf2 V1 V2) (tb : Tout Ga D wb f0 fb (extV f0 vs (btwC a s ra fa)) sb r S2 ⟨xb, pfb, E.pt, ⟨R, 4, none⟩⟩ R 4 b lf3 V2 V3) (hG : Ga + 1 ≤ G) :
    Tout G D wb f0 f vs s r S2 E pb po u lf3 V V3 := by
  have z1 := hM.fr.fr.size
  have z2 := ta.fr.fr.size
  have z3 := tb.fr.fr.size
  have hRl := hrow.lt
  have fa' : FrT wb pa R 0 V1 V2 := ta.fr
  have fb' : FrT wb E.pt R 4 V2 V3 := tb.fr
  have eX : extV f0 vs (btwC u s r f) = extV f0 (extV f0 vs (btwC a s ra fa)) (btwC b sb r fb) := by rw [hcode, ext_nv (by simp), extV_append]
  obtain ⟨ya, ya1, ya2⟩ := ta.y
  obtain ⟨yb, yb1, yb2⟩ := tb.y
  have hrow2 := fa'.row hrow
  obtain ⟨arr2, ar2, _⟩ := hrow2
  obtain ⟨arr3, ar3, az3⟩ := fb'.row ⟨arr2, ar2, by assumption⟩
  obtain ⟨arp, hpk1⟩ := hM.pk
  have hpk2 : V2.heap[pb]? = V1.heap[pb]? := fa'.terms hpk1 (by omega) (by rcases hpa with e | e <;> omega) (by omega)
  have hpk3 : V3.heap[pb]? = V1.heap[pb]? := (fb'.terms (hpk2.trans hpk1) (by omega) (fun e => hptb e.symm) (by omega)).trans hpk2
  have yaG : HoldsG anyP Ga V.heap.size V3 ya.val (renC (newR f0 (extV f0 vs (btwC u s r f))) (btwC a s ra fa)) := by
    rw [eX, (come_ext f0 vs (btwC a s ra fa)).renE]
    exact (fb'.holds ya2 (by omega) (by omega) (by omega)).mono (Nat.le_refl _) (by omega) (fun _ h => h)
  have ybG : HoldsG anyP Ga V.heap.size V3 yb.val (renC (newR f0 (extV f0 vs (btwC u s r f))) (btwC b sb r fb)) := by
    rw [eX]
    exact yb2.mono (Nat.le_refl _) (by omega) (fun _ h => h)
  have hcomp := comp_G (P := anyP) (D := Ga) (lo := V.heap.size) (g := R) (cap := 2) (W := V3) (s := nm) (xs := [ya, yb]) (cs := [renC (newR f0 (extV f0 vs (btwC u s r f))) (btwC a s ra fa), renC (newR f0 (extV f0 vs (btwC u s r f))) (btwC b sb r fb)]) hnm (by simp) rfl ⟨hR, arr3, ar3, az3⟩ trivial (by simp) (fun j q c hq hc => by
    match j, hq, hc with
    | 0, hq, hc =>
      simp at hq hc
      subst hq hc
      exact ⟨by simpa using fb'.cell ar2 ya1 (.inl (by omega)), yaG⟩
    | 1, hq, hc =>
      simp at hq hc
      subst hq hc
      exact ⟨by simpa using yb1, ybG⟩
    | j + 2, hq, hc => simp at hq)
  have hfr : FrG wb (fun k => k = wb ∨ k = E.pt ∨ k = pb ∨ V.heap.size ≤ k) V V3 := ((hM.fr.fr.wide (fun k hk => by omega)).trans (fa'.fr.wide (fun k hk => by rcases hpa with e | e <;> omega))).trans (fb'.fr.wide (fun k hk => by omega))
  obtain ⟨x1, b1, p1⟩ := ta.kf.point
  refine ⟨⟨compV nm (some ⟨R, 0, none⟩) 2 2, hM.cv.kept hpk3, ?_⟩, ?_, ?_, ?_, tb.st, ⟨⟨hfr.os, hfr.tape, hfr.output, hfr.size, fun k hk hx hc => hfr.block k hk (by omega) hc⟩, fun arr T ha => ?_⟩⟩
  · rw [show renC (newR f0 (extV f0 vs (btwC u s r f))) (btwC u s r f) = (4, 0, nm.toList, 2) :: (renC (newR f0 (extV f0 vs (btwC u s r f))) (btwC a s ra fa) ++ renC (newR f0 (extV f0 vs (btwC u s r f))) (btwC b sb r fb)) by
      conv => lhs; rw [hcode]
      rw [renC_cons _ _ _ (by simp), renC_append, ← hcode]]
    simp only [List.length_cons, List.length_nil, Nat.zero_add, Nat.reduceAdd, List.flatten_cons, List.flatten_nil, List.append_nil] at hcomp
    exact hcomp.mono hG (Nat.le_refl _) (fun _ h => h)
  · rw [eX]
    exact ta.kf.kept (fb'.point p1 hpfw hne (by show E.pf ≠ R; omega)) (fb'.low (by omega) hwt (by omega)) z3 _
  · rw [eX]; exact tb.kt
  · rw [eX]; exact tb.wr
  · obtain ⟨arr', e1, e2, e3⟩ := hM.fr.at4 arr T ha
    exact ⟨arr', hpk3.trans e1, e2, e3⟩
end
end Go.Proofs.Ytcdgmjpgmiehcaa

/- From a task's turn to its goal: what is negated; the turns of the bodies in a body. -/
namespace Go.Proofs.Ytcdgmjpgmiehcaa
open Go.RowKit Go.Shelf

theorem first_zero : ∀ {l : List Int}, firstE l = 0 → ∀ e ∈ l, e = 0
  | [], _, e, he => by cases he
  | a :: l, h, e, he => by
    have h' : (if a = 0 then firstE l else a) = 0 := h
    by_cases ha : a = 0
    · rw [if_pos ha] at h'
      rcases List.mem_cons.1 he with rfl | he
      · exact ha
      · exact first_zero h' e he
    · rw [if_neg ha] at h'; exact absurd h' ha
section
variable {D wb : Nat} {f0 f : Int} {vs : List Int} {s r : List Nd} {S : List Task} {E : Task} {pb po m : Nat} {lf lf' : Value} {V U V' V1 V2 V3 : World}
theorem kid_in {n : Nat} {x : TV} {kids : List (Tm n)} (h : Tin D wb f0 f vs s r S E pb po (m := n + 1) ((x, kids) : TV × List (Tm n)) lf V) (hf : formB x = 2 ∨ formB x = 3 ∨ formB x = 4) : ∀ z ∈ kids, IsT wb V z ∧ okT z = true ∧ berr z = 0 ∧ (∀ N, IsVarOf (code z) N → N < f0) := fun z hz => by
  have k1 : x.k ≠ 1 := fun e => by have := form_one.2 e; omega
  refine ⟨?_, (ok_kids h.ok).2 z hz, ?_, fun N hN => h.vu N ((code_vars k1 N).2 ?_)⟩
  · rcases h.is.2.2.2 with h4 | ⟨b, off, _, _, hk⟩
    · rw [show (Tm.kids (n := n) ((x, kids) : TV × List (Tm n))) = kids from rfl] at h4
      rw [h4] at hz; cases hz
    · obtain ⟨j, hj⟩ := List.mem_iff_getElem?.1 hz
      exact (hk j z hj).2
  · have := h.er
    rw [berr_succ, if_pos hf] at this
    exact first_zero this _ (List.mem_map.2 ⟨z, hz, rfl⟩)
  · obtain ⟨y, hy, e⟩ := hN
    exact ⟨y, List.mem_flatMap.2 ⟨z, hz, hy⟩, e⟩
theorem tin_child {n R o len pf' pt' : Nat} {f' : Int} {vs' : List Int} {s' r' : List Nd} {S' : List Task} {z : Tm n} (hz : IsT wb V z ∧ okT z = true ∧ berr z = 0 ∧ (∀ N, IsVarOf (code z) N → N < f0)) (hlow : ∀ k, k < wb → V1.heap[k]? = V.heap[k]?) (kf : PtK D wb f0 vs' V1 pf' s') (kt : PtIs D wb f0 vs' V1 pt' r')
    (st : ∃ lf1, WrB V1 wb (f0 + vs'.length) lf1 ∧ StkK wb V1 lf1 (S' ++ [⟨z.tv, pf', pt', ⟨R, o, none⟩⟩])) (row : Row4 V1 R len) (ho : o + 4 ≤ len * 4) (hwR : wb < R) (hne : pf' ≠ pt') (w0f : wb ≤ pf') (w0t : wb ≤ pt') (d1 : 1 ≤ D) (f00 : 0 ≤ f0) (nd : vs'.Nodup) (vi : ∀ N ∈ vs', f0 ≤ N ∧ N < f') (vf : ∀ N, IsVarOf s' N → f0 ≤ N → N < f') (vr : ∀ N, IsVarOf r' N → f0 ≤ N → N < f') (ff : f0 ≤ f') (fc : f' + cntT z ≤ 1099511627777) :
    ∃ lf1, Tin D wb f0 f' vs' s' r' S' ⟨z.tv, pf', pt', ⟨R, o, none⟩⟩ R o z lf1 V1 := by
  obtain ⟨lf1, w1, s1⟩ := st
  obtain ⟨arr, ha, hz'⟩ := row
  exact ⟨lf1, ⟨kf, kt, w1, d1, Nat.le_refl _, w0f, w0t, f00, notCome_new (u := z) nd vi vr ff fc⟩, s1, rfl, isT_low hz.1 hlow, hz.2.1, hz.2.2.1, hz.2.2.2, rfl, ⟨arr, ha, by omega⟩, hwR, hne, nd, vi, vf, vr, ff, fc⟩
/-- No words, as a body. -/
def nilB : Tm 1 := ((nilT, []) : TV × List (Tm 0))
theorem nilB_form : formB nilB.tv = 5 := by decide +kernel
theorem nilB_facts (W : World) (wb : Nat) : IsT wb W nilB ∧ okT nilB = true ∧ berr nilB = 0 ∧ (∀ N, IsVarOf (code nilB) N → N < f0) := by
  refine ⟨⟨rfl, ⟨by simp [nilB, Tm.tv, nilT, atomT], by simp [nilB, Tm.tv, nilT, atomT], by simp⟩, by decide, .inl rfl⟩, by decide +kernel, by decide +kernel, fun N hN => ?_⟩
  obtain ⟨y, hy, h1, _⟩ := hN
  have : y = nilT.nd := by simpa [nilB, code_succ] using hy
  subst this
  exact absurd h1 (by decide)
theorem nilB_code (s r : List Nd) (f : Int) : btwC nilB s r f = eqC s r := by
  have hf := nilB_form
  unfold nilB at hf ⊢
  simp only [Tm.tv] at hf
  rw [btwC_succ, hf, endC_succ]
  rw [if_neg (by decide), if_neg (by decide), if_neg (by decide), if_neg (by decide), if_pos rfl, if_neg (by decide +kernel)]
  rfl
theorem nilB_cnt : cntT nilB = 0 := by decide +kernel
/-- What is negated is written, and S = R. -/
theorem not_out {n G Ga I A q : Nat} {u : Tm m} {a : Tm n} {xa : TV} {fa fb : Int} {nm : ByteArray} {S1 S2 S' : List Task} {lf2 lf3 : Value} (hM : Mid D wb f0 vs s r E pb po (compV ⟨#[44]⟩ (some ⟨A, 0, none⟩) 2 2) S' V V1) (_hne : E.pf ≠ E.pt)
    (hcode : btwC u s r f = (4, 0, [44], 2) :: ((4, 0, nm.toList, 1) :: (btwC a s [varNd f] fa ++ eqC s r))) (hnm : nm.size ≤ 9223372036854775807) (hw : wb < V.heap.size) (hwt : wb ≤ E.pt) (hwb : wb < pb) (hpb : pb < V.heap.size) (hptV : E.pt < V.heap.size) (_hpfV : E.pf < V.heap.size) (_hpfw : E.pf ≠ wb) (hptb : E.pt ≠ pb) (hI : V.heap.size ≤ I) (hA : V.heap.size ≤ A) (hIA : I ≠ A) (rI : Row4 V1 I 1) (rA : Row4 V1 A 2) (cA : cellsAt V1 A 0 (compV nm (some ⟨I, 0, none⟩) 1 1)) (hq : V.heap.size ≤ q) (_hq1 : q < V1.heap.size) (_hqI : q ≠ I) (hqA : q ≠ A) (hqp : q ≠ pb)
    (ta : Tout Ga D wb f0 fa vs s [varNd f] S1 ⟨xa, E.pf, q, ⟨I, 0, none⟩⟩ I 0 a lf2 V1 V2) (tb : Tout Ga D wb f0 fb (extV f0 vs (btwC a s [varNd f] fa)) s r S2 ⟨nilT, E.pf, E.pt, ⟨A, 4, none⟩⟩ A 4 nilB lf3 V2 V3) (hG : Ga + 2 ≤ G) :
    Tout G D wb f0 f vs s r S2 E pb po u lf3 V V3 := by
  have z1 := hM.fr.fr.size
  have z2 := ta.fr.fr.size
  have z3 := tb.fr.fr.size
  have hIl := rI.lt
  have hAl := rA.lt
  have fa' : FrT wb q I 0 V1 V2 := ta.fr
  have fb' : FrT wb E.pt A 4 V2 V3 := tb.fr
  obtain ⟨arI, aI, _⟩ := rI
  obtain ⟨arA, aA, hAs⟩ := rA
  have eX : extV f0 vs (btwC u s r f) = extV f0 (extV f0 vs (btwC a s [varNd f] fa)) (eqC s r) := by rw [hcode, ext_nv (by simp), ext_nv (by simp), extV_append]
  have tby := tb.y
  have tbw := tb.wr
  have tbt := tb.kt
  have tbf := tb.kf
  rw [nilB_code] at tby tbw tbt tbf
  obtain ⟨ya, ya1, ya2⟩ := ta.y
  obtain ⟨yb, yb1, yb2⟩ := tby
  obtain ⟨arI2, aI2, zI2⟩ := fa'.row ⟨arI, aI, by assumption⟩
  have aI3 : V3.heap[I]? = V2.heap[I]? := fb'.terms aI2 (by omega) (by omega) hIA
  have aA2 : V2.heap[A]? = V1.heap[A]? := fa'.terms aA (by omega) (fun e => hqA e.symm) (fun e => hIA e.symm)
  obtain ⟨arA3, aA3, zA3⟩ := fb'.row ⟨arA, aA2.trans aA, hAs⟩
  have cA3 : cellsAt V3 A 0 (compV nm (some ⟨I, 0, none⟩) 1 1) := fb'.cell (aA2.trans aA) (cA.kept aA2) (.inl (by omega))
  obtain ⟨arp, hpk1⟩ := hM.pk
  have hpk2 : V2.heap[pb]? = V1.heap[pb]? := fa'.terms hpk1 (by omega) (fun e => hqp e.symm) (by omega)
  have hpk3 : V3.heap[pb]? = V1.heap[pb]? := (fb'.terms (hpk2.trans hpk1) (by omega) (fun e => hptb e.symm) (by omega)).trans hpk2
  have yaG : HoldsG anyP Ga V.heap.size V3 ya.val (renC (newR f0 (extV f0 vs (btwC u s r f))) (btwC a s [varNd f] fa)) := by
    rw [eX, (come_ext f0 vs (btwC a s [varNd f] fa)).renE]
    exact (fb'.holds ya2 (by omega) (by omega) (by omega)).mono (Nat.le_refl _) (by omega) (fun _ h => h)
  have ybG : HoldsG anyP (Ga + 1) V.heap.size V3 yb.val (renC (newR f0 (extV f0 vs (btwC u s r f))) (eqC s r)) := by
    rw [eX]
    exact yb2.mono (by omega) (by omega) (fun _ h => h)
  have hin := comp_G (P := anyP) (D := Ga) (lo := V.heap.size) (g := I) (cap := 1) (W := V3) (s := nm) (xs := [ya]) (cs := [renC (newR f0 (extV f0 vs (btwC u s r f))) (btwC a s [varNd f] fa)]) hnm (by simp) rfl ⟨hI, arI2, aI3.trans aI2, zI2⟩ trivial (by simp) (fun j x c hx hc => by
    match j, hx, hc with
    | 0, hx, hc =>
      simp at hx hc
      subst hx hc
      exact ⟨by simpa using ya1.kept aI3, yaG⟩
    | j + 1, hx, hc => simp at hx)
  simp only [List.length_cons, List.length_nil, Nat.zero_add, List.flatten_cons, List.flatten_nil, List.append_nil] at hin
  have hcomp := comp_G (P := anyP) (D := Ga + 1) (lo := V.heap.size) (g := A) (cap := 2) (W := V3) (s := ⟨#[44]⟩) (xs := [compV nm (some ⟨I, 0, none⟩) 1 1, yb]) (cs := [(4, 0, nm.toList, 1) :: renC (newR f0 (extV f0 vs (btwC u s r f))) (btwC a s [varNd f] fa), renC (newR f0 (extV f0 vs (btwC u s r f))) (eqC s r)]) (by decide) (by simp) rfl ⟨hA, arA3, aA3, zA3⟩ trivial (by simp) (fun j x c hx hc => by
    match j, hx, hc with
    | 0, hx, hc =>
      simp at hx hc
      subst hx hc
      exact ⟨by simpa using cA3, hin⟩
    | 1, hx, hc =>
      simp at hx hc
      subst hx hc
      exact ⟨by simpa using yb1, ybG⟩
    | j + 2, hx, hc => simp at hx)
  have hfr : FrG wb (fun k => k = wb ∨ k = E.pt ∨ k = pb ∨ V.heap.size ≤ k) V V3 := ((hM.fr.fr.wide (fun k hk => by omega)).trans (fa'.fr.wide (fun k hk => by omega))).trans (fb'.fr.wide (fun k hk => by omega))
  obtain ⟨x1, b1, p1⟩ := ta.kf.point
  refine ⟨⟨compV ⟨#[44]⟩ (some ⟨A, 0, none⟩) 2 2, hM.cv.kept hpk3, ?_⟩, ?_, ?_, ?_, tb.st, ⟨⟨hfr.os, hfr.tape, hfr.output, hfr.size, fun k hk hx hc => hfr.block k hk (by omega) hc⟩, fun arr T ha => ?_⟩⟩
  · rw [show renC (newR f0 (extV f0 vs (btwC u s r f))) (btwC u s r f) = (4, 0, [44], 2) :: ((4, 0, nm.toList, 1) :: (renC (newR f0 (extV f0 vs (btwC u s r f))) (btwC a s [varNd f] fa) ++ renC (newR f0 (extV f0 vs (btwC u s r f))) (eqC s r))) by
      conv => lhs; rw [hcode]
      rw [renC_cons _ _ _ (by simp), renC_cons _ _ _ (by simp), renC_append, ← hcode]]
    simp only [List.length_cons, List.length_nil, Nat.zero_add, Nat.reduceAdd, List.flatten_cons, List.flatten_nil, List.append_nil, List.cons_append] at hcomp
    rw [show (⟨#[44]⟩ : ByteArray).toList = [44] by decide +kernel] at hcomp
    exact hcomp.mono hG (Nat.le_refl _) (fun _ h => h)
  · rw [eX]
    exact tbf
  · rw [eX]; exact tbt
  · rw [eX]; exact tbw
  · obtain ⟨arr', e1, e2, e3⟩ := hM.fr.at4 arr T ha
    exact ⟨arr', hpk3.trans e1, e2, e3⟩
end
end Go.Proofs.Ytcdgmjpgmiehcaa

