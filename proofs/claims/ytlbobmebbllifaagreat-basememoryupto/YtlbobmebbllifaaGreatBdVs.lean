import Derived.Test.YtlbobmebbllifaaGreatBdSs
import Derived.Test.YtlbobmebbllifaaGreatBcI
import Derived.Test.YtlbobmebbllifaaGreatTs
/- A view in memory (VOK); View of a goal whatever it is; Next. -/
namespace Go.Proofs.YtlbobmebbllifaaGreat
set_option maxHeartbeats 600000
set_option maxRecDepth 100000
open Go.RowKit Go.Shelf Go.Maps
theorem view_bad (b : Nat) {n : Nat} (tg : Tm (n + 1)) (W : World) (hT : IsT W.heap.size W tg) (hok : okT tg = false) :
  Calls Tryz.prog 13 #[.pointer (some ⟨b, 0, none⟩), tg.tv.val] W fun e W' => e = .returned (.tuple #[.pointer none, .int .i64 2]) ∧ Below W.heap.size W W' := by
 have hb1 : Below W.heap.size W (W.alloc (.cells #[.int .i64 tg.tv.k, .int .i64 tg.tv.N, .string tg.tv.s, .slice tg.tv.a tg.tv.len tg.tv.cap] 24)) := (Below.refl _ W).alloc (Nat.le_refl _) _
 have hck := check_any tg _ ((hT.below hb1).mono hb1.size)
 rw [chk_no hok] at hck
 have HB := hide hb1
 have hs1 : W.heap.size ≤ (W.alloc (.cells #[.int .i64 tg.tv.k, .int .i64 tg.tv.N, .string tg.tv.s, .slice tg.tv.a tg.tv.len tg.tv.cap] 24)).heap.size := hb1.size
 have HS := hide hs1
 simp only [TV.val] at hck ⊢
 clear hT hok hb1 hs1
 go_enter Tryz.func13, Tryz.ntmps13
 go_wp2_with fail
 refine hck.mono ?_
 clear hck
 rintro e V1 ⟨rfl, g1⟩
 have HW : Hid (Below W.heap.size W V1) := (unhide HB).trans (g1.mono (unhide HS))
 clear g1 HB HS
 go_wp2_with fail
 exact bodyPost_ret (v := .tuple #[.pointer none, .int .i64 2]) (by simp [results, Tryz.results13, go_sem]) rfl ⟨rfl, HW.out⟩
theorem view_none (b : Nat) {n : Nat} (tg : Tm (n + 1)) (W : World) (hT : IsT W.heap.size W tg) (hok : okT tg = true) (hcall : (decide (tg.tv.k = 3) || decide (tg.tv.k = 4)) = false) :
  Calls Tryz.prog 13 #[.pointer (some ⟨b, 0, none⟩), tg.tv.val] W fun e W' => e = .returned (.tuple #[.pointer none, .int .i64 7]) ∧ Below W.heap.size W W' := by
 have hbx := BoxT.new W tg.tv
 have hb1 : Below W.heap.size W (W.alloc (.cells #[.int .i64 tg.tv.k, .int .i64 tg.tv.N, .string tg.tv.s, .slice tg.tv.a tg.tv.len tg.tv.cap] 24)) := (Below.refl _ W).alloc (Nat.le_refl _) _
 have hck := check_any tg _ ((hT.below hb1).mono hb1.size)
 rw [chk_yes hok] at hck
 have hca := isCallable_any tg.tv
 rw [hcall] at hca
 have HX : Hid (BoxT (W.alloc (.cells #[.int .i64 tg.tv.k, .int .i64 tg.tv.N, .string tg.tv.s, .slice tg.tv.a tg.tv.len tg.tv.cap] 24)) W.heap.size tg.tv ∧ Below W.heap.size W (W.alloc (.cells #[.int .i64 tg.tv.k, .int .i64 tg.tv.N, .string tg.tv.s, .slice tg.tv.a tg.tv.len tg.tv.cap] 24)) ∧ (W.alloc (.cells #[.int .i64 tg.tv.k, .int .i64 tg.tv.N, .string tg.tv.s, .slice tg.tv.a tg.tv.len tg.tv.cap] 24)).heap.size = W.heap.size + 1) := ⟨hbx, hb1, by simp⟩
 simp only [TV.val] at hck hca ⊢
 clear hT hok hcall hbx hb1
 go_enter Tryz.func13, Tryz.ntmps13
 go_wp2_with fail
 refine hck.mono ?_
 clear hck
 rintro e V1 ⟨rfl, g1⟩
 obtain ⟨hbx, hb1, hs1⟩ := unhide HX
 have s1 := g1.size
 have bx1 : BoxT V1 W.heap.size tg.tv := hbx.below g1 (by omega)
 have gW1 : Below W.heap.size W V1 := hb1.trans (g1.mono (by omega))
 have c0 := bx1.c0
 have c1 := bx1.c1
 have c2 := bx1.c2
 have c3 := bx1.c3
 have H1 := hide gW1
 have HS1 : Hid (W.heap.size ≤ V1.heap.size) := gW1.size
 clear hbx hb1 bx1 gW1 g1 HX
 go_wp2_with fail
 refine (hca _).mono ?_
 clear hca c0 c1 c2 c3
 rintro e V2 ⟨rfl, g2⟩
 have HW : Hid (Below W.heap.size W V2) := (unhide H1).trans (g2.mono HS1.out)
 clear g2 H1 HS1
 go_wp2_with fail
 exact bodyPost_ret (v := .tuple #[.pointer none, .int .i64 7]) (by simp [results, Tryz.results13, go_sem]) rfl ⟨rfl, HW.out⟩
structure VOK (M : Nat → Prop) (W : World) (vb : Nat) (A1 A2 : List En) (last : Int) : Prop where
 blk : ∃ p q, VwBlk W vb p q last ∧ (((∃ h1, TrL W p (A1.map En.at) h1) ∧ ∃ h2, TrL W q (A2.map En.at) h2) ∨ (p = none ∧ q = none ∧ stepN A1 A2 last = none))
 srt : Srt (A1.map En.at) ∧ Srt (A2.map En.at)
 ents : ∀ e ∈ A1 ++ A2, EnIs M W e ∧ (-9223372036854775808 < e.pl ∧ e.pl ≤ 9223372036854775807) ∧ e.ch.all okM = true ∧ e.cb.all okM = true
 mem : M vb
theorem atE_mem {A : List En} {y : Nat × Int} (h : y ∈ A.map En.at) : ∃ e ∈ A, e.at = y := by
 obtain ⟨e, he, rfl⟩ := List.mem_map.1 h
 exact ⟨e, he, rfl⟩
theorem VOK.trees {M Y : Nat → Prop} {W W' : World} {vb : Nat} {A1 A2 : List En} {last : Int} (h : VOK M W vb A1 A2 last) (hM : Mut M W) (g : GrB Y W.heap.size W W') (hY : ∀ k, Y k → M k) {p : Option Addr} {L : List En} {h1 : Int} (ht : TrL W p (L.map En.at) h1) (hL : ∀ e ∈ L, e ∈ A1 ++ A2) : TrL W' p (L.map En.at) h1 :=
 ht.fixed (fun y hy => by
  obtain ⟨e, he, rfl⟩ := atE_mem hy
  exact ⟨e.hx, e.bx, (h.ents e (hL e he)).1.1⟩) (g.fixed (fun k hk => (hM k (hY k hk)).2))
theorem VOK.kept {M Y : Nat → Prop} {W W' : World} {vb : Nat} {A1 A2 : List En} {last : Int} (h : VOK M W vb A1 A2 last) (hM : Mut M W) (g : GrB Y W.heap.size W W') (hY : ∀ k, Y k → M k ∧ k ≠ vb) : VOK M W' vb A1 A2 last := by
 obtain ⟨p, q, hv, ht⟩ := h.blk
 have gM : GrB M W.heap.size W W' := ⟨g.os, g.tape, g.output, g.size, fun k hk hn => g.block k hk (fun hy => hn (hY k hy).1)⟩
 refine ⟨⟨p, q, (g.block vb hv.lt (fun hy => (hY vb hy).2 rfl)).trans hv, ?_⟩, h.srt, fun e he => ⟨(h.ents e he).1.kept hM gM, (h.ents e he).2⟩, h.mem⟩
 rcases ht with ⟨⟨h1, t1⟩, h2, t2⟩ | ht
 ·exact .inl ⟨⟨h1, h.trees hM g (fun k hk => (hY k hk).1) t1 (fun e he => List.mem_append_left _ he)⟩, h2, h.trees hM g (fun k hk => (hY k hk).1) t2 (fun e he => List.mem_append_right _ he)⟩
 ·exact .inr ht
theorem EnIs.step {M M' Y : Nat → Prop} {W W' : World} {e : En} (h : EnIs M W e) (hM : Mut M W) (g : GrB Y W.heap.size W W') (hY : ∀ k, Y k → M k) (h2 : ∀ k, M' k → M k ∨ W.heap.size ≤ k) : EnIs M' W' e := by
 obtain ⟨q1, D, S, q2, q3, q4⟩ := h
 have hf := g.fixed (fun k hk => (hM k (hY k hk)).2)
 have hk : ∀ k, S k → k < W.heap.size → W'.heap[k]? = W.heap[k]? := fun k hk hl => g.block k hl (fun hy => (q4 k hk).2 (hY k hy))
 exact ⟨q1.fixed hf, D, S, q2.fromS hk g.size, q3.fromS hk g.size, fun k hk => ⟨Nat.lt_of_lt_of_le (q4 k hk).1 g.size, fun hm => (h2 k hm).elim (q4 k hk).2 (fun hl => by have := (q4 k hk).1; omega)⟩⟩
theorem VOK.step {M M' Y : Nat → Prop} {W W' : World} {vb : Nat} {A1 A2 : List En} {last : Int} (h : VOK M W vb A1 A2 last) (hM : Mut M W) (g : GrB Y W.heap.size W W') (hY : ∀ k, Y k → M k ∧ k ≠ vb) (h1 : ∀ k, M k → M' k) (h2 : ∀ k, M' k → M k ∨ W.heap.size ≤ k) : VOK M' W' vb A1 A2 last := by
 have hk := h.kept hM g hY
 exact ⟨hk.blk, hk.srt, fun e he => ⟨(h.ents e he).1.step hM g (fun k hk => (hY k hk).1) h2, (h.ents e he).2⟩, h1 _ h.mem⟩
def ansS : Option (Int × List Nd × List Nd) → Int × Bool × List Nd × List Nd
 | none => (0, false, noC, noC)
 | some s => (max s.1 (-s.1), true, s.2.1, s.2.2)
def lastS (last : Int) : Option (Int × List Nd × List Nd) → Int
 | none => last
 | some s => s.1
theorem next_vok {M : Nat → Prop} {W : World} {vb : Nat} {A1 A2 : List En} {last : Int} (h : VOK M W vb A1 A2 last) (hM : Mut M W) (s : Option (Int × List Nd × List Nd)) (hs : (stepN A1 A2 last).map En.say = s) :
  Calls Tryz.prog 16 #[.pointer (some ⟨vb, 0, none⟩)] W fun e W' => (∃ (D : Upto 1099511627776) (x y : TV), e = .returned (.tuple #[.int .i64 (ansS s).1, clV x y, .bool (ansS s).2.1]) ∧ HoldsL D.1 (W.heap.size ≤ ·) W' x.val (ansS s).2.2.1 ∧ HoldsL D.1 (W.heap.size ≤ ·) W' y.val (ansS s).2.2.2) ∧ GrB (fun k => k = vb) W.heap.size W W' ∧ Mut M W' ∧ VOK M W' vb A1 A2 (lastS last s) := by
 obtain ⟨p, q, hv, ht⟩ := h.blk
 cases hst : stepN A1 A2 last with
 | none =>
  rw [hst] at hs
  subst hs
  have hc : Calls Tryz.prog 16 #[.pointer (some ⟨vb, 0, none⟩)] W fun e W' => e = .returned (.tuple #[.int .i64 0, clV noTerm noTerm, .bool false]) ∧ GrB (fun k => k = vb) W.heap.size W W' ∧ VwBlk W' vb none none last := by
   rcases ht with ⟨⟨h1, t1⟩, h2, t2⟩ | ⟨rfl, rfl, -⟩
   ·exact next_none vb p q last W hv t1 t2 h.srt.1 h.srt.2 (by rw [stepN_at, hst]; rfl)
   ·exact next_none vb none none last W hv (TrL.nil _) (TrL.nil _) List.Pairwise.nil List.Pairwise.nil rfl
  refine hc.mono ?_
  rintro e W' ⟨rfl, g, hv'⟩
  have hM' : Mut M W' := hM.grow g (fun k hk => by subst hk; exact hv'.nofix)
  have gM : GrB M W.heap.size W W' := ⟨g.os, g.tape, g.output, g.size, fun k hk hn => g.block k hk (fun e => hn (e ▸ h.mem))⟩
  exact ⟨⟨⟨1, by omega⟩, noTerm, noTerm, rfl, (no_holds 1 W.heap.size (Nat.le_refl _) W').holdsL, (no_holds 1 W.heap.size (Nat.le_refl _) W').holdsL⟩, g, hM', ⟨none, none, hv', .inr ⟨rfl, rfl, hst⟩⟩, h.srt, fun e he => ⟨(h.ents e he).1.kept hM gM, (h.ents e he).2⟩, h.mem⟩
 | some x =>
  rw [hst] at hs
  subst hs
  obtain ⟨hx, hlt⟩ := stepN_in hst
  obtain ⟨⟨hen, D, S, hh, hb, hS⟩, hpl, ho1, ho2⟩ := h.ents x hx
  rcases ht with ⟨⟨h1, t1⟩, h2, t2⟩ | ⟨-, -, hno⟩
  ·refine (next_some vb x.eb x.pl p q last W hv t1 t2 h.srt.1 h.srt.2 (by rw [stepN_at, hst]; rfl) hen hpl.1 hpl.2 hh hb (fun k hk e => (hS k hk).2 (e ▸ h.mem)) ho1 ho2 (by have := D.2; omega)).mono ?_
   rintro e W' ⟨⟨x', y', rfl, q1, q2⟩, g, hv'⟩
   have hM' : Mut M W' := hM.grow g (fun k hk => by subst hk; exact hv'.nofix)
   have gM : GrB M W.heap.size W W' := ⟨g.os, g.tape, g.output, g.size, fun k hk hn => g.block k hk (fun e => hn (e ▸ h.mem))⟩
   have hY : ∀ k, k = vb → M k := fun k hk => hk ▸ h.mem
   exact ⟨⟨⟨D.1 + 1, by have := D.2; omega⟩, x', y', rfl, q1, q2⟩, g, hM', ⟨p, q, hv', .inl ⟨⟨h1, h.trees hM g hY t1 (fun e he => List.mem_append_left _ he)⟩, h2, h.trees hM g hY t2 (fun e he => List.mem_append_right _ he)⟩⟩, h.srt, fun e he => ⟨(h.ents e he).1.kept hM gM, (h.ents e he).2⟩, h.mem⟩
  ·rw [hst] at hno
   cases hno
theorem view_vok {M : Nat → Prop} {W : World} {b me mf : Nat} {laid : Int} {ce cf : Nat} {ge gf : Lit → Option Addr} {F : Lit → Option Fam} {E : List En} (h : BOK M W b me mf laid ce cf ge gf F E) (hM : Mut M W) (hbig : laid < 1099511627776) {n : Nat} (tg : Tm (n + 1)) (hT : IsT W.heap.size W tg) (hok : okT tg = true) (hcall : (decide (tg.tv.k = 3) || decide (tg.tv.k = 4)) = true) (hn : numC (code tg)) :
  Calls Tryz.prog 13 #[.pointer (some ⟨b, 0, none⟩), tg.tv.val] W fun e W' => ∃ vb : Nat, e = .returned (.tuple #[.pointer (some ⟨vb, 0, none⟩), .int .i64 0]) ∧ W.heap.size ≤ vb ∧ Below W.heap.size W W' ∧ Mut (fun k => M k ∨ k = vb) W' ∧ VOK (fun k => M k ∨ k = vb) W' vb (goalN E (code tg)).1 (goalN E (code tg)).2 (-9223372036854775808) := by
 refine (view_bok h tg hT hok hcall hn).mono ?_
 rintro e W' ⟨vb, p, q, rfl, hlo, hv, g, ⟨h1, t1⟩, h2, t2⟩
 rw [goalN_at] at t1 t2
 have hin : ∀ e ∈ (goalN E (code tg)).1 ++ (goalN E (code tg)).2, e ∈ E := fun e he => goalN_in he
 have hall : ∀ {L : List En}, (∀ e ∈ L, e ∈ E) → EnAll W (L.map En.at) := fun hL y hy => by
  obtain ⟨e, he, rfl⟩ := atE_mem hy
  exact ⟨e.hx, e.bx, (h.ents e (hL e he)).1⟩
 have hM' : Mut (fun k => M k ∨ k = vb) W' := fun k hk => by
  rcases hk with hk | rfl
  ·exact (hM.grow (GrB.of_below (X := fun _ => False) g) (fun _ h => h.elim)) k hk
  ·exact ⟨hv.lt, hv.nofix⟩
 refine ⟨vb, rfl, hlo, g, hM', ⟨p, q, hv, .inl ⟨⟨h1, t1.fixed (hall (fun e he => hin e (List.mem_append_left _ he))) (Below.fixed g)⟩, h2, t2.fixed (hall (fun e he => hin e (List.mem_append_right _ he))) (Below.fixed g)⟩⟩, goalN_srt h.srt _, fun e he => ?_, .inr rfl⟩
 have hE := hin e he
 have := h.pls e hE
 have ho := h.oks e hE
 refine ⟨?_, by omega, ho.1, ho.2.1⟩
 have k1 := (h.ents e hE).more (M' := fun k => M k ∨ k = vb) (fun k hk => hk.elim .inl (fun e => .inr (by omega)))
 obtain ⟨q1, D, S, q2, q3, q4⟩ := k1
 exact ⟨(g.block e.eb q1.lt).trans q1, D, S, q2.below g, q3.below g, fun k hk => ⟨Nat.lt_of_lt_of_le (q4 k hk).1 g.size, (q4 k hk).2⟩⟩
/- (*base.Base).Look, of a goal with no key, over a tree of one entry. -/
theorem oneT_is {eb lo q : Nat} {W : World} {pl : Int} (h : OneT eb lo q W) (hp : W.cell? ⟨eb, 0, none⟩ = some (.int .i64 pl)) : TrIs W (nodeT (n := 0) q eb pl 1 () ()) (some ⟨q, 0, none⟩) := ⟨rfl, none, none, h.2, hp, rfl, rfl⟩
theorem oneT_after (q eb : Nat) (pl h p : Int) : afterT (nodeT (n := 0) q eb pl h () ()) p none = if p < pl then some eb else none := rfl
theorem Tryz.infoI : (Tryz.prog.info? 3).map (fun i => (i.zero, i.size, i.bytes)) = some (some (.int .i64 0), 1, 8) := by kernel_rfl
theorem one_newI {W : World} {N : Int} : ∀ j u, ([.int .i64 N] : List Value)[j]? = some u → (W.alloc (.cells #[.int .i64 N] 3)).cell? ((⟨W.heap.size, 0, none⟩ : Addr).add j) = some u := by
 intro j u hj
 match j, hj with
 | 0, hj =>
  have hb := World.alloc_heap_new W (.cells #[.int .i64 N] 3)
  simp at hj
  subst hj
  show World.cell? _ ⟨W.heap.size, 0, none⟩ = _
  simp only [World.cell?]
  rw [hb]
  rfl
 | k + 1, hj => simp at hj
theorem one_oneI {N : Int} : ∀ u ∈ ([.int .i64 N] : List Value), u.oneCell' = true := by
 intro u hu
 simp at hu
 subst hu
 rfl
theorem row_slice {W : World} {base sz n : Nat} {e : TypeId} {v : Value} {xs : List Value} (h : W.ownsRow base e sz v n xs) : ∃ a cap, v = .slice a n cap := by
 obtain ⟨_, h⟩ := h
 rcases h with ⟨hv, hn⟩ | ⟨_, cap, _, hv, _⟩
 ·exact ⟨none, 0, by rw [hv, hn]⟩
 ·exact ⟨_, cap, hv⟩
set_option maxRecDepth 100000 in
set_option maxHeartbeats 4000000 in
theorem look_one (b me mf fb km eb q : Nat) (laid pl : Int) (lo : Nat) (cf : Nat) (gf : Lit → Option Addr) {n : Nat} (tg : Tm (n + 1)) (W : World) (hb : BsBlk W b laid me mf) (hmf : PM 80 W mf cf gf) (hf : FmBlk W fb (some ⟨q, 0, none⟩) km) (hq : OneT eb lo q W) (hpl : W.cell? ⟨eb, 0, none⟩ = some (.int .i64 pl)) (hp0 : -9223372036854775808 < pl) (hp1 : pl ≤ 9223372036854775807) (hT : IsT W.heap.size W tg) (hok : okT tg = true) (hcall : (decide (tg.tv.k = 3) || decide (tg.tv.k = 4)) = true) (hkey : keyOfV tg = keyV 0 0 ⟨#[]⟩ 0) (hg : gf (predL tg.tv.s tg.tv.len) = some ⟨fb, 0, none⟩) :
  Calls Tryz.prog 21 #[.pointer (some ⟨b, 0, none⟩), tg.tv.val] W fun e W' => (∃ a cap, e = .returned (.tuple #[.slice a 1 cap, .int .i64 0])) ∧ Below W.heap.size W W' := by
 have hel : eb < W.heap.size := by
  by_cases h : eb < W.heap.size
  ·exact h
  ·have : W.heap[eb]? = none := Array.getElem?_eq_none (by omega)
   simp [World.cell?, this] at hpl
 have hql : q < W.heap.size := (Array.getElem?_eq_some_iff.1 hq.2).1
 have hb1 : Below W.heap.size W (W.alloc (.cells #[.int .i64 tg.tv.k, .int .i64 tg.tv.N, .string tg.tv.s, .slice tg.tv.a tg.tv.len tg.tv.cap] 24)) := (Below.refl _ W).alloc (Nat.le_refl _) _
 have hvw := view_all b me mf fb km laid cf gf (some ⟨q, 0, none⟩) tg _ ((hb1.block b hb.lt).trans hb) (hmf.kept (hb1.block mf hmf.lt)) ((hb1.block fb hf.lt).trans hf) ((hT.below hb1).mono hb1.size) hok hcall hkey hg
 have HST : Hid (∀ (V : World) (vb : Nat) (last : Int), Below W.heap.size W V → W.heap.size ≤ vb → VwBlk V vb (some ⟨q, 0, none⟩) none last → Calls Tryz.prog 40 #[.pointer (some ⟨vb, 0, none⟩)] V fun e W' => e = .returned (ptrE (if last < pl then some eb else none)) ∧ GrB (fun k => k = vb) V.heap.size V W' ∧ StepSays (if last < pl then some eb else none) V W' vb (some ⟨q, 0, none⟩) last) := fun V vb last hV hvb hvw => by
  have hp' : V.cell? ⟨eb, 0, none⟩ = some (.int .i64 pl) := (hV.cell (p := ⟨eb, 0, none⟩) hel).trans hpl
  have hq' : OneT eb lo q V := ⟨hq.1, (hV.block q hql).trans hq.2⟩
  have h := step_one vb (some ⟨q, 0, none⟩) last (nodeT (n := 0) q eb pl 1 () ()) V hvw (oneT_is hq' hp') (fun eb' he => by
   rw [oneT_after] at he
   split at he
   ·cases he
    exact ⟨pl, hp', by have := hV.size; omega, by omega⟩
   ·cases he)
  rw [oneT_after] at h
  exact h
 have hia := fun V => idAt_any pl V hp0 hp1
 have HPL : Hid (∀ V, Below W.heap.size W V → V.cell? ⟨eb, 0, none⟩ = some (.int .i64 pl)) := fun V hV => (hV.cell (p := ⟨eb, 0, none⟩) hel).trans hpl
 have hs1 : (W.alloc (.cells #[.int .i64 tg.tv.k, .int .i64 tg.tv.N, .string tg.tv.s, .slice tg.tv.a tg.tv.len tg.tv.cap] 24)).heap.size = W.heap.size + 1 := by simp
 have H1 := hide (And.intro hb1 hs1)
 obtain ⟨i0, hi, hz0, hz1, hz2⟩ := info_parts Tryz.infoI
 have hmin : (-9223372036854775808 : Int) < pl := hp0
 clear hb hmf hf hq hpl hT hok hcall hkey hg hb1 hs1
 simp only [TV.val] at hvw ⊢
 go_enter Tryz.func21, Tryz.ntmps21
 go_wp2_with fail
 refine hvw.mono ?_
 clear hvw
 rintro e V1 ⟨vb, rfl, hvb, hv1, g1⟩
 obtain ⟨hb1, hs1⟩ := unhide H1
 have gW1 : Below W.heap.size W V1 := hb1.trans (g1.mono (by omega))
 have hst := HST.out V1 vb (-9223372036854775808) gW1 (by omega) hv1
 rw [if_pos hmin] at hst
 have hvl := hv1.lt
 have s1 := g1.size
 have HW1 := hide gW1
 have hvW : W.heap.size ≤ vb := by omega
 clear hb1 hv1 g1 gW1 H1
 simp only [ptrE, Option.map_some] at hst
 go_wp2_with fail
 refine hst.mono ?_
 clear hst
 rintro e V2 ⟨rfl, g2, hs2, -⟩
 have hv2 := hs2 eb rfl pl (HPL.out V1 (unhide HW1))
 have gW2 : Below W.heap.size W V2 := (unhide HW1).trans (g2.below (n₀ := W.heap.size) (fun k hk => by rw [hk]; exact hvW) (by omega))
 clear hs2 g2 hmin hvl s1
 go_wp2_with fail
 go_loopw [8, 9] (fun l e wr => (l = .slice none 0 0 ∧ e = .pointer (some ⟨eb, 0, none⟩) ∧ Below W.heap.size W wr ∧ VwBlk wr vb (some ⟨q, 0, none⟩) none pl) ∨ ((∃ a cap, l = .slice a 1 cap) ∧ e = .pointer none ∧ Below W.heap.size W wr)) (fun _ e _ => match e with | .pointer (some _) => 1 | _ => 0)
 case atStart => exact .inl ⟨rfl, rfl, gW2, hv2⟩
 case round =>
  rcases hrel with ⟨rfl, rfl, hb, hv⟩ | ⟨⟨a, cap, rfl⟩, rfl, hb⟩
  ·have hpc := HPL.out wr hb
   have hstp := fun (V : World) (hV : Below W.heap.size W V) (hvw : VwBlk V vb (some ⟨q, 0, none⟩) none pl) => HST.out V vb pl hV hvW hvw
   rw [if_neg (by omega)] at hstp
   have hown : (wr.alloc (.cells #[.int .i64 (max pl (-pl))] 3)).ownsRow wr.heap.size 3 1 (.slice none 0 0) 0 [] := ⟨rfl, .inl ⟨rfl, rfl⟩⟩
   have HK := hide (And.intro hb hv)
   have HSTP := hide hstp
   clear hb hv hstp hv2 gW2
   go_wp2_with fail
   refine (hia _).mono ?_
   clear hia
   rintro e W3 ⟨rfl, rfl⟩
   go_wp2_with (at_builtin; go_must (refine wpList_append_own_at _ rfl _ _ 44 rfl W3.heap.size 3 i0 _ 1 8 Tryz.underlying44 hi hz0 hz1 hz2 rfl (by decide) (.slice none 0 0) 0 [] rfl hown ⟨W3.heap.size, 0, none⟩ 1 1 [.int .i64 (max pl (-pl))] rfl rfl one_newI one_oneI (by unfold maxLen; omega) (by omega) (by simp) ?_; intro v' w1 hown' hgrow hnil hbk))
   obtain ⟨a', cap', rfl⟩ : ∃ a cap, v' = .slice a 1 cap := row_slice hown'
   obtain ⟨hb, hv⟩ := unhide HK
   have hvl := hv.lt
   have gs := hgrow.size
   rw [World.size_alloc] at gs
   have g13 : Below W3.heap.size W3 w1 := ⟨hgrow.os, hgrow.tape, hgrow.output, by omega, fun k hk => (hgrow.block k (by simp; omega) (by simp [Value.ownBlock])).trans (Below.heap_alloc _ _ _ hk)⟩
   have gW4 : Below W.heap.size W w1 := hb.trans (g13.mono hb.size)
   have hv4 : VwBlk w1 vb (some ⟨q, 0, none⟩) none pl := (g13.block vb hvl).trans hv
   have hs4 := (unhide HSTP) w1 gW4 hv4
   have HG := hide gW4
   have hws := gW4.size
   clear hb hv hvl gs g13 gW4 hv4 HK HSTP hown' hgrow hnil hbk hown
   simp only [ptrE, Option.map_none] at hs4
   refine hs4.mono ?_
   clear hs4
   rintro e V5 ⟨rfl, g5, -⟩
   have HG5 : Hid (Below W.heap.size W V5) := (unhide HG).trans (g5.below (n₀ := W.heap.size) (fun k hk => by rw [hk]; exact hvW) hws)
   clear g5 HG hws
   go_wp2_with fail
   go_roundw
   case rel => exact .inr ⟨⟨_, _, rfl⟩, rfl, unhide HG5⟩
   case measure => simp
  ·clear hv2 gW2 HST HPL hia
   have HB := hide hb
   clear hb
   go_wp2_with fail
   exact bodyPost_ret (v := .tuple #[.slice a 1 cap, .int .i64 0]) (by simp [results, Tryz.results21, go_sem]) rfl ⟨⟨a, cap, rfl⟩, unhide HB⟩
end Go.Proofs.YtlbobmebbllifaaGreat
