import Derived.Test.YtlbobmebbllifaaGreatBdGs
/- (*base.Base).Add, of a predicate that is known. (Written by wip/addkgen.py.) -/
namespace Go.Proofs.YtlbobmebbllifaaGreat
set_option maxHeartbeats 4000000
set_option maxRecDepth 100000
open Go.RowKit Go.Shelf Go.Maps
structure AddK (b : Nat) (laid : Int) (me mf ce cf : Nat) (ge gf : Lit → Option Addr) (pl : Int) (h bd : List Nd) (D lo : Nat) (W : World) (eb fb km q1 q2 ck : Nat) (gk : Lit → Option Addr) (hx bx : TV) (kl : Lit) : Prop where
 base : BsBlk W b (laid + 1) me mf
 ent : PM 3 W me (ce + 1) (updL ge (.int .i64 (laid + 1)) ⟨eb, 0, none⟩)
 fam : PM 80 W mf cf gf
 fm : FmBlk W fb (some ⟨q1, 0, none⟩) km
 keyed : PM 89 W km (ck + 1) (updL gk kl ⟨q2, 0, none⟩)
 en : EnBlk W eb pl hx bx
 hh : HoldsS D (lo ≤ ·) W hx.val h
 hb : HoldsS D (lo ≤ ·) W bx.val bd
 los : lo ≤ eb
theorem addk_last (b me mf : Nat) (laid : Int) (ce cf : Nat) (ge gf : Lit → Option Addr) (fb km ck : Nat) (all : Option Addr) (gk : Lit → Option Addr) (R : Nat → Option Addr → Nat → World → Prop) {n : Nat} (th tb : Tm (n + 1)) (W : World) (hb : BsBlk W b laid me mf) (hme : PM 3 W me ce ge) (hmf : PM 80 W mf cf gf) (hce : ce < maxLen) (hcf : cf < maxLen) (h0 : 0 ≤ laid) (h1 : laid < 4611686018427387904) (hne : b ≠ me ∧ b ≠ mf ∧ me ≠ mf)
  (hTH : IsT W.heap.size W th) (hTB : IsT W.heap.size W tb) (hl : 2 * ((code th).length + (code tb).length + 1) ≤ 4194304) (hrem : remE th tb = 0) (hnum : numC (code th)) (hg : ∀ s : ByteArray, s.toList = th.tv.s.toList → gf (predL s th.tv.len) = some ⟨fb, 0, none⟩) (hfm : FmBlk W fb all km) (hkd : PM 89 W km ck gk) (hck : ck < maxLen) (hnf : fb ≠ b ∧ fb ≠ me ∧ fb ≠ mf ∧ km ≠ b ∧ km ≠ me ∧ km ≠ mf ∧ fb ≠ km)
  (hW1 : ∀ eb hx bx V, W.heap.size ≤ eb → EnBlk V eb (laid + 1) hx bx → GrB (fun k => k = b ∨ k = me) W.heap.size W V → WithC eb (R eb) all V) (hW2 : ∀ eb hx bx V kl, W.heap.size ≤ eb → EnBlk V eb (laid + 1) hx bx → GrB (fun k => k = b ∨ k = me ∨ k = fb) W.heap.size W V → BsBlk V b (laid + 1) me mf → MapB V me → (∃ a, FmBlk V fb a km) → WithC eb (R eb) (gk kl) V)
  (hR : ∀ eb p q V V', R eb p q V → W.heap.size ≤ q → GrB (fun k => k = fb ∨ k = km) V.heap.size V V' → (∃ a, FmBlk V fb a km) → MapB V km → R eb p q V') (hn38 : n ≤ 274877906944 := by omega) :
  Calls Tryz.prog 8 #[.pointer (some ⟨b, 0, none⟩), clV th.tv tb.tv, .bool false] W fun e W' => e = .returned (.tuple #[.int .i64 (laid + 1), .int .i64 0]) ∧ ∃ (eb q1 q2 : Nat) (hx bx : TV) (kl : Lit), AddK b laid me mf ce cf ge gf (laid + 1) (code th) (code tb) (n + 4) W.heap.size W' eb fb km q1 q2 ck gk hx bx kl ∧ (∃ (m : Nat) (t : Tm (m + 1)) (V : World), t.tv = hx ∧ code t = code th ∧ IsT V.heap.size V t ∧ keyOf Tryz.prog 89 (keyOfV t) = some kl) ∧ R eb all q1 W' ∧ R eb (gk kl) q2 W' ∧ GrB (fun k => k = b ∨ k = me ∨ k = fb ∨ k = km) W.heap.size W W' := by
 obtain ⟨okh, okb⟩ : okT th = true ∧ okT tb = true := by
  unfold remE at hrem
  split at hrem
  ·assumption
  ·cases hrem
 have hlb := hb.lt
 have hlme := hme.lt
 have hlmf := hmf.lt
 have hb0 : Below W.heap.size W (W.alloc (.cells #[.int .i64 th.tv.k, .int .i64 th.tv.N, .string th.tv.s, .slice th.tv.a th.tv.len th.tv.cap, .int .i64 tb.tv.k, .int .i64 tb.tv.N, .string tb.tv.s, .slice tb.tv.a tb.tv.len tb.tv.cap] 30)) := (Below.refl _ W).alloc (Nat.le_refl _) _
 have hr := remade_any th tb (W.alloc (.cells #[.int .i64 th.tv.k, .int .i64 th.tv.N, .string th.tv.s, .slice th.tv.a th.tv.len th.tv.cap, .int .i64 tb.tv.k, .int .i64 tb.tv.N, .string tb.tv.s, .slice tb.tv.a tb.tv.len tb.tv.cap] 30)) ((hTH.below hb0).mono hb0.size) ((hTB.below hb0).mono hb0.size) hl
 rw [hrem] at hr
 have hs0 : (W.alloc (.cells #[.int .i64 th.tv.k, .int .i64 th.tv.N, .string th.tv.s, .slice th.tv.a th.tv.len th.tv.cap, .int .i64 tb.tv.k, .int .i64 tb.tv.N, .string tb.tv.s, .slice tb.tv.a tb.tv.len tb.tv.cap] 30)).heap.size = W.heap.size + 1 := by simp
 have HOK : Hid (∀ {m : Nat} (t : Tm (m + 1)), code t = code th → okT t = true ∧ numC (code t) ∧ t.tv.s.toList = th.tv.s.toList ∧ t.tv.len = th.tv.len) := fun t ht => by
  refine ⟨by rw [okT_m, ht, ← okT_m]; exact okh, by rw [ht]; exact hnum, ?_⟩
  have e1 := code_kids t
  have e2 := code_kids th
  rw [ht, e2] at e1
  simp only [List.cons.injEq] at e1
  have hnd := nd_parts e1.1
  exact ⟨hnd.2.2.1.symm, hnd.2.2.2.symm⟩
 have HB := hide (And.intro hb (And.intro hme (And.intro hmf (And.intro hb0 hs0))))
 have HC := hide (And.intro hce (And.intro hcf hne))
 have HCT : Hid ((code th).all okM = true ∧ numC (code th)) := ⟨by rw [← okT_m]; exact okh, hnum⟩
 have HG := hide hg
 have HFK := hide (And.intro hfm (And.intro hkd (And.intro hck hnf)))
 have hlfb := hfm.lt
 have hlkm := hkd.lt
 have HL := hide (And.intro hW1 (And.intro hW2 hR))
 clear hb hme hmf hce hcf hne hTH hTB hl hrem hnum hg hfm hkd hck hnf hW1 hW2 hR okh okb hb0 hs0
 simp only [clV] at hr ⊢
 go_enter Tryz.func8, Tryz.ntmps8
 go_wp2_with fail
 refine hr.mono ?_
 clear hr
 rintro e V1 ⟨hrm, g1⟩
 obtain ⟨hx, bx, rfl, hokk, -⟩ := hrm
 obtain ⟨hH, hB⟩ := hokk rfl
 clear hokk
 obtain ⟨ty, hty, hTy, -, hcy⟩ := hH (n + 4) (Nat.le_refl _) (by omega)
 obtain rfl := tv_inj hty
 have HY := hide (HOK.out ty hcy)
 obtain ⟨hb, hme, hmf, hb0, hs0⟩ := unhide HB
 have hs1 := g1.size
 have gW1 : Below W.heap.size W V1 := hb0.trans (g1.mono (by omega))
 have gW2 : Below W.heap.size W (V1.alloc (.cells #[.int .i64 ty.tv.k, .int .i64 ty.tv.N, .string ty.tv.s, .slice ty.tv.a ty.tv.len ty.tv.cap, .int .i64 bx.k, .int .i64 bx.N, .string bx.s, .slice bx.a bx.len bx.cap] 30)) := gW1.alloc (by omega) _
 have b12 : Below V1.heap.size V1 (V1.alloc (.cells #[.int .i64 ty.tv.k, .int .i64 ty.tv.N, .string ty.tv.s, .slice ty.tv.a ty.tv.len ty.tv.cap, .int .i64 bx.k, .int .i64 bx.N, .string bx.s, .slice bx.a bx.len bx.cap] 30)) := (Below.refl _ V1).alloc (Nat.le_refl _) _
 have hob := BoxC.new V1 ty.tv bx
 obtain ⟨V2, hV2⟩ : ∃ V2, V1.alloc (.cells #[.int .i64 ty.tv.k, .int .i64 ty.tv.N, .string ty.tv.s, .slice ty.tv.a ty.tv.len ty.tv.cap, .int .i64 bx.k, .int .i64 bx.N, .string bx.s, .slice bx.a bx.len bx.cap] 30) = V2 := ⟨_, rfl⟩
 have hs2 : V2.heap.size = V1.heap.size + 1 := by rw [← hV2]; simp
 rw [hV2] at gW2 b12 hob
 have hb2 : BsBlk V2 b laid me mf := (gW2.block b hlb).trans hb
 have hme2 := hme.kept (gW2.block me hlme)
 have hmf2 := hmf.kept (gW2.block mf hlmf)
 have hw1 : wrap64 (laid + 1) = laid + 1 := by unfold wrap64; omega
 obtain ⟨c0, c1, c2, cz⟩ := hb2.cs
 have hb3 := hb2.set (laid + 1)
 obtain ⟨d0, d1, d2, dz⟩ := hb3.cs
 obtain ⟨⟨o0, o1, o2, o3⟩, o4, o5, o6, o7⟩ := (show BoxC (V2.setCell ⟨b, 0, none⟩ (.int .i64 (laid + 1))) V1.heap.size ty.tv bx from (Below.heap_setCell _ _ _ _ (by simp; omega)).trans hob).cs
 have H3 := hide (And.intro hb3 (And.intro hme2 (And.intro hmf2 (And.intro gW2 (And.intro hob (And.intro (hH.below b12) (And.intro (hB.below b12) ((hTy.below b12).mono b12.size))))))))
 clear hb hme hmf hb0 g1 gW1 gW2 b12 hob hb2 hme2 hmf2 hb3 hH hB hTy hty HOK HB d1 d2 dz c1 c2 hcy
 simp only [clV]
 go_wp2_with fail
 try rw [hV2]
 clear hV2
 go_region
 clear d0 o0 o1 o2 o3 o4 o5 o6 o7 c0 cz
 obtain ⟨hb3, hme2, hmf2, gW2, hob, hH2, hB2, hTy2⟩ := unhide H3
 clear H3 hTy2
 obtain ⟨hce, hcf, hne1, hne2, hne3⟩ := unhide HC
 have hsz3 : (V2.setCell ⟨b, 0, none⟩ (.int .i64 (laid + 1))).heap.size = V2.heap.size := by simp
 have b34 : Below V2.heap.size (V2.setCell ⟨b, 0, none⟩ (.int .i64 (laid + 1))) ((V2.setCell ⟨b, 0, none⟩ (.int .i64 (laid + 1))).alloc (.cells #[.int .i64 (laid + 1), .int .i64 ty.tv.k, .int .i64 ty.tv.N, .string ty.tv.s, .slice ty.tv.a ty.tv.len ty.tv.cap, .int .i64 bx.k, .int .i64 bx.N, .string bx.s, .slice bx.a bx.len bx.cap, .pointer none] 76)).drew := ((Below.refl _ _).alloc (by rw [hsz3]; exact Nat.le_refl _) _).drew
 have g34 : GrB (fun k => k = b) V2.heap.size V2 ((V2.setCell ⟨b, 0, none⟩ (.int .i64 (laid + 1))).alloc (.cells #[.int .i64 (laid + 1), .int .i64 ty.tv.k, .int .i64 ty.tv.N, .string ty.tv.s, .slice ty.tv.a ty.tv.len ty.tv.cap, .int .i64 bx.k, .int .i64 bx.N, .string bx.s, .slice bx.a bx.len bx.cap, .pointer none] 76)).drew := ⟨b34.os, b34.tape, b34.output, by have := b34.size; omega, fun k hk hx => (b34.block k hk).trans (Below.heap_setCell _ _ _ _ (by simpa using hx))⟩
 have hen4 : EnBlk ((V2.setCell ⟨b, 0, none⟩ (.int .i64 (laid + 1))).alloc (.cells #[.int .i64 (laid + 1), .int .i64 ty.tv.k, .int .i64 ty.tv.N, .string ty.tv.s, .slice ty.tv.a ty.tv.len ty.tv.cap, .int .i64 bx.k, .int .i64 bx.N, .string bx.s, .slice bx.a bx.len bx.cap, .pointer none] 76)).drew (V1.heap.size + 1) (laid + 1) ty.tv bx := by
  have h := World.alloc_heap_new (V2.setCell ⟨b, 0, none⟩ (.int .i64 (laid + 1))) (.cells #[.int .i64 (laid + 1), .int .i64 ty.tv.k, .int .i64 ty.tv.N, .string ty.tv.s, .slice ty.tv.a ty.tv.len ty.tv.cap, .int .i64 bx.k, .int .i64 bx.N, .string bx.s, .slice bx.a bx.len bx.cap, .pointer none] 76)
  rw [hsz3, hs2] at h
  exact h
 have hbs4 : BsBlk ((V2.setCell ⟨b, 0, none⟩ (.int .i64 (laid + 1))).alloc (.cells #[.int .i64 (laid + 1), .int .i64 ty.tv.k, .int .i64 ty.tv.N, .string ty.tv.s, .slice ty.tv.a ty.tv.len ty.tv.cap, .int .i64 bx.k, .int .i64 bx.N, .string bx.s, .slice bx.a bx.len bx.cap, .pointer none] 76)).drew b (laid + 1) me mf := (b34.block b (by omega)).trans hb3
 generalize ((V2.setCell ⟨b, 0, none⟩ (.int .i64 (laid + 1))).alloc (.cells #[.int .i64 (laid + 1), .int .i64 ty.tv.k, .int .i64 ty.tv.N, .string ty.tv.s, .slice ty.tv.a ty.tv.len ty.tv.cap, .int .i64 bx.k, .int .i64 bx.N, .string bx.s, .slice bx.a bx.len bx.cap, .pointer none] 76)).drew = V4 at b34 g34 hen4 hbs4 ⊢
 have hs4 := g34.size
 have hM4 : Mid b me mf V1.heap.size (V1.heap.size + 1) (laid + 1) (laid + 1) ce cf ge gf ty.tv bx (n + 4) (W.heap.size + 1) V2.heap.size (code th) (code tb) V4 :=
  ⟨hbs4, hme2.kept (g34.block me (by omega) (fun e => hne1 e.symm)), hmf2.kept (g34.block mf (by omega) (fun e => hne2 e.symm)), (g34.block _ (by omega) (by omega)).trans hob, hen4,
   (hH2.s.bound.mono (Nat.le_refl _) (fun k hk => by have h1 : _ ≤ k := hk.1; exact ⟨by rw [hs0] at h1; exact h1, hk.2⟩)).fromS (fun k hk hlt => g34.block k hk.2 (by have := hk.1; omega)) g34.size,
   (hB2.s.bound.mono (Nat.le_refl _) (fun k hk => by have h1 : _ ≤ k := hk.1; exact ⟨by rw [hs0] at h1; exact h1, hk.2⟩)).fromS (fun k hk hlt => g34.block k hk.2 (by have := hk.1; omega)) g34.size⟩
 have hs4' := hM4.en.lt
 have gW4 : GrB (fun k => k = b) W.heap.size W V4 := (GrB.of_below gW2).trans (g34.mono (by omega))
 clear b34 g34 hen4 hbs4 hb3 hme2 hmf2 gW2 hob hH2 hB2 hsz3
 obtain ⟨c0, c1, c2, cz⟩ := hM4.base.cs
 have H5 := hide (And.intro hM4 (And.intro gW4 (Nat.le_refl V4.heap.size)))
 clear hM4 gW4 c0 c1 c2 cz
 go_wp2_with fail
 skip
 obtain ⟨hM5, gW5, hs5⟩ := unhide H5
 clear H5
 obtain ⟨V5, hV5⟩ : ∃ V5, V5 = V4 := ⟨_, rfl⟩
 subst hV5
 obtain ⟨c0, c1, c2, cz⟩ := hM5.base.cs
 have hki : keyOf Tryz.prog 3 (.int .i64 (laid + 1)) = some (.int .i64 (laid + 1)) := keyOf_int_mk Tryz.underlying3 (by simp [Lit.wf, IntKind.min, IntKind.max, IntKind.signed, IntKind.bits]; omega)
 obtain ⟨V6, hup, hpm6, hgr6⟩ := (hM5.ent.kept (W := V5.drew) rfl).put Tryz.keyed3 Tryz.underlying54 hce hki ⟨V1.heap.size + 1, 0, none⟩
 have g56 : GrB (fun k => k = me) V5.heap.size V5 V6 := ⟨hgr6.os, hgr6.tape, hgr6.output, hgr6.size, fun k hk hx => hgr6.block k hk (by simpa using hx)⟩
 have hM6 := hM5.ment g56 hne1 hne3 (by omega) (by omega) (by omega) hpm6
 have gW6 : GrB (fun k => k = b ∨ k = me) W.heap.size W V6 := ⟨g56.os.trans gW5.os, g56.tape.trans gW5.tape, g56.output.trans gW5.output, by have := g56.size; have := gW5.size; omega, fun k hk hx => (g56.block k (by have := gW5.size; omega) (fun e => hx (.inr e))).trans (gW5.block k hk (fun e => hx (.inl e)))⟩
 have hs6 := g56.size
 have H6 := hide (And.intro hM6 gW6)
 clear hM5 gW5 hki hpm6 hgr6 g56 hM6 gW6 c2 cz
 go_wp2_with fail
 go_region
 clear hup c0 c1
 obtain ⟨hM6, gW6⟩ := unhide H6
 obtain ⟨⟨o0, o1, o2, o3⟩, -⟩ := hM6.ob.cs
 have hp := predicateOf_any ty.tv V6
 simp only [TV.val, predV] at hp
 clear hM6 gW6
 go_wp2_with fail
 refine hp.mono ?_
 clear hp o0 o1 o2 o3
 rintro e V7 ⟨rfl, g7⟩
 obtain ⟨hM6, gW6⟩ := unhide H6
 have hM7 := hM6.grow (GrB.of_below (X := fun _ => False) g7) (fun _ h => h.elim)
 have gW7 : GrB (fun k => k = b ∨ k = me) W.heap.size W V7 := gW6.trans (GrB.of_below (g7.mono (by have := gW6.size; omega)))
 have hs7 := g7.size
 have hsW7 := gW7.size
 have hlen50 : ty.tv.len ≤ 50 ∧ ty.tv.s.size ≤ maxLen := by
  obtain ⟨y1, _, _, _⟩ := unhide HY
  obtain ⟨t1, e1, hT1, -, -⟩ := hM7.hh (n + 4) (Nat.le_refl _) (by omega)
  have e2 := tv_inj e1
  refine ⟨?_, by rw [e2]; have := hT1.2.2.1; unfold maxLen; exact this⟩
  rcases wm_cases (ok_top y1) with ⟨_, _, _, _, h⟩ | ⟨_, h⟩ | ⟨_, _, _, h⟩ <;> omega
 have hgn := (unhide HG) ty.tv.s (unhide HY).2.2.1
 rw [← (unhide HY).2.2.2] at hgn
 have hfo := familyOf_old b me mf fb (laid + 1) cf gf ty.tv.s ty.tv.len V7 hM7.base hM7.fam hlen50.2 (by omega) hgn
 simp only [predV] at hfo
 have H7 := hide (And.intro hM7 (And.intro gW7 hgn))
 clear hM6 gW6 g7 hM7 gW7 hgn H6
 go_wp2_with fail
 refine hfo.mono ?_
 clear hfo
 rintro e V8 ⟨rfl, g8⟩
 obtain ⟨hM7, gW7, hgn⟩ := unhide H7
 obtain ⟨hfm, hkd, hck, n1, n2, n3, n4, n5, n6, hfk⟩ := unhide HFK
 have hM8 := hM7.grow (GrB.of_below (X := fun _ => False) g8) (fun _ h => h.elim)
 have gW8 : GrB (fun k => k = b ∨ k = me) W.heap.size W V8 := gW7.trans (GrB.of_below (g8.mono (by have := gW7.size; omega)))
 have hs8 := g8.size
 have hfm8 : FmBlk V8 fb all km := (gW8.block fb hlfb (by omega)).trans hfm
 have hkd8 := hkd.kept (gW8.block km hlkm (by omega))
 have hsW8 := gW8.size
 obtain ⟨t8, e8, hT8, -, hc8⟩ := hM8.hh (n + 4) (Nat.le_refl _) (by omega)
 have e8' := tv_inj e8
 obtain ⟨kl, hkl⟩ : ∃ kl, keyOf Tryz.prog 89 (keyOfV t8) = some kl := keyOf_ok t8 hT8 (by rw [okT_m, hc8]; exact HCT.out.1) (by rw [hc8]; exact HCT.out.2)
 have heb8 : EnBlk V8 (V1.heap.size + 1) (laid + 1) ty.tv bx := hM8.en
 have hbs8 := hM8.base
 have hmp8 := hM8.ent.mapB
 have hly := lay_any fb km (V1.heap.size + 1) all ck gk (laid + 1) t8 bx kl (R (V1.heap.size + 1)) V8 hfm8 hkd8 hck (by rw [← e8']; exact hM8.en) hT8 hkl hfk
  (fun V hV => (unhide HL).1 (V1.heap.size + 1) ty.tv bx V (by omega) ((hV.block _ heb8.lt).trans heb8) (gW8.trans (GrB.of_below (hV.mono hsW8))))
  (fun V hV hfV => (unhide HL).2.1 (V1.heap.size + 1) ty.tv bx V kl (by omega) ((hV.block _ heb8.lt (by omega)).trans heb8) ⟨hV.os.trans gW8.os, hV.tape.trans gW8.tape, hV.output.trans gW8.output, Nat.le_trans hsW8 hV.size, fun k hk hx => (hV.block k (by omega) (fun e => hx (.inr (.inr e)))).trans (gW8.block k hk (fun e => hx (e.elim .inl (fun e => .inr (.inl e)))))⟩ ((hV.block b (by omega) (fun e => n1 e.symm)).trans hbs8) (by obtain ⟨es, c, e⟩ := hmp8; exact ⟨es, c, (hV.block me (by omega) (fun e => n2 e.symm)).trans e⟩) hfV)
  (fun p q V V' hr hq hg h1 h2 => (unhide HL).2.2 _ p q V V' hr (by omega) hg h1 h2)
 have H8 := hide (And.intro hM8 gW8)
 have HK8 : Hid (∃ (m : Nat) (t : Tm (m + 1)) (V : World), t.tv = ty.tv ∧ code t = code th ∧ IsT V.heap.size V t ∧ keyOf Tryz.prog 89 (keyOfV t) = some kl) := ⟨_, t8, V8, e8'.symm, hc8, hT8, hkl⟩
 clear hM7 gW7 hgn hfm hkd hfm8 hkd8 heb8 hbs8 hmp8 g8 hM8 gW8 hT8 hc8 hkl e8 e8' H7 hlen50 HL
 go_wp2_with fail
 refine hly.mono ?_
 clear hly
 rintro e V9 ⟨rfl, q1, q2, hq1, hq2, hfm, hkd, r1, r2, g9⟩
 obtain ⟨hM8, gW8⟩ := unhide H8
 have hM9 := hM8.grow g9 (fun k hk => by rcases hk with rfl | rfl <;> omega)
 have gW9 : GrB (fun k => k = b ∨ k = me ∨ k = fb ∨ k = km) W.heap.size W V9 := ⟨g9.os.trans gW8.os, g9.tape.trans gW8.tape, g9.output.trans gW8.output, by have := g9.size; omega, fun k hk hx => (g9.block k (by omega) (fun e => hx (.inr (.inr e)))).trans (gW8.block k hk (fun e => hx (e.elim .inl (fun e => .inr (.inl e)))))⟩
 obtain ⟨c0, -⟩ := hM9.base.cs
 have HF : Hid (AddK b laid me mf ce cf ge gf (laid + 1) (code th) (code tb) (n + 4) W.heap.size V9 (V1.heap.size + 1) fb km q1 q2 ck gk ty.tv bx kl ∧ (∃ (m : Nat) (t : Tm (m + 1)) (V : World), t.tv = ty.tv ∧ code t = code th ∧ IsT V.heap.size V t ∧ keyOf Tryz.prog 89 (keyOfV t) = some kl) ∧ R (V1.heap.size + 1) all q1 V9 ∧ R (V1.heap.size + 1) (gk kl) q2 V9 ∧ GrB (fun k => k = b ∨ k = me ∨ k = fb ∨ k = km) W.heap.size W V9) :=
  ⟨⟨hM9.base, hM9.ent, hM9.fam, hfm, hkd, hM9.en, hM9.hh.mono (Nat.le_refl _) (fun k hk => by have := hk.1; show W.heap.size ≤ k; omega), hM9.hb.mono (Nat.le_refl _) (fun k hk => by have := hk.1; show W.heap.size ≤ k; omega), by omega⟩, unhide HK8, r1, r2, gW9⟩
 clear hM8 gW8 hM9 gW9 hfm hkd r1 r2 g9 H8
 go_wp2_with fail
 exact bodyPost_ret (v := .tuple #[.int .i64 (laid + 1), .int .i64 0]) (by simp [results, Tryz.results8, go_sem]) rfl ⟨rfl, _, _, _, _, _, kl, HF.out⟩
theorem addk_first (b me mf : Nat) (laid : Int) (ce cf : Nat) (ge gf : Lit → Option Addr) (fb km ck : Nat) (all : Option Addr) (gk : Lit → Option Addr) (R : Nat → Option Addr → Nat → World → Prop) {n : Nat} (th tb : Tm (n + 1)) (W : World) (hb : BsBlk W b laid me mf) (hme : PM 3 W me ce ge) (hmf : PM 80 W mf cf gf) (hce : ce < maxLen) (hcf : cf < maxLen) (h0 : 0 ≤ laid) (h1 : laid < 4611686018427387904) (hne : b ≠ me ∧ b ≠ mf ∧ me ≠ mf)
  (hTH : IsT W.heap.size W th) (hTB : IsT W.heap.size W tb) (hl : 2 * ((code th).length + (code tb).length + 1) ≤ 4194304) (hrem : remE th tb = 0) (hnum : numC (code th)) (hg : ∀ s : ByteArray, s.toList = th.tv.s.toList → gf (predL s th.tv.len) = some ⟨fb, 0, none⟩) (hfm : FmBlk W fb all km) (hkd : PM 89 W km ck gk) (hck : ck < maxLen) (hnf : fb ≠ b ∧ fb ≠ me ∧ fb ≠ mf ∧ km ≠ b ∧ km ≠ me ∧ km ≠ mf ∧ fb ≠ km)
  (hW1 : ∀ eb hx bx V, W.heap.size ≤ eb → EnBlk V eb (-(laid + 1)) hx bx → GrB (fun k => k = b ∨ k = me) W.heap.size W V → WithC eb (R eb) all V) (hW2 : ∀ eb hx bx V kl, W.heap.size ≤ eb → EnBlk V eb (-(laid + 1)) hx bx → GrB (fun k => k = b ∨ k = me ∨ k = fb) W.heap.size W V → BsBlk V b (laid + 1) me mf → MapB V me → (∃ a, FmBlk V fb a km) → WithC eb (R eb) (gk kl) V)
  (hR : ∀ eb p q V V', R eb p q V → W.heap.size ≤ q → GrB (fun k => k = fb ∨ k = km) V.heap.size V V' → (∃ a, FmBlk V fb a km) → MapB V km → R eb p q V') (hn38 : n ≤ 274877906944 := by omega) :
  Calls Tryz.prog 8 #[.pointer (some ⟨b, 0, none⟩), clV th.tv tb.tv, .bool true] W fun e W' => e = .returned (.tuple #[.int .i64 (laid + 1), .int .i64 0]) ∧ ∃ (eb q1 q2 : Nat) (hx bx : TV) (kl : Lit), AddK b laid me mf ce cf ge gf (-(laid + 1)) (code th) (code tb) (n + 4) W.heap.size W' eb fb km q1 q2 ck gk hx bx kl ∧ (∃ (m : Nat) (t : Tm (m + 1)) (V : World), t.tv = hx ∧ code t = code th ∧ IsT V.heap.size V t ∧ keyOf Tryz.prog 89 (keyOfV t) = some kl) ∧ R eb all q1 W' ∧ R eb (gk kl) q2 W' ∧ GrB (fun k => k = b ∨ k = me ∨ k = fb ∨ k = km) W.heap.size W W' := by
 obtain ⟨okh, okb⟩ : okT th = true ∧ okT tb = true := by
  unfold remE at hrem
  split at hrem
  ·assumption
  ·cases hrem
 have hlb := hb.lt
 have hlme := hme.lt
 have hlmf := hmf.lt
 have hb0 : Below W.heap.size W (W.alloc (.cells #[.int .i64 th.tv.k, .int .i64 th.tv.N, .string th.tv.s, .slice th.tv.a th.tv.len th.tv.cap, .int .i64 tb.tv.k, .int .i64 tb.tv.N, .string tb.tv.s, .slice tb.tv.a tb.tv.len tb.tv.cap] 30)) := (Below.refl _ W).alloc (Nat.le_refl _) _
 have hr := remade_any th tb (W.alloc (.cells #[.int .i64 th.tv.k, .int .i64 th.tv.N, .string th.tv.s, .slice th.tv.a th.tv.len th.tv.cap, .int .i64 tb.tv.k, .int .i64 tb.tv.N, .string tb.tv.s, .slice tb.tv.a tb.tv.len tb.tv.cap] 30)) ((hTH.below hb0).mono hb0.size) ((hTB.below hb0).mono hb0.size) hl
 rw [hrem] at hr
 have hs0 : (W.alloc (.cells #[.int .i64 th.tv.k, .int .i64 th.tv.N, .string th.tv.s, .slice th.tv.a th.tv.len th.tv.cap, .int .i64 tb.tv.k, .int .i64 tb.tv.N, .string tb.tv.s, .slice tb.tv.a tb.tv.len tb.tv.cap] 30)).heap.size = W.heap.size + 1 := by simp
 have HOK : Hid (∀ {m : Nat} (t : Tm (m + 1)), code t = code th → okT t = true ∧ numC (code t) ∧ t.tv.s.toList = th.tv.s.toList ∧ t.tv.len = th.tv.len) := fun t ht => by
  refine ⟨by rw [okT_m, ht, ← okT_m]; exact okh, by rw [ht]; exact hnum, ?_⟩
  have e1 := code_kids t
  have e2 := code_kids th
  rw [ht, e2] at e1
  simp only [List.cons.injEq] at e1
  have hnd := nd_parts e1.1
  exact ⟨hnd.2.2.1.symm, hnd.2.2.2.symm⟩
 have HB := hide (And.intro hb (And.intro hme (And.intro hmf (And.intro hb0 hs0))))
 have HC := hide (And.intro hce (And.intro hcf hne))
 have HCT : Hid ((code th).all okM = true ∧ numC (code th)) := ⟨by rw [← okT_m]; exact okh, hnum⟩
 have HG := hide hg
 have HFK := hide (And.intro hfm (And.intro hkd (And.intro hck hnf)))
 have hlfb := hfm.lt
 have hlkm := hkd.lt
 have HL := hide (And.intro hW1 (And.intro hW2 hR))
 clear hb hme hmf hce hcf hne hTH hTB hl hrem hnum hg hfm hkd hck hnf hW1 hW2 hR okh okb hb0 hs0
 simp only [clV] at hr ⊢
 go_enter Tryz.func8, Tryz.ntmps8
 go_wp2_with fail
 refine hr.mono ?_
 clear hr
 rintro e V1 ⟨hrm, g1⟩
 obtain ⟨hx, bx, rfl, hokk, -⟩ := hrm
 obtain ⟨hH, hB⟩ := hokk rfl
 clear hokk
 obtain ⟨ty, hty, hTy, -, hcy⟩ := hH (n + 4) (Nat.le_refl _) (by omega)
 obtain rfl := tv_inj hty
 have HY := hide (HOK.out ty hcy)
 obtain ⟨hb, hme, hmf, hb0, hs0⟩ := unhide HB
 have hs1 := g1.size
 have gW1 : Below W.heap.size W V1 := hb0.trans (g1.mono (by omega))
 have gW2 : Below W.heap.size W (V1.alloc (.cells #[.int .i64 ty.tv.k, .int .i64 ty.tv.N, .string ty.tv.s, .slice ty.tv.a ty.tv.len ty.tv.cap, .int .i64 bx.k, .int .i64 bx.N, .string bx.s, .slice bx.a bx.len bx.cap] 30)) := gW1.alloc (by omega) _
 have b12 : Below V1.heap.size V1 (V1.alloc (.cells #[.int .i64 ty.tv.k, .int .i64 ty.tv.N, .string ty.tv.s, .slice ty.tv.a ty.tv.len ty.tv.cap, .int .i64 bx.k, .int .i64 bx.N, .string bx.s, .slice bx.a bx.len bx.cap] 30)) := (Below.refl _ V1).alloc (Nat.le_refl _) _
 have hob := BoxC.new V1 ty.tv bx
 obtain ⟨V2, hV2⟩ : ∃ V2, V1.alloc (.cells #[.int .i64 ty.tv.k, .int .i64 ty.tv.N, .string ty.tv.s, .slice ty.tv.a ty.tv.len ty.tv.cap, .int .i64 bx.k, .int .i64 bx.N, .string bx.s, .slice bx.a bx.len bx.cap] 30) = V2 := ⟨_, rfl⟩
 have hs2 : V2.heap.size = V1.heap.size + 1 := by rw [← hV2]; simp
 rw [hV2] at gW2 b12 hob
 have hb2 : BsBlk V2 b laid me mf := (gW2.block b hlb).trans hb
 have hme2 := hme.kept (gW2.block me hlme)
 have hmf2 := hmf.kept (gW2.block mf hlmf)
 have hw1 : wrap64 (laid + 1) = laid + 1 := by unfold wrap64; omega
 obtain ⟨c0, c1, c2, cz⟩ := hb2.cs
 have hb3 := hb2.set (laid + 1)
 obtain ⟨d0, d1, d2, dz⟩ := hb3.cs
 obtain ⟨⟨o0, o1, o2, o3⟩, o4, o5, o6, o7⟩ := (show BoxC (V2.setCell ⟨b, 0, none⟩ (.int .i64 (laid + 1))) V1.heap.size ty.tv bx from (Below.heap_setCell _ _ _ _ (by simp; omega)).trans hob).cs
 have H3 := hide (And.intro hb3 (And.intro hme2 (And.intro hmf2 (And.intro gW2 (And.intro hob (And.intro (hH.below b12) (And.intro (hB.below b12) ((hTy.below b12).mono b12.size))))))))
 clear hb hme hmf hb0 g1 gW1 gW2 b12 hob hb2 hme2 hmf2 hb3 hH hB hTy hty HOK HB d1 d2 dz c1 c2 hcy
 simp only [clV]
 go_wp2_with fail
 try rw [hV2]
 clear hV2
 go_region
 clear d0 o0 o1 o2 o3 o4 o5 o6 o7 c0 cz
 obtain ⟨hb3, hme2, hmf2, gW2, hob, hH2, hB2, hTy2⟩ := unhide H3
 clear H3 hTy2
 obtain ⟨hce, hcf, hne1, hne2, hne3⟩ := unhide HC
 have hsz3 : (V2.setCell ⟨b, 0, none⟩ (.int .i64 (laid + 1))).heap.size = V2.heap.size := by simp
 have b34 : Below V2.heap.size (V2.setCell ⟨b, 0, none⟩ (.int .i64 (laid + 1))) ((V2.setCell ⟨b, 0, none⟩ (.int .i64 (laid + 1))).alloc (.cells #[.int .i64 (laid + 1), .int .i64 ty.tv.k, .int .i64 ty.tv.N, .string ty.tv.s, .slice ty.tv.a ty.tv.len ty.tv.cap, .int .i64 bx.k, .int .i64 bx.N, .string bx.s, .slice bx.a bx.len bx.cap, .pointer none] 76)).drew := ((Below.refl _ _).alloc (by rw [hsz3]; exact Nat.le_refl _) _).drew
 have g34 : GrB (fun k => k = b) V2.heap.size V2 ((V2.setCell ⟨b, 0, none⟩ (.int .i64 (laid + 1))).alloc (.cells #[.int .i64 (laid + 1), .int .i64 ty.tv.k, .int .i64 ty.tv.N, .string ty.tv.s, .slice ty.tv.a ty.tv.len ty.tv.cap, .int .i64 bx.k, .int .i64 bx.N, .string bx.s, .slice bx.a bx.len bx.cap, .pointer none] 76)).drew := ⟨b34.os, b34.tape, b34.output, by have := b34.size; omega, fun k hk hx => (b34.block k hk).trans (Below.heap_setCell _ _ _ _ (by simpa using hx))⟩
 have hen4 : EnBlk ((V2.setCell ⟨b, 0, none⟩ (.int .i64 (laid + 1))).alloc (.cells #[.int .i64 (laid + 1), .int .i64 ty.tv.k, .int .i64 ty.tv.N, .string ty.tv.s, .slice ty.tv.a ty.tv.len ty.tv.cap, .int .i64 bx.k, .int .i64 bx.N, .string bx.s, .slice bx.a bx.len bx.cap, .pointer none] 76)).drew (V1.heap.size + 1) (laid + 1) ty.tv bx := by
  have h := World.alloc_heap_new (V2.setCell ⟨b, 0, none⟩ (.int .i64 (laid + 1))) (.cells #[.int .i64 (laid + 1), .int .i64 ty.tv.k, .int .i64 ty.tv.N, .string ty.tv.s, .slice ty.tv.a ty.tv.len ty.tv.cap, .int .i64 bx.k, .int .i64 bx.N, .string bx.s, .slice bx.a bx.len bx.cap, .pointer none] 76)
  rw [hsz3, hs2] at h
  exact h
 have hbs4 : BsBlk ((V2.setCell ⟨b, 0, none⟩ (.int .i64 (laid + 1))).alloc (.cells #[.int .i64 (laid + 1), .int .i64 ty.tv.k, .int .i64 ty.tv.N, .string ty.tv.s, .slice ty.tv.a ty.tv.len ty.tv.cap, .int .i64 bx.k, .int .i64 bx.N, .string bx.s, .slice bx.a bx.len bx.cap, .pointer none] 76)).drew b (laid + 1) me mf := (b34.block b (by omega)).trans hb3
 generalize ((V2.setCell ⟨b, 0, none⟩ (.int .i64 (laid + 1))).alloc (.cells #[.int .i64 (laid + 1), .int .i64 ty.tv.k, .int .i64 ty.tv.N, .string ty.tv.s, .slice ty.tv.a ty.tv.len ty.tv.cap, .int .i64 bx.k, .int .i64 bx.N, .string bx.s, .slice bx.a bx.len bx.cap, .pointer none] 76)).drew = V4 at b34 g34 hen4 hbs4 ⊢
 have hs4 := g34.size
 have hM4 : Mid b me mf V1.heap.size (V1.heap.size + 1) (laid + 1) (laid + 1) ce cf ge gf ty.tv bx (n + 4) (W.heap.size + 1) V2.heap.size (code th) (code tb) V4 :=
  ⟨hbs4, hme2.kept (g34.block me (by omega) (fun e => hne1 e.symm)), hmf2.kept (g34.block mf (by omega) (fun e => hne2 e.symm)), (g34.block _ (by omega) (by omega)).trans hob, hen4,
   (hH2.s.bound.mono (Nat.le_refl _) (fun k hk => by have h1 : _ ≤ k := hk.1; exact ⟨by rw [hs0] at h1; exact h1, hk.2⟩)).fromS (fun k hk hlt => g34.block k hk.2 (by have := hk.1; omega)) g34.size,
   (hB2.s.bound.mono (Nat.le_refl _) (fun k hk => by have h1 : _ ≤ k := hk.1; exact ⟨by rw [hs0] at h1; exact h1, hk.2⟩)).fromS (fun k hk hlt => g34.block k hk.2 (by have := hk.1; omega)) g34.size⟩
 have hs4' := hM4.en.lt
 have gW4 : GrB (fun k => k = b) W.heap.size W V4 := (GrB.of_below gW2).trans (g34.mono (by omega))
 clear b34 g34 hen4 hbs4 hb3 hme2 hmf2 gW2 hob hH2 hB2 hsz3
 obtain ⟨c0, c1, c2, cz⟩ := hM4.base.cs
 obtain ⟨e0, _, _⟩ := hM4.en.cs
 have ez : V4.frozen? ⟨V1.heap.size + 1, 0, none⟩ = false := by
  have h : V4.heap[V1.heap.size + 1]? = _ := hM4.en
  simp [World.frozen?, h]
 have hw2 : wrap64 (-(laid + 1)) = -(laid + 1) := by unfold wrap64; omega
 have hM5 : Mid b me mf V1.heap.size (V1.heap.size + 1) (laid + 1) (-(laid + 1)) ce cf ge gf ty.tv bx (n + 4) (W.heap.size + 1) V2.heap.size (code th) (code tb) (V4.setCell ⟨V1.heap.size + 1, 0, none⟩ (.int .i64 (-(laid + 1)))) := hM4.place (by omega) (by omega) (by omega) (by omega) (by omega) _
 have gW5 : GrB (fun k => k = b) W.heap.size W (V4.setCell ⟨V1.heap.size + 1, 0, none⟩ (.int .i64 (-(laid + 1)))) := ⟨gW4.os, gW4.tape, gW4.output, by have := gW4.size; simpa using this, fun k hk hx => (Below.heap_setCell _ _ _ _ (by simp; omega)).trans (gW4.block k hk hx)⟩
 have hs5 : V4.heap.size ≤ (V4.setCell ⟨V1.heap.size + 1, 0, none⟩ (.int .i64 (-(laid + 1)))).heap.size := by simp
 have H5 := hide (And.intro hM5 (And.intro gW5 hs5))
 clear hM4 gW4 hM5 gW5 hs5 c1 c2 cz
 go_wp2_with fail
 skip
 obtain ⟨hM5, gW5, hs5⟩ := unhide H5
 clear H5
 obtain ⟨V5, hV5⟩ : ∃ V5, V4.setCell ⟨V1.heap.size + 1, 0, none⟩ (.int .i64 (-(laid + 1))) = V5 := ⟨_, rfl⟩
 rw [hV5] at hM5 gW5 hs5
 try rw [hV5]
 clear hV5
 obtain ⟨c0, c1, c2, cz⟩ := hM5.base.cs
 have hki : keyOf Tryz.prog 3 (.int .i64 (laid + 1)) = some (.int .i64 (laid + 1)) := keyOf_int_mk Tryz.underlying3 (by simp [Lit.wf, IntKind.min, IntKind.max, IntKind.signed, IntKind.bits]; omega)
 obtain ⟨V6, hup, hpm6, hgr6⟩ := (hM5.ent.kept (W := V5.drew) rfl).put Tryz.keyed3 Tryz.underlying54 hce hki ⟨V1.heap.size + 1, 0, none⟩
 have g56 : GrB (fun k => k = me) V5.heap.size V5 V6 := ⟨hgr6.os, hgr6.tape, hgr6.output, hgr6.size, fun k hk hx => hgr6.block k hk (by simpa using hx)⟩
 have hM6 := hM5.ment g56 hne1 hne3 (by omega) (by omega) (by omega) hpm6
 have gW6 : GrB (fun k => k = b ∨ k = me) W.heap.size W V6 := ⟨g56.os.trans gW5.os, g56.tape.trans gW5.tape, g56.output.trans gW5.output, by have := g56.size; have := gW5.size; omega, fun k hk hx => (g56.block k (by have := gW5.size; omega) (fun e => hx (.inr e))).trans (gW5.block k hk (fun e => hx (.inl e)))⟩
 have hs6 := g56.size
 have H6 := hide (And.intro hM6 gW6)
 clear hM5 gW5 hki hpm6 hgr6 g56 hM6 gW6 c2 cz
 go_wp2_with fail
 go_region
 clear hup c0 c1
 obtain ⟨hM6, gW6⟩ := unhide H6
 obtain ⟨⟨o0, o1, o2, o3⟩, -⟩ := hM6.ob.cs
 have hp := predicateOf_any ty.tv V6
 simp only [TV.val, predV] at hp
 clear hM6 gW6
 go_wp2_with fail
 refine hp.mono ?_
 clear hp o0 o1 o2 o3
 rintro e V7 ⟨rfl, g7⟩
 obtain ⟨hM6, gW6⟩ := unhide H6
 have hM7 := hM6.grow (GrB.of_below (X := fun _ => False) g7) (fun _ h => h.elim)
 have gW7 : GrB (fun k => k = b ∨ k = me) W.heap.size W V7 := gW6.trans (GrB.of_below (g7.mono (by have := gW6.size; omega)))
 have hs7 := g7.size
 have hsW7 := gW7.size
 have hlen50 : ty.tv.len ≤ 50 ∧ ty.tv.s.size ≤ maxLen := by
  obtain ⟨y1, _, _, _⟩ := unhide HY
  obtain ⟨t1, e1, hT1, -, -⟩ := hM7.hh (n + 4) (Nat.le_refl _) (by omega)
  have e2 := tv_inj e1
  refine ⟨?_, by rw [e2]; have := hT1.2.2.1; unfold maxLen; exact this⟩
  rcases wm_cases (ok_top y1) with ⟨_, _, _, _, h⟩ | ⟨_, h⟩ | ⟨_, _, _, h⟩ <;> omega
 have hgn := (unhide HG) ty.tv.s (unhide HY).2.2.1
 rw [← (unhide HY).2.2.2] at hgn
 have hfo := familyOf_old b me mf fb (laid + 1) cf gf ty.tv.s ty.tv.len V7 hM7.base hM7.fam hlen50.2 (by omega) hgn
 simp only [predV] at hfo
 have H7 := hide (And.intro hM7 (And.intro gW7 hgn))
 clear hM6 gW6 g7 hM7 gW7 hgn H6
 go_wp2_with fail
 refine hfo.mono ?_
 clear hfo
 rintro e V8 ⟨rfl, g8⟩
 obtain ⟨hM7, gW7, hgn⟩ := unhide H7
 obtain ⟨hfm, hkd, hck, n1, n2, n3, n4, n5, n6, hfk⟩ := unhide HFK
 have hM8 := hM7.grow (GrB.of_below (X := fun _ => False) g8) (fun _ h => h.elim)
 have gW8 : GrB (fun k => k = b ∨ k = me) W.heap.size W V8 := gW7.trans (GrB.of_below (g8.mono (by have := gW7.size; omega)))
 have hs8 := g8.size
 have hfm8 : FmBlk V8 fb all km := (gW8.block fb hlfb (by omega)).trans hfm
 have hkd8 := hkd.kept (gW8.block km hlkm (by omega))
 have hsW8 := gW8.size
 obtain ⟨t8, e8, hT8, -, hc8⟩ := hM8.hh (n + 4) (Nat.le_refl _) (by omega)
 have e8' := tv_inj e8
 obtain ⟨kl, hkl⟩ : ∃ kl, keyOf Tryz.prog 89 (keyOfV t8) = some kl := keyOf_ok t8 hT8 (by rw [okT_m, hc8]; exact HCT.out.1) (by rw [hc8]; exact HCT.out.2)
 have heb8 : EnBlk V8 (V1.heap.size + 1) (-(laid + 1)) ty.tv bx := hM8.en
 have hbs8 := hM8.base
 have hmp8 := hM8.ent.mapB
 have hly := lay_any fb km (V1.heap.size + 1) all ck gk (-(laid + 1)) t8 bx kl (R (V1.heap.size + 1)) V8 hfm8 hkd8 hck (by rw [← e8']; exact hM8.en) hT8 hkl hfk
  (fun V hV => (unhide HL).1 (V1.heap.size + 1) ty.tv bx V (by omega) ((hV.block _ heb8.lt).trans heb8) (gW8.trans (GrB.of_below (hV.mono hsW8))))
  (fun V hV hfV => (unhide HL).2.1 (V1.heap.size + 1) ty.tv bx V kl (by omega) ((hV.block _ heb8.lt (by omega)).trans heb8) ⟨hV.os.trans gW8.os, hV.tape.trans gW8.tape, hV.output.trans gW8.output, Nat.le_trans hsW8 hV.size, fun k hk hx => (hV.block k (by omega) (fun e => hx (.inr (.inr e)))).trans (gW8.block k hk (fun e => hx (e.elim .inl (fun e => .inr (.inl e)))))⟩ ((hV.block b (by omega) (fun e => n1 e.symm)).trans hbs8) (by obtain ⟨es, c, e⟩ := hmp8; exact ⟨es, c, (hV.block me (by omega) (fun e => n2 e.symm)).trans e⟩) hfV)
  (fun p q V V' hr hq hg h1 h2 => (unhide HL).2.2 _ p q V V' hr (by omega) hg h1 h2)
 have H8 := hide (And.intro hM8 gW8)
 have HK8 : Hid (∃ (m : Nat) (t : Tm (m + 1)) (V : World), t.tv = ty.tv ∧ code t = code th ∧ IsT V.heap.size V t ∧ keyOf Tryz.prog 89 (keyOfV t) = some kl) := ⟨_, t8, V8, e8'.symm, hc8, hT8, hkl⟩
 clear hM7 gW7 hgn hfm hkd hfm8 hkd8 heb8 hbs8 hmp8 g8 hM8 gW8 hT8 hc8 hkl e8 e8' H7 hlen50 HL
 go_wp2_with fail
 refine hly.mono ?_
 clear hly
 rintro e V9 ⟨rfl, q1, q2, hq1, hq2, hfm, hkd, r1, r2, g9⟩
 obtain ⟨hM8, gW8⟩ := unhide H8
 have hM9 := hM8.grow g9 (fun k hk => by rcases hk with rfl | rfl <;> omega)
 have gW9 : GrB (fun k => k = b ∨ k = me ∨ k = fb ∨ k = km) W.heap.size W V9 := ⟨g9.os.trans gW8.os, g9.tape.trans gW8.tape, g9.output.trans gW8.output, by have := g9.size; omega, fun k hk hx => (g9.block k (by omega) (fun e => hx (.inr (.inr e)))).trans (gW8.block k hk (fun e => hx (e.elim .inl (fun e => .inr (.inl e)))))⟩
 obtain ⟨c0, -⟩ := hM9.base.cs
 have HF : Hid (AddK b laid me mf ce cf ge gf (-(laid + 1)) (code th) (code tb) (n + 4) W.heap.size V9 (V1.heap.size + 1) fb km q1 q2 ck gk ty.tv bx kl ∧ (∃ (m : Nat) (t : Tm (m + 1)) (V : World), t.tv = ty.tv ∧ code t = code th ∧ IsT V.heap.size V t ∧ keyOf Tryz.prog 89 (keyOfV t) = some kl) ∧ R (V1.heap.size + 1) all q1 V9 ∧ R (V1.heap.size + 1) (gk kl) q2 V9 ∧ GrB (fun k => k = b ∨ k = me ∨ k = fb ∨ k = km) W.heap.size W V9) :=
  ⟨⟨hM9.base, hM9.ent, hM9.fam, hfm, hkd, hM9.en, hM9.hh.mono (Nat.le_refl _) (fun k hk => by have := hk.1; show W.heap.size ≤ k; omega), hM9.hb.mono (Nat.le_refl _) (fun k hk => by have := hk.1; show W.heap.size ≤ k; omega), by omega⟩, unhide HK8, r1, r2, gW9⟩
 clear hM8 gW8 hM9 gW9 hfm hkd r1 r2 g9 H8
 go_wp2_with fail
 exact bodyPost_ret (v := .tuple #[.int .i64 (laid + 1), .int .i64 0]) (by simp [results, Tryz.results8, go_sem]) rfl ⟨rfl, _, _, _, _, _, kl, HF.out⟩
end Go.Proofs.YtlbobmebbllifaaGreat
