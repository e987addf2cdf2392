import Derived.Test.YtlbobmebbllifaaGreatBcFs
/- (*base.Base).Add, of a predicate that is not known yet. (Written by wip/addgen.py.) -/
namespace Go.Proofs.YtlbobmebbllifaaGreat
set_option maxHeartbeats 4000000
set_option maxRecDepth 100000
open Go.RowKit Go.Shelf Go.Maps
def OneT (eb : Nat) (lo q : Nat) (V : World) : Prop := lo ≤ q ∧ V.heap[q]? = some (.cells #[.pointer (some ⟨eb, 0, none⟩), .pointer none, .pointer none, .int .i64 1] 131 (0, 0))
theorem withC_nil (eb lo : Nat) (V : World) (hlo : lo ≤ V.heap.size) : WithC eb (fun _ q V' => OneT eb lo q V') none V := by
 unfold WithC
 refine (with_nil (some ⟨eb, 0, none⟩) V).mono ?_
 rintro e V' ⟨rfl, rfl⟩
 exact ⟨V.heap.size, rfl, Nat.le_refl _, (Below.refl _ V).alloc (Nat.le_refl _) _, hlo, World.alloc_heap_new V _⟩
theorem keyOf_ok {n : Nat} (t : Tm (n + 1)) {W : World} (hT : IsT W.heap.size W t) (hok : okT t = true) (hn : numC (code t)) : ∃ kl, keyOf Tryz.prog 89 (keyOfV t) = some kl := by
 obtain ⟨x, kids⟩ := t
 obtain ⟨h1, h2, h3, h4⟩ := hT
 have hk := ok_kids hok
 unfold keyOfV
 have key0 : ∃ kl, keyOf Tryz.prog 89 (keyV 0 0 ⟨#[]⟩ 0) = some kl := ⟨_, key_key 0 0 ⟨#[]⟩ 0 (by decide) (by omega) (by omega) (by omega) (by omega) (by omega)⟩
 cases kids with
 | nil => exact key0
 | cons u r =>
  by_cases hk1 : u.tv.k = 1
  ·have e : keyOfT (n := n) ((x, u :: r) : TV × List (Tm n)) = (0, 0, ⟨#[]⟩, 0) := by unfold keyOfT; simp [Tm.kids, hk1]
   rw [e]
   exact key0
  ·have e : keyOfT (n := n) ((x, u :: r) : TV × List (Tm n)) = (u.tv.k, u.tv.N, u.tv.s, u.tv.len) := by unfold keyOfT; simp [Tm.kids, hk1]
   rw [e]
   have oku := hk.2 u (by simp)
   have hTu : IsT W.heap.size W u := by
    rcases h4 with h4 | ⟨b, off, _, _, hk'⟩
    ·cases h4
    ·exact (hk' 0 u rfl).2
   cases n with
   | zero => exact Empty.elim u
   | succ n =>
    have hsu : u.tv.s.size ≤ 9223372036854775807 := hTu.2.2.1
    have hnu := hn u.tv.nd (by rw [code_succ, List.flatMap_cons]; have := code_kids u; rw [this]; simp)
    have hNu : -9223372036854775808 ≤ u.tv.N ∧ u.tv.N ≤ 9223372036854775807 := hnu
    have hkl : u.tv.k ≤ 4 ∧ 0 ≤ u.tv.k ∧ u.tv.len ≤ 50 := by
     rcases wm_cases (ok_top oku) with ⟨h, _, _, _, h'⟩ | ⟨h, h'⟩ | ⟨h, _, _, h'⟩ <;> omega
    exact ⟨_, key_key u.tv.k u.tv.N u.tv.s u.tv.len (by unfold maxLen; omega) (by omega) (by omega) (by omega) hNu.1 hNu.2⟩
theorem BsBlk.set {W : World} {b : Nat} {laid : Int} {me mf : Nat} (h : BsBlk W b laid me mf) (v : Int) : BsBlk (W.setCell ⟨b, 0, none⟩ (.int .i64 v)) b v me mf := by
 have h' : W.heap[b]? = _ := h
 obtain ⟨hlt, hk⟩ := Array.getElem?_eq_some_iff.1 h'
 show (W.heap.modify b _)[b]? = _
 rw [Array.getElem?_eq_getElem (by rw [Array.size_modify]; exact hlt), Array.getElem_modify_self, hk]
 rfl
theorem HoldsS.bound {D : Nat} {S : Nat → Prop} {W : World} {v : Value} {c : List Nd} (h : HoldsS D S W v c) : HoldsS D (fun k => S k ∧ k < W.heap.size) W v c := fun m hm hlm => by
 obtain ⟨t, h1, h2, h3, h4⟩ := h m hm hlm
 exact ⟨t, h1, h2, h3.and h2.blk, h4⟩
structure Mid (b me mf ob eb : Nat) (laid pl : Int) (ce cf : Nat) (ge gf : Lit → Option Addr) (hx bx : TV) (D lo mid : Nat) (h bd : List Nd) (V : World) : Prop where
 base : BsBlk V b laid me mf
 ent : PM 3 V me ce ge
 fam : PM 80 V mf cf gf
 ob : BoxC V ob hx bx
 en : EnBlk V eb pl hx bx
 hh : HoldsS D (fun k => lo ≤ k ∧ k < mid) V hx.val h
 hb : HoldsS D (fun k => lo ≤ k ∧ k < mid) V bx.val bd
theorem Mid.grow {b me mf ob eb : Nat} {laid pl : Int} {ce cf : Nat} {ge gf : Lit → Option Addr} {hx bx : TV} {D lo mid : Nat} {h bd : List Nd} {V V' : World} (m : Mid b me mf ob eb laid pl ce cf ge gf hx bx D lo mid h bd V) {Y : Nat → Prop} (g : GrB Y V.heap.size V V') (hy : ∀ k, Y k → k ≠ b ∧ k ≠ me ∧ k ≠ mf ∧ k ≠ ob ∧ k ≠ eb ∧ ¬ (lo ≤ k ∧ k < mid)) : Mid b me mf ob eb laid pl ce cf ge gf hx bx D lo mid h bd V' :=
 ⟨(g.block b m.base.lt (fun h => (hy _ h).1 rfl)).trans m.base, m.ent.kept (g.block me m.ent.lt (fun h => (hy _ h).2.1 rfl)), m.fam.kept (g.block mf m.fam.lt (fun h => (hy _ h).2.2.1 rfl)), (g.block ob m.ob.lt (fun h => (hy _ h).2.2.2.1 rfl)).trans m.ob, (g.block eb m.en.lt (fun h => (hy _ h).2.2.2.2.1 rfl)).trans m.en,
  m.hh.fromS (fun k hk hlt => g.block k hlt (fun h => (hy _ h).2.2.2.2.2 hk)) g.size, m.hb.fromS (fun k hk hlt => g.block k hlt (fun h => (hy _ h).2.2.2.2.2 hk)) g.size⟩
theorem Mid.ment {b me mf ob eb : Nat} {laid pl : Int} {ce ce' cf : Nat} {ge ge' gf : Lit → Option Addr} {hx bx : TV} {D lo mid : Nat} {h bd : List Nd} {V V' : World} (m : Mid b me mf ob eb laid pl ce cf ge gf hx bx D lo mid h bd V) (g : GrB (fun k => k = me) V.heap.size V V') (h1 : b ≠ me) (h2 : me ≠ mf) (h3 : me ≠ ob) (h4 : me ≠ eb) (h5 : ¬ (lo ≤ me ∧ me < mid)) (hp : PM 3 V' me ce' ge') : Mid b me mf ob eb laid pl ce' cf ge' gf hx bx D lo mid h bd V' :=
 ⟨(g.block b m.base.lt h1).trans m.base, hp, m.fam.kept (g.block mf m.fam.lt (fun e => h2 e.symm)), (g.block ob m.ob.lt (fun e => h3 e.symm)).trans m.ob, (g.block eb m.en.lt (fun e => h4 e.symm)).trans m.en,
  m.hh.fromS (fun k hk hlt => g.block k hlt (fun e => h5 (e ▸ hk))) g.size, m.hb.fromS (fun k hk hlt => g.block k hlt (fun e => h5 (e ▸ hk))) g.size⟩
theorem Mid.mfam {b me mf ob eb : Nat} {laid pl : Int} {ce cf cf' : Nat} {ge gf gf' : Lit → Option Addr} {hx bx : TV} {D lo mid : Nat} {h bd : List Nd} {V V' : World} (m : Mid b me mf ob eb laid pl ce cf ge gf hx bx D lo mid h bd V) (g : GrB (fun k => k = mf) V.heap.size V V') (h1 : b ≠ mf) (h2 : me ≠ mf) (h3 : mf ≠ ob) (h4 : mf ≠ eb) (h5 : ¬ (lo ≤ mf ∧ mf < mid)) (hp : PM 80 V' mf cf' gf') : Mid b me mf ob eb laid pl ce cf' ge gf' hx bx D lo mid h bd V' :=
 ⟨(g.block b m.base.lt h1).trans m.base, m.ent.kept (g.block me m.ent.lt h2), hp, (g.block ob m.ob.lt (fun e => h3 e.symm)).trans m.ob, (g.block eb m.en.lt (fun e => h4 e.symm)).trans m.en,
  m.hh.fromS (fun k hk hlt => g.block k hlt (fun e => h5 (e ▸ hk))) g.size, m.hb.fromS (fun k hk hlt => g.block k hlt (fun e => h5 (e ▸ hk))) g.size⟩
theorem Mid.place {b me mf ob eb : Nat} {laid pl : Int} {ce cf : Nat} {ge gf : Lit → Option Addr} {hx bx : TV} {D lo mid : Nat} {h bd : List Nd} {V : World} (m : Mid b me mf ob eb laid pl ce cf ge gf hx bx D lo mid h bd V) (h1 : eb ≠ b) (h2 : eb ≠ me) (h3 : eb ≠ mf) (h4 : eb ≠ ob) (h5 : ¬ (lo ≤ eb ∧ eb < mid)) (v : Int) : Mid b me mf ob eb laid v ce cf ge gf hx bx D lo mid h bd (V.setCell ⟨eb, 0, none⟩ (.int .i64 v)) := by
 have g : ∀ k, k ≠ eb → (V.setCell ⟨eb, 0, none⟩ (.int .i64 v)).heap[k]? = V.heap[k]? := fun k hk => Below.heap_setCell _ _ _ _ (by simpa using hk)
 have hen : EnBlk (V.setCell ⟨eb, 0, none⟩ (.int .i64 v)) eb v hx bx := by
  have h' : V.heap[eb]? = _ := m.en
  obtain ⟨hlt, hk⟩ := Array.getElem?_eq_some_iff.1 h'
  show (V.heap.modify eb _)[eb]? = _
  rw [Array.getElem?_eq_getElem (by rw [Array.size_modify]; exact hlt), Array.getElem_modify_self, hk]
  rfl
 exact ⟨(g b h1.symm).trans m.base, m.ent.kept (g me h2.symm), m.fam.kept (g mf h3.symm), (g ob h4.symm).trans m.ob, hen, m.hh.fromS (fun k hk _ => g k (fun e => h5 (e ▸ hk))) (by simp), m.hb.fromS (fun k hk _ => g k (fun e => h5 (e ▸ hk))) (by simp)⟩
structure AddIs (b : Nat) (laid : Int) (me mf ce cf : Nat) (ge gf : Lit → Option Addr) (pl : Int) (h bd : List Nd) (D lo : Nat) (W : World) (eb fb km q1 q2 : Nat) (hx bx : TV) (kl : Lit) : Prop where
 base : BsBlk W b (laid + 1) me mf
 ent : PM 3 W me (ce + 1) (updL ge (.int .i64 (laid + 1)) ⟨eb, 0, none⟩)
 fam : PM 80 W mf (cf + 1) (updL gf (predL hx.s hx.len) ⟨fb, 0, none⟩)
 fm : FmBlk W fb (some ⟨q1, 0, none⟩) km
 keyed : PM 89 W km 1 (updL (fun _ => none) kl ⟨q2, 0, none⟩)
 t1 : OneT eb lo q1 W
 t2 : OneT eb lo q2 W
 en : EnBlk W eb pl hx bx
 hh : HoldsS D (fun k => lo ≤ k ∧ k < fb ∧ k < km) W hx.val h
 hb : HoldsS D (fun k => lo ≤ k ∧ k < fb ∧ k < km) W bx.val bd
 los : lo ≤ eb ∧ lo ≤ fb ∧ lo ≤ km ∧ fb ≠ km
 key : ∃ (m : Nat) (t : Tm (m + 1)) (V : World), t.tv = hx ∧ code t = h ∧ IsT V.heap.size V t ∧ keyOf Tryz.prog 89 (keyOfV t) = some kl
theorem add_last (b me mf : Nat) (laid : Int) (ce cf : Nat) (ge gf : Lit → Option Addr) {n : Nat} (th tb : Tm (n + 1)) (W : World) (hb : BsBlk W b laid me mf) (hme : PM 3 W me ce ge) (hmf : PM 80 W mf cf gf) (hce : ce < maxLen) (hcf : cf < maxLen) (h0 : 0 ≤ laid) (h1 : laid < 4611686018427387904) (hne : b ≠ me ∧ b ≠ mf ∧ me ≠ mf)
  (hTH : IsT W.heap.size W th) (hTB : IsT W.heap.size W tb) (hl : 2 * ((code th).length + (code tb).length + 1) ≤ 4194304) (hrem : remE th tb = 0) (hnum : numC (code th)) (hg : ∀ s : ByteArray, s.toList = th.tv.s.toList → gf (predL s th.tv.len) = none) (hn38 : n ≤ 274877906944 := by omega) :
  Calls Tryz.prog 8 #[.pointer (some ⟨b, 0, none⟩), clV th.tv tb.tv, .bool false] W fun e W' => e = .returned (.tuple #[.int .i64 (laid + 1), .int .i64 0]) ∧ ∃ (eb fb km q1 q2 : Nat) (hx bx : TV) (kl : Lit), AddIs b laid me mf ce cf ge gf (laid + 1) (code th) (code tb) (n + 4) W.heap.size W' eb fb km q1 q2 hx bx kl ∧ GrB (fun k => k = b ∨ k = me ∨ k = mf) W.heap.size W W' := by
 obtain ⟨okh, okb⟩ : okT th = true ∧ okT tb = true := by
  unfold remE at hrem
  split at hrem
  ·assumption
  ·cases hrem
 have hlb := hb.lt
 have hlme := hme.lt
 have hlmf := hmf.lt
 have hb0 : Below W.heap.size W (W.alloc (.cells #[.int .i64 th.tv.k, .int .i64 th.tv.N, .string th.tv.s, .slice th.tv.a th.tv.len th.tv.cap, .int .i64 tb.tv.k, .int .i64 tb.tv.N, .string tb.tv.s, .slice tb.tv.a tb.tv.len tb.tv.cap] 30)) := (Below.refl _ W).alloc (Nat.le_refl _) _
 have hr := remade_any th tb (W.alloc (.cells #[.int .i64 th.tv.k, .int .i64 th.tv.N, .string th.tv.s, .slice th.tv.a th.tv.len th.tv.cap, .int .i64 tb.tv.k, .int .i64 tb.tv.N, .string tb.tv.s, .slice tb.tv.a tb.tv.len tb.tv.cap] 30)) ((hTH.below hb0).mono hb0.size) ((hTB.below hb0).mono hb0.size) hl
 rw [hrem] at hr
 have hs0 : (W.alloc (.cells #[.int .i64 th.tv.k, .int .i64 th.tv.N, .string th.tv.s, .slice th.tv.a th.tv.len th.tv.cap, .int .i64 tb.tv.k, .int .i64 tb.tv.N, .string tb.tv.s, .slice tb.tv.a tb.tv.len tb.tv.cap] 30)).heap.size = W.heap.size + 1 := by simp
 have HOK : Hid (∀ {m : Nat} (t : Tm (m + 1)), code t = code th → okT t = true ∧ numC (code t) ∧ t.tv.s.toList = th.tv.s.toList ∧ t.tv.len = th.tv.len) := fun t ht => by
  refine ⟨by rw [okT_m, ht, ← okT_m]; exact okh, by rw [ht]; exact hnum, ?_⟩
  have e1 := code_kids t
  have e2 := code_kids th
  rw [ht, e2] at e1
  simp only [List.cons.injEq] at e1
  have hnd := nd_parts e1.1
  exact ⟨hnd.2.2.1.symm, hnd.2.2.2.symm⟩
 have HB := hide (And.intro hb (And.intro hme (And.intro hmf (And.intro hb0 hs0))))
 have HC := hide (And.intro hce (And.intro hcf hne))
 have HCT : Hid ((code th).all okM = true ∧ numC (code th)) := ⟨by rw [← okT_m]; exact okh, hnum⟩
 have HG := hide hg
 clear hb hme hmf hce hcf hne hTH hTB hl hrem hnum hg okh okb hb0 hs0
 simp only [clV] at hr ⊢
 go_enter Tryz.func8, Tryz.ntmps8
 go_wp2_with fail
 refine hr.mono ?_
 clear hr
 rintro e V1 ⟨hrm, g1⟩
 obtain ⟨hx, bx, rfl, hokk, -⟩ := hrm
 obtain ⟨hH, hB⟩ := hokk rfl
 clear hokk
 obtain ⟨ty, hty, hTy, -, hcy⟩ := hH (n + 4) (Nat.le_refl _) (by omega)
 obtain rfl := tv_inj hty
 have HY := hide (HOK.out ty hcy)
 obtain ⟨hb, hme, hmf, hb0, hs0⟩ := unhide HB
 have hs1 := g1.size
 have gW1 : Below W.heap.size W V1 := hb0.trans (g1.mono (by omega))
 have gW2 : Below W.heap.size W (V1.alloc (.cells #[.int .i64 ty.tv.k, .int .i64 ty.tv.N, .string ty.tv.s, .slice ty.tv.a ty.tv.len ty.tv.cap, .int .i64 bx.k, .int .i64 bx.N, .string bx.s, .slice bx.a bx.len bx.cap] 30)) := gW1.alloc (by omega) _
 have b12 : Below V1.heap.size V1 (V1.alloc (.cells #[.int .i64 ty.tv.k, .int .i64 ty.tv.N, .string ty.tv.s, .slice ty.tv.a ty.tv.len ty.tv.cap, .int .i64 bx.k, .int .i64 bx.N, .string bx.s, .slice bx.a bx.len bx.cap] 30)) := (Below.refl _ V1).alloc (Nat.le_refl _) _
 have hob := BoxC.new V1 ty.tv bx
 obtain ⟨V2, hV2⟩ : ∃ V2, V1.alloc (.cells #[.int .i64 ty.tv.k, .int .i64 ty.tv.N, .string ty.tv.s, .slice ty.tv.a ty.tv.len ty.tv.cap, .int .i64 bx.k, .int .i64 bx.N, .string bx.s, .slice bx.a bx.len bx.cap] 30) = V2 := ⟨_, rfl⟩
 have hs2 : V2.heap.size = V1.heap.size + 1 := by rw [← hV2]; simp
 rw [hV2] at gW2 b12 hob
 have hb2 : BsBlk V2 b laid me mf := (gW2.block b hlb).trans hb
 have hme2 := hme.kept (gW2.block me hlme)
 have hmf2 := hmf.kept (gW2.block mf hlmf)
 have hw1 : wrap64 (laid + 1) = laid + 1 := by unfold wrap64; omega
 obtain ⟨c0, c1, c2, cz⟩ := hb2.cs
 have hb3 := hb2.set (laid + 1)
 obtain ⟨d0, d1, d2, dz⟩ := hb3.cs
 obtain ⟨⟨o0, o1, o2, o3⟩, o4, o5, o6, o7⟩ := (show BoxC (V2.setCell ⟨b, 0, none⟩ (.int .i64 (laid + 1))) V1.heap.size ty.tv bx from (Below.heap_setCell _ _ _ _ (by simp; omega)).trans hob).cs
 have H3 := hide (And.intro hb3 (And.intro hme2 (And.intro hmf2 (And.intro gW2 (And.intro hob (And.intro (hH.below b12) (And.intro (hB.below b12) ((hTy.below b12).mono b12.size))))))))
 clear hb hme hmf hb0 g1 gW1 gW2 b12 hob hb2 hme2 hmf2 hb3 hH hB hTy hty HOK HB d1 d2 dz c1 c2 hcy
 simp only [clV]
 go_wp2_with fail
 try rw [hV2]
 clear hV2
 go_region
 clear d0 o0 o1 o2 o3 o4 o5 o6 o7 c0 cz
 obtain ⟨hb3, hme2, hmf2, gW2, hob, hH2, hB2, hTy2⟩ := unhide H3
 clear H3 hTy2
 obtain ⟨hce, hcf, hne1, hne2, hne3⟩ := unhide HC
 have hsz3 : (V2.setCell ⟨b, 0, none⟩ (.int .i64 (laid + 1))).heap.size = V2.heap.size := by simp
 have b34 : Below V2.heap.size (V2.setCell ⟨b, 0, none⟩ (.int .i64 (laid + 1))) ((V2.setCell ⟨b, 0, none⟩ (.int .i64 (laid + 1))).alloc (.cells #[.int .i64 (laid + 1), .int .i64 ty.tv.k, .int .i64 ty.tv.N, .string ty.tv.s, .slice ty.tv.a ty.tv.len ty.tv.cap, .int .i64 bx.k, .int .i64 bx.N, .string bx.s, .slice bx.a bx.len bx.cap, .pointer none] 76)).drew := ((Below.refl _ _).alloc (by rw [hsz3]; exact Nat.le_refl _) _).drew
 have g34 : GrB (fun k => k = b) V2.heap.size V2 ((V2.setCell ⟨b, 0, none⟩ (.int .i64 (laid + 1))).alloc (.cells #[.int .i64 (laid + 1), .int .i64 ty.tv.k, .int .i64 ty.tv.N, .string ty.tv.s, .slice ty.tv.a ty.tv.len ty.tv.cap, .int .i64 bx.k, .int .i64 bx.N, .string bx.s, .slice bx.a bx.len bx.cap, .pointer none] 76)).drew := ⟨b34.os, b34.tape, b34.output, by have := b34.size; omega, fun k hk hx => (b34.block k hk).trans (Below.heap_setCell _ _ _ _ (by simpa using hx))⟩
 have hen4 : EnBlk ((V2.setCell ⟨b, 0, none⟩ (.int .i64 (laid + 1))).alloc (.cells #[.int .i64 (laid + 1), .int .i64 ty.tv.k, .int .i64 ty.tv.N, .string ty.tv.s, .slice ty.tv.a ty.tv.len ty.tv.cap, .int .i64 bx.k, .int .i64 bx.N, .string bx.s, .slice bx.a bx.len bx.cap, .pointer none] 76)).drew (V1.heap.size + 1) (laid + 1) ty.tv bx := by
  have h := World.alloc_heap_new (V2.setCell ⟨b, 0, none⟩ (.int .i64 (laid + 1))) (.cells #[.int .i64 (laid + 1), .int .i64 ty.tv.k, .int .i64 ty.tv.N, .string ty.tv.s, .slice ty.tv.a ty.tv.len ty.tv.cap, .int .i64 bx.k, .int .i64 bx.N, .string bx.s, .slice bx.a bx.len bx.cap, .pointer none] 76)
  rw [hsz3, hs2] at h
  exact h
 have hbs4 : BsBlk ((V2.setCell ⟨b, 0, none⟩ (.int .i64 (laid + 1))).alloc (.cells #[.int .i64 (laid + 1), .int .i64 ty.tv.k, .int .i64 ty.tv.N, .string ty.tv.s, .slice ty.tv.a ty.tv.len ty.tv.cap, .int .i64 bx.k, .int .i64 bx.N, .string bx.s, .slice bx.a bx.len bx.cap, .pointer none] 76)).drew b (laid + 1) me mf := (b34.block b (by omega)).trans hb3
 generalize ((V2.setCell ⟨b, 0, none⟩ (.int .i64 (laid + 1))).alloc (.cells #[.int .i64 (laid + 1), .int .i64 ty.tv.k, .int .i64 ty.tv.N, .string ty.tv.s, .slice ty.tv.a ty.tv.len ty.tv.cap, .int .i64 bx.k, .int .i64 bx.N, .string bx.s, .slice bx.a bx.len bx.cap, .pointer none] 76)).drew = V4 at b34 g34 hen4 hbs4 ⊢
 have hs4 := g34.size
 have hM4 : Mid b me mf V1.heap.size (V1.heap.size + 1) (laid + 1) (laid + 1) ce cf ge gf ty.tv bx (n + 4) (W.heap.size + 1) V2.heap.size (code th) (code tb) V4 :=
  ⟨hbs4, hme2.kept (g34.block me (by omega) (fun e => hne1 e.symm)), hmf2.kept (g34.block mf (by omega) (fun e => hne2 e.symm)), (g34.block _ (by omega) (by omega)).trans hob, hen4,
   (hH2.s.bound.mono (Nat.le_refl _) (fun k hk => by have h1 : _ ≤ k := hk.1; exact ⟨by rw [hs0] at h1; exact h1, hk.2⟩)).fromS (fun k hk hlt => g34.block k hk.2 (by have := hk.1; omega)) g34.size,
   (hB2.s.bound.mono (Nat.le_refl _) (fun k hk => by have h1 : _ ≤ k := hk.1; exact ⟨by rw [hs0] at h1; exact h1, hk.2⟩)).fromS (fun k hk hlt => g34.block k hk.2 (by have := hk.1; omega)) g34.size⟩
 have hs4' := hM4.en.lt
 have gW4 : GrB (fun k => k = b) W.heap.size W V4 := (GrB.of_below gW2).trans (g34.mono (by omega))
 clear b34 g34 hen4 hbs4 hb3 hme2 hmf2 gW2 hob hH2 hB2 hsz3
 obtain ⟨c0, c1, c2, cz⟩ := hM4.base.cs
 have H5 := hide (And.intro hM4 (And.intro gW4 (Nat.le_refl V4.heap.size)))
 clear hM4 gW4 c0 c1 c2 cz
 go_wp2_with fail
 skip
 obtain ⟨hM5, gW5, hs5⟩ := unhide H5
 clear H5
 obtain ⟨V5, hV5⟩ : ∃ V5, V5 = V4 := ⟨_, rfl⟩
 subst hV5
 obtain ⟨c0, c1, c2, cz⟩ := hM5.base.cs
 have hki : keyOf Tryz.prog 3 (.int .i64 (laid + 1)) = some (.int .i64 (laid + 1)) := keyOf_int_mk Tryz.underlying3 (by simp [Lit.wf, IntKind.min, IntKind.max, IntKind.signed, IntKind.bits]; omega)
 obtain ⟨V6, hup, hpm6, hgr6⟩ := (hM5.ent.kept (W := V5.drew) rfl).put Tryz.keyed3 Tryz.underlying54 hce hki ⟨V1.heap.size + 1, 0, none⟩
 have g56 : GrB (fun k => k = me) V5.heap.size V5 V6 := ⟨hgr6.os, hgr6.tape, hgr6.output, hgr6.size, fun k hk hx => hgr6.block k hk (by simpa using hx)⟩
 have hM6 := hM5.ment g56 hne1 hne3 (by omega) (by omega) (by omega) hpm6
 have gW6 : GrB (fun k => k = b ∨ k = me ∨ k = mf) W.heap.size W V6 := ⟨g56.os.trans gW5.os, g56.tape.trans gW5.tape, g56.output.trans gW5.output, by have := g56.size; have := gW5.size; omega, fun k hk hx => (g56.block k (by have := gW5.size; omega) (fun e => hx (.inr (.inl e)))).trans (gW5.block k hk (fun e => hx (.inl e)))⟩
 have hs6 := g56.size
 have H6 := hide (And.intro hM6 gW6)
 clear hM5 gW5 hki hpm6 hgr6 g56 hM6 gW6 c2 cz
 go_wp2_with fail
 go_region
 clear hup c0 c1
 obtain ⟨hM6, gW6⟩ := unhide H6
 obtain ⟨⟨o0, o1, o2, o3⟩, -⟩ := hM6.ob.cs
 have hp := predicateOf_any ty.tv V6
 simp only [TV.val, predV] at hp
 clear hM6 gW6
 go_wp2_with fail
 refine hp.mono ?_
 clear hp o0 o1 o2 o3
 rintro e V7 ⟨rfl, g7⟩
 obtain ⟨hM6, gW6⟩ := unhide H6
 have hM7 := hM6.grow (GrB.of_below (X := fun _ => False) g7) (fun _ h => h.elim)
 have gW7 : GrB (fun k => k = b ∨ k = me ∨ k = mf) W.heap.size W V7 := gW6.trans (GrB.of_below (g7.mono (by have := gW6.size; omega)))
 have hs7 := g7.size
 have hsW7 := gW7.size
 have hlen50 : ty.tv.len ≤ 50 ∧ ty.tv.s.size ≤ maxLen := by
  obtain ⟨y1, _, _, _⟩ := unhide HY
  obtain ⟨t1, e1, hT1, -, -⟩ := hM7.hh (n + 4) (Nat.le_refl _) (by omega)
  have e2 := tv_inj e1
  refine ⟨?_, by rw [e2]; have := hT1.2.2.1; unfold maxLen; exact this⟩
  rcases wm_cases (ok_top y1) with ⟨_, _, _, _, h⟩ | ⟨_, h⟩ | ⟨_, _, _, h⟩ <;> omega
 have hgn := (unhide HG) ty.tv.s (unhide HY).2.2.1
 rw [← (unhide HY).2.2.2] at hgn
 have hfo := familyOf_new b me mf (laid + 1) cf gf ty.tv.s ty.tv.len V7 hM7.base hM7.fam hcf hlen50.2 (by omega) hgn
 simp only [predV] at hfo
 have H7 := hide (And.intro hM7 (And.intro gW7 hgn))
 clear hM6 gW6 g7 hM7 gW7 hgn H6
 go_wp2_with fail
 refine hfo.mono ?_
 clear hfo
 rintro e V8 ⟨fb, km, rfl, hfb, hkm, hfk, hfn, hpf, g8⟩
 obtain ⟨hM7, gW7, hgn⟩ := unhide H7
 have hM8 := hM7.mfam g8 hne2 hne3 (by omega) (by omega) (by omega) hpf
 have gW8 : GrB (fun k => k = b ∨ k = me ∨ k = mf) W.heap.size W V8 := ⟨g8.os.trans gW7.os, g8.tape.trans gW7.tape, g8.output.trans gW7.output, by have := g8.size; have := gW7.size; omega, fun k hk hx => (g8.block k (by have := gW7.size; omega) (fun e => hx (.inr (.inr e)))).trans (gW7.block k hk hx)⟩
 have hs8 := g8.size
 have hfb8 : fb < V8.heap.size := FmBlk.lt hfn.1
 have hkm8 := hfn.2.lt
 obtain ⟨t8, e8, hT8, -, hc8⟩ := hM8.hh (n + 4) (Nat.le_refl _) (by omega)
 have e8' := tv_inj e8
 obtain ⟨kl, hkl⟩ : ∃ kl, keyOf Tryz.prog 89 (keyOfV t8) = some kl := keyOf_ok t8 hT8 (by rw [okT_m, hc8]; exact HCT.out.1) (by rw [hc8]; exact HCT.out.2)
 have hly := lay_any fb km (V1.heap.size + 1) none 0 (fun _ => none) (laid + 1) t8 bx kl (fun _ q V => OneT (V1.heap.size + 1) W.heap.size q V) V8 hfn.1 hfn.2 (by decide) (by rw [← e8']; exact hM8.en) hT8 hkl hfk
  (fun V hV => withC_nil _ _ V (by have := hV.size; have := gW8.size; omega)) (fun V hV _ => withC_nil _ _ V (by have := hV.size; have := gW8.size; omega))
  (fun p q V V' hR hq hg _ _ => ⟨hR.1, (hg.block q (Array.getElem?_eq_some_iff.1 hR.2).1 (by omega)).trans hR.2⟩)
 have H8 := hide (And.intro hM8 gW8)
 have HK8 : Hid (∃ (m : Nat) (t : Tm (m + 1)) (V : World), t.tv = ty.tv ∧ code t = code th ∧ IsT V.heap.size V t ∧ keyOf Tryz.prog 89 (keyOfV t) = some kl) := ⟨_, t8, V8, e8'.symm, hc8, hT8, hkl⟩
 clear hM7 gW7 hgn hfn hpf g8 hM8 gW8 hT8 hc8 hkl e8 e8' H7 hlen50
 go_wp2_with fail
 refine hly.mono ?_
 clear hly
 rintro e V9 ⟨rfl, q1, q2, hq1, hq2, hfm, hkd, r1, r2, g9⟩
 obtain ⟨hM8, gW8⟩ := unhide H8
 have hM9 := hM8.grow g9 (fun k hk => by rcases hk with rfl | rfl <;> omega)
 have gW9 : GrB (fun k => k = b ∨ k = me ∨ k = mf) W.heap.size W V9 := ⟨g9.os.trans gW8.os, g9.tape.trans gW8.tape, g9.output.trans gW8.output, by have := g9.size; have := gW8.size; omega, fun k hk hx => (g9.block k (by have := gW8.size; omega) (by have := gW8.size; omega)).trans (gW8.block k hk hx)⟩
 obtain ⟨c0, -⟩ := hM9.base.cs
 have HF : Hid (AddIs b laid me mf ce cf ge gf (laid + 1) (code th) (code tb) (n + 4) W.heap.size V9 (V1.heap.size + 1) fb km q1 q2 ty.tv bx kl ∧ GrB (fun k => k = b ∨ k = me ∨ k = mf) W.heap.size W V9) :=
  ⟨⟨hM9.base, hM9.ent, hM9.fam, hfm, hkd, r1, r2, hM9.en, hM9.hh.mono (Nat.le_refl _) (fun k hk => by obtain ⟨hk1, hk2⟩ := hk; exact ⟨by omega, by omega, by omega⟩), hM9.hb.mono (Nat.le_refl _) (fun k hk => by obtain ⟨hk1, hk2⟩ := hk; exact ⟨by omega, by omega, by omega⟩), ⟨by omega, by omega, by omega, hfk⟩, unhide HK8⟩, gW9⟩
 clear hM8 gW8 hM9 gW9 hfm hkd r1 r2 g9 H8
 go_wp2_with fail
 exact bodyPost_ret (v := .tuple #[.int .i64 (laid + 1), .int .i64 0]) (by simp [results, Tryz.results8, go_sem]) rfl ⟨rfl, _, _, _, _, _, _, _, _, HF.out⟩
theorem add_first (b me mf : Nat) (laid : Int) (ce cf : Nat) (ge gf : Lit → Option Addr) {n : Nat} (th tb : Tm (n + 1)) (W : World) (hb : BsBlk W b laid me mf) (hme : PM 3 W me ce ge) (hmf : PM 80 W mf cf gf) (hce : ce < maxLen) (hcf : cf < maxLen) (h0 : 0 ≤ laid) (h1 : laid < 4611686018427387904) (hne : b ≠ me ∧ b ≠ mf ∧ me ≠ mf)
  (hTH : IsT W.heap.size W th) (hTB : IsT W.heap.size W tb) (hl : 2 * ((code th).length + (code tb).length + 1) ≤ 4194304) (hrem : remE th tb = 0) (hnum : numC (code th)) (hg : ∀ s : ByteArray, s.toList = th.tv.s.toList → gf (predL s th.tv.len) = none) (hn38 : n ≤ 274877906944 := by omega) :
  Calls Tryz.prog 8 #[.pointer (some ⟨b, 0, none⟩), clV th.tv tb.tv, .bool true] W fun e W' => e = .returned (.tuple #[.int .i64 (laid + 1), .int .i64 0]) ∧ ∃ (eb fb km q1 q2 : Nat) (hx bx : TV) (kl : Lit), AddIs b laid me mf ce cf ge gf (-(laid + 1)) (code th) (code tb) (n + 4) W.heap.size W' eb fb km q1 q2 hx bx kl ∧ GrB (fun k => k = b ∨ k = me ∨ k = mf) W.heap.size W W' := by
 obtain ⟨okh, okb⟩ : okT th = true ∧ okT tb = true := by
  unfold remE at hrem
  split at hrem
  ·assumption
  ·cases hrem
 have hlb := hb.lt
 have hlme := hme.lt
 have hlmf := hmf.lt
 have hb0 : Below W.heap.size W (W.alloc (.cells #[.int .i64 th.tv.k, .int .i64 th.tv.N, .string th.tv.s, .slice th.tv.a th.tv.len th.tv.cap, .int .i64 tb.tv.k, .int .i64 tb.tv.N, .string tb.tv.s, .slice tb.tv.a tb.tv.len tb.tv.cap] 30)) := (Below.refl _ W).alloc (Nat.le_refl _) _
 have hr := remade_any th tb (W.alloc (.cells #[.int .i64 th.tv.k, .int .i64 th.tv.N, .string th.tv.s, .slice th.tv.a th.tv.len th.tv.cap, .int .i64 tb.tv.k, .int .i64 tb.tv.N, .string tb.tv.s, .slice tb.tv.a tb.tv.len tb.tv.cap] 30)) ((hTH.below hb0).mono hb0.size) ((hTB.below hb0).mono hb0.size) hl
 rw [hrem] at hr
 have hs0 : (W.alloc (.cells #[.int .i64 th.tv.k, .int .i64 th.tv.N, .string th.tv.s, .slice th.tv.a th.tv.len th.tv.cap, .int .i64 tb.tv.k, .int .i64 tb.tv.N, .string tb.tv.s, .slice tb.tv.a tb.tv.len tb.tv.cap] 30)).heap.size = W.heap.size + 1 := by simp
 have HOK : Hid (∀ {m : Nat} (t : Tm (m + 1)), code t = code th → okT t = true ∧ numC (code t) ∧ t.tv.s.toList = th.tv.s.toList ∧ t.tv.len = th.tv.len) := fun t ht => by
  refine ⟨by rw [okT_m, ht, ← okT_m]; exact okh, by rw [ht]; exact hnum, ?_⟩
  have e1 := code_kids t
  have e2 := code_kids th
  rw [ht, e2] at e1
  simp only [List.cons.injEq] at e1
  have hnd := nd_parts e1.1
  exact ⟨hnd.2.2.1.symm, hnd.2.2.2.symm⟩
 have HB := hide (And.intro hb (And.intro hme (And.intro hmf (And.intro hb0 hs0))))
 have HC := hide (And.intro hce (And.intro hcf hne))
 have HCT : Hid ((code th).all okM = true ∧ numC (code th)) := ⟨by rw [← okT_m]; exact okh, hnum⟩
 have HG := hide hg
 clear hb hme hmf hce hcf hne hTH hTB hl hrem hnum hg okh okb hb0 hs0
 simp only [clV] at hr ⊢
 go_enter Tryz.func8, Tryz.ntmps8
 go_wp2_with fail
 refine hr.mono ?_
 clear hr
 rintro e V1 ⟨hrm, g1⟩
 obtain ⟨hx, bx, rfl, hokk, -⟩ := hrm
 obtain ⟨hH, hB⟩ := hokk rfl
 clear hokk
 obtain ⟨ty, hty, hTy, -, hcy⟩ := hH (n + 4) (Nat.le_refl _) (by omega)
 obtain rfl := tv_inj hty
 have HY := hide (HOK.out ty hcy)
 obtain ⟨hb, hme, hmf, hb0, hs0⟩ := unhide HB
 have hs1 := g1.size
 have gW1 : Below W.heap.size W V1 := hb0.trans (g1.mono (by omega))
 have gW2 : Below W.heap.size W (V1.alloc (.cells #[.int .i64 ty.tv.k, .int .i64 ty.tv.N, .string ty.tv.s, .slice ty.tv.a ty.tv.len ty.tv.cap, .int .i64 bx.k, .int .i64 bx.N, .string bx.s, .slice bx.a bx.len bx.cap] 30)) := gW1.alloc (by omega) _
 have b12 : Below V1.heap.size V1 (V1.alloc (.cells #[.int .i64 ty.tv.k, .int .i64 ty.tv.N, .string ty.tv.s, .slice ty.tv.a ty.tv.len ty.tv.cap, .int .i64 bx.k, .int .i64 bx.N, .string bx.s, .slice bx.a bx.len bx.cap] 30)) := (Below.refl _ V1).alloc (Nat.le_refl _) _
 have hob := BoxC.new V1 ty.tv bx
 obtain ⟨V2, hV2⟩ : ∃ V2, V1.alloc (.cells #[.int .i64 ty.tv.k, .int .i64 ty.tv.N, .string ty.tv.s, .slice ty.tv.a ty.tv.len ty.tv.cap, .int .i64 bx.k, .int .i64 bx.N, .string bx.s, .slice bx.a bx.len bx.cap] 30) = V2 := ⟨_, rfl⟩
 have hs2 : V2.heap.size = V1.heap.size + 1 := by rw [← hV2]; simp
 rw [hV2] at gW2 b12 hob
 have hb2 : BsBlk V2 b laid me mf := (gW2.block b hlb).trans hb
 have hme2 := hme.kept (gW2.block me hlme)
 have hmf2 := hmf.kept (gW2.block mf hlmf)
 have hw1 : wrap64 (laid + 1) = laid + 1 := by unfold wrap64; omega
 obtain ⟨c0, c1, c2, cz⟩ := hb2.cs
 have hb3 := hb2.set (laid + 1)
 obtain ⟨d0, d1, d2, dz⟩ := hb3.cs
 obtain ⟨⟨o0, o1, o2, o3⟩, o4, o5, o6, o7⟩ := (show BoxC (V2.setCell ⟨b, 0, none⟩ (.int .i64 (laid + 1))) V1.heap.size ty.tv bx from (Below.heap_setCell _ _ _ _ (by simp; omega)).trans hob).cs
 have H3 := hide (And.intro hb3 (And.intro hme2 (And.intro hmf2 (And.intro gW2 (And.intro hob (And.intro (hH.below b12) (And.intro (hB.below b12) ((hTy.below b12).mono b12.size))))))))
 clear hb hme hmf hb0 g1 gW1 gW2 b12 hob hb2 hme2 hmf2 hb3 hH hB hTy hty HOK HB d1 d2 dz c1 c2 hcy
 simp only [clV]
 go_wp2_with fail
 try rw [hV2]
 clear hV2
 go_region
 clear d0 o0 o1 o2 o3 o4 o5 o6 o7 c0 cz
 obtain ⟨hb3, hme2, hmf2, gW2, hob, hH2, hB2, hTy2⟩ := unhide H3
 clear H3 hTy2
 obtain ⟨hce, hcf, hne1, hne2, hne3⟩ := unhide HC
 have hsz3 : (V2.setCell ⟨b, 0, none⟩ (.int .i64 (laid + 1))).heap.size = V2.heap.size := by simp
 have b34 : Below V2.heap.size (V2.setCell ⟨b, 0, none⟩ (.int .i64 (laid + 1))) ((V2.setCell ⟨b, 0, none⟩ (.int .i64 (laid + 1))).alloc (.cells #[.int .i64 (laid + 1), .int .i64 ty.tv.k, .int .i64 ty.tv.N, .string ty.tv.s, .slice ty.tv.a ty.tv.len ty.tv.cap, .int .i64 bx.k, .int .i64 bx.N, .string bx.s, .slice bx.a bx.len bx.cap, .pointer none] 76)).drew := ((Below.refl _ _).alloc (by rw [hsz3]; exact Nat.le_refl _) _).drew
 have g34 : GrB (fun k => k = b) V2.heap.size V2 ((V2.setCell ⟨b, 0, none⟩ (.int .i64 (laid + 1))).alloc (.cells #[.int .i64 (laid + 1), .int .i64 ty.tv.k, .int .i64 ty.tv.N, .string ty.tv.s, .slice ty.tv.a ty.tv.len ty.tv.cap, .int .i64 bx.k, .int .i64 bx.N, .string bx.s, .slice bx.a bx.len bx.cap, .pointer none] 76)).drew := ⟨b34.os, b34.tape, b34.output, by have := b34.size; omega, fun k hk hx => (b34.block k hk).trans (Below.heap_setCell _ _ _ _ (by simpa using hx))⟩
 have hen4 : EnBlk ((V2.setCell ⟨b, 0, none⟩ (.int .i64 (laid + 1))).alloc (.cells #[.int .i64 (laid + 1), .int .i64 ty.tv.k, .int .i64 ty.tv.N, .string ty.tv.s, .slice ty.tv.a ty.tv.len ty.tv.cap, .int .i64 bx.k, .int .i64 bx.N, .string bx.s, .slice bx.a bx.len bx.cap, .pointer none] 76)).drew (V1.heap.size + 1) (laid + 1) ty.tv bx := by
  have h := World.alloc_heap_new (V2.setCell ⟨b, 0, none⟩ (.int .i64 (laid + 1))) (.cells #[.int .i64 (laid + 1), .int .i64 ty.tv.k, .int .i64 ty.tv.N, .string ty.tv.s, .slice ty.tv.a ty.tv.len ty.tv.cap, .int .i64 bx.k, .int .i64 bx.N, .string bx.s, .slice bx.a bx.len bx.cap, .pointer none] 76)
  rw [hsz3, hs2] at h
  exact h
 have hbs4 : BsBlk ((V2.setCell ⟨b, 0, none⟩ (.int .i64 (laid + 1))).alloc (.cells #[.int .i64 (laid + 1), .int .i64 ty.tv.k, .int .i64 ty.tv.N, .string ty.tv.s, .slice ty.tv.a ty.tv.len ty.tv.cap, .int .i64 bx.k, .int .i64 bx.N, .string bx.s, .slice bx.a bx.len bx.cap, .pointer none] 76)).drew b (laid + 1) me mf := (b34.block b (by omega)).trans hb3
 generalize ((V2.setCell ⟨b, 0, none⟩ (.int .i64 (laid + 1))).alloc (.cells #[.int .i64 (laid + 1), .int .i64 ty.tv.k, .int .i64 ty.tv.N, .string ty.tv.s, .slice ty.tv.a ty.tv.len ty.tv.cap, .int .i64 bx.k, .int .i64 bx.N, .string bx.s, .slice bx.a bx.len bx.cap, .pointer none] 76)).drew = V4 at b34 g34 hen4 hbs4 ⊢
 have hs4 := g34.size
 have hM4 : Mid b me mf V1.heap.size (V1.heap.size + 1) (laid + 1) (laid + 1) ce cf ge gf ty.tv bx (n + 4) (W.heap.size + 1) V2.heap.size (code th) (code tb) V4 :=
  ⟨hbs4, hme2.kept (g34.block me (by omega) (fun e => hne1 e.symm)), hmf2.kept (g34.block mf (by omega) (fun e => hne2 e.symm)), (g34.block _ (by omega) (by omega)).trans hob, hen4,
   (hH2.s.bound.mono (Nat.le_refl _) (fun k hk => by have h1 : _ ≤ k := hk.1; exact ⟨by rw [hs0] at h1; exact h1, hk.2⟩)).fromS (fun k hk hlt => g34.block k hk.2 (by have := hk.1; omega)) g34.size,
   (hB2.s.bound.mono (Nat.le_refl _) (fun k hk => by have h1 : _ ≤ k := hk.1; exact ⟨by rw [hs0] at h1; exact h1, hk.2⟩)).fromS (fun k hk hlt => g34.block k hk.2 (by have := hk.1; omega)) g34.size⟩
 have hs4' := hM4.en.lt
 have gW4 : GrB (fun k => k = b) W.heap.size W V4 := (GrB.of_below gW2).trans (g34.mono (by omega))
 clear b34 g34 hen4 hbs4 hb3 hme2 hmf2 gW2 hob hH2 hB2 hsz3
 obtain ⟨c0, c1, c2, cz⟩ := hM4.base.cs
 obtain ⟨e0, _, _⟩ := hM4.en.cs
 have ez : V4.frozen? ⟨V1.heap.size + 1, 0, none⟩ = false := by
  have h : V4.heap[V1.heap.size + 1]? = _ := hM4.en
  simp [World.frozen?, h]
 have hw2 : wrap64 (-(laid + 1)) = -(laid + 1) := by unfold wrap64; omega
 have hM5 : Mid b me mf V1.heap.size (V1.heap.size + 1) (laid + 1) (-(laid + 1)) ce cf ge gf ty.tv bx (n + 4) (W.heap.size + 1) V2.heap.size (code th) (code tb) (V4.setCell ⟨V1.heap.size + 1, 0, none⟩ (.int .i64 (-(laid + 1)))) := hM4.place (by omega) (by omega) (by omega) (by omega) (by omega) _
 have gW5 : GrB (fun k => k = b) W.heap.size W (V4.setCell ⟨V1.heap.size + 1, 0, none⟩ (.int .i64 (-(laid + 1)))) := ⟨gW4.os, gW4.tape, gW4.output, by have := gW4.size; simpa using this, fun k hk hx => (Below.heap_setCell _ _ _ _ (by simp; omega)).trans (gW4.block k hk hx)⟩
 have hs5 : V4.heap.size ≤ (V4.setCell ⟨V1.heap.size + 1, 0, none⟩ (.int .i64 (-(laid + 1)))).heap.size := by simp
 have H5 := hide (And.intro hM5 (And.intro gW5 hs5))
 clear hM4 gW4 hM5 gW5 hs5 c1 c2 cz
 go_wp2_with fail
 skip
 obtain ⟨hM5, gW5, hs5⟩ := unhide H5
 clear H5
 obtain ⟨V5, hV5⟩ : ∃ V5, V4.setCell ⟨V1.heap.size + 1, 0, none⟩ (.int .i64 (-(laid + 1))) = V5 := ⟨_, rfl⟩
 rw [hV5] at hM5 gW5 hs5
 try rw [hV5]
 clear hV5
 obtain ⟨c0, c1, c2, cz⟩ := hM5.base.cs
 have hki : keyOf Tryz.prog 3 (.int .i64 (laid + 1)) = some (.int .i64 (laid + 1)) := keyOf_int_mk Tryz.underlying3 (by simp [Lit.wf, IntKind.min, IntKind.max, IntKind.signed, IntKind.bits]; omega)
 obtain ⟨V6, hup, hpm6, hgr6⟩ := (hM5.ent.kept (W := V5.drew) rfl).put Tryz.keyed3 Tryz.underlying54 hce hki ⟨V1.heap.size + 1, 0, none⟩
 have g56 : GrB (fun k => k = me) V5.heap.size V5 V6 := ⟨hgr6.os, hgr6.tape, hgr6.output, hgr6.size, fun k hk hx => hgr6.block k hk (by simpa using hx)⟩
 have hM6 := hM5.ment g56 hne1 hne3 (by omega) (by omega) (by omega) hpm6
 have gW6 : GrB (fun k => k = b ∨ k = me ∨ k = mf) W.heap.size W V6 := ⟨g56.os.trans gW5.os, g56.tape.trans gW5.tape, g56.output.trans gW5.output, by have := g56.size; have := gW5.size; omega, fun k hk hx => (g56.block k (by have := gW5.size; omega) (fun e => hx (.inr (.inl e)))).trans (gW5.block k hk (fun e => hx (.inl e)))⟩
 have hs6 := g56.size
 have H6 := hide (And.intro hM6 gW6)
 clear hM5 gW5 hki hpm6 hgr6 g56 hM6 gW6 c2 cz
 go_wp2_with fail
 go_region
 clear hup c0 c1
 obtain ⟨hM6, gW6⟩ := unhide H6
 obtain ⟨⟨o0, o1, o2, o3⟩, -⟩ := hM6.ob.cs
 have hp := predicateOf_any ty.tv V6
 simp only [TV.val, predV] at hp
 clear hM6 gW6
 go_wp2_with fail
 refine hp.mono ?_
 clear hp o0 o1 o2 o3
 rintro e V7 ⟨rfl, g7⟩
 obtain ⟨hM6, gW6⟩ := unhide H6
 have hM7 := hM6.grow (GrB.of_below (X := fun _ => False) g7) (fun _ h => h.elim)
 have gW7 : GrB (fun k => k = b ∨ k = me ∨ k = mf) W.heap.size W V7 := gW6.trans (GrB.of_below (g7.mono (by have := gW6.size; omega)))
 have hs7 := g7.size
 have hsW7 := gW7.size
 have hlen50 : ty.tv.len ≤ 50 ∧ ty.tv.s.size ≤ maxLen := by
  obtain ⟨y1, _, _, _⟩ := unhide HY
  obtain ⟨t1, e1, hT1, -, -⟩ := hM7.hh (n + 4) (Nat.le_refl _) (by omega)
  have e2 := tv_inj e1
  refine ⟨?_, by rw [e2]; have := hT1.2.2.1; unfold maxLen; exact this⟩
  rcases wm_cases (ok_top y1) with ⟨_, _, _, _, h⟩ | ⟨_, h⟩ | ⟨_, _, _, h⟩ <;> omega
 have hgn := (unhide HG) ty.tv.s (unhide HY).2.2.1
 rw [← (unhide HY).2.2.2] at hgn
 have hfo := familyOf_new b me mf (laid + 1) cf gf ty.tv.s ty.tv.len V7 hM7.base hM7.fam hcf hlen50.2 (by omega) hgn
 simp only [predV] at hfo
 have H7 := hide (And.intro hM7 (And.intro gW7 hgn))
 clear hM6 gW6 g7 hM7 gW7 hgn H6
 go_wp2_with fail
 refine hfo.mono ?_
 clear hfo
 rintro e V8 ⟨fb, km, rfl, hfb, hkm, hfk, hfn, hpf, g8⟩
 obtain ⟨hM7, gW7, hgn⟩ := unhide H7
 have hM8 := hM7.mfam g8 hne2 hne3 (by omega) (by omega) (by omega) hpf
 have gW8 : GrB (fun k => k = b ∨ k = me ∨ k = mf) W.heap.size W V8 := ⟨g8.os.trans gW7.os, g8.tape.trans gW7.tape, g8.output.trans gW7.output, by have := g8.size; have := gW7.size; omega, fun k hk hx => (g8.block k (by have := gW7.size; omega) (fun e => hx (.inr (.inr e)))).trans (gW7.block k hk hx)⟩
 have hs8 := g8.size
 have hfb8 : fb < V8.heap.size := FmBlk.lt hfn.1
 have hkm8 := hfn.2.lt
 obtain ⟨t8, e8, hT8, -, hc8⟩ := hM8.hh (n + 4) (Nat.le_refl _) (by omega)
 have e8' := tv_inj e8
 obtain ⟨kl, hkl⟩ : ∃ kl, keyOf Tryz.prog 89 (keyOfV t8) = some kl := keyOf_ok t8 hT8 (by rw [okT_m, hc8]; exact HCT.out.1) (by rw [hc8]; exact HCT.out.2)
 have hly := lay_any fb km (V1.heap.size + 1) none 0 (fun _ => none) (-(laid + 1)) t8 bx kl (fun _ q V => OneT (V1.heap.size + 1) W.heap.size q V) V8 hfn.1 hfn.2 (by decide) (by rw [← e8']; exact hM8.en) hT8 hkl hfk
  (fun V hV => withC_nil _ _ V (by have := hV.size; have := gW8.size; omega)) (fun V hV _ => withC_nil _ _ V (by have := hV.size; have := gW8.size; omega))
  (fun p q V V' hR hq hg _ _ => ⟨hR.1, (hg.block q (Array.getElem?_eq_some_iff.1 hR.2).1 (by omega)).trans hR.2⟩)
 have H8 := hide (And.intro hM8 gW8)
 have HK8 : Hid (∃ (m : Nat) (t : Tm (m + 1)) (V : World), t.tv = ty.tv ∧ code t = code th ∧ IsT V.heap.size V t ∧ keyOf Tryz.prog 89 (keyOfV t) = some kl) := ⟨_, t8, V8, e8'.symm, hc8, hT8, hkl⟩
 clear hM7 gW7 hgn hfn hpf g8 hM8 gW8 hT8 hc8 hkl e8 e8' H7 hlen50
 go_wp2_with fail
 refine hly.mono ?_
 clear hly
 rintro e V9 ⟨rfl, q1, q2, hq1, hq2, hfm, hkd, r1, r2, g9⟩
 obtain ⟨hM8, gW8⟩ := unhide H8
 have hM9 := hM8.grow g9 (fun k hk => by rcases hk with rfl | rfl <;> omega)
 have gW9 : GrB (fun k => k = b ∨ k = me ∨ k = mf) W.heap.size W V9 := ⟨g9.os.trans gW8.os, g9.tape.trans gW8.tape, g9.output.trans gW8.output, by have := g9.size; have := gW8.size; omega, fun k hk hx => (g9.block k (by have := gW8.size; omega) (by have := gW8.size; omega)).trans (gW8.block k hk hx)⟩
 obtain ⟨c0, -⟩ := hM9.base.cs
 have HF : Hid (AddIs b laid me mf ce cf ge gf (-(laid + 1)) (code th) (code tb) (n + 4) W.heap.size V9 (V1.heap.size + 1) fb km q1 q2 ty.tv bx kl ∧ GrB (fun k => k = b ∨ k = me ∨ k = mf) W.heap.size W V9) :=
  ⟨⟨hM9.base, hM9.ent, hM9.fam, hfm, hkd, r1, r2, hM9.en, hM9.hh.mono (Nat.le_refl _) (fun k hk => by obtain ⟨hk1, hk2⟩ := hk; exact ⟨by omega, by omega, by omega⟩), hM9.hb.mono (Nat.le_refl _) (fun k hk => by obtain ⟨hk1, hk2⟩ := hk; exact ⟨by omega, by omega, by omega⟩), ⟨by omega, by omega, by omega, hfk⟩, unhide HK8⟩, gW9⟩
 clear hM8 gW8 hM9 gW9 hfm hkd r1 r2 g9 H8
 go_wp2_with fail
 exact bodyPost_ret (v := .tuple #[.int .i64 (laid + 1), .int .i64 0]) (by simp [results, Tryz.results8, go_sem]) rfl ⟨rfl, _, _, _, _, _, _, _, _, HF.out⟩
end Go.Proofs.YtlbobmebbllifaaGreat
