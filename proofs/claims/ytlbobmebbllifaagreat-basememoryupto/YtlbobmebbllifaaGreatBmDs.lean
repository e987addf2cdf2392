import Derived.Test.YtlbobmebbllifaaGreatBmCs
import Derived.Test.YtlbobmebbllifaaGreatBcKs
import Derived.Shelf.Sort.Plain
import Derived.Test.YtlbobmebbllifaaGreatProg
import Derived.Shelf.Slices.In.SortNone
/- What stands while a clause is made, laid down and spoilt. -/
namespace Go.Proofs.YtlbobmebbllifaaGreat
open Go.RowKit Go.Shelf Go.Maps
theorem rowT_all {n : Nat} {W : World} {a : Option Addr} {len : Nat} {kids : List (Tm (n + 1))} (h : RowT W.heap.size W a len kids) {j : Nat} (hj : j < len) :
  ∃ u b off, kids[j]? = some u ∧ a = some ⟨b, off, none⟩ ∧ ∀ V, Below W.heap.size W V → cellsAt V b (off + j * 4) u.tv ∧ IsT V.heap.size V u := by
 obtain ⟨h1, h2, h3⟩ := h
 obtain ⟨u, hu⟩ : ∃ u, kids[j]? = some u := ⟨kids[j]'(by omega), List.getElem?_eq_getElem (by omega)⟩
 have hne : kids ≠ [] := by rintro rfl; simp at hu
 obtain ⟨b, off, ha, hb, hk⟩ := h3.resolve_left hne
 obtain ⟨k1, k2⟩ := hk j u hu
 exact ⟨u, b, off, hu, ha, fun V g => ⟨k1.kept (g.block b hb), (k2.below g).mono g.size⟩⟩
theorem wideLen : ∀ {n : Nat} {t : Tm n}, Wl t → ∀ x ∈ code t, x.2.2.2 ≤ (code t).length := by
 intro n
 induction n with
 | zero => intro t; exact Empty.elim t
 | succ n ih =>
  intro t hw x hx
  obtain ⟨y, kids⟩ := t
  obtain ⟨h1, h2⟩ := hw
  rw [code_succ] at hx ⊢
  have hk := codes_len kids
  rcases List.mem_cons.1 hx with rfl | hx
  ·have h1' : y.len = kids.length := h1
   simp only [TV.nd, List.length_cons]
   omega
  ·obtain ⟨u, hu, hxu⟩ := List.mem_flatMap.1 hx
   have h3 := ih (h2 u hu) x hxu
   have h4 := code_le hu
   simp only [List.length_cons]
   omega
structure ItK {n : Nat} (V : World) (X C Q : Nat) (x : Tm (n + 1)) (x2 y2 x3 y3 : TV) (h b : List Nd) (D2 D3 : Nat) (Sp : Nat → Prop) : Prop where
 bx : BoxT V X x.tv
 bc : BoxC V C x2 y2
 bd : BoxC V Q x3 y3
 sx : Sp X
 sc : Sp C
 sd : Sp Q
 is : IsT V.heap.size V x
 rm : RmT V x
 xb : ∀ k ∈ blks x, k < X ∧ Sp k
 hc : HoldsL D2 (fun k => X < k ∧ k < C ∧ Sp k) V x2.val h
 hb : HoldsL D2 (fun k => X < k ∧ k < C ∧ Sp k) V y2.val b
 hd : HoldsL D3 Sp V x3.val h
 he : HoldsL D3 Sp V y3.val b
 lt : X < C ∧ C < Q
 sz : ∀ k, Sp k → k < V.heap.size
theorem ItK.kept {n : Nat} {V V' : World} {X C Q : Nat} {x : Tm (n + 1)} {x2 y2 x3 y3 : TV} {h b : List Nd} {D2 D3 : Nat} {Sp : Nat → Prop} (p : ItK V X C Q x x2 y2 x3 y3 h b D2 D3 Sp) (hk : ∀ k, Sp k → V'.heap[k]? = V.heap[k]?) (hz : V.heap.size ≤ V'.heap.size) : ItK V' X C Q x x2 y2 x3 y3 h b D2 D3 Sp :=
 ⟨(hk X p.sx).trans p.bx, (hk C p.sc).trans p.bc, (hk Q p.sd).trans p.bd, p.sx, p.sc, p.sd, p.is.keptL hz (fun k h => hk k (p.xb k h).2), p.rm.fromS (S := fun k => k ∈ blks x) (fun k h => hk k (p.xb k h).2) (blk_of p.is fun _ h => h), p.xb,
  p.hc.fromS (fun k h _ => hk k h.2.2) hz, p.hb.fromS (fun k h _ => hk k h.2.2) hz, p.hd.fromS (fun k h _ => hk k h) hz, p.he.fromS (fun k h _ => hk k h) hz, p.lt, fun k h => Nat.lt_of_lt_of_le (p.sz k h) hz⟩
theorem ItK.below {n : Nat} {V V' : World} {X C Q : Nat} {x : Tm (n + 1)} {x2 y2 x3 y3 : TV} {h b : List Nd} {D2 D3 : Nat} {Sp : Nat → Prop} (p : ItK V X C Q x x2 y2 x3 y3 h b D2 D3 Sp) (g : Below V.heap.size V V') : ItK V' X C Q x x2 y2 x3 y3 h b D2 D3 Sp := p.kept (fun k hk => g.block k (p.sz k hk)) g.size
theorem ItK.canX {n : Nat} {V : World} {X C Q : Nat} {x : Tm (n + 1)} {x2 y2 x3 y3 : TV} {h b : List Nd} {D2 D3 : Nat} {Sp : Nat → Prop} (p : ItK V X C Q x x2 y2 x3 y3 h b D2 D3 Sp) : CanSp (fun k => k ∈ blks x) V x.tv.val := ⟨_, x, rfl, p.is, spT_owned p.is p.rm⟩
theorem itk_new {n : Nat} {W V1 U1 V2 U2 V3 U3 : World} {x : Tm (n + 1)} {x2 y2 x3 y3 : TV} {h b : List Nd} {D2 D3 : Nat} (ox : Owned W.heap.size V1 x) (g1 : Below W.heap.size W V1) (b1 : Below V1.heap.size V1 U1) (l1 : U1.heap.size = V1.heap.size + 1) (x1 : BoxT U1 V1.heap.size x.tv)
  (g2 : Below U1.heap.size U1 V2) (hc : HoldsL D2 (U1.heap.size ≤ ·) V2 x2.val h) (hb : HoldsL D2 (U1.heap.size ≤ ·) V2 y2.val b) (b2 : Below V2.heap.size V2 U2) (l2 : V2.heap.size + 1 ≤ U2.heap.size) (c2 : BoxC U2 V2.heap.size x2 y2)
  (g3 : Below U2.heap.size U2 V3) (hd : HoldsL D3 (U2.heap.size ≤ ·) V3 x3.val h) (he : HoldsL D3 (U2.heap.size ≤ ·) V3 y3.val b) (b3 : Below V3.heap.size V3 U3) (l3 : V3.heap.size + 1 ≤ U3.heap.size) (c3 : BoxC U3 V3.heap.size x3 y3) :
  Below W.heap.size W U3 ∧ ItK U3 V1.heap.size V2.heap.size V3.heap.size x x2 y2 x3 y3 h b D2 D3 (fun k => False ∨ (W.heap.size ≤ k ∧ k < U3.heap.size ∧ NoFix U3 k)) := by
 have s1 := g1.size
 have s2 := g2.size
 have s3 := g3.size
 have gA : Below V1.heap.size V1 V2 := b1.trans (g2.mono b1.size)
 have gB : Below V2.heap.size V2 V3 := b2.trans (g3.mono b2.size)
 have g13 : Below V1.heap.size V1 U3 := (gA.trans (gB.mono gA.size)).trans (b3.mono (by omega))
 have g1U : Below U1.heap.size U1 U3 := (g2.trans (gB.mono s2)).trans (b3.mono (by omega))
 have g23 : Below V2.heap.size V2 U3 := gB.trans (b3.mono gB.size)
 have gU23 : Below U2.heap.size U2 U3 := g3.trans (b3.mono s3)
 have x3' : BoxT U3 V1.heap.size x.tv := x1.below g1U (by omega)
 have c23 : BoxC U3 V2.heap.size x2 y2 := c2.below gU23 (by omega)
 have o3 := ox.below g13
 have lx : ∀ k ∈ blks x, k < V1.heap.size := ox.is.blks_lt
 have nfx : ∀ k, (U1.heap.size ≤ k ∧ k < V2.heap.size ∧ NoFix V2 k) → V1.heap.size < k ∧ k < V2.heap.size ∧ (False ∨ (W.heap.size ≤ k ∧ k < U3.heap.size ∧ NoFix U3 k)) := fun k hk => by
  obtain ⟨h1, h2, h3⟩ := hk
  exact ⟨by omega, h2, .inr ⟨by omega, by omega, fun c t o hq => h3 c t o ((g23.block k h2).symm.trans hq)⟩⟩
 refine ⟨g1.trans (g13.mono s1), x3', c23, c3, .inr ⟨s1, by omega, boxT_nofix x3'⟩, .inr ⟨by omega, by omega, boxC_nofix c23⟩, .inr ⟨by omega, by omega, boxC_nofix c3⟩, o3.is, o3.rm, fun k hk => ⟨lx k hk, .inr ⟨blk_in o3.is o3.blk k hk, by have := lx k hk; omega, (spT_owned o3.is o3.rm).nofix k hk o3.is⟩⟩, ?_, ?_, ?_, ?_, by omega, ?_⟩
 ·exact (hc.nofix.fromS (fun k _ hl => g23.block k hl) g23.size).mono (Nat.le_refl _) fun k hk => nfx k hk
 ·exact (hb.nofix.fromS (fun k _ hl => g23.block k hl) g23.size).mono (Nat.le_refl _) fun k hk => nfx k hk
 ·exact ((hd.below b3).nofix).mono (Nat.le_refl _) fun k hk => .inr ⟨by have h1 : U2.heap.size ≤ k := hk.1; omega, hk.2.1, hk.2.2⟩
 ·exact ((he.below b3).nofix).mono (Nat.le_refl _) fun k hk => .inr ⟨by have h1 : U2.heap.size ≤ k := hk.1; omega, hk.2.1, hk.2.2⟩
 ·rintro k (hk | hk)
  ·exact hk.elim
  ·exact hk.2.1
theorem plain_wide {m : Nat} (th tb : Tm (m + 1)) (oh : okT th = true) (ob : okT tb = true) : WideN (plainR th tb).2 := by
 have wh : WideN (code th) := wideN_ok (by rw [← okT_m]; exact oh)
 have wb : WideN (code tb) := wideN_ok (by rw [← okT_m]; exact ob)
 have wn : WideN noC := fun y hy => by simp [noC] at hy; subst hy; show (0 : Nat) ≤ 50; omega
 have w2 : WideN ((4, 0, [58, 45], 2) :: (code th ++ code tb)) := fun y hy => by
  rcases List.mem_cons.1 hy with rfl | hy
  ·show (2 : Nat) ≤ 50; omega
  ·rcases List.mem_append.1 hy with hy | hy
   ·exact wh y hy
   ·exact wb y hy
 unfold plainR
 split
 ·split
  ·split
   ·exact wh
   ·exact wn
  ·split
   ·exact w2
   ·exact wn
 ·exact wn
theorem made_wide {n : Nat} (t : Tm (n + 1)) (hw : Wl t) (hl : (code t).length ≤ 1048576) (hz : (makeR t).1 = 0) : WideN (makeR t).2.1 ∧ WideN (makeR t).2.2 := by
 obtain ⟨hok, hmk⟩ := makeR_ok hz
 obtain ⟨-, -, o1, o2, -, -⟩ := make_cases hw hok (by omega) hmk
 exact ⟨wideN_ok o1, wideN_ok o2⟩
theorem made_plain {n : Nat} {V : World} (t : Tm (n + 1)) (hw : Wl t) (hl : (code t).length ≤ 1048576) (hz : (makeR t).1 = 0) {D : Upto 274877906944} {S : Nat → Prop} {x y : TV} (hx : HoldsS D.1 S V x.val (makeR t).2.1) (hy : HoldsS D.1 S V y.val (makeR t).2.2) :
  Calls Tryz.prog 9 #[clV x y] V fun e V' => ∃ (p : TV) (r : Int) (D' : Nat) (c : List Nd), e = .returned (.tuple #[p.val, .int .i64 r]) ∧ D' ≤ 2199023255552 ∧ HoldsL D' (V.heap.size ≤ ·) V' p.val c ∧ WideN c ∧ Below V.heap.size V V' := by
 obtain ⟨hok, hmk⟩ := makeR_ok hz
 obtain ⟨th, tb, rfl, rfl, hTH, hTB, ch, cb⟩ := holds_two_terms hx hy
 have hlen := make_len hw hok hl hmk
 obtain ⟨oh, ob, -⟩ := make_back hw hok (by omega) hmk th tb hTH.wl hTB.wl ch cb
 refine (bplain_new th tb V hTH hTB (by rw [ch, cb]; exact hlen) D.2).mono fun e V' h => ?_
 obtain ⟨⟨D', p, h1, h2⟩, h3⟩ := h
 exact ⟨p, _, D'.1, _, h1, by have := D'.2; have := D.2; omega, h2, plain_wide th tb oh ob, h3⟩
/- What a view goes through, in the order of the base; the clauses that ever were, as hornref's Base keeps them. -/
def Thr (c ch : List Nd) : Prop := predC ch = predC c ∧ (keyI c = true ∨ keyC ch = keyC c ∨ keyC ch = keyZ)
open Classical in
noncomputable def thrE (E : List En) (c : List Nd) : List En := E.filter fun e => decide (Thr c e.ch)
structure Hd (n : Nat) where
 pl : Int
 th : Tm (n + 1)
 tb : Tm (n + 1)
 on : Bool
def Hd.id {n : Nat} (h : Hd n) : Int := max h.pl (-h.pl)
def Hd.say {n : Nat} (h : Hd n) : Int × List Nd × List Nd := (h.pl, code h.th, code h.tb)
structure Both {n : Nat} (laid : Int) (E : List En) (H : List (Hd n)) : Prop where
 len : (H.length : Int) = laid
 says : E.map En.say = (H.filter (·.on)).map Hd.say
 srt : H.Pairwise fun a b => a.pl < b.pl
 pls : ∀ h ∈ H, h.pl ≠ 0 ∧ -laid ≤ h.pl ∧ h.pl ≤ laid
 ids : H.Pairwise fun a b => a.pl ≠ -b.pl
/- hornref's Base in memory: its row of clauses; Known, Get. -/
/- hornlaw.numbers; hornref's All. -/
def OwnI (base : Nat) (W : World) (v : Value) (ns : List Int) : Prop := W.ownsRow base 3 1 v ns.length (i64s ns)
theorem OwnI.isN {base : Nat} {W : World} {v : Value} {ns : List Int} (h : OwnI base W v ns) (hl : ns.length ≤ 1152921504606846976) : ∃ a cap, v = .slice a ns.length cap ∧ IsN W a ns.length ns := by
 obtain ⟨_, h2⟩ := h
 rcases h2 with ⟨hv, hn⟩ | ⟨g, cap, cur, hv, hg, hb, _, _, _, htk⟩
 ·have h0 : ns = [] := by cases ns with | nil => rfl | cons x r => simp at hn
  subst h0
  exact ⟨none, 0, hv, rfl, hl, .inl rfl⟩
 ·refine ⟨_, cap, hv, rfl, hl, .inr ⟨g, 0, rfl, (Array.getElem?_eq_some_iff.1 hb).1, fun j N hj => ?_⟩⟩
  have hjl := (List.getElem?_eq_some_iff.1 hj).1
  have h3 : (cur.toList.take (ns.length * 1))[j]? = some (.int .i64 N) := by rw [htk]; simp [i64s, hj]
  rw [List.getElem?_take, if_pos (by omega)] at h3
  rw [Nat.zero_add]
  simp [World.cell?, hb]
  simpa using h3
/- Laid by the kit's own shelf_lay and written out. -/
def sortInt_ren : Go.Shelf.Ren := ⟨fun | 189 => 38 | 125 => 53 | 257 => 52 | 128 => 78 | 129 => 79 | 294 => 69 | 295 => 70 | 296 => 71 | 297 => 72 | 298 => 73 | 299 => 74 | 216 => 75 | 300 => 76 | 301 => 77 | 328 => 90 | 329 => 91 | 330 => 92 | 331 => 93 | 332 => 94 | 215 => 95 | 343 => 102 | n => n, fun | 28 => 44 | 3 => 3 | 46 => 117 | 0 => 0 | 51 => 143 | 53 => 145 | 4 => 4 | 183 => 135 | 182 => 134 | 131 => 140 | 5 => 5 | 9 => 9 | 218 => 166 | 222 => 170 | 228 => 180 | 229 => 181 | n => n, fun | n => n⟩
theorem sortInt : Go.Proofs.Lays.n189 Tryz.prog sortInt_ren := {
 mixed := by kernel_rfl
 f125 := Tryz.func53.trans (congrArg some (by kernel_rfl))
 f128 := Tryz.func78.trans (congrArg some (by kernel_rfl))
 f129 := Tryz.func79.trans (congrArg some (by kernel_rfl))
 f189 := Tryz.func38.trans (congrArg some (by kernel_rfl))
 f215 := Tryz.func95.trans (congrArg some (by kernel_rfl))
 f216 := Tryz.func75.trans (congrArg some (by kernel_rfl))
 f257 := Tryz.func52.trans (congrArg some (by kernel_rfl))
 f294 := Tryz.func69.trans (congrArg some (by kernel_rfl))
 f295 := Tryz.func70.trans (congrArg some (by kernel_rfl))
 f296 := Tryz.func71.trans (congrArg some (by kernel_rfl))
 f297 := Tryz.func72.trans (congrArg some (by kernel_rfl))
 f298 := Tryz.func73.trans (congrArg some (by kernel_rfl))
 f299 := Tryz.func74.trans (congrArg some (by kernel_rfl))
 f300 := Tryz.func76.trans (congrArg some (by kernel_rfl))
 f301 := Tryz.func77.trans (congrArg some (by kernel_rfl))
 f328 := Tryz.func90.trans (congrArg some (by kernel_rfl))
 f329 := Tryz.func91.trans (congrArg some (by kernel_rfl))
 f330 := Tryz.func92.trans (congrArg some (by kernel_rfl))
 f331 := Tryz.func93.trans (congrArg some (by kernel_rfl))
 f332 := Tryz.func94.trans (congrArg some (by kernel_rfl))
 f343 := Tryz.func102.trans (congrArg some (by kernel_rfl))
 t0 := Tryz.underlying0
 a0 := Tryz.isAgg0
 z0 := Tryz.sizeOf0
 v0 := Tryz.zeroValue0
 t3 := Tryz.underlying3
 a3 := Tryz.isAgg3
 z3 := Tryz.sizeOf3
 v3 := Tryz.zeroValue3
 t4 := Tryz.underlying4
 a4 := Tryz.isAgg4
 z4 := Tryz.sizeOf4
 v4 := Tryz.zeroValue4
 t5 := Tryz.underlying5
 a5 := Tryz.isAgg5
 z5 := Tryz.sizeOf5
 v5 := Tryz.zeroValue5
 t9 := Tryz.underlying9
 a9 := Tryz.isAgg9
 z9 := Tryz.sizeOf9
 v9 := Tryz.zeroValue9
 t28 := Tryz.underlying44
 a28 := Tryz.isAgg44
 z28 := Tryz.sizeOf44
 v28 := Tryz.zeroValue44
 t46 := Tryz.underlying117
 a46 := Tryz.isAgg117
 z46 := Tryz.sizeOf117
 v46 := Tryz.zeroValue117
 t51 := Tryz.underlying143
 a51 := Tryz.isAgg143
 z51 := Tryz.sizeOf143
 v51 := Tryz.zeroValue143
 t53 := Tryz.underlying145
 a53 := Tryz.isAgg145
 z53 := Tryz.sizeOf145
 v53 := Tryz.zeroValue145
 t131 := Tryz.underlying140
 a131 := Tryz.isAgg140
 z131 := Tryz.sizeOf140
 v131 := Tryz.zeroValue140
 t182 := Tryz.underlying134
 a182 := Tryz.isAgg134
 z182 := Tryz.sizeOf134
 v182 := Tryz.zeroValue134
 t183 := Tryz.underlying135
 a183 := Tryz.isAgg135
 z183 := Tryz.sizeOf135
 v183 := Tryz.zeroValue135
 t218 := Tryz.underlying166
 a218 := Tryz.isAgg166
 z218 := Tryz.sizeOf166
 v218 := Tryz.zeroValue166
 t222 := Tryz.underlying170
 a222 := Tryz.isAgg170
 z222 := Tryz.sizeOf170
 v222 := Tryz.zeroValue170
 t228 := Tryz.underlying180
 a228 := Tryz.isAgg180
 z228 := Tryz.sizeOf180
 v228 := Tryz.zeroValue180
 t229 := Tryz.underlying181
 a229 := Tryz.isAgg181
 z229 := Tryz.sizeOf181
 v229 := Tryz.zeroValue181
}
/- slices.Sort of numbers of the call's own. -/
open Go.Sort
def srtI (ns : List Int) : List Int := ns.mergeSort fun x y => decide (x ≤ y)
theorem srtI_len (ns : List Int) : (srtI ns).length = ns.length := List.length_mergeSort ns
theorem sort_own {lo : Nat} (v : Value) (ns : List Int) (W : World) (h : OwnI lo W v ns) (hl : ns.length ≤ 4194304) :
  Calls Tryz.prog 38 #[v] W fun e W' => e = .returned (.tuple #[]) ∧ OwnI lo W' v (srtI ns) ∧ GrB (fun k => v.ownBlock = some k) W.heap.size W W' := by
 rcases h.2 with ⟨rfl, h0⟩ | ⟨g, cap, cur, rfl, hg, hb, hc1, hc2, hc3, htk⟩
 ·have hn : ns = [] := List.length_eq_zero_iff.1 h0
  subst hn
  refine (Any.slices_Sort_int_none sortInt none 0 W).mono ?_
  rintro e W' ⟨rfl, rfl⟩
  exact ⟨rfl, by simpa [srtI] using h, GrB.refl _ _ _⟩
 ·have hgl : g < W.heap.size := (Array.getElem?_eq_some_iff.1 hb).1
  have hcell : ∀ j N, ns[j]? = some N → cur[j]? = some (Value.int .i64 N) := fun j N hj => by
   have hjl := (List.getElem?_eq_some_iff.1 hj).1
   have h3 : (cur.toList.take (ns.length * 1))[j]? = some (Value.int .i64 N) := by rw [htk]; simp [i64s, hj]
   rw [List.getElem?_take, if_pos (by omega)] at h3
   simpa using h3
  have hH : Holds (Value.int .i64) W g 0 ns.toArray := fun j hj => by
   have hjl : j < ns.length := by simpa using hj
   refine ⟨?_, by simp [World.frozen?, hb]⟩
   rw [Nat.zero_add]
   have := hcell j ns[j] (List.getElem?_eq_getElem hjl)
   simp [World.cell?, hb, this, hjl]
  refine (Any.slices_Sort_int sortInt g 0 cap ns W hH hgl (by omega)).mono ?_
  rintro e W' ⟨rfl, n, os, rfl⟩
  have hsz : (putRow (Value.int .i64) (Sort.ahead W n) g 0 (srtI ns).toArray).heap.size = W.heap.size := by simp
  have hblk : ∀ k, k < W.heap.size → k ≠ g → (grow (putRow (Value.int .i64) (Sort.ahead W n) g 0 (srtI ns).toArray) os).heap[k]? = W.heap[k]? := fun k hk hn => by
   show ((putRow (Value.int .i64) (Sort.ahead W n) g 0 (srtI ns).toArray).heap ++ os)[k]? = _
   rw [Array.getElem?_append_left (by rw [hsz]; exact hk)]
   show (W.heap.modify g _)[k]? = _
   rw [Array.getElem?_modify, if_neg (fun e => hn e.symm)]
  have hnew : (grow (putRow (Value.int .i64) (Sort.ahead W n) g 0 (srtI ns).toArray) os).heap[g]? = some (.cells (putCells (Value.int .i64) 0 (srtI ns).toArray cur) 3 (0, 0)) := by
   show ((putRow (Value.int .i64) (Sort.ahead W n) g 0 (srtI ns).toArray).heap ++ os)[g]? = _
   rw [Array.getElem?_append_left (by rw [hsz]; exact hgl)]
   show (W.heap.modify g _)[g]? = _
   rw [Array.getElem?_modify, if_pos rfl, hb]
   rfl
  refine ⟨rfl, ⟨by simp [i64s], .inr ⟨g, cap, _, by rw [srtI_len], hg, hnew, by rw [srtI_len]; exact hc1, hc2, by simp [putCells, hc3], ?_⟩⟩, ⟨rfl, rfl, rfl, ?_, fun k hk hn => hblk k hk (fun e => hn (by rw [e]; rfl))⟩⟩
  ·apply List.ext_getElem?
   intro j
   rw [List.getElem?_take]
   simp only [Nat.mul_one, srtI_len]
   by_cases hj : j < ns.length
   ·rw [if_pos hj]
    have hjs : j < (srtI ns).length := by rw [srtI_len]; exact hj
    have hcj : cur[j]? = some (Value.int .i64 ns[j]) := hcell j _ (List.getElem?_eq_getElem hj)
    simp [putCells, i64s, hcj, hjs]
   ·rw [if_neg hj]
    simp [i64s, List.getElem?_eq_none (show (srtI ns).length ≤ j by rw [srtI_len]; omega)]
  ·show W.heap.size ≤ ((putRow (Value.int .i64) (Sort.ahead W n) g 0 (srtI ns).toArray).heap ++ os).size
   rw [Array.size_append, hsz]
   omega
end Go.Proofs.YtlbobmebbllifaaGreat
