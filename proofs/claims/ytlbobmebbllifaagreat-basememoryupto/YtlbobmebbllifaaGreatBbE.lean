import Derived.Test.YtlbobmebbllifaaGreatBbDs
import Derived.Test.YtlbobmebbllifaaGreatNms
import Derived.BigRegion
import Derived.Deep.RegionHeld3
/- base.Make. (Written by wip/makecgen.py.) -/
namespace Go.Proofs.YtlbobmebbllifaaGreat
set_option maxHeartbeats 4000000
set_option maxRecDepth 100000
open Go.RowKit Go.Shelf
def MkIs (D lo : Nat) (W : World) (x y : TV) : Option (List Nd × List Nd) → Prop
 | some (h, b) => HoldsL D (lo ≤ ·) W x.val h ∧ HoldsL D (lo ≤ ·) W y.val b
 | none => x = noTerm ∧ y = noTerm
def mkE (r : Option (List Nd × List Nd)) : Int := if r.isSome = true then 0 else 7
def MkSays (D lo : Nat) (r : Option (List Nd × List Nd)) (e : Ending) (W' : World) : Prop := ∃ x y : TV, e = .returned (.tuple #[clV x y, .int .i64 (mkE r)]) ∧ MkIs D lo W' x y r
theorem box_mk (W : World) (x : TV) : ∃ W2, (W.alloc (.cells #[.int .i64 x.k, .int .i64 x.N, .string x.s, .slice x.a x.len x.cap] 24)).alloc (.cells #[.int .i64 0, .int .i64 0, .string ⟨#[]⟩, .slice none 0 0, .int .i64 0, .int .i64 0, .string ⟨#[]⟩, .slice none 0 0] 30) = W2 ∧ Below W.heap.size W W2 ∧ W2.heap.size = W.heap.size + 2 ∧ BoxT W2 W.heap.size x ∧ BoxC W2 (W.heap.size + 1) noTerm noTerm := by
 refine ⟨_, rfl, ((Below.refl _ W).alloc (Nat.le_refl _) _).alloc (by simp) _, by simp, (BoxT.new W x).alloc _, ?_⟩
 have h := BoxC.new (W.alloc (.cells #[.int .i64 x.k, .int .i64 x.N, .string x.s, .slice x.a x.len x.cap] 24)) noTerm noTerm
 rw [World.size_alloc] at h
 exact h
theorem bmake_bad {n : Nat} (t : Tm n) (W : World) (hT : IsT W.heap.size W t) (hok : okT t = false) :
  Calls Tryz.prog 7 #[t.tv.val] W fun e W' => e = .returned (.tuple #[clV noTerm noTerm, .int .i64 2]) ∧ Below W.heap.size W W' := by
 obtain ⟨W2, hW2, hb2, hs2, hbt, hbz⟩ := box_mk W t.tv
 have ha := rename_bad t 0 W2 ((hT.below hb2).mono hb2.size) hok
 have c0 := hbt.c0
 have c1 := hbt.c1
 have c2 := hbt.c2
 have c3 := hbt.c3
 have HB2 := hide hb2
 have HZ := hide hbz
 have HS := hide hs2
 clear hT hok hb2 hbz hbt hs2
 simp only [TV.val, noTerm, clV] at ha ⊢
 go_enter Tryz.func7, Tryz.ntmps7
 go_wp2_with fail
 try rw [hW2]
 refine ha.mono ?_
 clear ha hW2 c0 c1 c2 c3
 rintro e W3 ⟨rfl, hb3⟩
 have hb4 : Below W3.heap.size W3 (W3.alloc (.cells #[.int .i64 0, .int .i64 0, .string ⟨#[]⟩, .slice none 0 0] 24)) := (Below.refl _ W3).alloc (Nat.le_refl _) _
 have hb34 := hb3.trans (hb4.mono hb3.size)
 have hz4 := (unhide HZ).below hb34 (by have := unhide HS; omega)
 obtain ⟨⟨z0, z1, z2, z3⟩, z4, z5, z6, z7⟩ := hz4.cs
 obtain ⟨y0, y1, y2, y3, y4, y5, y6, y7⟩ := hz4.fs
 have HB : Hid (Below W.heap.size W (set8 (W3.alloc (.cells #[.int .i64 0, .int .i64 0, .string ⟨#[]⟩, .slice none 0 0] 24)) (W.heap.size + 1) noTerm noTerm)) := set8_below ((unhide HB2).trans (hb34.mono (unhide HB2).size)) (by omega) _ _
 clear hz4 hb3 hb4 hb34 HZ HS HB2
 go_wp2_with fail
 exact bodyPost_ret (v := .tuple #[.agg #[.int .i64 0, .int .i64 0, .string ⟨#[]⟩, .slice none 0 0, .int .i64 0, .int .i64 0, .string ⟨#[]⟩, .slice none 0 0], .int .i64 2]) (by simp [results, Tryz.results7, go_sem, z0, z1, z2, z3, z4, z5, z6, z7]) rfl ⟨rfl, HB.out⟩
structure Twain (lo : Nat) (W : World) {m k : Nat} (h : Tm m) (b : Tm k) : Prop where
 okb : okT b = true
 th : IsT W.heap.size W h
 tb : IsT W.heap.size W b
 rb : Rows W b
 ab : (blks b).Nodup
 lh : ∀ q ∈ blks h, lo ≤ q
 lb : ∀ q ∈ blks b, lo ≤ q
 dis : ∀ q ∈ blks h, q ∉ blks b
 rh : Rows W h
theorem Twain.below {lo : Nat} {A W : World} {m k : Nat} {h : Tm m} {b : Tm k} (p : Twain lo A h b) (hb : Below A.heap.size A W) : Twain lo W h b :=
 ⟨p.okb, (p.th.below hb).mono hb.size, (p.tb.below hb).mono hb.size, p.rb.kept (fun q hq => hb.block q (p.tb.blks_lt q hq)), p.ab, p.lh, p.lb, p.dis, p.rh.kept (fun q hq => hb.block q (p.th.blks_lt q hq))⟩
theorem Twain.kept {lo : Nat} {A W : World} {m k : Nat} {h : Tm m} {b : Tm k} (p : Twain lo A h b) (hs : A.heap.size ≤ W.heap.size) (h1 : ∀ q ∈ blks h, W.heap[q]? = A.heap[q]?) (h2 : ∀ q ∈ blks b, W.heap[q]? = A.heap[q]?) : Twain lo W h b :=
 ⟨p.okb, p.th.keptL hs h1, p.tb.keptL hs h2, p.rb.kept h2, p.ab, p.lh, p.lb, p.dis, p.rh.kept h1⟩
theorem Twain.drew {lo : Nat} {W : World} {m k : Nat} {h : Tm m} {b : Tm k} (p : Twain lo W h b) : Twain lo W.drew h b := p.kept (Nat.le_refl _) (fun _ _ => rfl) (fun _ _ => rfl)
theorem BoxC.drew {W : World} {B : Nat} {x y : TV} (h : BoxC W B x y) : BoxC W.drew B x y := h
theorem boxC_set8 {W : World} {B : Nat} {x y : TV} (hb : BoxC W B x y) (h b : TV) : BoxC (set8 W B h b) B h b := by
 have one : ∀ {w : World} {a : Array Value} (p : Nat) (v : Value), w.heap[B]? = some (.cells a 30 (0, 0)) → (w.setCell ⟨B, p, none⟩ v).heap[B]? = some (.cells (a.setIfInBounds p v) 30 (0, 0)) := fun {w a} p v h => by
  obtain ⟨hlt, hk⟩ := Array.getElem?_eq_some_iff.1 h
  show (w.heap.modify B _)[B]? = _
  rw [Array.getElem?_eq_getElem (by rw [Array.size_modify]; exact hlt), Array.getElem_modify_self, hk]
  rfl
 have h8 := one 7 (.slice b.a b.len b.cap) (one 6 (.string b.s) (one 5 (.int .i64 b.N) (one 4 (.int .i64 b.k) (one 3 (.slice h.a h.len h.cap) (one 2 (.string h.s) (one 1 (.int .i64 h.N) (one 0 (.int .i64 h.k) hb)))))))
 have e : (set8 W B h b).heap[B]? = _ := h8
 show (set8 W B h b).heap[B]? = _
 rw [e]
 simp only [List.setIfInBounds_toArray, List.set_cons_zero, List.set_cons_succ]
theorem set8_nest (W : World) (B : Nat) (x y : TV) : ((((((((W.setCell ⟨B, 0, none⟩ (.int .i64 x.k)).setCell ⟨B, 1, none⟩ (.int .i64 x.N)).setCell ⟨B, 2, none⟩ (.string x.s)).setCell ⟨B, 3, none⟩ (.slice x.a x.len x.cap)).setCell ⟨B, 4, none⟩ (.int .i64 y.k)).setCell ⟨B, 5, none⟩ (.int .i64 y.N)).setCell ⟨B, 6, none⟩ (.string y.s)).setCell ⟨B, 7, none⟩ (.slice y.a y.len y.cap)).drew = (set8 W B x y).drew := rfl
theorem far8 (W : World) (B : Nat) (x y : TV) {k : Nat} (o : Nat) (h : k ≠ B) : ((((((((W.setCell ⟨B, 0, none⟩ (.int .i64 x.k)).setCell ⟨B, 1, none⟩ (.int .i64 x.N)).setCell ⟨B, 2, none⟩ (.string x.s)).setCell ⟨B, 3, none⟩ (.slice x.a x.len x.cap)).setCell ⟨B, 4, none⟩ (.int .i64 y.k)).setCell ⟨B, 5, none⟩ (.int .i64 y.N)).setCell ⟨B, 6, none⟩ (.string y.s)).setCell ⟨B, 7, none⟩ (.slice y.a y.len y.cap)).drew.cell? ⟨k, o, none⟩ = W.cell? ⟨k, o, none⟩ := by
 have hn : ∀ q, (⟨B, q, none⟩ : Addr) ≠ ⟨k, o, none⟩ := fun q e => h (by cases e; rfl)
 show World.cell? _ ⟨k, o, none⟩ = _
 rw [World.cell?_drew, World.cell?_setCell_other _ _ _ _ (hn _), World.cell?_setCell_other _ _ _ _ (hn _), World.cell?_setCell_other _ _ _ _ (hn _), World.cell?_setCell_other _ _ _ _ (hn _), World.cell?_setCell_other _ _ _ _ (hn _), World.cell?_setCell_other _ _ _ _ (hn _), World.cell?_setCell_other _ _ _ _ (hn _), World.cell?_setCell_other _ _ _ _ (hn _)]
theorem set8_other (W : World) (B : Nat) (x y : TV) {k : Nat} (h : k ≠ B) : (set8 W B x y).heap[k]? = W.heap[k]? := (set4_other _ B 4 y h).trans (set4_other W B 0 x h)
theorem set8_size (W : World) (B : Nat) (x y : TV) : (set8 W B x y).heap.size = W.heap.size := by unfold set8; rw [set4_size, set4_size]
theorem twain_true {lo : Nat} {W : World} {m : Nat} {h : Tm m} (th : IsT W.heap.size W h) (lh : ∀ q ∈ blks h, lo ≤ q) (rh : Rows W h) : ∃ b : Tm 1, b.tv = atomV ⟨#[116, 114, 117, 101]⟩ ∧ code b = atomC trueL ∧ bodyC b = some (atomC trueL) ∧ Twain lo W h b := by
 have e : (⟨#[116, 114, 117, 101]⟩ : ByteArray).toList = trueL := by decide +kernel
 have hc : code (n := 1) ((atomV ⟨#[116, 114, 117, 101]⟩, []) : TV × List (Tm 0)) = atomC trueL := by rw [code_succ]; simp [TV.nd, atomV, atomC, e]
 have hb : blks (n := 1) ((atomV ⟨#[116, 114, 117, 101]⟩, []) : TV × List (Tm 0)) = [] := rfl
 refine ⟨((atomV ⟨#[116, 114, 117, 101]⟩, []) : TV × List (Tm 0)), rfl, hc, ?_, ⟨?_, th, ⟨rfl, ⟨by show (0 : Nat) ≤ _; omega, by show (0 : Nat) ≤ 0; omega, by decide⟩, by show (4 : Nat) ≤ _; omega, .inl rfl⟩, ⟨.inl ⟨rfl, rfl⟩, fun q hq => by cases hq⟩, by rw [hb]; exact List.nodup_nil, lh, (fun q hq => by rw [hb] at hq; cases hq), (fun q _ => by rw [hb]; simp), rh⟩⟩
 ·rw [bodyC_succ, hc]
  simp [junct, isB, atomV]
 ·have h := okT_m (n := 1) ((atomV ⟨#[116, 114, 117, 101]⟩, []) : TV × List (Tm 0))
  rw [hc] at h
  exact h.trans (by decide +kernel)
theorem canon_ok {n : Nat} {t : Tm n} (hok : okT t = true) : (canon 0 (code t)).all okM = true := by
 have hlen := steps_lenT hok
 rw [okT_m] at hok
 unfold canon
 rw [List.all_eq_true] at hok ⊢
 intro y hy
 obtain ⟨x, hx, hxy⟩ := List.mem_flatMap.1 hy
 unfold subN at hxy
 split at hxy
 ·rename_i hk
  have hm := (steps_mem (code t) [] x.2.1).2 (.inr ⟨x, hx, hk, rfl⟩)
  have hlt := List.idxOf_lt_length_of_mem hm
  simp only [renN, List.mem_singleton] at hxy
  subst hxy
  have h0 : 0 ≤ (0 : Int) + ((stepsN stpN [] (code t)).idxOf x.2.1 : Nat) := by omega
  have h1 : (0 : Int) + ((stepsN stpN [] (code t)).idxOf x.2.1 : Nat) ≤ 1099511627776 := by omega
  generalize (0 : Int) + ((stepsN stpN [] (code t)).idxOf x.2.1 : Nat) = M at h0 h1
  simp [okM, varNd, h0, h1]
 ·simp at hxy; subst hxy; exact hok _ hx
theorem ok_top {n : Nat} {t : Tm (n + 1)} (h : okT t = true) : wmB t.tv.k t.tv.N t.tv.s t.tv.len = true := by
 obtain ⟨x, kids⟩ := t
 exact (ok_kids h).1
theorem head_call {x : TV} (hw : wmB x.k x.N x.s x.len = true) (h : (decide (x.k = 3) || decide (x.k = 4)) = false) : headBad x = true := by
 simp only [Bool.or_eq_false_iff, decide_eq_false_iff_not] at h
 unfold headBad
 rcases wm_cases hw with ⟨h1, _⟩ | ⟨h1 | h1, _⟩ | ⟨h1, _⟩
 ·simp [h1]
 ·simp [h1]
 ·exact (h.1 h1).elim
 ·exact (h.2 h1).elim
theorem head_res {x : TV} (r : Bool) (h : resB x.s.toList (x.len : Int) = r) (hc : (decide (x.k = 3) || decide (x.k = 4)) = true) : headBad x = r := by
 simp only [Bool.or_eq_true, decide_eq_true_eq] at hc
 unfold headBad
 rw [h]
 have h1 : ¬ x.k = 1 := by omega
 have h2 : ¬ x.k = 2 := by omega
 simp [h1, h2]
theorem bmake_head {n : Nat} (t : Tm (n + 1)) (W : World) (hT : IsT W.heap.size W t) (hok : okT t = true) (hl : 2 * (code t).length ≤ 4194304) (hi : isB t.tv [58, 45] 2 = false) (hn40 : n ≤ 549755813888 := by omega) :
  Calls Tryz.prog 7 #[t.tv.val] W fun e W' => MkSays (n + 3) W.heap.size (makeC t) e W' ∧ Below W.heap.size W W' := by
 obtain ⟨W2, hW2, hb2, hs2, hbt, hbz⟩ := box_mk W t.tv
 have ha := rename_full t 0 W2 ((hT.below hb2).mono hb2.size) hok
 have hst : (stepsN stpN [] (code t)).length ≤ (code t).length := by
  have := varsC_len [] (code t)
  simpa using this
 have c0 := hbt.c0
 have c1 := hbt.c1
 have c2 := hbt.c2
 have c3 := hbt.c3
 have HB2 := hide hb2
 have HZ := hide hbz
 have HS := hide hs2
 have HWL : Hid (Wl t) := hT.wl
 have HOK : Hid (okT t = true) := hok
 have HST := hide (And.intro hst hl)
 have HI : Hid (isB t.tv [58, 45] 2 = _) := hi
 clear hT hok hb2 hbz hbt hs2 hst hl hi
 simp only [TV.val] at ha ⊢
 go_enter Tryz.func7, Tryz.ntmps7
 go_wp2_with fail
 try rw [hW2]
 refine ha.mono ?_
 clear ha hW2 c0 c1 c2 c3
 rintro e W3 ⟨x, k, r, rfl, hb3, hren⟩
 have hren' : r = 0 ∧ HoldsT (n + 2) (W.heap.size + 2) W3 x.val (canon 0 (code t)) := by
  have h1 := (unhide HST).1
  have h2 := (unhide HST).2
  rcases hren with ⟨_, _, _, h, _, hh⟩ | ⟨_, _, h, _⟩ | ⟨h, _⟩
  ·rw [unhide HS] at hh
   exact ⟨h, hh⟩
  ·omega
  ·omega
 clear hren HST
 obtain ⟨rfl, hx⟩ := hren'
 obtain ⟨w, ho, hoT', hoN, hoc⟩ := hx _ (Nat.le_refl _)
 have hoT := hoT' (by omega)
 clear hoT'
 obtain rfl := tv_inj ho
 clear hx ho
 have hib := isB_ren _ HWL.out HOK.out (by rw [hoc, canon_renC]) [58, 45] 2
 have hwok : okT w = true := by
  rw [okT_m, hoc]
  exact canon_ok HOK.out
 have hic := isC_isB (ok_top hwok) [58, 45]
 rw [hib, HI.out] at hic
 have HMK0 : Hid (makeC t = if headBad w.tv = true then none else some (code w, atomC trueL)) := make_head HWL.out HOK.out hoc HI.out
 have hb4 : Below W3.heap.size W3 (W3.alloc (.cells #[.int .i64 w.tv.k, .int .i64 w.tv.N, .string w.tv.s, .slice w.tv.a w.tv.len w.tv.cap] 24)) := (Below.refl _ W3).alloc (Nat.le_refl _) _
 have hbx := BoxT.new W3 w.tv
 obtain ⟨V4, hV4⟩ : ∃ V4, W3.alloc (.cells #[.int .i64 w.tv.k, .int .i64 w.tv.N, .string w.tv.s, .slice w.tv.a w.tv.len w.tv.cap] 24) = V4 := ⟨_, rfl⟩
 have hs4 : V4.heap.size = W3.heap.size + 1 := by rw [← hV4]; simp
 rw [hV4] at hb4 hbx
 have hb5 : Below V4.heap.size V4 (V4.alloc (.cells #[.int .i64 w.tv.k, .int .i64 w.tv.N, .string w.tv.s, .slice w.tv.a w.tv.len w.tv.cap, .int .i64 3, .int .i64 0, .string ⟨#[116, 114, 117, 101]⟩, .slice none 0 0] 30)) := (Below.refl _ V4).alloc (Nat.le_refl _) _
 have hcb : BoxC (V4.alloc (.cells #[.int .i64 w.tv.k, .int .i64 w.tv.N, .string w.tv.s, .slice w.tv.a w.tv.len w.tv.cap, .int .i64 3, .int .i64 0, .string ⟨#[116, 114, 117, 101]⟩, .slice none 0 0] 30)) V4.heap.size w.tv (atomV ⟨#[116, 114, 117, 101]⟩) := BoxC.new V4 w.tv (atomV ⟨#[116, 114, 117, 101]⟩)
 have hbx5 : BoxT (V4.alloc (.cells #[.int .i64 w.tv.k, .int .i64 w.tv.N, .string w.tv.s, .slice w.tv.a w.tv.len w.tv.cap, .int .i64 3, .int .i64 0, .string ⟨#[116, 114, 117, 101]⟩, .slice none 0 0] 30)) W3.heap.size w.tv := hbx.below hb5 hbx.lt
 have v0 := hbx5.c0
 have v1 := hbx5.c1
 have v2 := hbx5.c2
 have v3 := hbx5.c3
 have i1 := isOfTwo_any w.tv ⟨#[58, 45]⟩ (V4.alloc (.cells #[.int .i64 w.tv.k, .int .i64 w.tv.N, .string w.tv.s, .slice w.tv.a w.tv.len w.tv.cap, .int .i64 3, .int .i64 0, .string ⟨#[116, 114, 117, 101]⟩, .slice none 0 0] 30))
 rw [colonL, hic] at i1
 simp only [TV.val] at i1
 have x0 := hbx.c0
 have x1 := hbx.c1
 have x2 := hbx.c2
 have x3 := hbx.c3
 obtain ⟨V5, HV5⟩ : ∃ V5, Hid (V4.alloc (.cells #[.int .i64 w.tv.k, .int .i64 w.tv.N, .string w.tv.s, .slice w.tv.a w.tv.len w.tv.cap, .int .i64 3, .int .i64 0, .string ⟨#[116, 114, 117, 101]⟩, .slice none 0 0] 30) = V5) := ⟨_, rfl⟩
 rw [HV5.out] at hb5 hcb hbx5
 have hzb0 : BoxC V5 (W.heap.size + 1) noTerm noTerm := (((unhide HZ).below hb3 (by have := unhide HS; omega)).below hb4 (by have := hb3.size; have := unhide HS; omega)).below hb5 (by have := hb3.size; have := unhide HS; omega)
 have hbV0 : Below W.heap.size W V5 := (((unhide HB2).trans (hb3.mono (unhide HB2).size)).trans (hb4.mono (by have := (unhide HB2).size; have := hb3.size; omega))).trans (hb5.mono (by have := (unhide HB2).size; have := hb3.size; omega))
 have hlo : W.heap.size + 2 ≤ W3.heap.size := by have := hb3.size; have := unhide HS; omega
 have hs5 := hb5.size
 have hw5 : IsT V5.heap.size V5 w := (((hoT.below hb4).mono hb4.size).below hb5).mono hb5.size
 have hlh : ∀ q ∈ blks w, W.heap.size + 2 ≤ q ∧ q < W3.heap.size := fun q hq => ⟨(hoN.wh.blks_in q hq).1, (hoN.wh.blks_in q hq).2.1⟩
 have hwm := ok_top hwok
 have HB1 : Hid ((decide (w.tv.k = 3) || decide (w.tv.k = 4)) = false → headBad w.tv = true) := head_call hwm
 have HB2' : Hid (∀ r, resB w.tv.s.toList (w.tv.len : Int) = r → (decide (w.tv.k = 3) || decide (w.tv.k = 4)) = true → headBad w.tv = r) := head_res
 obtain ⟨b, hbv, hbc, hbb, hTw0⟩ := twain_true (lo := W.heap.size + 2) hw5 (fun q hq => (hlh q hq).1) (((hoN.below hb4).below hb5).wh.rows hw5.wl)
 have hbl : blks b = [] := blks_leaf (by rw [hbc]; rfl)
 have HMK : Hid (makeC t = if headBad w.tv = true then none else (bodyC b).map fun c => (code w, c)) := by
  show _ = _
  rw [HMK0.out, hbb]
  rfl
 have hlt0 : W3.heap.size + 1 = V4.heap.size ∧ V4.heap.size ∉ blks w ∧ V4.heap.size ∉ blks b := ⟨hs4.symm, (fun hq => by have := (hlh _ hq).2; omega), (by rw [hbl]; simp)⟩
 rw [← hbv] at hcb
 have PK := hide (And.intro hTw0 (And.intro hcb (And.intro hzb0 (And.intro hbV0 (And.intro hlt0 (And.intro hlo hs5))))))
 clear hTw0 hcb hzb0 hbV0 hlt0 hlo hs5 HZ HB2 HS HMK0 hbx hbx5 hb4 hb5 hb3 hoT hoN hoc hic hib hw5 hlh hbl hbb hbc HI HWL HOK hs4 hbv hwm hwok
 go_wp2_with fail
 try rw [hV4]
 refine i1.mono ?_
 clear i1 x0 x1 x2 x3 v0 v1 v2 v3 hV4
 rintro e V ⟨rfl, g0⟩
 rw [HV5.out] at g0
 clear HV5
 obtain ⟨p1, p2, p3, p4, p5, p6, p7⟩ := unhide PK
 have hTw := p1.below g0
 have hcb := p2.below g0 p2.lt
 have hzb := p3.below g0 p3.lt
 have hbV := p4.trans (g0.mono p4.size)
 have hsV := g0.size
 obtain ⟨B, hBe⟩ : ∃ B, V4.heap.size = B := ⟨_, rfl⟩
 rw [hBe] at hcb p5
 try rw [hBe]
 have hlt : W.heap.size + 2 < B ∧ B ∉ blks w ∧ B ∉ blks b := ⟨by omega, p5.2.1, p5.2.2⟩
 have HB2 := HB2'
 obtain ⟨h, hhw⟩ : ∃ h, h = w := ⟨_, rfl⟩
 subst hhw
 clear PK p1 p2 p3 p4 p5 p6 p7 g0 HB2' hBe hsV
 have HTW := hide hTw
 have HCB := hide hcb
 have HZB := hide hzb
 have HBV := hide hbV
 have HLT := hide hlt
 obtain ⟨⟨a0, a1, a2, a3⟩, a4, a5, a6, a7⟩ := hcb.cs
 have hcl := isCallable_any h.tv
 have hrs := isReserved_any h.tv
 clear hTw hcb hzb hbV hlt
 simp only [TV.val] at hcl hrs
 cases hcq : (decide (h.tv.k = 3) || decide (h.tv.k = 4)) with
 | false =>
  have hbad : headBad h.tv = true := HB1.out hcq
  rw [hcq] at hcl
  clear hcq HB1 HB2 hrs
  go_wp2_with fail
  refine (hcl _).mono ?_
  clear hcl a0 a1 a2 a3 a4 a5 a6 a7
  rintro e V1 ⟨rfl, g1⟩
  have hz := (unhide HZB).below g1 (unhide HZB).lt
  obtain ⟨⟨z0, z1, z2, z3⟩, z4, z5, z6, z7⟩ := hz.cs
  obtain ⟨y0, y1, y2, y3, y4, y5, y6, y7⟩ := hz.fs
  have HF : Hid (Below W.heap.size W (set8 V1 (W.heap.size + 1) noTerm noTerm)) := set8_below ((unhide HBV).trans (g1.mono (unhide HBV).size)) (by omega) _ _
  have HBAD := hide hbad
  clear hz g1 HZB HBV HTW HCB HLT hbad
  go_wp2_with fail
  exact bodyPost_ret (v := .tuple #[clV noTerm noTerm, .int .i64 7]) (by simp [results, Tryz.results7, go_sem, clV, noTerm, z0, z1, z2, z3, z4, z5, z6, z7]) rfl ⟨by rw [HMK.out, if_pos (unhide HBAD)]; exact ⟨noTerm, noTerm, rfl, rfl, rfl⟩, HF.out⟩
 | true =>
  rw [hcq] at hcl
  cases hrq : resB h.tv.s.toList (h.tv.len : Int) with
  | true =>
   have hbad : headBad h.tv = true := HB2.out true hrq hcq
   rw [hrq] at hrs
   clear hcq hrq HB1 HB2
   go_wp2_with fail
   refine (hcl _).mono ?_
   clear hcl a0 a1 a2 a3 a4 a5 a6 a7
   rintro e V1 ⟨rfl, g1⟩
   have hcb1 := (unhide HCB).below g1 (unhide HCB).lt
   obtain ⟨⟨a0, a1, a2, a3⟩, a4, a5, a6, a7⟩ := hcb1.cs
   clear hcb1
   go_wp2_with fail
   refine (hrs _).mono ?_
   clear hrs a0 a1 a2 a3 a4 a5 a6 a7
   rintro e V2 ⟨rfl, g2⟩
   replace g1 := g1.trans (g2.mono g1.size)
   have hz := (unhide HZB).below g1 (unhide HZB).lt
   obtain ⟨⟨z0, z1, z2, z3⟩, z4, z5, z6, z7⟩ := hz.cs
   obtain ⟨y0, y1, y2, y3, y4, y5, y6, y7⟩ := hz.fs
   have HF : Hid (Below W.heap.size W (set8 V2 (W.heap.size + 1) noTerm noTerm)) := set8_below ((unhide HBV).trans (g1.mono (unhide HBV).size)) (by omega) _ _
   have HBAD := hide hbad
   clear hz g1 g2 HZB HBV HTW HCB HLT hbad
   go_wp2_with fail
   exact bodyPost_ret (v := .tuple #[clV noTerm noTerm, .int .i64 7]) (by simp [results, Tryz.results7, go_sem, clV, noTerm, z0, z1, z2, z3, z4, z5, z6, z7]) rfl ⟨by rw [HMK.out, if_pos (unhide HBAD)]; exact ⟨noTerm, noTerm, rfl, rfl, rfl⟩, HF.out⟩
  | false =>
   have hbad : headBad h.tv = false := HB2.out false hrq hcq
   rw [hrq] at hrs
   clear hcq hrq HB1 HB2
   have HBAD := hide hbad
   clear hbad
   go_wp2_with fail
   refine (hcl _).mono ?_
   clear hcl a0 a1 a2 a3 a4 a5 a6 a7
   rintro e V1 ⟨rfl, g1⟩
   have hcb1 := (unhide HCB).below g1 (unhide HCB).lt
   obtain ⟨⟨a0, a1, a2, a3⟩, a4, a5, a6, a7⟩ := hcb1.cs
   clear hcb1
   go_wp2_with fail
   refine (hrs _).mono ?_
   clear hrs a0 a1 a2 a3 a4 a5 a6 a7
   rintro e V2 ⟨rfl, g2⟩
   replace g1 := g1.trans (g2.mono g1.size)
   clear g2
   have hcb2 := (unhide HCB).below g1 (unhide HCB).lt
   have htw2 := (unhide HTW).below g1
   have hltB := (unhide HLT)
   have hmb := makeBody_any _ b B 4 V2 htw2.okb ⟨hcb2.cs.2.1, hcb2.cs.2.2.1, hcb2.cs.2.2.2.1, hcb2.cs.2.2.2.2⟩ ⟨_, _, hcb2, by simp⟩ htw2.tb htw2.rb htw2.ab (hltB.2.2)
   have HG1 := hide g1
   have HTW2 := hide htw2
   have HCB2 := hide hcb2
   clear g1 htw2 hcb2 hltB
   generalize hrb : bodyC b = rb at hmb HMK
   clear hrb
   go_wp2_with fail
   refine hmb.mono ?_
   clear hmb
   rintro e V3 ⟨rfl, hm3⟩
   obtain ⟨ht3, hs3⟩ := hm3
   have hs := ht3.gr.size
   have hsz2 := (unhide HBV).size
   have hsz3 := (unhide HG1).size
   have hzl := (unhide HZB).lt
   have hlt := unhide HLT
   have hlb := (unhide HTW2).lb
   have hBW : Below W.heap.size W V3 := ((unhide HBV).trans ((unhide HG1).mono (unhide HBV).size)).trans (ht3.gr.below (n₀ := W.heap.size) (fun k hk => by
    rcases hk with rfl | hk
    ·omega
    ·have := hlb k hk; omega) (by omega))
   have hz3 : BoxC V3 (W.heap.size + 1) noTerm noTerm := (ht3.gr.block (W.heap.size + 1) (by omega) (by
    rintro (hq | hq)
    ·omega
    ·have := hlb _ hq; omega)).trans ((unhide HZB).below (unhide HG1) hzl)
   obtain ⟨⟨z0, z1, z2, z3⟩, z4, z5, z6, z7⟩ := hz3.cs
   obtain ⟨y0, y1, y2, y3, y4, y5, y6, y7⟩ := hz3.fs
   cases rb with
   | none =>
    have HF : Hid (Below W.heap.size W (set8 V3 (W.heap.size + 1) noTerm noTerm)) := set8_below hBW (by omega) _ _
    clear hz3 hBW ht3 hs3 hs hsz2 hsz3 hzl hlb hlt HZB HBV HTW HCB HLT HG1 HTW2 HCB2
    simp only [Option.isSome_none]
    go_wp2_with fail
    exact bodyPost_ret (v := .tuple #[clV noTerm noTerm, .int .i64 7]) (by simp [results, Tryz.results7, go_sem, clV, noTerm, z0, z1, z2, z3, z4, z5, z6, z7]) rfl ⟨by rw [HMK.out, if_neg (by rw [unhide HBAD]; simp)]; exact ⟨noTerm, noTerm, rfl, rfl, rfl⟩, HF.out⟩
   | some c =>
    obtain ⟨y, hy, hyS⟩ := stands_holds (lo := W.heap.size + 2) (hs3 c rfl) hlb (by omega)
    obtain ⟨c4, c5, c6, c7⟩ := hy
    have hc0 := ht3.cell (q := 0) (unhide HCB2) (.inl (by omega))
    have hc1 := ht3.cell (q := 1) (unhide HCB2) (.inl (by omega))
    have hc2 := ht3.cell (q := 2) (unhide HCB2) (.inl (by omega))
    have hc3 := ht3.cell (q := 3) (unhide HCB2) (.inl (by omega))
    rw [(unhide HCB2).cs.1.1] at hc0
    rw [(unhide HCB2).cs.1.2.1] at hc1
    rw [(unhide HCB2).cs.1.2.2.1] at hc2
    rw [(unhide HCB2).cs.1.2.2.2] at hc3
    have hhk : ∀ q ∈ blks h, V3.heap[q]? = V2.heap[q]? := fun q hq => ht3.gr.block q ((unhide HTW2).th.blks_lt q hq) (by
     rintro (rfl | hq')
     ·exact hlt.2.1 hq
     ·exact (unhide HTW2).dis q hq hq')
    have hhT : IsT V3.heap.size V3 h := (unhide HTW2).th.keptL hs hhk
    have hhS : HoldsL (n + 2) (W.heap.size + 2 ≤ ·) V3 h.tv.val (code h) := holdsL_of hhT (blk_of hhT (unhide HTW2).lh) ((unhide HTW2).rh.kept hhk)
    have HF : Hid (Below W.heap.size W (set8 V3 (W.heap.size + 1) h.tv y) ∧ HoldsL (n + 3) (W.heap.size ≤ ·) (set8 V3 (W.heap.size + 1) h.tv y) h.tv.val (code h) ∧ HoldsL (n + 3) (W.heap.size ≤ ·) (set8 V3 (W.heap.size + 1) h.tv y) y.val c) :=
     ⟨set8_below hBW (by omega) _ _, (holdsL_set4 (holdsL_set4 hhS (by omega) 0 _) (by omega) 4 _).mono (by omega) (fun k hk => by have : W.heap.size + 2 ≤ k := hk; show W.heap.size ≤ k; omega), (holdsL_set4 (holdsL_set4 hyS (by omega) 0 _) (by omega) 4 _).mono (by omega) (fun k hk => by have : W.heap.size + 2 ≤ k := hk; show W.heap.size ≤ k; omega)⟩
    clear hz3 hBW ht3 hs3 hs hsz2 hsz3 hzl hlb hlt HZB HBV HTW HCB HLT HG1 HTW2 HCB2 hhk hhT hhS hyS
    simp only [Option.isSome_some]
    go_wp2_with fail
    exact bodyPost_ret (v := .tuple #[clV h.tv y, .int .i64 0]) (by simp [results, Tryz.results7, go_sem, clV, z0, z1, z2, z3, z4, z5, z6, z7]) rfl ⟨by rw [HMK.out, if_neg (by rw [unhide HBAD]; simp)]; exact ⟨h.tv, y, rfl, HF.out.2.1, HF.out.2.2⟩, HF.out.1⟩
theorem bmake_rule {n : Nat} (t : Tm (n + 1)) (W : World) (hT : IsT W.heap.size W t) (hok : okT t = true) (hl : 2 * (code t).length ≤ 4194304) (hi : isB t.tv [58, 45] 2 = true) (hn40 : n ≤ 549755813888 := by omega) :
  Calls Tryz.prog 7 #[t.tv.val] W fun e W' => MkSays (n + 3) W.heap.size (makeC t) e W' ∧ Below W.heap.size W W' := by
 obtain ⟨W2, hW2, hb2, hs2, hbt, hbz⟩ := box_mk W t.tv
 have ha := rename_full t 0 W2 ((hT.below hb2).mono hb2.size) hok
 have hst : (stepsN stpN [] (code t)).length ≤ (code t).length := by
  have := varsC_len [] (code t)
  simpa using this
 have c0 := hbt.c0
 have c1 := hbt.c1
 have c2 := hbt.c2
 have c3 := hbt.c3
 have HB2 := hide hb2
 have HZ := hide hbz
 have HS := hide hs2
 have HWL : Hid (Wl t) := hT.wl
 have HOK : Hid (okT t = true) := hok
 have HST := hide (And.intro hst hl)
 have HI : Hid (isB t.tv [58, 45] 2 = _) := hi
 clear hT hok hb2 hbz hbt hs2 hst hl hi
 simp only [TV.val] at ha ⊢
 go_enter Tryz.func7, Tryz.ntmps7
 go_wp2_with fail
 try rw [hW2]
 refine ha.mono ?_
 clear ha hW2 c0 c1 c2 c3
 rintro e W3 ⟨x, k, r, rfl, hb3, hren⟩
 have hren' : r = 0 ∧ HoldsT (n + 2) (W.heap.size + 2) W3 x.val (canon 0 (code t)) := by
  have h1 := (unhide HST).1
  have h2 := (unhide HST).2
  rcases hren with ⟨_, _, _, h, _, hh⟩ | ⟨_, _, h, _⟩ | ⟨h, _⟩
  ·rw [unhide HS] at hh
   exact ⟨h, hh⟩
  ·omega
  ·omega
 clear hren HST
 obtain ⟨rfl, hx⟩ := hren'
 obtain ⟨w, ho, hoT', hoN, hoc⟩ := hx _ (Nat.le_refl _)
 have hoT := hoT' (by omega)
 clear hoT'
 obtain rfl := tv_inj ho
 clear hx ho
 have hib := isB_ren _ HWL.out HOK.out (by rw [hoc, canon_renC]) [58, 45] 2
 have hwok : okT w = true := by
  rw [okT_m, hoc]
  exact canon_ok HOK.out
 have hic := isC_isB (ok_top hwok) [58, 45]
 rw [hib, HI.out] at hic
 obtain ⟨h, b, hkd, hmk⟩ := make_rule HWL.out HOK.out hoT.wl hoc HI.out
 have HMK : Hid (makeC t = if headBad h.tv = true then none else (bodyC b).map fun c => (code h, c)) := hmk
 clear hmk
 obtain ⟨x, kids⟩ := w
 simp only [Tm.kids] at hkd
 subst hkd
 have hkk := ok_kids hwok
 have okh := hkk.2 h (by simp)
 have okb := hkk.2 b (by simp)
 have hxl : x.len = 2 := by
  have := hoT.1
  simpa [Tm.tv, Tm.kids] using this
 obtain ⟨A, hP0⟩ : ∃ A, x.a = some ⟨A, 0, none⟩ ∧ A < W3.heap.size ∧ cellsAt W3 A 0 h.tv ∧ cellsAt W3 A 4 b.tv ∧ IsT W3.heap.size W3 h ∧ IsT W3.heap.size W3 b ∧ blks (n := n + 2) ((x, [h, b]) : TV × List (Tm (n + 1))) = A :: (blks h ++ blks b) := by
  have r := hoN.wh.rows hoT.wl
  obtain ⟨_, _, _, h4⟩ := hoT
  obtain ⟨r1, r2⟩ := r
  simp only [Tm.tv, Tm.kids] at h4 r1 r2
  rcases r1 with r1 | ⟨A, arr, ha, hA, hz⟩
  ·cases r1.1
  ·rcases h4 with h4 | ⟨b', off, ha', _, hk⟩
   ·cases h4
   ·rw [ha] at ha'
    simp at ha'
    obtain ⟨rfl, rfl⟩ := ha'
    obtain ⟨cu, tu⟩ := hk 0 h rfl
    obtain ⟨cv, tv⟩ := hk 1 b rfl
    have cu' : cellsAt W3 A (0 + 0 * 4) h.tv := cu
    have cv' : cellsAt W3 A (0 + 1 * 4) b.tv := cv
    refine ⟨A, ha, (Array.getElem?_eq_some_iff.1 hA).1, by simpa using cu', by simpa using cv', tu, tv, ?_⟩
    rw [blks_succ, if_neg (by simp), ha]
    simp
 obtain ⟨hxa, hA3, hcu, hcv, htu, htv, hbe⟩ := hP0
 have hap := hoN.ap
 have hin := fun q hq => hoN.wh.blks_in q hq
 have hwr := hoN.wh.rows hoT.wl
 have hrb : Rows W3 b := hwr.2 b (by simp [Tm.kids])
 have hap' : (A :: (blks h ++ blks b)).Nodup := hbe ▸ hap
 have hin' : ∀ q ∈ A :: (blks h ++ blks b), W.heap.size + 2 ≤ q ∧ q < W3.heap.size := fun q hq => by
  have := hin q (hbe ▸ hq)
  exact ⟨this.1, this.2.1⟩
 rw [List.nodup_cons, List.nodup_append] at hap'
 have hTw3 : Twain (W.heap.size + 2) W3 h b := ⟨okb, htu, htv, hrb, hap'.2.2.1, (fun q hq => (hin' q (by simp [hq])).1), (fun q hq => (hin' q (by simp [hq])).1), (fun q hq hq' => hap'.2.2.2 q hq q hq' rfl), hwr.2 h (by simp [Tm.kids])⟩
 have hwm : wmB h.tv.k h.tv.N h.tv.s h.tv.len = true := by
  cases n with
  | zero => exact ok_top okh
  | succ n => exact ok_top okh
 have HB1 : Hid ((decide (h.tv.k = 3) || decide (h.tv.k = 4)) = false → headBad h.tv = true) := head_call hwm
 have HB2' : Hid (∀ r, resB h.tv.s.toList (h.tv.len : Int) = r → (decide (h.tv.k = 3) || decide (h.tv.k = 4)) = true → headBad h.tv = r) := head_res
 have hic' : isC x [58, 45] = true := hic
 obtain ⟨xk, xN, xs, xa, xlen, xcap⟩ := x
 simp only at hxl hxa
 subst hxl hxa
 simp only [Tm.tv]
 have hb4 : Below W3.heap.size W3 (W3.alloc (.cells #[.int .i64 xk, .int .i64 xN, .string xs, .slice (some ⟨A, 0, none⟩) 2 xcap] 24)) := (Below.refl _ W3).alloc (Nat.le_refl _) _
 have hbx := BoxT.new W3 (⟨xk, xN, xs, some ⟨A, 0, none⟩, 2, xcap⟩ : TV)
 obtain ⟨V4, hV4⟩ : ∃ V4, W3.alloc (.cells #[.int .i64 xk, .int .i64 xN, .string xs, .slice (some ⟨A, 0, none⟩) 2 xcap] 24) = V4 := ⟨_, rfl⟩
 have hs4 : V4.heap.size = W3.heap.size + 1 := by rw [← hV4]; simp
 simp only at hbx
 rw [hV4] at hb4 hbx
 have hb5 : Below V4.heap.size V4 (V4.alloc (.cells #[.int .i64 xk, .int .i64 xN, .string xs, .slice (some ⟨A, 0, none⟩) 2 xcap, .int .i64 3, .int .i64 0, .string ⟨#[116, 114, 117, 101]⟩, .slice none 0 0] 30)) := (Below.refl _ V4).alloc (Nat.le_refl _) _
 have hcb : BoxC (V4.alloc (.cells #[.int .i64 xk, .int .i64 xN, .string xs, .slice (some ⟨A, 0, none⟩) 2 xcap, .int .i64 3, .int .i64 0, .string ⟨#[116, 114, 117, 101]⟩, .slice none 0 0] 30)) V4.heap.size ⟨xk, xN, xs, some ⟨A, 0, none⟩, 2, xcap⟩ (atomV ⟨#[116, 114, 117, 101]⟩) := BoxC.new V4 ⟨xk, xN, xs, some ⟨A, 0, none⟩, 2, xcap⟩ (atomV ⟨#[116, 114, 117, 101]⟩)
 have hbx5 : BoxT (V4.alloc (.cells #[.int .i64 xk, .int .i64 xN, .string xs, .slice (some ⟨A, 0, none⟩) 2 xcap, .int .i64 3, .int .i64 0, .string ⟨#[116, 114, 117, 101]⟩, .slice none 0 0] 30)) W3.heap.size ⟨xk, xN, xs, some ⟨A, 0, none⟩, 2, xcap⟩ := hbx.below hb5 hbx.lt
 have v0 := hbx5.c0
 have v1 := hbx5.c1
 have v2 := hbx5.c2
 have v3 := hbx5.c3
 have i1 := isOfTwo_any (⟨xk, xN, xs, some ⟨A, 0, none⟩, 2, xcap⟩ : TV) ⟨#[58, 45]⟩ (V4.alloc (.cells #[.int .i64 xk, .int .i64 xN, .string xs, .slice (some ⟨A, 0, none⟩) 2 xcap, .int .i64 3, .int .i64 0, .string ⟨#[116, 114, 117, 101]⟩, .slice none 0 0] 30))
 rw [colonL, hic'] at i1
 simp only [TV.val] at i1
 have x0 := hbx.c0
 have x1 := hbx.c1
 have x2 := hbx.c2
 have x3 := hbx.c3
 simp only at v0 v1 v2 v3 x0 x1 x2 x3
 obtain ⟨V5, HV5⟩ : ∃ V5, Hid (V4.alloc (.cells #[.int .i64 xk, .int .i64 xN, .string xs, .slice (some ⟨A, 0, none⟩) 2 xcap, .int .i64 3, .int .i64 0, .string ⟨#[116, 114, 117, 101]⟩, .slice none 0 0] 30) = V5) := ⟨_, rfl⟩
 rw [HV5.out] at hb5 hcb hbx5
 have hzb0 : BoxC V5 (W.heap.size + 1) noTerm noTerm := (((unhide HZ).below hb3 (by have := unhide HS; omega)).below hb4 (by have := hb3.size; have := unhide HS; omega)).below hb5 (by have := hb3.size; have := unhide HS; omega)
 have hbV0 : Below W.heap.size W V5 := (((unhide HB2).trans (hb3.mono (unhide HB2).size)).trans (hb4.mono (by have := (unhide HB2).size; have := hb3.size; omega))).trans (hb5.mono (by have := (unhide HB2).size; have := hb3.size; omega))
 have hlo : W.heap.size + 2 ≤ W3.heap.size := by have := hb3.size; have := unhide HS; omega
 have hs5 := hb5.size
 have hTw0 : Twain (W.heap.size + 2) V5 h b := (hTw3.below hb4).below hb5
 have hlt0 : W3.heap.size + 1 = V4.heap.size ∧ V4.heap.size ∉ blks h ∧ V4.heap.size ∉ blks b := ⟨hs4.symm, (fun hq => by have := (hin' V4.heap.size (by simp [hq])).2; omega), (fun hq => by have := (hin' V4.heap.size (by simp [hq])).2; omega)⟩
 have hcu5 : cellsAt V5 A 0 h.tv := (hcu.kept (hb4.block A hA3)).kept (hb5.block A (by omega))
 have hcv5 : cellsAt V5 A 4 b.tv := (hcv.kept (hb4.block A hA3)).kept (hb5.block A (by omega))
 have PK := hide (And.intro hTw0 (And.intro hcb (And.intro hzb0 (And.intro hbV0 (And.intro hlt0 (And.intro hlo (And.intro hs5 (And.intro hbx5 (And.intro hcu5 (And.intro hcv5 hA3))))))))))
 clear hTw0 hcb hzb0 hbV0 hlt0 hlo hs5 HZ HB2 HS hbx hbx5 hb4 hb5 hb3 hoT hoN hoc hic hib HI HWL HOK hs4 hwm hwok hcu5 hcv5 hic' hkk okh okb hcu hcv htu htv hbe hap hin hrb hap' hin' hTw3 hA3 hwr
 go_wp2_with fail
 try rw [hV4]
 refine i1.mono ?_
 clear i1 x0 x1 x2 x3 v0 v1 v2 v3 hV4
 rintro e V6 ⟨rfl, g0⟩
 rw [HV5.out] at g0
 clear HV5
 obtain ⟨p1, p2, p3, p4, p5, p6, p7, p8, p9, p10, p11⟩ := unhide PK
 have hsV := g0.size
 obtain ⟨B, hBe⟩ : ∃ B, V4.heap.size = B := ⟨_, rfl⟩
 have q2 := p2.below g0 p2.lt
 rw [hBe] at q2 p5
 try rw [hBe]
 have q8 := p8.below g0 p8.lt
 have q9 := p9.kept (g0.block A (by omega))
 have q10 := p10.kept (g0.block A (by omega))
 obtain ⟨v0, v1, v2, v3⟩ := And.intro q8.c0 (And.intro q8.c1 (And.intro q8.c2 q8.c3))
 obtain ⟨u0, u1, u2, u3⟩ := q9
 obtain ⟨u4, u5, u6, u7⟩ := q10
 obtain ⟨⟨a0, a1, a2, a3⟩, a4, a5, a6, a7⟩ := q2.cs
 obtain ⟨f0, f1, f2, f3, f4, f5, f6, f7⟩ := q2.fs
 have hTw6 := p1.below g0
 have hTw7 : Twain (W.heap.size + 2) (set8 V6 B h.tv b.tv) h b := hTw6.kept (by rw [set8_size]; exact Nat.le_refl _) (fun q hq => set8_other V6 B _ _ (fun e => p5.2.1 (e ▸ hq))) (fun q hq => set8_other V6 B _ _ (fun e => p5.2.2 (e ▸ hq)))
 have hTw := hTw7.drew
 have hcb := (boxC_set8 q2 h.tv b.tv).drew
 have hzb7 : BoxC (set8 V6 B h.tv b.tv) (W.heap.size + 1) noTerm noTerm := (set8_other V6 B _ _ (by omega)).trans (p3.below g0 p3.lt)
 have hzb := hzb7.drew
 have hbV : Below W.heap.size W (set8 V6 B h.tv b.tv).drew := (set8_below (p4.trans (g0.mono p4.size)) (b := B) (by omega) h.tv b.tv).drew
 have hlt : W.heap.size + 2 < B ∧ B ∉ blks h ∧ B ∉ blks b := ⟨by omega, p5.2.1, p5.2.2⟩
 have HB2 := HB2'
 have KEEP : V6.cell? ⟨W3.heap.size, 3, none⟩ = some (.slice (some ⟨A, 0, none⟩) 2 xcap) ∧ V6.cell? ⟨A, 0, none⟩ = some (.int .i64 h.tv.k) ∧ V6.cell? ⟨A, 1, none⟩ = some (.int .i64 h.tv.N) ∧ V6.cell? ⟨A, 2, none⟩ = some (.string h.tv.s) ∧ V6.cell? ⟨A, 3, none⟩ = some (.slice h.tv.a h.tv.len h.tv.cap) ∧ V6.cell? ⟨A, 4, none⟩ = some (.int .i64 b.tv.k) ∧ V6.cell? ⟨A, 5, none⟩ = some (.int .i64 b.tv.N) ∧ V6.cell? ⟨A, 6, none⟩ = some (.string b.tv.s) ∧ V6.cell? ⟨A, 7, none⟩ = some (.slice b.tv.a b.tv.len b.tv.cap) := ⟨v3, u0, u1, u2, u3, u4, u5, u6, u7⟩
 have hA6 : A ≠ B := by omega
 have hW6 : W3.heap.size ≠ B := by omega
 have QK := hide (And.intro hTw (And.intro hcb (And.intro hzb (And.intro hbV hlt))))
 clear PK p1 p2 p3 p4 p5 p6 p7 p8 p9 p10 p11 g0 HB2' hBe hsV hTw6 hTw7 hzb7 hTw hcb hzb hbV hlt q2 q8 v0 v1 v2
 go_wp2_with fail
 refine wp_region_noPanic ?_
 refine wp_region_held_drew (S := (fun w' => w'.cell? ⟨W3.heap.size, 3, none⟩ = some (.slice (some ⟨A, 0, none⟩) 2 xcap) ∧ w'.cell? ⟨A, 0, none⟩ = some (.int .i64 h.tv.k) ∧ w'.cell? ⟨A, 1, none⟩ = some (.int .i64 h.tv.N) ∧ w'.cell? ⟨A, 2, none⟩ = some (.string h.tv.s) ∧ w'.cell? ⟨A, 3, none⟩ = some (.slice h.tv.a h.tv.len h.tv.cap) ∧ w'.cell? ⟨A, 4, none⟩ = some (.int .i64 b.tv.k) ∧ w'.cell? ⟨A, 5, none⟩ = some (.int .i64 b.tv.N) ∧ w'.cell? ⟨A, 6, none⟩ = some (.string b.tv.s) ∧ w'.cell? ⟨A, 7, none⟩ = some (.slice b.tv.a b.tv.len b.tv.cap))) (by kernel_rfl) ?_ (fun hHeld => ?_)
 ·exact KEEP
 refine wpAnyH_take (i := 0) (oi := { dst := some 23, op := Op.fieldAddr 24 (Operand.tmp 4) 3, type := 0, pos := "clause.go:71", after := #[], guard := none }) (v := ?_) rfl (by kernel_rfl) (by kernel_rfl) (by kernel_rfl) (fun _ _ _ h => h) (Or.inl ⟨by rfl, ?_⟩) hHeld ?_
 rotate_left
 ·(intro w' hSw; (try dsimp only at hSw); go_simp; try with_reducible rfl)
 try simp only [Act.put, List.setIfInBounds_toArray, List.set_cons_zero, List.set_cons_succ]
 refine wpAnyH_take (i := 1) (oi := { dst := some 24, op := Op.load 22 (Operand.tmp 23), type := 22, pos := "clause.go:71", after := #[{ on := 0, ground := Ground.data }], guard := none }) (v := ?_) rfl (by kernel_rfl) (by kernel_rfl) (by kernel_rfl) (fun _ _ _ h => h) (Or.inl ⟨by rfl, ?_⟩) hHeld ?_
 rotate_left
 ·(intro w' hSw; (try dsimp only at hSw); go_simp; try with_reducible rfl)
 try simp only [Act.put, List.setIfInBounds_toArray, List.set_cons_zero, List.set_cons_succ]
 refine wpAnyH_take (i := 2) (oi := { dst := some 25, op := Op.indexAddr 22 (Operand.tmp 24) (Operand.const (Value.int IntKind.i64 0)), type := 0, pos := "clause.go:71", after := #[{ on := 1, ground := Ground.data }], guard := none }) (v := ?_) rfl (by kernel_rfl) (by kernel_rfl) (by kernel_rfl) (fun _ _ _ h => h) (Or.inl ⟨by rfl, ?_⟩) hHeld ?_
 rotate_left
 ·(intro w' hSw; (try dsimp only at hSw); go_simp; try with_reducible rfl)
 try simp only [Act.put, List.setIfInBounds_toArray, List.set_cons_zero, List.set_cons_succ]
 refine wpAnyH_take (i := 3) (oi := { dst := some 26, op := Op.load 24 (Operand.tmp 25), type := 24, pos := "clause.go:71", after := #[{ on := 2, ground := Ground.data }], guard := none }) (v := ?_) rfl (by kernel_rfl) (by kernel_rfl) (by kernel_rfl) (fun _ _ _ h => h) (Or.inl ⟨by rfl, ?_⟩) hHeld ?_
 rotate_left
 ·(intro w' hSw; (try dsimp only at hSw); go_simp; try with_reducible rfl)
 try simp only [Act.put, List.setIfInBounds_toArray, List.set_cons_zero, List.set_cons_succ]
 refine wpAnyH_take (i := 4) (oi := { dst := some 27, op := Op.fieldAddr 24 (Operand.tmp 4) 3, type := 0, pos := "clause.go:71", after := #[], guard := none }) (v := ?_) rfl (by kernel_rfl) (by kernel_rfl) (by kernel_rfl) (fun _ _ _ h => h) (Or.inl ⟨by rfl, ?_⟩) hHeld ?_
 rotate_left
 ·(intro w' hSw; (try dsimp only at hSw); go_simp; try with_reducible rfl)
 try simp only [Act.put, List.setIfInBounds_toArray, List.set_cons_zero, List.set_cons_succ]
 refine wpAnyH_take (i := 5) (oi := { dst := some 28, op := Op.load 22 (Operand.tmp 27), type := 22, pos := "clause.go:71", after := #[{ on := 4, ground := Ground.data }], guard := none }) (v := ?_) rfl (by kernel_rfl) (by kernel_rfl) (by kernel_rfl) (fun _ _ _ h => h) (Or.inl ⟨by rfl, ?_⟩) hHeld ?_
 rotate_left
 ·(intro w' hSw; (try dsimp only at hSw); go_simp; try with_reducible rfl)
 try simp only [Act.put, List.setIfInBounds_toArray, List.set_cons_zero, List.set_cons_succ]
 refine wpAnyH_take (i := 6) (oi := { dst := some 29, op := Op.indexAddr 22 (Operand.tmp 28) (Operand.const (Value.int IntKind.i64 1)), type := 0, pos := "clause.go:71", after := #[{ on := 5, ground := Ground.data }], guard := none }) (v := ?_) rfl (by kernel_rfl) (by kernel_rfl) (by kernel_rfl) (fun _ _ _ h => h) (Or.inl ⟨by rfl, ?_⟩) hHeld ?_
 rotate_left
 ·(intro w' hSw; (try dsimp only at hSw); go_simp; try with_reducible rfl)
 try simp only [Act.put, List.setIfInBounds_toArray, List.set_cons_zero, List.set_cons_succ]
 refine wpAnyH_take (i := 7) (oi := { dst := some 30, op := Op.load 24 (Operand.tmp 29), type := 24, pos := "clause.go:71", after := #[{ on := 6, ground := Ground.data }], guard := none }) (v := ?_) rfl (by kernel_rfl) (by kernel_rfl) (by kernel_rfl) (fun _ _ _ h => h) (Or.inl ⟨by rfl, ?_⟩) hHeld ?_
 rotate_left
 ·(intro w' hSw; (try dsimp only at hSw); go_simp; try with_reducible rfl)
 try simp only [Act.put, List.setIfInBounds_toArray, List.set_cons_zero, List.set_cons_succ]
 refine wpAnyH_take (i := 8) (oi := { dst := some 31, op := Op.build 30 #[(0, Operand.tmp 26), (1, Operand.tmp 30)], type := 30, pos := "clause.go:71", after := #[{ on := 3, ground := Ground.data }, { on := 7, ground := Ground.data }], guard := none }) (v := ?_) rfl (by kernel_rfl) (by kernel_rfl) (by kernel_rfl) (fun _ _ _ h => h) (Or.inl ⟨by rfl, ?_⟩) hHeld ?_
 rotate_left
 ·(intro w' hSw; (try dsimp only at hSw); go_simp; try with_reducible rfl)
 try simp only [Act.put, List.setIfInBounds_toArray, List.set_cons_zero, List.set_cons_succ]
 refine wpAnyH_ready (rs := [9]) (by kernel_rfl) (by simp) ?_
 refine AllReadyH.cons (o := { dst := none, op := Op.store 30 (Operand.tmp 7) (Operand.tmp 31), type := 0, pos := "clause.go:71", after := #[{ on := 8, ground := Ground.data }, { on := 0, ground := Ground.phase }, { on := 1, ground := Ground.phase }, { on := 2, ground := Ground.phase }, { on := 3, ground := Ground.phase }, { on := 4, ground := Ground.phase }, { on := 5, ground := Ground.phase }, { on := 6, ground := Ground.phase }, { on := 7, ground := Ground.phase }, { on := 8, ground := Ground.phase }], guard := none }) rfl (fun K hK => ?_) AllReadyH.nil
 have hHold := hHeld
 clear hHeld
 go_simp
 refine hK.out _ _ ?_ (fun hHeld => ?_)
 ·((try dsimp only); exact ⟨(far8 _ B _ _ _ hW6).trans KEEP.1, (far8 _ B _ _ _ hA6).trans KEEP.2.1, (far8 _ B _ _ _ hA6).trans KEEP.2.2.1, (far8 _ B _ _ _ hA6).trans KEEP.2.2.2.1, (far8 _ B _ _ _ hA6).trans KEEP.2.2.2.2.1, (far8 _ B _ _ _ hA6).trans KEEP.2.2.2.2.2.1, (far8 _ B _ _ _ hA6).trans KEEP.2.2.2.2.2.2.1, (far8 _ B _ _ _ hA6).trans KEEP.2.2.2.2.2.2.2.1, (far8 _ B _ _ _ hA6).trans KEEP.2.2.2.2.2.2.2.2⟩)
 clear hK K hHold
 try simp only [Act.put, List.setIfInBounds_toArray, List.set_cons_zero, List.set_cons_succ]
 refine wpAnyH_done (by kernel_rfl) ?_ _
 refine NoPanic.normal ?_
 clear KEEP hHeld hA6 hW6
 rw [set8_nest]
 have QK2 := unhide QK
 clear QK
 generalize (set8 V6 B h.tv b.tv).drew = V at QK2 ⊢
 obtain ⟨hTw, hcb, hzb, hbV, hlt⟩ := QK2
 clear v3 u0 u1 u2 u3 u4 u5 u6 u7 a0 a1 a2 a3 a4 a5 a6 a7 f0 f1 f2 f3 f4 f5 f6 f7
 have HTW := hide hTw
 have HCB := hide hcb
 have HZB := hide hzb
 have HBV := hide hbV
 have HLT := hide hlt
 obtain ⟨⟨a0, a1, a2, a3⟩, a4, a5, a6, a7⟩ := hcb.cs
 have hcl := isCallable_any h.tv
 have hrs := isReserved_any h.tv
 clear hTw hcb hzb hbV hlt
 simp only [TV.val] at hcl hrs
 cases hcq : (decide (h.tv.k = 3) || decide (h.tv.k = 4)) with
 | false =>
  have hbad : headBad h.tv = true := HB1.out hcq
  rw [hcq] at hcl
  clear hcq HB1 HB2 hrs
  go_wp2_with fail
  refine (hcl _).mono ?_
  clear hcl a0 a1 a2 a3 a4 a5 a6 a7
  rintro e V1 ⟨rfl, g1⟩
  have hz := (unhide HZB).below g1 (unhide HZB).lt
  obtain ⟨⟨z0, z1, z2, z3⟩, z4, z5, z6, z7⟩ := hz.cs
  obtain ⟨y0, y1, y2, y3, y4, y5, y6, y7⟩ := hz.fs
  have HF : Hid (Below W.heap.size W (set8 V1 (W.heap.size + 1) noTerm noTerm)) := set8_below ((unhide HBV).trans (g1.mono (unhide HBV).size)) (by omega) _ _
  have HBAD := hide hbad
  clear hz g1 HZB HBV HTW HCB HLT hbad
  go_wp2_with fail
  exact bodyPost_ret (v := .tuple #[clV noTerm noTerm, .int .i64 7]) (by simp [results, Tryz.results7, go_sem, clV, noTerm, z0, z1, z2, z3, z4, z5, z6, z7]) rfl ⟨by rw [HMK.out, if_pos (unhide HBAD)]; exact ⟨noTerm, noTerm, rfl, rfl, rfl⟩, HF.out⟩
 | true =>
  rw [hcq] at hcl
  cases hrq : resB h.tv.s.toList (h.tv.len : Int) with
  | true =>
   have hbad : headBad h.tv = true := HB2.out true hrq hcq
   rw [hrq] at hrs
   clear hcq hrq HB1 HB2
   go_wp2_with fail
   refine (hcl _).mono ?_
   clear hcl a0 a1 a2 a3 a4 a5 a6 a7
   rintro e V1 ⟨rfl, g1⟩
   have hcb1 := (unhide HCB).below g1 (unhide HCB).lt
   obtain ⟨⟨a0, a1, a2, a3⟩, a4, a5, a6, a7⟩ := hcb1.cs
   clear hcb1
   go_wp2_with fail
   refine (hrs _).mono ?_
   clear hrs a0 a1 a2 a3 a4 a5 a6 a7
   rintro e V2 ⟨rfl, g2⟩
   replace g1 := g1.trans (g2.mono g1.size)
   have hz := (unhide HZB).below g1 (unhide HZB).lt
   obtain ⟨⟨z0, z1, z2, z3⟩, z4, z5, z6, z7⟩ := hz.cs
   obtain ⟨y0, y1, y2, y3, y4, y5, y6, y7⟩ := hz.fs
   have HF : Hid (Below W.heap.size W (set8 V2 (W.heap.size + 1) noTerm noTerm)) := set8_below ((unhide HBV).trans (g1.mono (unhide HBV).size)) (by omega) _ _
   have HBAD := hide hbad
   clear hz g1 g2 HZB HBV HTW HCB HLT hbad
   go_wp2_with fail
   exact bodyPost_ret (v := .tuple #[clV noTerm noTerm, .int .i64 7]) (by simp [results, Tryz.results7, go_sem, clV, noTerm, z0, z1, z2, z3, z4, z5, z6, z7]) rfl ⟨by rw [HMK.out, if_pos (unhide HBAD)]; exact ⟨noTerm, noTerm, rfl, rfl, rfl⟩, HF.out⟩
  | false =>
   have hbad : headBad h.tv = false := HB2.out false hrq hcq
   rw [hrq] at hrs
   clear hcq hrq HB1 HB2
   have HBAD := hide hbad
   clear hbad
   go_wp2_with fail
   refine (hcl _).mono ?_
   clear hcl a0 a1 a2 a3 a4 a5 a6 a7
   rintro e V1 ⟨rfl, g1⟩
   have hcb1 := (unhide HCB).below g1 (unhide HCB).lt
   obtain ⟨⟨a0, a1, a2, a3⟩, a4, a5, a6, a7⟩ := hcb1.cs
   clear hcb1
   go_wp2_with fail
   refine (hrs _).mono ?_
   clear hrs a0 a1 a2 a3 a4 a5 a6 a7
   rintro e V2 ⟨rfl, g2⟩
   replace g1 := g1.trans (g2.mono g1.size)
   clear g2
   have hcb2 := (unhide HCB).below g1 (unhide HCB).lt
   have htw2 := (unhide HTW).below g1
   have hltB := (unhide HLT)
   have hmb := makeBody_any _ b B 4 V2 htw2.okb ⟨hcb2.cs.2.1, hcb2.cs.2.2.1, hcb2.cs.2.2.2.1, hcb2.cs.2.2.2.2⟩ ⟨_, _, hcb2, by simp⟩ htw2.tb htw2.rb htw2.ab (hltB.2.2)
   have HG1 := hide g1
   have HTW2 := hide htw2
   have HCB2 := hide hcb2
   clear g1 htw2 hcb2 hltB
   generalize hrb : bodyC b = rb at hmb HMK
   clear hrb
   go_wp2_with fail
   refine hmb.mono ?_
   clear hmb
   rintro e V3 ⟨rfl, hm3⟩
   obtain ⟨ht3, hs3⟩ := hm3
   have hs := ht3.gr.size
   have hsz2 := (unhide HBV).size
   have hsz3 := (unhide HG1).size
   have hzl := (unhide HZB).lt
   have hlt := unhide HLT
   have hlb := (unhide HTW2).lb
   have hBW : Below W.heap.size W V3 := ((unhide HBV).trans ((unhide HG1).mono (unhide HBV).size)).trans (ht3.gr.below (n₀ := W.heap.size) (fun k hk => by
    rcases hk with rfl | hk
    ·omega
    ·have := hlb k hk; omega) (by omega))
   have hz3 : BoxC V3 (W.heap.size + 1) noTerm noTerm := (ht3.gr.block (W.heap.size + 1) (by omega) (by
    rintro (hq | hq)
    ·omega
    ·have := hlb _ hq; omega)).trans ((unhide HZB).below (unhide HG1) hzl)
   obtain ⟨⟨z0, z1, z2, z3⟩, z4, z5, z6, z7⟩ := hz3.cs
   obtain ⟨y0, y1, y2, y3, y4, y5, y6, y7⟩ := hz3.fs
   cases rb with
   | none =>
    have HF : Hid (Below W.heap.size W (set8 V3 (W.heap.size + 1) noTerm noTerm)) := set8_below hBW (by omega) _ _
    clear hz3 hBW ht3 hs3 hs hsz2 hsz3 hzl hlb hlt HZB HBV HTW HCB HLT HG1 HTW2 HCB2
    simp only [Option.isSome_none]
    go_wp2_with fail
    exact bodyPost_ret (v := .tuple #[clV noTerm noTerm, .int .i64 7]) (by simp [results, Tryz.results7, go_sem, clV, noTerm, z0, z1, z2, z3, z4, z5, z6, z7]) rfl ⟨by rw [HMK.out, if_neg (by rw [unhide HBAD]; simp)]; exact ⟨noTerm, noTerm, rfl, rfl, rfl⟩, HF.out⟩
   | some c =>
    obtain ⟨y, hy, hyS⟩ := stands_holds (lo := W.heap.size + 2) (hs3 c rfl) hlb (by omega)
    obtain ⟨c4, c5, c6, c7⟩ := hy
    have hc0 := ht3.cell (q := 0) (unhide HCB2) (.inl (by omega))
    have hc1 := ht3.cell (q := 1) (unhide HCB2) (.inl (by omega))
    have hc2 := ht3.cell (q := 2) (unhide HCB2) (.inl (by omega))
    have hc3 := ht3.cell (q := 3) (unhide HCB2) (.inl (by omega))
    rw [(unhide HCB2).cs.1.1] at hc0
    rw [(unhide HCB2).cs.1.2.1] at hc1
    rw [(unhide HCB2).cs.1.2.2.1] at hc2
    rw [(unhide HCB2).cs.1.2.2.2] at hc3
    have hhk : ∀ q ∈ blks h, V3.heap[q]? = V2.heap[q]? := fun q hq => ht3.gr.block q ((unhide HTW2).th.blks_lt q hq) (by
     rintro (rfl | hq')
     ·exact hlt.2.1 hq
     ·exact (unhide HTW2).dis q hq hq')
    have hhT : IsT V3.heap.size V3 h := (unhide HTW2).th.keptL hs hhk
    have hhS : HoldsL (n + 1) (W.heap.size + 2 ≤ ·) V3 h.tv.val (code h) := holdsL_of hhT (blk_of hhT (unhide HTW2).lh) ((unhide HTW2).rh.kept hhk)
    have HF : Hid (Below W.heap.size W (set8 V3 (W.heap.size + 1) h.tv y) ∧ HoldsL (n + 3) (W.heap.size ≤ ·) (set8 V3 (W.heap.size + 1) h.tv y) h.tv.val (code h) ∧ HoldsL (n + 3) (W.heap.size ≤ ·) (set8 V3 (W.heap.size + 1) h.tv y) y.val c) :=
     ⟨set8_below hBW (by omega) _ _, (holdsL_set4 (holdsL_set4 hhS (by omega) 0 _) (by omega) 4 _).mono (by omega) (fun k hk => by have : W.heap.size + 2 ≤ k := hk; show W.heap.size ≤ k; omega), (holdsL_set4 (holdsL_set4 hyS (by omega) 0 _) (by omega) 4 _).mono (by omega) (fun k hk => by have : W.heap.size + 2 ≤ k := hk; show W.heap.size ≤ k; omega)⟩
    clear hz3 hBW ht3 hs3 hs hsz2 hsz3 hzl hlb hlt HZB HBV HTW HCB HLT HG1 HTW2 HCB2 hhk hhT hhS hyS
    simp only [Option.isSome_some]
    go_wp2_with fail
    exact bodyPost_ret (v := .tuple #[clV h.tv y, .int .i64 0]) (by simp [results, Tryz.results7, go_sem, clV, z0, z1, z2, z3, z4, z5, z6, z7]) rfl ⟨by rw [HMK.out, if_neg (by rw [unhide HBAD]; simp)]; exact ⟨h.tv, y, rfl, HF.out.2.1, HF.out.2.2⟩, HF.out.1⟩
theorem bmake_ok {n : Nat} (t : Tm (n + 1)) (W : World) (hT : IsT W.heap.size W t) (hok : okT t = true) (hl : 2 * (code t).length ≤ 4194304) (hn40 : n ≤ 549755813888 := by omega) :
  Calls Tryz.prog 7 #[t.tv.val] W fun e W' => MkSays (n + 3) W.heap.size (makeC t) e W' ∧ Below W.heap.size W W' := by
 cases hi : isB t.tv [58, 45] 2 with
 | false => exact bmake_head t W hT hok hl hi
 | true => exact bmake_rule t W hT hok hl hi
theorem bmake_any {n : Nat} (t : Tm (n + 1)) (W : World) (hT : IsT W.heap.size W t) (hl : 2 * (code t).length ≤ 4194304) (hn38 : n ≤ 274877906944 := by omega) :
  Calls Tryz.prog 7 #[t.tv.val] W fun e W' => CAns (2 * n + 8) W.heap.size W.heap.size (makeR t).1 (makeR t).2.1 (makeR t).2.2 e W' ∧ Below W.heap.size W W' := by
 unfold makeR
 cases hok : okT t with
 | false =>
  refine (bmake_bad t W hT hok).mono fun e W' h => ⟨?_, h.2⟩
  rw [if_neg (by simp)]
  exact ⟨⟨1, by omega⟩, noTerm, noTerm, h.1, no_shared 1 _ _ (by omega) W', no_shared 1 _ _ (by omega) W'⟩
 | true =>
  refine (bmake_ok t W hT hok hl).mono fun e W' h => ⟨?_, h.2⟩
  rw [if_pos rfl]
  obtain ⟨x, y, h1, h2⟩ := h.1
  cases hm : makeC t with
  | none =>
   rw [hm] at h1 h2
   obtain ⟨rfl, rfl⟩ := h2
   exact ⟨⟨1, by omega⟩, noTerm, noTerm, h1, no_shared 1 _ _ (by omega) W', no_shared 1 _ _ (by omega) W'⟩
  | some c =>
   rw [hm] at h1 h2
   obtain ⟨c1, c2⟩ := c
   exact ⟨⟨n + 3, by omega⟩, x, y, h1, h2.1.s.mono (Nat.le_refl _) fun _ h => .inr h, h2.2.s.mono (Nat.le_refl _) fun _ h => .inr h⟩
end Go.Proofs.YtlbobmebbllifaaGreat
