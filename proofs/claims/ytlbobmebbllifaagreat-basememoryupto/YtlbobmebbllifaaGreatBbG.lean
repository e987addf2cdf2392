import Derived.Test.YtlbobmebbllifaaGreatBbF
/- base.remade, base.Plain. (Written by wip/remgen.py.) -/
namespace Go.Proofs.YtlbobmebbllifaaGreat
set_option maxHeartbeats 4000000
set_option maxRecDepth 100000
open Go.RowKit Go.Shelf
theorem box_rm (W : World) (x y : TV) : ∃ W2, (W.alloc (.cells #[.int .i64 x.k, .int .i64 x.N, .string x.s, .slice x.a x.len x.cap, .int .i64 y.k, .int .i64 y.N, .string y.s, .slice y.a y.len y.cap] 30)).alloc (.cells #[.int .i64 0, .int .i64 0, .string ⟨#[]⟩, .slice none 0 0, .int .i64 0, .int .i64 0, .string ⟨#[]⟩, .slice none 0 0] 30) = W2 ∧ Below W.heap.size W W2 ∧ W2.heap.size = W.heap.size + 2 ∧ BoxC W2 W.heap.size x y ∧ BoxC W2 (W.heap.size + 1) noTerm noTerm := by
 refine ⟨_, rfl, ((Below.refl _ W).alloc (Nat.le_refl _) _).alloc (by simp) _, by simp, (Below.heap_alloc _ _ _ (by simp)).trans (BoxC.new W x y), ?_⟩
 have h := BoxC.new (W.alloc (.cells #[.int .i64 x.k, .int .i64 x.N, .string x.s, .slice x.a x.len x.cap, .int .i64 y.k, .int .i64 y.N, .string y.s, .slice y.a y.len y.cap] 30)) noTerm noTerm
 rw [World.size_alloc] at h
 exact h
def RmSays (D lo : Nat) (err : Int) (h b : List Nd) (e : Ending) (W' : World) : Prop := ∃ x y : TV, e = .returned (.tuple #[clV x y, .int .i64 err]) ∧ (err = 0 → HoldsL D (lo ≤ ·) W' x.val h ∧ HoldsL D (lo ≤ ·) W' y.val b) ∧ (err ≠ 0 → x = noTerm ∧ y = noTerm)
theorem RmSays.no {D lo : Nat} {err : Int} {h b : List Nd} {W' : World} (he : err ≠ 0) : RmSays D lo err h b (.returned (.tuple #[clV noTerm noTerm, .int .i64 err])) W' := ⟨noTerm, noTerm, rfl, (fun h => (he h).elim), fun _ => ⟨rfl, rfl⟩⟩
structure TwoC (W V : World) (x y : TV) : Prop where
 below : Below W.heap.size W V
 c : BoxC V W.heap.size x y
 z : BoxC V (W.heap.size + 1) noTerm noTerm
theorem TwoC.next {W V V' : World} {x y : TV} (h : TwoC W V x y) (hb : Below V.heap.size V V') : TwoC W V' x y := ⟨h.below.trans (hb.mono h.below.size), h.c.below hb h.c.lt, h.z.below hb h.z.lt⟩
theorem code_kids {n : Nat} (t : Tm (n + 1)) : code t = t.tv.nd :: t.kids.flatMap code := by
 obtain ⟨x, kids⟩ := t
 rw [code_succ]
 rfl
theorem lift_wl : ∀ {n : Nat} {t : Tm n}, Wl t → Wl t.lift := by
 intro n
 induction n with
 | zero => intro t; exact Empty.elim t
 | succ n ih =>
  intro t ht
  obtain ⟨x, kids⟩ := t
  obtain ⟨h1, h2⟩ := ht
  refine ⟨?_, fun u hu => ?_⟩
  ·show x.len = (kids.map Tm.lift).length
   rw [List.length_map]
   exact h1
  ·have hu' : u ∈ kids.map Tm.lift := hu
   obtain ⟨v, hv, rfl⟩ := List.mem_map.1 hu'
   exact ih (h2 v hv)
theorem wrote_ok {n : Nat} {th tb : Tm (n + 1)} (hw : Wl th) (hwb : Wl tb) (okh : okT th = true) (okb : okT tb = true) (hl : 2 * ((code th).length + (code tb).length + 1) ≤ 4194304) : ∀ h b, wroteC th tb = some (h, b) → h.all okM = true ∧ b.all okM = true := by
 intro h b hr
 unfold wroteC at hr
 have key : ∀ (bad : Bool) (ch : List Nd) (rb : Option (List Nd)), ch.all okM = true → (∀ c, rb = some c → c.all okM = true ∧ ch.length + c.length ≤ 1099511627776) → makeJ bad ch rb = some (h, b) → h.all okM = true ∧ b.all okM = true := fun bad ch rb oc ob hm => by
  cases rb with
  | none => cases hm
  | some c =>
   have hm' : (if bad = true then none else some (clRen ch c ch, clRen ch c c)) = some (h, b) := hm
   split at hm'
   ·cases hm'
   ·cases hm'
    obtain ⟨o1, o2⟩ := ob c rfl
    exact ⟨clRen_ok ch c ch o2 oc, clRen_ok ch c c o2 o1⟩
 have okh' : (code th).all okM = true := by rw [← okT_m]; exact okh
 split at hr
 ·have okl : okT th.lift = true := by rw [okT_m, lift_code]; exact okh'
  have hwl : Wl th.lift := lift_wl hw
  unfold makeC at hr
  split at hr
  ·split at hr
   ·rename_i u v hk
    have hcl : code th.lift = th.lift.tv.nd :: (code u ++ code v) := by
     have := code_kids th.lift
     rw [this, hk]
     simp
    have hlen : (code u).length + (code v).length ≤ (code th).length := by
     rw [← lift_code th, hcl]
     simp
    have oku : okT u = true ∧ okT v = true := by
     rw [okT_m, hcl, List.all_cons, List.all_append, Bool.and_eq_true, Bool.and_eq_true] at okl
     exact ⟨by rw [okT_m]; exact okl.2.1, by rw [okT_m]; exact okl.2.2⟩
    have hwv : Wl v := hwl.2 v (by rw [hk]; simp)
    refine key _ _ _ (by rw [← okT_m]; exact oku.1) (fun c hc => ?_) hr
    obtain ⟨f1, f2⟩ := body_fine hwv oku.2 hc
    exact ⟨f1, by omega⟩
   ·cases hr
  ·refine key _ _ _ (by rw [lift_code]; exact okh') (fun c hc => ?_) hr
   cases hc
   exact ⟨by decide +kernel, by rw [lift_code]; have : (atomC trueL).length = 1 := rfl; omega⟩
 ·refine key _ _ _ okh' (fun c hc => ?_) hr
  obtain ⟨f1, f2⟩ := body_fine hwb okb hc
  exact ⟨f1, by omega⟩
theorem remade_bad1 {n : Nat} (th tb : Tm (n + 1)) (W : World) (hTH : IsT W.heap.size W th) (hTB : IsT W.heap.size W tb) (okh : okT th = false) :
  Calls Tryz.prog 29 #[clV th.tv tb.tv] W fun e W' => RmSays (n + 4) W.heap.size 2 (code th) (code tb) e W' ∧ Below W.heap.size W W' := by
 obtain ⟨W2, hW2, hb2, hs2, hbc, hbz⟩ := box_rm W th.tv tb.tv
 have hh := check_any th W2 ((hTH.below hb2).mono hb2.size)
 rw [chk_no okh] at hh
 have HT : Hid (TwoC W W2 th.tv tb.tv) := ⟨hb2, hbc, hbz⟩
 obtain ⟨⟨c0, c1, c2, c3⟩, c4, c5, c6, c7⟩ := hbc.cs
 have HTB : Hid (∀ V, Below W.heap.size W V → IsT V.heap.size V tb) := fun V hV => (hTB.below hV).mono hV.size
 have HTH : Hid (∀ V, Below W.heap.size W V → IsT V.heap.size V th) := fun V hV => (hTH.below hV).mono hV.size
 clear hTH hTB okh hb2 hs2 hbc hbz HTB HTH
 simp only [TV.val] at hh
 simp only [clV]
 go_enter Tryz.func29, Tryz.ntmps29
 go_wp2_with fail
 try rw [hW2]
 refine hh.mono ?_
 clear hh hW2 c0 c1 c2 c3 c4 c5 c6 c7
 rintro e V1 ⟨rfl, g1⟩
 have t1 := HT.out.next g1
 clear HT g1
 obtain ⟨⟨z0, z1, z2, z3⟩, z4, z5, z6, z7⟩ := t1.z.cs
 obtain ⟨y0, y1, y2, y3, y4, y5, y6, y7⟩ := t1.z.fs
 have HF : Hid (Below W.heap.size W (set8 V1 (W.heap.size + 1) noTerm noTerm)) := set8_below t1.below (by omega) _ _
 clear t1
 go_wp2_with fail
 exact bodyPost_ret (v := .tuple #[clV noTerm noTerm, .int .i64 2]) (by simp [results, Tryz.results29, go_sem, clV, noTerm, z0, z1, z2, z3, z4, z5, z6, z7]) rfl ⟨RmSays.no (by decide), HF.out⟩
theorem remade_bad2 {n : Nat} (th tb : Tm (n + 1)) (W : World) (hTH : IsT W.heap.size W th) (hTB : IsT W.heap.size W tb) (okh : okT th = true) (okb : okT tb = false) :
  Calls Tryz.prog 29 #[clV th.tv tb.tv] W fun e W' => RmSays (n + 4) W.heap.size 2 (code th) (code tb) e W' ∧ Below W.heap.size W W' := by
 obtain ⟨W2, hW2, hb2, hs2, hbc, hbz⟩ := box_rm W th.tv tb.tv
 have hh := check_any th W2 ((hTH.below hb2).mono hb2.size)
 rw [chk_yes okh] at hh
 have HT : Hid (TwoC W W2 th.tv tb.tv) := ⟨hb2, hbc, hbz⟩
 obtain ⟨⟨c0, c1, c2, c3⟩, c4, c5, c6, c7⟩ := hbc.cs
 have HTB : Hid (∀ V, Below W.heap.size W V → IsT V.heap.size V tb) := fun V hV => (hTB.below hV).mono hV.size
 have HTH : Hid (∀ V, Below W.heap.size W V → IsT V.heap.size V th) := fun V hV => (hTH.below hV).mono hV.size
 have HK : Hid (∀ V, Below W.heap.size W V → Calls Tryz.prog 35 #[tb.tv.val] V fun e W' => e = .returned (.int .i64 2) ∧ Below V.heap.size V W') := fun V hV => by
  have h := check_any tb V ((hTB.below hV).mono hV.size)
  rw [chk_no okb] at h
  exact h
 clear hTH hTB okh okb hb2 hs2 hbc hbz HTB HTH
 simp only [TV.val] at HK
 simp only [TV.val] at hh
 simp only [clV]
 go_enter Tryz.func29, Tryz.ntmps29
 go_wp2_with fail
 try rw [hW2]
 refine hh.mono ?_
 clear hh hW2 c0 c1 c2 c3 c4 c5 c6 c7
 rintro e V1 ⟨rfl, g1⟩
 have t1 := HT.out.next g1
 clear HT g1
 have hk := HK.out V1 t1.below
 obtain ⟨⟨c0, c1, c2, c3⟩, c4, c5, c6, c7⟩ := t1.c.cs
 have T1 := hide t1
 clear t1 HK
 go_wp2_with fail
 refine hk.mono ?_
 clear hk c0 c1 c2 c3 c4 c5 c6 c7
 rintro e V2 ⟨rfl, g2⟩
 have t2 := T1.out.next g2
 clear T1 g2
 obtain ⟨⟨z0, z1, z2, z3⟩, z4, z5, z6, z7⟩ := t2.z.cs
 obtain ⟨y0, y1, y2, y3, y4, y5, y6, y7⟩ := t2.z.fs
 have HF : Hid (Below W.heap.size W (set8 V2 (W.heap.size + 1) noTerm noTerm)) := set8_below t2.below (by omega) _ _
 clear t2
 go_wp2_with fail
 exact bodyPost_ret (v := .tuple #[clV noTerm noTerm, .int .i64 2]) (by simp [results, Tryz.results29, go_sem, clV, noTerm, z0, z1, z2, z3, z4, z5, z6, z7]) rfl ⟨RmSays.no (by decide), HF.out⟩
theorem remade_ok {n : Nat} (th tb : Tm (n + 1)) (W : World) (hTH : IsT W.heap.size W th) (hTB : IsT W.heap.size W tb) (okh : okT th = true) (okb : okT tb = true) (hl : 2 * ((code th).length + (code tb).length + 1) ≤ 4194304) (hn38 : n ≤ 274877906944 := by omega) :
  Calls Tryz.prog 29 #[clV th.tv tb.tv] W fun e W' => RmSays (n + 4) W.heap.size (plainE (wroteC th tb) (code th) (code tb)) (code th) (code tb) e W' ∧ Below W.heap.size W W' := by
 obtain ⟨W2, hW2, hb2, hs2, hbc, hbz⟩ := box_rm W th.tv tb.tv
 have hh := check_any th W2 ((hTH.below hb2).mono hb2.size)
 rw [chk_yes okh] at hh
 have HT : Hid (TwoC W W2 th.tv tb.tv) := ⟨hb2, hbc, hbz⟩
 obtain ⟨⟨c0, c1, c2, c3⟩, c4, c5, c6, c7⟩ := hbc.cs
 have HTB : Hid (∀ V, Below W.heap.size W V → IsT V.heap.size V tb) := fun V hV => (hTB.below hV).mono hV.size
 have HTH : Hid (∀ V, Below W.heap.size W V → IsT V.heap.size V th) := fun V hV => (hTH.below hV).mono hV.size
 have HK : Hid (∀ V, Below W.heap.size W V → Calls Tryz.prog 35 #[tb.tv.val] V fun e W' => e = .returned (.int .i64 0) ∧ Below V.heap.size V W') := fun V hV => by
  have h := check_any tb V ((hTB.below hV).mono hV.size)
  rw [chk_yes okb] at h
  exact h
 have HW : Hid (∀ V, Below W.heap.size W V → Calls Tryz.prog 33 #[clV th.tv tb.tv] V fun e U => ∃ x : TV, e = .returned x.val ∧ Below V.heap.size V U ∧ Calls Tryz.prog 7 #[x.val] U fun e U' => MkSays (n + 4) U.heap.size (wroteC th tb) e U' ∧ Below U.heap.size U U') := fun V hV =>
  (written_make th tb V ((hTH.below hV).mono hV.size) ((hTB.below hV).mono hV.size) okh okb hl).mono fun e U h => by
   obtain ⟨x, h1, h2, h3⟩ := h
   exact ⟨x, h1, h2, h3 U (Below.refl _ _)⟩
 have HOH : Hid ((code th).all okM = true) := by show _ = _; rw [← okT_m]; exact okh
 have HOB : Hid ((code tb).all okM = true) := by show _ = _; rw [← okT_m]; exact okb
 have HSH : Hid (∀ V, Below W.heap.size W V → HoldsS (n + 1) anyB V th.tv.val (code th)) := fun V hV => holdsS_of ((hTH.below hV).mono hV.size) ((hTH.blk).mono fun _ _ => trivial)
 have HSB : Hid (∀ V, Below W.heap.size W V → HoldsS (n + 1) anyB V tb.tv.val (code tb)) := fun V hV => holdsS_of ((hTB.below hV).mono hV.size) ((hTB.blk).mono fun _ _ => trivial)
 have HOKR : Hid (∀ h b, wroteC th tb = some (h, b) → h.all okM = true ∧ b.all okM = true) := wrote_ok hTH.wl hTB.wl okh okb hl
 clear hTH hTB okh okb hl hb2 hs2 hbc hbz HTB HTH
 generalize wroteC th tb = r at HW HOKR ⊢
 generalize code th = ch at *
 generalize code tb = cb0 at *
 simp only [TV.val] at HK
 simp only [clV] at HW
 simp only [TV.val] at hh
 simp only [clV]
 go_enter Tryz.func29, Tryz.ntmps29
 go_wp2_with fail
 try rw [hW2]
 refine hh.mono ?_
 clear hh hW2 c0 c1 c2 c3 c4 c5 c6 c7
 rintro e V1 ⟨rfl, g1⟩
 have t1 := HT.out.next g1
 clear HT g1
 have hk := HK.out V1 t1.below
 obtain ⟨⟨c0, c1, c2, c3⟩, c4, c5, c6, c7⟩ := t1.c.cs
 have T1 := hide t1
 clear t1 HK
 go_wp2_with fail
 refine hk.mono ?_
 clear hk c0 c1 c2 c3 c4 c5 c6 c7
 rintro e V2 ⟨rfl, g2⟩
 have t2 := T1.out.next g2
 clear T1 g2
 have hw := HW.out V2 t2.below
 obtain ⟨⟨c0, c1, c2, c3⟩, c4, c5, c6, c7⟩ := t2.c.cs
 have T2 := hide t2
 clear t2 HW
 go_wp2_with fail
 refine hw.mono ?_
 clear hw c0 c1 c2 c3 c4 c5 c6 c7
 rintro e V3 ⟨x, rfl, g3, hmk⟩
 have t3 := T2.out.next g3
 have HL3 : Hid (W.heap.size + 1 < V3.heap.size) := t3.z.lt
 have T3 := hide t3
 clear T2 g3 t3
 simp only [TV.val] at hmk
 simp only [TV.val]
 go_wp2_with fail
 refine hmk.mono ?_
 clear hmk
 rintro e V4 ⟨hms, g4⟩
 obtain ⟨hx, bx, rfl, hres⟩ := hms
 have t4 := T3.out.next g4
 clear T3 g4
 have hb5 : Below V4.heap.size V4 (V4.alloc (.cells #[.int .i64 hx.k, .int .i64 hx.N, .string hx.s, .slice hx.a hx.len hx.cap, .int .i64 bx.k, .int .i64 bx.N, .string bx.s, .slice bx.a bx.len bx.cap] 30)) := (Below.refl _ V4).alloc (Nat.le_refl _) _
 have hbo := BoxC.new V4 hx bx
 have t5 := t4.next hb5
 cases r with
 | none =>
  obtain ⟨rfl, rfl⟩ := hres
  clear hbo t4 HOH HOB HSH HSB HOKR hb5
  simp only [mkE, Option.isSome_none]
  simp only [noTerm] at t5
  simp only [clV, noTerm]
  obtain ⟨⟨z0, z1, z2, z3⟩, z4, z5, z6, z7⟩ := t5.z.cs
  obtain ⟨y0, y1, y2, y3, y4, y5, y6, y7⟩ := t5.z.fs
  have HF : Hid (Below W.heap.size W (set8 (V4.alloc (.cells #[.int .i64 0, .int .i64 0, .string ⟨#[]⟩, .slice none 0 0, .int .i64 0, .int .i64 0, .string ⟨#[]⟩, .slice none 0 0] 30)) (W.heap.size + 1) noTerm noTerm)) := set8_below t5.below (by omega) _ _
  clear t5
  go_wp2_with fail
  exact bodyPost_ret (v := .tuple #[clV noTerm noTerm, .int .i64 7]) (by simp [results, Tryz.results29, go_sem, clV, noTerm, z0, z1, z2, z3, z4, z5, z6, z7]) rfl ⟨RmSays.no (err := 7) (by decide), HF.out⟩
 | some hb =>
  obtain ⟨h, b⟩ := hb
  obtain ⟨hH, hB⟩ := hres
  obtain ⟨oH, oB⟩ := HOKR.out h b rfl
  have HH : Hid (∀ V, Below (V4.alloc (.cells #[.int .i64 hx.k, .int .i64 hx.N, .string hx.s, .slice hx.a hx.len hx.cap, .int .i64 bx.k, .int .i64 bx.N, .string bx.s, .slice bx.a bx.len bx.cap] 30)).heap.size (V4.alloc (.cells #[.int .i64 hx.k, .int .i64 hx.N, .string hx.s, .slice hx.a hx.len hx.cap, .int .i64 bx.k, .int .i64 bx.N, .string bx.s, .slice bx.a bx.len bx.cap] 30)) V → HoldsL (n + 4) (V3.heap.size ≤ ·) V hx.val h ∧ HoldsL (n + 4) (V3.heap.size ≤ ·) V bx.val b ∧ BoxC V V4.heap.size hx bx) := fun V hV => ⟨(hH.below hb5).below hV, (hB.below hb5).below hV, hbo.below hV hbo.lt⟩
  have hlt3 := t4.z.lt
  obtain ⟨⟨o0, o1, o2, o3⟩, o4, o5, o6, o7⟩ := hbo.cs
  obtain ⟨⟨c0, c1, c2, c3⟩, c4, c5, c6, c7⟩ := t5.c.cs
  have hs1 := isSame_any (hH.below hb5).s (HSH.out _ t5.below) oH HOH.out
  have HO : Hid (h.all okM = true ∧ b.all okM = true ∧ ch.all okM = true ∧ cb0.all okM = true) := ⟨oH, oB, HOH.out, HOB.out⟩
  have T5 := hide t5
  clear t5 t4 hbo hH hB hb5 HOH HOB HSH HOKR oH oB
  simp only [mkE, Option.isSome_some, clV]
  simp only [TV.val] at hs1
  by_cases e1 : h = ch
  ·subst e1
   simp only [decide_true] at hs1
   go_wp2_with fail
   refine hs1.mono ?_
   clear hs1 c0 c1 c2 c3 c4 c5 c6 c7 o0 o1 o2 o3 o4 o5 o6 o7
   rintro e V6 ⟨rfl, g6⟩
   have t6 := T5.out.next g6
   obtain ⟨k1, k2, k3⟩ := HH.out V6 g6
   have hs2 := isSame_any k2.s (HSB.out _ t6.below) HO.out.2.1 HO.out.2.2.2
   obtain ⟨⟨o0, o1, o2, o3⟩, o4, o5, o6, o7⟩ := k3.cs
   obtain ⟨⟨c0, c1, c2, c3⟩, c4, c5, c6, c7⟩ := t6.c.cs
   have T6 := hide t6
   have G6 := hide g6
   clear T5 g6 t6 k1 k2 k3 HSB HO
   simp only [TV.val] at hs2
   by_cases e2 : b = cb0
   ·subst e2
    simp only [decide_true] at hs2
    go_wp2_with fail
    refine hs2.mono ?_
    clear hs2 c0 c1 c2 c3 c4 c5 c6 c7 o0 o1 o2 o3 o4 o5 o6 o7
    rintro e V7 ⟨rfl, g7⟩
    have t7 := T6.out.next g7
    obtain ⟨k1, k2, k3⟩ := HH.out V7 ((unhide G6).trans (g7.mono (unhide G6).size))
    obtain ⟨⟨o0, o1, o2, o3⟩, o4, o5, o6, o7⟩ := k3.cs
    obtain ⟨⟨z0, z1, z2, z3⟩, z4, z5, z6, z7⟩ := t7.z.cs
    obtain ⟨y0, y1, y2, y3, y4, y5, y6, y7⟩ := t7.z.fs
    have hL3 : W.heap.size + 1 < V3.heap.size := HL3.out
    have HF : Hid (Below W.heap.size W (set8 V7 (W.heap.size + 1) hx bx) ∧ HoldsL (n + 4) (W.heap.size ≤ ·) (set8 V7 (W.heap.size + 1) hx bx) hx.val h ∧ HoldsL (n + 4) (W.heap.size ≤ ·) (set8 V7 (W.heap.size + 1) hx bx) bx.val b) :=
     ⟨set8_below t7.below (by omega) _ _, (holdsL_set4 (holdsL_set4 k1 (by omega) 0 _) (by omega) 4 _).mono (Nat.le_refl _) (fun k hk => by have : V3.heap.size ≤ k := hk; show W.heap.size ≤ k; omega), (holdsL_set4 (holdsL_set4 k2 (by omega) 0 _) (by omega) 4 _).mono (Nat.le_refl _) (fun k hk => by have : V3.heap.size ≤ k := hk; show W.heap.size ≤ k; omega)⟩
    clear T6 G6 g7 t7 k1 k2 k3 HH hL3 HL3
    go_wp2_with fail
    exact bodyPost_ret (v := .tuple #[clV hx bx, .int .i64 0]) (by simp [results, Tryz.results29, go_sem, clV, z0, z1, z2, z3, z4, z5, z6, z7]) rfl ⟨⟨hx, bx, by simp [plainE], fun _ => ⟨HF.out.2.1, HF.out.2.2⟩, fun he => (he (by simp [plainE])).elim⟩, HF.out.1⟩
   ·have hd : decide (b = cb0) = false := decide_eq_false e2
    rw [hd] at hs2
    have HE : Hid (plainE (some (h, b)) h cb0 = 7) := by show (if h = h ∧ b = cb0 then (0 : Int) else 7) = 7; rw [if_neg (fun q => e2 q.2)]
    clear e2 hd
    go_wp2_with fail
    refine hs2.mono ?_
    clear hs2 c0 c1 c2 c3 c4 c5 c6 c7 o0 o1 o2 o3 o4 o5 o6 o7
    rintro e V7 ⟨rfl, g7⟩
    have t7 := T6.out.next g7
    clear T6 G6 g7 HH
    obtain ⟨⟨z0, z1, z2, z3⟩, z4, z5, z6, z7⟩ := t7.z.cs
    obtain ⟨y0, y1, y2, y3, y4, y5, y6, y7⟩ := t7.z.fs
    have HF : Hid (Below W.heap.size W (set8 V7 (W.heap.size + 1) noTerm noTerm)) := set8_below t7.below (by omega) _ _
    clear t7
    go_wp2_with fail
    exact bodyPost_ret (v := .tuple #[clV noTerm noTerm, .int .i64 7]) (by simp [results, Tryz.results29, go_sem, clV, noTerm, z0, z1, z2, z3, z4, z5, z6, z7]) rfl ⟨by rw [HE.out]; exact RmSays.no (by decide), HF.out⟩
  ·have hd : decide (h = ch) = false := decide_eq_false e1
   rw [hd] at hs1
   have HE : Hid (plainE (some (h, b)) ch cb0 = 7) := by show (if h = ch ∧ b = cb0 then (0 : Int) else 7) = 7; rw [if_neg (fun q => e1 q.1)]
   clear e1 hd
   go_wp2_with fail
   refine hs1.mono ?_
   clear hs1 c0 c1 c2 c3 c4 c5 c6 c7 o0 o1 o2 o3 o4 o5 o6 o7
   rintro e V6 ⟨rfl, g6⟩
   have t6 := T5.out.next g6
   clear T5 g6 HH HSB HO
   obtain ⟨⟨z0, z1, z2, z3⟩, z4, z5, z6, z7⟩ := t6.z.cs
   obtain ⟨y0, y1, y2, y3, y4, y5, y6, y7⟩ := t6.z.fs
   have HF : Hid (Below W.heap.size W (set8 V6 (W.heap.size + 1) noTerm noTerm)) := set8_below t6.below (by omega) _ _
   clear t6
   go_wp2_with fail
   exact bodyPost_ret (v := .tuple #[clV noTerm noTerm, .int .i64 7]) (by simp [results, Tryz.results29, go_sem, clV, noTerm, z0, z1, z2, z3, z4, z5, z6, z7]) rfl ⟨by rw [HE.out]; exact RmSays.no (by decide), HF.out⟩
def remE {n : Nat} (th tb : Tm (n + 1)) : Int := if okT th = true ∧ okT tb = true then plainE (wroteC th tb) (code th) (code tb) else 2
theorem remade_any {n : Nat} (th tb : Tm (n + 1)) (W : World) (hTH : IsT W.heap.size W th) (hTB : IsT W.heap.size W tb) (hl : 2 * ((code th).length + (code tb).length + 1) ≤ 4194304) (hn38 : n ≤ 274877906944 := by omega) :
  Calls Tryz.prog 29 #[clV th.tv tb.tv] W fun e W' => RmSays (n + 4) W.heap.size (remE th tb) (code th) (code tb) e W' ∧ Below W.heap.size W W' := by
 unfold remE
 cases okh : okT th with
 | false => rw [if_neg (by simp)]; exact remade_bad1 th tb W hTH hTB okh
 | true =>
  cases okb : okT tb with
  | false => rw [if_neg (by simp)]; exact remade_bad2 th tb W hTH hTB okh okb
  | true => rw [if_pos ⟨rfl, rfl⟩]; exact remade_ok th tb W hTH hTB okh okb hl
theorem plain_rem {n : Nat} (th tb : Tm (n + 1)) : plainR th tb = if remE th tb = 0 then (0, if isTr tb.tv = true then code th else (4, 0, [58, 45], 2) :: (code th ++ code tb)) else (remE th tb, noC) := by
 unfold plainR remE
 by_cases h : okT th = true ∧ okT tb = true
 ·rw [if_pos h, if_pos h, isTr_isB (ok_top h.2)]
  unfold wroteC
  cases hi : isB tb.tv trueL 0 with
  | true =>
   rw [if_pos rfl, if_pos rfl]
   rcases plainE_two (makeC th.lift) (code th) (code tb) with e | e
   ·rw [e]; rfl
   ·rw [e]; rfl
  | false =>
   have c : ¬ ((false : Bool) = true) := by simp
   simp only [if_neg c]
   rcases plainE_two (makeJ (headBad th.tv) (code th) (bodyC tb)) (code th) (code tb) with e | e
   ·rw [e]; simp
   ·simp [e]
 ·rw [if_neg h, if_neg h]
  rfl
def TLs (k lo : Nat) (err : Int) (c : List Nd) (e : Ending) (W' : World) : Prop := ∃ (D : Upto k) (x : TV), e = .returned (.tuple #[x.val, .int .i64 err]) ∧ HoldsL D.1 (lo ≤ ·) W' x.val c
theorem bplain_new {n : Nat} (th tb : Tm (n + 1)) (W : World) (hTH : IsT W.heap.size W th) (hTB : IsT W.heap.size W tb) (hl : 2 * ((code th).length + (code tb).length + 1) ≤ 4194304) (hn38 : n ≤ 274877906944 := by omega) :
  Calls Tryz.prog 9 #[clV th.tv tb.tv] W fun e W' => TLs (2 * n + 8) W.heap.size (plainR th tb).1 (plainR th tb).2 e W' ∧ Below W.heap.size W W' := by
 obtain ⟨W2, hW2, hb2, hs2, hbc, hbz⟩ := box_wr W th.tv tb.tv
 have hr := remade_any th tb W2 ((hTH.below hb2).mono hb2.size) ((hTB.below hb2).mono hb2.size) hl
 have hp := plain_rem th tb
 have HPT : Hid (remE th tb = 0 → isTr tb.tv = true → plainR th tb = (0, code th)) := fun h1 h2 => by rw [hp, if_pos h1, if_pos h2]
 have HPF : Hid (remE th tb = 0 → isTr tb.tv = false → plainR th tb = (0, (4, 0, [58, 45], 2) :: (code th ++ code tb))) := fun h1 h2 => by rw [hp, if_pos h1, if_neg (by rw [h2]; simp)]
 have HPN : Hid (¬ remE th tb = 0 → plainR th tb = (remE th tb, noC)) := fun h1 => by rw [hp, if_neg h1]
 clear hp
 generalize plainR th tb = pr at *
 have HTR : Hid (∀ {D : Nat} {S : Nat → Prop} {V : World} {y : TV}, D + 1 ≤ 2199023255552 → HoldsS D S V y.val (code tb) → isTr y = isTr tb.tv) := fun {D S V y} hD hy => by
  obtain ⟨t, h1, -, -, h4⟩ := hy (D + 1) (by omega) hD
  obtain rfl := tv_inj h1
  have e1 := code_kids t
  have e2 := code_kids tb
  rw [h4, e2] at e1
  simp only [List.cons.injEq] at e1
  have hn := nd_parts e1.1
  unfold isTr
  rw [hn.1, hn.2.2.1]
 obtain ⟨⟨c0, c1, c2, c3⟩, c4, c5, c6, c7⟩ := hbc.cs
 have HB2 := hide hb2
 have HZ := hide hbz
 have HS := hide hs2
 have HS2 := hide hs2
 clear hTH hTB hl hb2 hbc hbz hs2
 generalize remE th tb = er at *
 generalize code th = ch at *
 generalize code tb = cb0 at *
 generalize isTr tb.tv = tr at *
 simp only [clV] at hr ⊢
 go_enter Tryz.func9, Tryz.ntmps9
 go_wp2_with fail
 try rw [hW2]
 refine hr.mono ?_
 clear hr hW2 c0 c1 c2 c3 c4 c5 c6 c7
 rintro e V3 ⟨hrm, g3⟩
 obtain ⟨hx, bx, rfl, hok, hno⟩ := hrm
 have hb4 : Below V3.heap.size V3 (V3.alloc (.cells #[.int .i64 hx.k, .int .i64 hx.N, .string hx.s, .slice hx.a hx.len hx.cap, .int .i64 bx.k, .int .i64 bx.N, .string bx.s, .slice bx.a bx.len bx.cap] 30)) := (Below.refl _ V3).alloc (Nat.le_refl _) _
 have hbo := BoxC.new V3 hx bx
 have hs2 := unhide HS
 have hz4 := ((unhide HZ).below g3 (by omega)).below hb4 (by have := g3.size; omega)
 have hB4 : Below W.heap.size W (V3.alloc (.cells #[.int .i64 hx.k, .int .i64 hx.N, .string hx.s, .slice hx.a hx.len hx.cap, .int .i64 bx.k, .int .i64 bx.N, .string bx.s, .slice bx.a bx.len bx.cap] 30)) := ((unhide HB2).trans (g3.mono (unhide HB2).size)).trans (hb4.mono (by have := (unhide HB2).size; have := g3.size; omega))
 by_cases he : er = 0
 ·subst he
  obtain ⟨hH, hB⟩ := hok rfl
  have htr := HTR.out (by omega) hB.s
  obtain ⟨⟨o0, o1, o2, o3⟩, o4, o5, o6, o7⟩ := hbo.cs
  have hsz4 := hB4.size
  cases tr with
  | true =>
   have HP : Hid (pr = (0, ch)) := HPT.out rfl rfl
   clear HPT HPF HPN
   have hw := written_true hx bx (V3.alloc (.cells #[.int .i64 hx.k, .int .i64 hx.N, .string hx.s, .slice hx.a hx.len hx.cap, .int .i64 bx.k, .int .i64 bx.N, .string bx.s, .slice bx.a bx.len bx.cap] 30)) htr
   have HH := hide (hH.below hb4)
   have HZ4 := hide hz4
   have HB4 := hide hB4
   clear hH hB htr HTR hno hok hbo hz4 hB4 hb4 HZ HB2 HS hs2
   simp only [clV] at hw
   simp only [clV]
   go_wp2_with fail
   refine hw.mono ?_
   clear hw o0 o1 o2 o3 o4 o5 o6 o7
   rintro e V5 ⟨rfl, g5⟩
   have hz5 := (unhide HZ4).below g5 (unhide HZ4).lt
   obtain ⟨y0, y1, y2, y3⟩ := hz5.frz
   have z0 := hz5.c0
   have z1 := hz5.c1
   have z2 := hz5.c2
   have z3 := hz5.c3
   have HF : Hid (Below W.heap.size W (set4 V5 (W.heap.size + 1) 0 hx) ∧ HoldsL (n + 4) (W.heap.size ≤ ·) (set4 V5 (W.heap.size + 1) 0 hx) hx.val ch) := ⟨set4_below ((unhide HB4).trans (g5.mono hsz4)) (by omega) 0 _, (holdsL_set4 ((unhide HH).below g5) (by have := unhide HS2; omega) 0 _).mono (Nat.le_refl _) (fun k hk => by have : W2.heap.size ≤ k := hk; have := unhide HS2; show W.heap.size ≤ k; omega)⟩
   clear hz5 g5 HZ4 HB4 HH hsz4 HS2
   simp only [noTerm] at z0 z1 z2 z3
   simp only [TV.val]
   go_wp2_with fail
   exact bodyPost_ret (v := .tuple #[hx.val, .int .i64 0]) (by simp [results, Tryz.results9, go_sem, TV.val, z0, z1, z2, z3]) rfl ⟨by rw [HP.out]; exact ⟨⟨n + 4, by omega⟩, hx, rfl, HF.out.2⟩, HF.out.1⟩
  | false =>
   have HP : Hid (pr = (0, (4, 0, [58, 45], 2) :: (ch ++ cb0))) := HPF.out rfl rfl
   clear HPT HPF HPN
   have hw := written_rule hx bx (V3.alloc (.cells #[.int .i64 hx.k, .int .i64 hx.N, .string hx.s, .slice hx.a hx.len hx.cap, .int .i64 bx.k, .int .i64 bx.N, .string bx.s, .slice bx.a bx.len bx.cap] 30)) htr
   have HH := hide (And.intro (hH.below hb4) (hB.below hb4))
   have HZ4 := hide hz4
   have HB4 := hide hB4
   clear hH hB htr HTR hno hok hbo hz4 hB4 hb4 HZ HB2 HS hs2
   simp only [clV] at hw
   simp only [clV]
   go_wp2_with fail
   refine hw.mono ?_
   clear hw o0 o1 o2 o3 o4 o5 o6 o7
   rintro e V5 ⟨B, hBl, rfl, hblk, g5⟩
   have hz5 := (unhide HZ4).below g5 (unhide HZ4).lt
   obtain ⟨y0, y1, y2, y3⟩ := hz5.frz
   have z0 := hz5.c0
   have z1 := hz5.c1
   have z2 := hz5.c2
   have z3 := hz5.c3
   have hzl := (unhide HZ4).lt
   have hs2 := unhide HS2
   have hne : B ≠ W.heap.size + 1 := by omega
   have q1 : HoldsL (n + 4) (W.heap.size ≤ ·) (set4 V5 (W.heap.size + 1) 0 (compV ⟨#[58, 45]⟩ (some ⟨B, 0, none⟩) 2 2)) hx.val ch := (holdsL_set4 ((unhide HH).1.below g5) (by omega) 0 _).mono (Nat.le_refl _) (fun k hk => by have : W2.heap.size ≤ k := hk; show W.heap.size ≤ k; omega)
   have q2 : HoldsL (n + 4) (W.heap.size ≤ ·) (set4 V5 (W.heap.size + 1) 0 (compV ⟨#[58, 45]⟩ (some ⟨B, 0, none⟩) 2 2)) bx.val cb0 := (holdsL_set4 ((unhide HH).2.below g5) (by omega) 0 _).mono (Nat.le_refl _) (fun k hk => by have : W2.heap.size ≤ k := hk; show W.heap.size ≤ k; omega)
   have hblk' := (set4_other V5 (W.heap.size + 1) 0 (compV ⟨#[58, 45]⟩ (some ⟨B, 0, none⟩) 2 2) hne).trans hblk
   have q3 := holdsL_two q1 q2 (b := B) (show W.heap.size ≤ B by omega) hblk' ⟨#[58, 45]⟩ (by show (2 : Nat) ≤ _; omega)
   rw [colonL] at q3
   have HF : Hid (Below W.heap.size W (set4 V5 (W.heap.size + 1) 0 (compV ⟨#[58, 45]⟩ (some ⟨B, 0, none⟩) 2 2)) ∧ HoldsL (n + 4 + 1) (W.heap.size ≤ ·) (set4 V5 (W.heap.size + 1) 0 (compV ⟨#[58, 45]⟩ (some ⟨B, 0, none⟩) 2 2)) (compV ⟨#[58, 45]⟩ (some ⟨B, 0, none⟩) 2 2).val ((4, 0, [58, 45], 2) :: (ch ++ cb0))) := ⟨set4_below ((unhide HB4).trans (g5.mono hsz4)) (by omega) 0 _, q3⟩
   clear hz5 g5 HZ4 HB4 HH hsz4 HS2 q1 q2 q3 hblk hblk' hne hzl hs2 hBl
   simp only [noTerm] at z0 z1 z2 z3
   simp only [TV.val, compV]
   go_wp2_with fail
   exact bodyPost_ret (v := .tuple #[(compV ⟨#[58, 45]⟩ (some ⟨B, 0, none⟩) 2 2).val, .int .i64 0]) (by simp [results, Tryz.results9, go_sem, TV.val, compV, z0, z1, z2, z3]) rfl ⟨by rw [HP.out]; exact ⟨⟨n + 4 + 1, by omega⟩, _, rfl, HF.out.2⟩, HF.out.1⟩
 ·obtain ⟨rfl, rfl⟩ := hno he
  have HP : Hid (pr = (er, noC)) := HPN.out he
  clear HPT HPF HPN
  have he' : (er != 0) = true := by simpa using he
  obtain ⟨y0, y1, y2, y3⟩ := hz4.frz
  have z0 := hz4.c0
  have z1 := hz4.c1
  have z2 := hz4.c2
  have z3 := hz4.c3
  have HF : Hid (Below W.heap.size W (set4 (V3.alloc (.cells #[.int .i64 0, .int .i64 0, .string ⟨#[]⟩, .slice none 0 0, .int .i64 0, .int .i64 0, .string ⟨#[]⟩, .slice none 0 0] 30)) (W.heap.size + 1) 0 noTerm)) := set4_below hB4 (by omega) 0 _
  simp only [noTerm] at y0 y1 y2 y3 z0 z1 z2 z3
  clear HTR hno hok hbo hz4 hB4 hb4 HZ HB2 HS hs2 he g3 HS2
  simp only [clV, noTerm]
  go_wp2_with fail
  exact bodyPost_ret (v := .tuple #[noTerm.val, .int .i64 er]) (by simp [results, Tryz.results9, go_sem, TV.val, noTerm, z0, z1, z2, z3]) rfl ⟨by rw [HP.out]; exact ⟨⟨1, by omega⟩, noTerm, rfl, (no_holds 1 W.heap.size (by omega) _).holdsL⟩, HF.out⟩
theorem bplain_any {n : Nat} (th tb : Tm (n + 1)) (W : World) (hTH : IsT W.heap.size W th) (hTB : IsT W.heap.size W tb) (hl : 2 * ((code th).length + (code tb).length + 1) ≤ 4194304) (hn38 : n ≤ 274877906944 := by omega) :
  Calls Tryz.prog 9 #[clV th.tv tb.tv] W fun e W' => TAns (2 * n + 8) W.heap.size W.heap.size (plainR th tb).1 (plainR th tb).2 e W' ∧ Below W.heap.size W W' :=
 (bplain_new th tb W hTH hTB hl hn38).mono fun e W' h => by
  obtain ⟨⟨D, x, h1, h2⟩, h3⟩ := h
  exact ⟨⟨D, x, h1, h2.s.mono (Nat.le_refl _) fun k hk => .inr hk⟩, h3⟩
end Go.Proofs.YtlbobmebbllifaaGreat
