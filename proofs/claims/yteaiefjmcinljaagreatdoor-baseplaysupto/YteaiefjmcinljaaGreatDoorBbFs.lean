import Derived.Test.YteaiefjmcinljaaGreatDoorBbE
import Derived.Test.YteaiefjmcinljaaGreatDoorGs
namespace Go.Proofs.YteaiefjmcinljaaGreatDoor
set_option maxHeartbeats 1000000
set_option maxRecDepth 100000
open Go.RowKit Go.Shelf
theorem isSame_any{D D':Nat}{S S':Nat→Prop}{W:World}{x y:TV}{c c':List Nd}(h:HoldsS D S W x.val c)(h':HoldsS D' S' W y.val c')(oc:c.all okM=true)(oc':c'.all okM=true)(hD:D+D'≤2199023255552:=by omega):
  Calls Tryz.prog 41 #[x.val,y.val] W fun e W'=>e=.returned (.bool (decide (c=c')))∧Below W.heap.size W W':=by
 obtain⟨t,ht,hT,-,hc⟩:=h (D+D') (by omega) hD
 obtain⟨t',ht',hT',-,hc'⟩:=h' (D+D') (by omega) hD
 obtain rfl:=tv_inj ht
 obtain rfl:=tv_inj ht'
 obtain⟨W2,hW2,hb2,hs2,hbx,hby⟩:=box2_only W t.tv t'.tv
 have hcm:=compare_any t t' W2 ((hT.below hb2).mono hb2.size) ((hT'.below hb2).mono hb2.size) (by rw[okT_m,hc];exact oc) (by rw[okT_m,hc'];exact oc')
 have hz:=ord_zero t t'
 rw[sameT_code hT.wl hT'.wl,hc,hc',decide_eq_true_eq] at hz
 have hd:(ordT t t' == 0)=decide (c=c'):=by
  rw[Bool.eq_iff_iff,beq_iff_eq,decide_eq_true_eq]
  exact hz
 generalize ordT t t'=r at hcm hd
 generalize hg:decide (c=c')=d at hd⊢
 have HB2:=hide hb2
 have x0:=hbx.c0
 have x1:=hbx.c1
 have x2:=hbx.c2
 have x3:=hbx.c3
 have y0:=hby.c0
 have y1:=hby.c1
 have y2:=hby.c2
 have y3:=hby.c3
 clear h h' ht ht' hT hT' hc hc' hz hg hb2 hbx hby oc oc' hs2
 simp only[TV.val] at hcm⊢
 go_enter Tryz.func41,Tryz.ntmps41
 go_wp2_with fail
 try rw[hW2]
 refine hcm.mono ?_
 clear hcm hW2 x0 x1 x2 x3 y0 y1 y2 y3
 rintro e W3 ⟨rfl,hb3⟩
 have HB:Hid (Below W.heap.size W W3):=(unhide HB2).trans (hb3.mono (unhide HB2).size)
 clear hb3 HB2
 go_wp2_with fail
 all_goals go_ret
 all_goals exact⟨by rw[←hd];rfl,HB.out⟩
/-- The atom true? -/
def isTr(x:TV):Bool:=decide (x.k=3) && decide (x.s.toList=trueL)
theorem isTr_isB{x:TV}(h:wmB x.k x.N x.s x.len=true):isTr x=isB x trueL 0:=by
 unfold isTr isB
 rcases wm_cases h with⟨h1,_⟩ | ⟨h1 | h1,h2⟩ | ⟨h1,_,h2,_⟩
 ·simp[h1]
 ·simp[h1]
 ·simp[h1,h2]
 ·have:((x.len:Int) == 0)=false:=by simp;omega
  simp[h1,this]
theorem box_wr(W:World)(x y:TV):∃W2,(W.alloc (.cells #[.int .i64 x.k,.int .i64 x.N,.string x.s,.slice x.a x.len x.cap,.int .i64 y.k,.int .i64 y.N,.string y.s,.slice y.a y.len y.cap] 36)).alloc (.cells #[.int .i64 0,.int .i64 0,.string ⟨#[]⟩,.slice none 0 0] 34)=W2∧Below W.heap.size W W2∧W2.heap.size=W.heap.size+2∧BoxC W2 W.heap.size x y∧BoxT W2 (W.heap.size+1) noTerm:=by
 refine⟨_,rfl,((Below.refl _ W).alloc (Nat.le_refl _) _).alloc (by simp) _,by simp,(Below.heap_alloc _ _ _ (by simp)).trans (BoxC.new W x y),?_⟩
 have h:=BoxT.new (W.alloc (.cells #[.int .i64 x.k,.int .i64 x.N,.string x.s,.slice x.a x.len x.cap,.int .i64 y.k,.int .i64 y.N,.string y.s,.slice y.a y.len y.cap] 36)) noTerm
 rw[World.size_alloc] at h
 exact h
theorem written_true(x y:TV)(W:World)(h:isTr y=true):
  Calls Tryz.prog 40 #[clV x y] W fun e W'=>e=.returned x.val∧Below W.heap.size W W':=by
 obtain⟨k,N,s,a,len,cap⟩:=y
 simp only[isTr,Bool.and_eq_true,decide_eq_true_eq] at h
 obtain⟨rfl,hs⟩:=h
 have hs':(s.toList == [116,114,117,101])=true:=by rw[hs];rfl
 clear hs
 simp only[clV]
 go_enter Tryz.func40,Tryz.ntmps40
 go_wp2_with fail
 exact bodyPost_ret (v:=x.val) (by simp[results,Tryz.results40,go_sem,TV.val]) rfl ⟨rfl,((Below.refl _ W).alloc (Nat.le_refl _) _).alloc (by simp) _⟩
theorem written_rule(x y:TV)(W:World)(h:isTr y=false):
  Calls Tryz.prog 40 #[clV x y] W fun e W'=> ∃B,W.heap.size≤B∧e=.returned (compV ⟨#[58,45]⟩ (some ⟨B,0,none⟩) 2 2).val∧W'.heap[B]?=some (.cells #[.int .i64 x.k,.int .i64 x.N,.string x.s,.slice x.a x.len x.cap,.int .i64 y.k,.int .i64 y.N,.string y.s,.slice y.a y.len y.cap] 34 (0,0))∧Below W.heap.size W W':=by
 obtain⟨W2,hW2,hb2,hs2,hbc,hbz⟩:=box_wr W x y
 have hb3:Below W2.heap.size W2 (W2.alloc (.cells #[.int .i64 x.k,.int .i64 x.N,.string x.s,.slice x.a x.len x.cap,.int .i64 y.k,.int .i64 y.N,.string y.s,.slice y.a y.len y.cap] 34)):=(Below.refl _ W2).alloc (Nat.le_refl _) _
 have hn:=World.alloc_heap_new W2 (.cells #[.int .i64 x.k,.int .i64 x.N,.string x.s,.slice x.a x.len x.cap,.int .i64 y.k,.int .i64 y.N,.string y.s,.slice y.a y.len y.cap] 34)
 have hz:=hbz.below hb3 hbz.lt
 have HF:Hid (Below W.heap.size W (set4 (W2.alloc (.cells #[.int .i64 x.k,.int .i64 x.N,.string x.s,.slice x.a x.len x.cap,.int .i64 y.k,.int .i64 y.N,.string y.s,.slice y.a y.len y.cap] 34)) (W.heap.size+1) 0 (compV ⟨#[58,45]⟩ (some ⟨W2.heap.size,0,none⟩) 2 2))∧W.heap.size≤W2.heap.size∧(set4 (W2.alloc (.cells #[.int .i64 x.k,.int .i64 x.N,.string x.s,.slice x.a x.len x.cap,.int .i64 y.k,.int .i64 y.N,.string y.s,.slice y.a y.len y.cap] 34)) (W.heap.size+1) 0 (compV ⟨#[58,45]⟩ (some ⟨W2.heap.size,0,none⟩) 2 2)).heap[W2.heap.size]?=some (.cells #[.int .i64 x.k,.int .i64 x.N,.string x.s,.slice x.a x.len x.cap,.int .i64 y.k,.int .i64 y.N,.string y.s,.slice y.a y.len y.cap] 34 (0,0))):=
  ⟨set4_below (hb2.trans (hb3.mono hb2.size)) (by omega) 0 _,hb2.size,(set4_other _ _ 0 _ (by omega)).trans hn⟩
 obtain⟨⟨c0,c1,c2,c3⟩,c4,c5,c6,c7⟩:=hbc.cs
 have z0:=hz.c0
 have z1:=hz.c1
 have z2:=hz.c2
 have z3:=hz.c3
 obtain⟨y0,y1,y2,y3⟩:=hz.frz
 simp only[noTerm] at z0 z1 z2 z3
 clear hb2 hs2 hbc hbz hb3 hn hz
 obtain⟨k,N,s,a,len,cap⟩:=y
 simp only at c4 c5 c6 c7 y0 y1 y2 y3 z0 z1 z2 z3 HF
 simp only[clV]
 by_cases k3:k=3
 ·subst k3
  have hs':(s.toList == [116,114,117,101])=false:=by
   simp only[isTr,Bool.and_eq_false_iff,decide_eq_false_iff_not] at h
   rcases h with h | h
   ·exact(h trivial).elim
   ·rw[beq_eq_false_iff_ne];exact h
  clear h
  go_enter Tryz.func40,Tryz.ntmps40
  go_wp2_with fail
  try rw[hW2]
  exact bodyPost_ret (v:=(compV ⟨#[58,45]⟩ (some ⟨W2.heap.size,0,none⟩) 2 2).val) (by simp[results,Tryz.results40,go_sem,TV.val,compV,z0,z1,z2,z3]) rfl ⟨W2.heap.size,HF.out.2.1,rfl,HF.out.2.2,HF.out.1⟩
 ·have k3':(k == 3)=false:=by simpa using k3
  clear h k3
  go_enter Tryz.func40,Tryz.ntmps40
  go_wp2_with fail
  try rw[hW2]
  exact bodyPost_ret (v:=(compV ⟨#[58,45]⟩ (some ⟨W2.heap.size,0,none⟩) 2 2).val) (by simp[results,Tryz.results40,go_sem,TV.val,compV,z0,z1,z2,z3]) rfl ⟨W2.heap.size,HF.out.2.1,rfl,HF.out.2.2,HF.out.1⟩
/-- What is made of a clause that is written as a term. -/
def wroteC{n:Nat}(th tb:Tm (n+1)):Option (List Nd×List Nd):=if isB tb.tv trueL 0=true then makeC th.lift else makeJ (headBad th.tv) (code th) (bodyC tb)
theorem written_make{n:Nat}(th tb:Tm (n+1))(W:World)(hTH:IsT W.heap.size W th)(hTB:IsT W.heap.size W tb)(okh:okT th=true)(okb:okT tb=true)(hl:2*((code th).length+(code tb).length+1)≤4194304)(hn38:n≤274877906944:=by omega):
  Calls Tryz.prog 40 #[clV th.tv tb.tv] W fun e V=> ∃x:TV,e=.returned x.val∧Below W.heap.size W V∧∀U,Below V.heap.size V U→Calls Tryz.prog 39 #[x.val] U fun e U'=>MkSays (n+4) U.heap.size (wroteC th tb) e U'∧Below U.heap.size U U':=by
 have e:=isTr_isB (ok_top okb)
 unfold wroteC
 cases hi:isTr tb.tv with
 | true=>
  rw[hi] at e
  rw[←e,if_pos rfl]
  refine(written_true th.tv tb.tv W hi).mono ?_
  rintro e V ⟨rfl,hb⟩
  refine⟨th.tv,rfl,hb,fun U hU=>?_⟩
  have hT:IsT U.heap.size U th:=(((hTH.below hb).mono hb.size).below hU).mono hU.size
  have h:=bmake_ok th.lift U (lift_isT hT (by omega)) (by rw[okT_m,lift_code,←okT_m];exact okh) (by rw[lift_code];omega)
  rw[lift_tv] at h
  exact h
 | false=>
  rw[hi] at e
  rw[←e,if_neg (by simp)]
  refine(written_rule th.tv tb.tv W hi).mono ?_
  rintro e V ⟨B,hB,rfl,hblk,hb⟩
  refine⟨_,rfl,hb,fun U hU=>?_⟩
  have hBl:B<V.heap.size:=(Array.getElem?_eq_some_iff.1 hblk).1
  have hTh:IsT U.heap.size U th:=(((hTH.below hb).mono hb.size).below hU).mono hU.size
  have hTb:IsT U.heap.size U tb:=(((hTB.below hb).mono hb.size).below hU).mono hU.size
  have hblk':=(hU.block B hBl).trans hblk
  have hT:IsT U.heap.size U (ruleT B th tb):=by
   refine⟨rfl,⟨by show(2:Nat)≤_;omega,by show(2:Nat)≤2;omega,by omega⟩,by show(2:Nat)≤_;omega,.inr ⟨B,0,rfl,by have:=hU.size;omega,fun j z hz=>?_⟩⟩
   have hj:(j=0∧z=th)∨(j=1∧z=tb):=by
    match j,hz with
    | 0,hz=>exact .inl ⟨rfl,by simpa[ruleT,Tm.kids] using hz.symm⟩
    | 1,hz=>exact .inr ⟨rfl,by simpa[ruleT,Tm.kids] using hz.symm⟩
    | k+2,hz=>simp[ruleT,Tm.kids] at hz
   rcases hj with⟨rfl,rfl⟩ | ⟨rfl,rfl⟩
   ·refine⟨?_,hTh⟩
    refine⟨?_,?_,?_,?_⟩ <;> simp[World.cell?,hblk']
   ·refine⟨?_,hTb⟩
    refine⟨?_,?_,?_,?_⟩ <;> simp[World.cell?,hblk']
  have hok:okT (ruleT B th tb)=true:=by
   rw[okT_m,rule_code,List.all_cons,List.all_append,←okT_m,←okT_m,okh,okb]
   decide +kernel
  have h:=bmake_ok (ruleT B th tb) U hT hok (by rw[rule_code];simp only[List.length_cons,List.length_append];omega)
  rw[rule_make] at h
  exact h
set_option maxHeartbeats 4000000
set_option maxRecDepth 100000
theorem box_rm(W:World)(x y:TV):∃W2,(W.alloc (.cells #[.int .i64 x.k,.int .i64 x.N,.string x.s,.slice x.a x.len x.cap,.int .i64 y.k,.int .i64 y.N,.string y.s,.slice y.a y.len y.cap] 36)).alloc (.cells #[.int .i64 0,.int .i64 0,.string ⟨#[]⟩,.slice none 0 0,.int .i64 0,.int .i64 0,.string ⟨#[]⟩,.slice none 0 0] 36)=W2∧Below W.heap.size W W2∧W2.heap.size=W.heap.size+2∧BoxC W2 W.heap.size x y∧BoxC W2 (W.heap.size+1) noTerm noTerm:=by
 refine⟨_,rfl,((Below.refl _ W).alloc (Nat.le_refl _) _).alloc (by simp) _,by simp,(Below.heap_alloc _ _ _ (by simp)).trans (BoxC.new W x y),?_⟩
 have h:=BoxC.new (W.alloc (.cells #[.int .i64 x.k,.int .i64 x.N,.string x.s,.slice x.a x.len x.cap,.int .i64 y.k,.int .i64 y.N,.string y.s,.slice y.a y.len y.cap] 36)) noTerm noTerm
 rw[World.size_alloc] at h
 exact h
/-- What base.remade answers: a clause of the same codes, in new memory, or none and the error. -/
def RmSays(D lo:Nat)(err:Int)(h b:List Nd)(e:Ending)(W':World):Prop:= ∃x y:TV,e=.returned (.tuple #[clV x y,.int .i64 err])∧(err=0→HoldsS D (lo≤ ·) W' x.val h∧HoldsS D (lo≤ ·) W' y.val b)∧(err≠0→x=noTerm∧y=noTerm)
theorem RmSays.no{D lo:Nat}{err:Int}{h b:List Nd}{W':World}(he:err≠0):RmSays D lo err h b (.returned (.tuple #[clV noTerm noTerm,.int .i64 err])) W':=⟨noTerm,noTerm,rfl,(fun h=>(he h).elim),fun _=>⟨rfl,rfl⟩⟩
/-- Two clauses' boxes, one of them the result's. -/
structure TwoC (W V:World) (x y:TV):Prop where
 below:Below W.heap.size W V
 c:BoxC V W.heap.size x y
 z:BoxC V (W.heap.size+1) noTerm noTerm
theorem TwoC.next{W V V':World}{x y:TV}(h:TwoC W V x y)(hb:Below V.heap.size V V'):TwoC W V' x y:=⟨h.below.trans (hb.mono h.below.size),h.c.below hb h.c.lt,h.z.below hb h.z.lt⟩
theorem code_kids{n:Nat}(t:Tm (n+1)):code t=t.tv.nd::t.kids.flatMap code:=by
 obtain⟨x,kids⟩:=t
 rw[code_succ]
 rfl
theorem lift_wl:∀{n:Nat} {t:Tm n},Wl t→Wl t.lift:=by
 intro n
 induction n with
 | zero=>intro t;exact Empty.elim t
 | succ n ih=>
  intro t ht
  obtain⟨x,kids⟩:=t
  obtain⟨h1,h2⟩:=ht
  refine⟨?_,fun u hu=>?_⟩
  ·show x.len=(kids.map Tm.lift).length
   rw[List.length_map]
   exact h1
  ·have hu':u∈kids.map Tm.lift:=hu
   obtain⟨v,hv,rfl⟩:=List.mem_map.1 hu'
   exact ih (h2 v hv)
theorem wrote_ok{n:Nat}{th tb:Tm (n+1)}(hw:Wl th)(hwb:Wl tb)(okh:okT th=true)(okb:okT tb=true)(hl:2*((code th).length+(code tb).length+1)≤4194304):∀h b,wroteC th tb=some (h,b)→h.all okM=true∧b.all okM=true:=by
 intro h b hr
 unfold wroteC at hr
 have key:∀(bad:Bool) (ch:List Nd) (rb:Option (List Nd)),ch.all okM=true→(∀c,rb=some c→c.all okM=true∧ch.length+c.length≤1099511627776)→makeJ bad ch rb=some (h,b)→h.all okM=true∧b.all okM=true:=fun bad ch rb oc ob hm=>by
  cases rb with
  | none=>cases hm
  | some c=>
   have hm':(if bad=true then none else some (clRen ch c ch,clRen ch c c))=some (h,b):=hm
   split at hm'
   ·cases hm'
   ·cases hm'
    obtain⟨o1,o2⟩:=ob c rfl
    exact⟨clRen_ok ch c ch o2 oc,clRen_ok ch c c o2 o1⟩
 have okh':(code th).all okM=true:=by rw[←okT_m];exact okh
 split at hr
 ·have okl:okT th.lift=true:=by rw[okT_m,lift_code];exact okh'
  have hwl:Wl th.lift:=lift_wl hw
  unfold makeC at hr
  split at hr
  ·split at hr
   ·rename_i u v hk
    have hcl:code th.lift=th.lift.tv.nd::(code u++code v):=by
     have:=code_kids th.lift
     rw[this,hk]
     simp
    have hlen:(code u).length+(code v).length≤(code th).length:=by
     rw[←lift_code th,hcl]
     simp
    have oku:okT u=true∧okT v=true:=by
     rw[okT_m,hcl,List.all_cons,List.all_append,Bool.and_eq_true,Bool.and_eq_true] at okl
     exact⟨by rw[okT_m];exact okl.2.1,by rw[okT_m];exact okl.2.2⟩
    have hwv:Wl v:=hwl.2 v (by rw[hk];simp)
    refine key _ _ _ (by rw[←okT_m];exact oku.1) (fun c hc=>?_) hr
    obtain⟨f1,f2⟩:=body_fine hwv oku.2 hc
    exact⟨f1,by omega⟩
   ·cases hr
  ·refine key _ _ _ (by rw[lift_code];exact okh') (fun c hc=>?_) hr
   cases hc
   exact⟨by decide +kernel,by rw[lift_code];have:(atomC trueL).length=1:=rfl;omega⟩
 ·refine key _ _ _ okh' (fun c hc=>?_) hr
  obtain⟨f1,f2⟩:=body_fine hwb okb hc
  exact⟨f1,by omega⟩
theorem remade_bad1{n:Nat}(th tb:Tm (n+1))(W:World)(hTH:IsT W.heap.size W th)(hTB:IsT W.heap.size W tb)(okh:okT th=false):
  Calls Tryz.prog 23 #[clV th.tv tb.tv] W fun e W'=>RmSays (n+4) W.heap.size 2 (code th) (code tb) e W'∧Below W.heap.size W W':=by
 obtain⟨W2,hW2,hb2,hs2,hbc,hbz⟩:=box_rm W th.tv tb.tv
 have hh:=check_any th W2 ((hTH.below hb2).mono hb2.size)
 rw[chk_no okh] at hh
 have HT:Hid (TwoC W W2 th.tv tb.tv):=⟨hb2,hbc,hbz⟩
 obtain⟨⟨c0,c1,c2,c3⟩,c4,c5,c6,c7⟩:=hbc.cs
 have HTB:Hid (∀V,Below W.heap.size W V→IsT V.heap.size V tb):=fun V hV=>(hTB.below hV).mono hV.size
 have HTH:Hid (∀V,Below W.heap.size W V→IsT V.heap.size V th):=fun V hV=>(hTH.below hV).mono hV.size
 clear hTH hTB okh hb2 hs2 hbc hbz HTB HTH
 simp only[TV.val] at hh
 simp only[clV]
 go_enter Tryz.func23,Tryz.ntmps23
 go_wp2_with fail
 try rw[hW2]
 refine hh.mono ?_
 clear hh hW2 c0 c1 c2 c3 c4 c5 c6 c7
 rintro e V1 ⟨rfl,g1⟩
 have t1:=HT.out.next g1
 clear HT g1
 obtain⟨⟨z0,z1,z2,z3⟩,z4,z5,z6,z7⟩:=t1.z.cs
 obtain⟨y0,y1,y2,y3,y4,y5,y6,y7⟩:=t1.z.fs
 have HF:Hid (Below W.heap.size W (set8 V1 (W.heap.size+1) noTerm noTerm)):=set8_below t1.below (by omega) _ _
 clear t1
 go_wp2_with fail
 exact bodyPost_ret (v:=.tuple #[clV noTerm noTerm,.int .i64 2]) (by simp[results,Tryz.results23,go_sem,clV,noTerm,z0,z1,z2,z3,z4,z5,z6,z7]) rfl ⟨RmSays.no (by decide),HF.out⟩
theorem remade_bad2{n:Nat}(th tb:Tm (n+1))(W:World)(hTH:IsT W.heap.size W th)(hTB:IsT W.heap.size W tb)(okh:okT th=true)(okb:okT tb=false):
  Calls Tryz.prog 23 #[clV th.tv tb.tv] W fun e W'=>RmSays (n+4) W.heap.size 2 (code th) (code tb) e W'∧Below W.heap.size W W':=by
 obtain⟨W2,hW2,hb2,hs2,hbc,hbz⟩:=box_rm W th.tv tb.tv
 have hh:=check_any th W2 ((hTH.below hb2).mono hb2.size)
 rw[chk_yes okh] at hh
 have HT:Hid (TwoC W W2 th.tv tb.tv):=⟨hb2,hbc,hbz⟩
 obtain⟨⟨c0,c1,c2,c3⟩,c4,c5,c6,c7⟩:=hbc.cs
 have HTB:Hid (∀V,Below W.heap.size W V→IsT V.heap.size V tb):=fun V hV=>(hTB.below hV).mono hV.size
 have HTH:Hid (∀V,Below W.heap.size W V→IsT V.heap.size V th):=fun V hV=>(hTH.below hV).mono hV.size
 have HK:Hid (∀V,Below W.heap.size W V→Calls Tryz.prog 38 #[tb.tv.val] V fun e W'=>e=.returned (.int .i64 2)∧Below V.heap.size V W'):=fun V hV=>by
  have h:=check_any tb V ((hTB.below hV).mono hV.size)
  rw[chk_no okb] at h
  exact h
 clear hTH hTB okh okb hb2 hs2 hbc hbz HTB HTH
 simp only[TV.val] at HK
 simp only[TV.val] at hh
 simp only[clV]
 go_enter Tryz.func23,Tryz.ntmps23
 go_wp2_with fail
 try rw[hW2]
 refine hh.mono ?_
 clear hh hW2 c0 c1 c2 c3 c4 c5 c6 c7
 rintro e V1 ⟨rfl,g1⟩
 have t1:=HT.out.next g1
 clear HT g1
 have hk:=HK.out V1 t1.below
 obtain⟨⟨c0,c1,c2,c3⟩,c4,c5,c6,c7⟩:=t1.c.cs
 have T1:=hide t1
 clear t1 HK
 go_wp2_with fail
 refine hk.mono ?_
 clear hk c0 c1 c2 c3 c4 c5 c6 c7
 rintro e V2 ⟨rfl,g2⟩
 have t2:=T1.out.next g2
 clear T1 g2
 obtain⟨⟨z0,z1,z2,z3⟩,z4,z5,z6,z7⟩:=t2.z.cs
 obtain⟨y0,y1,y2,y3,y4,y5,y6,y7⟩:=t2.z.fs
 have HF:Hid (Below W.heap.size W (set8 V2 (W.heap.size+1) noTerm noTerm)):=set8_below t2.below (by omega) _ _
 clear t2
 go_wp2_with fail
 exact bodyPost_ret (v:=.tuple #[clV noTerm noTerm,.int .i64 2]) (by simp[results,Tryz.results23,go_sem,clV,noTerm,z0,z1,z2,z3,z4,z5,z6,z7]) rfl ⟨RmSays.no (by decide),HF.out⟩
theorem remade_ok{n:Nat}(th tb:Tm (n+1))(W:World)(hTH:IsT W.heap.size W th)(hTB:IsT W.heap.size W tb)(okh:okT th=true)(okb:okT tb=true)(hl:2*((code th).length+(code tb).length+1)≤4194304)(hn38:n≤274877906944:=by omega):
  Calls Tryz.prog 23 #[clV th.tv tb.tv] W fun e W'=>RmSays (n+4) W.heap.size (plainE (wroteC th tb) (code th) (code tb)) (code th) (code tb) e W'∧Below W.heap.size W W':=by
 obtain⟨W2,hW2,hb2,hs2,hbc,hbz⟩:=box_rm W th.tv tb.tv
 have hh:=check_any th W2 ((hTH.below hb2).mono hb2.size)
 rw[chk_yes okh] at hh
 have HT:Hid (TwoC W W2 th.tv tb.tv):=⟨hb2,hbc,hbz⟩
 obtain⟨⟨c0,c1,c2,c3⟩,c4,c5,c6,c7⟩:=hbc.cs
 have HTB:Hid (∀V,Below W.heap.size W V→IsT V.heap.size V tb):=fun V hV=>(hTB.below hV).mono hV.size
 have HTH:Hid (∀V,Below W.heap.size W V→IsT V.heap.size V th):=fun V hV=>(hTH.below hV).mono hV.size
 have HK:Hid (∀V,Below W.heap.size W V→Calls Tryz.prog 38 #[tb.tv.val] V fun e W'=>e=.returned (.int .i64 0)∧Below V.heap.size V W'):=fun V hV=>by
  have h:=check_any tb V ((hTB.below hV).mono hV.size)
  rw[chk_yes okb] at h
  exact h
 have HW:Hid (∀V,Below W.heap.size W V→Calls Tryz.prog 40 #[clV th.tv tb.tv] V fun e U=> ∃x:TV,e=.returned x.val∧Below V.heap.size V U∧Calls Tryz.prog 39 #[x.val] U fun e U'=>MkSays (n+4) U.heap.size (wroteC th tb) e U'∧Below U.heap.size U U'):=fun V hV=>
  (written_make th tb V ((hTH.below hV).mono hV.size) ((hTB.below hV).mono hV.size) okh okb hl).mono fun e U h=>by
   obtain⟨x,h1,h2,h3⟩:=h
   exact⟨x,h1,h2,h3 U (Below.refl _ _)⟩
 have HOH:Hid ((code th).all okM=true):=by show _=_;rw[←okT_m];exact okh
 have HOB:Hid ((code tb).all okM=true):=by show _=_;rw[←okT_m];exact okb
 have HSH:Hid (∀V,Below W.heap.size W V→HoldsS (n+1) anyB V th.tv.val (code th)):=fun V hV=>holdsS_of ((hTH.below hV).mono hV.size) ((hTH.blk).mono fun _ _=>trivial)
 have HSB:Hid (∀V,Below W.heap.size W V→HoldsS (n+1) anyB V tb.tv.val (code tb)):=fun V hV=>holdsS_of ((hTB.below hV).mono hV.size) ((hTB.blk).mono fun _ _=>trivial)
 have HOKR:Hid (∀h b,wroteC th tb=some (h,b)→h.all okM=true∧b.all okM=true):=wrote_ok hTH.wl hTB.wl okh okb hl
 clear hTH hTB okh okb hl hb2 hs2 hbc hbz HTB HTH
 generalize wroteC th tb=r at HW HOKR⊢
 generalize code th=ch at *
 generalize code tb=cb0 at *
 simp only[TV.val] at HK
 simp only[clV] at HW
 simp only[TV.val] at hh
 simp only[clV]
 go_enter Tryz.func23,Tryz.ntmps23
 go_wp2_with fail
 try rw[hW2]
 refine hh.mono ?_
 clear hh hW2 c0 c1 c2 c3 c4 c5 c6 c7
 rintro e V1 ⟨rfl,g1⟩
 have t1:=HT.out.next g1
 clear HT g1
 have hk:=HK.out V1 t1.below
 obtain⟨⟨c0,c1,c2,c3⟩,c4,c5,c6,c7⟩:=t1.c.cs
 have T1:=hide t1
 clear t1 HK
 go_wp2_with fail
 refine hk.mono ?_
 clear hk c0 c1 c2 c3 c4 c5 c6 c7
 rintro e V2 ⟨rfl,g2⟩
 have t2:=T1.out.next g2
 clear T1 g2
 have hw:=HW.out V2 t2.below
 obtain⟨⟨c0,c1,c2,c3⟩,c4,c5,c6,c7⟩:=t2.c.cs
 have T2:=hide t2
 clear t2 HW
 go_wp2_with fail
 refine hw.mono ?_
 clear hw c0 c1 c2 c3 c4 c5 c6 c7
 rintro e V3 ⟨x,rfl,g3,hmk⟩
 have t3:=T2.out.next g3
 have HL3:Hid (W.heap.size+1<V3.heap.size):=t3.z.lt
 have T3:=hide t3
 clear T2 g3 t3
 simp only[TV.val] at hmk
 simp only[TV.val]
 go_wp2_with fail
 refine hmk.mono ?_
 clear hmk
 rintro e V4 ⟨hms,g4⟩
 obtain⟨hx,bx,rfl,hres⟩:=hms
 have t4:=T3.out.next g4
 clear T3 g4
 have hb5:Below V4.heap.size V4 (V4.alloc (.cells #[.int .i64 hx.k,.int .i64 hx.N,.string hx.s,.slice hx.a hx.len hx.cap,.int .i64 bx.k,.int .i64 bx.N,.string bx.s,.slice bx.a bx.len bx.cap] 36)):=(Below.refl _ V4).alloc (Nat.le_refl _) _
 have hbo:=BoxC.new V4 hx bx
 have t5:=t4.next hb5
 cases r with
 | none=>
  obtain⟨rfl,rfl⟩:=hres
  clear hbo t4 HOH HOB HSH HSB HOKR hb5
  simp only[mkE,Option.isSome_none]
  simp only[noTerm] at t5
  simp only[clV,noTerm]
  obtain⟨⟨z0,z1,z2,z3⟩,z4,z5,z6,z7⟩:=t5.z.cs
  obtain⟨y0,y1,y2,y3,y4,y5,y6,y7⟩:=t5.z.fs
  have HF:Hid (Below W.heap.size W (set8 (V4.alloc (.cells #[.int .i64 0,.int .i64 0,.string ⟨#[]⟩,.slice none 0 0,.int .i64 0,.int .i64 0,.string ⟨#[]⟩,.slice none 0 0] 36)) (W.heap.size+1) noTerm noTerm)):=set8_below t5.below (by omega) _ _
  clear t5
  go_wp2_with fail
  exact bodyPost_ret (v:=.tuple #[clV noTerm noTerm,.int .i64 7]) (by simp[results,Tryz.results23,go_sem,clV,noTerm,z0,z1,z2,z3,z4,z5,z6,z7]) rfl ⟨RmSays.no (err:=7) (by decide),HF.out⟩
 | some hb=>
  obtain⟨h,b⟩:=hb
  obtain⟨hH,hB⟩:=hres
  obtain⟨oH,oB⟩:=HOKR.out h b rfl
  have HH:Hid (∀V,Below (V4.alloc (.cells #[.int .i64 hx.k,.int .i64 hx.N,.string hx.s,.slice hx.a hx.len hx.cap,.int .i64 bx.k,.int .i64 bx.N,.string bx.s,.slice bx.a bx.len bx.cap] 36)).heap.size (V4.alloc (.cells #[.int .i64 hx.k,.int .i64 hx.N,.string hx.s,.slice hx.a hx.len hx.cap,.int .i64 bx.k,.int .i64 bx.N,.string bx.s,.slice bx.a bx.len bx.cap] 36)) V→HoldsS (n+4) (V3.heap.size≤ ·) V hx.val h∧HoldsS (n+4) (V3.heap.size≤ ·) V bx.val b∧BoxC V V4.heap.size hx bx):=fun V hV=>⟨(hH.below hb5).below hV,(hB.below hb5).below hV,hbo.below hV hbo.lt⟩
  have hlt3:=t4.z.lt
  obtain⟨⟨o0,o1,o2,o3⟩,o4,o5,o6,o7⟩:=hbo.cs
  obtain⟨⟨c0,c1,c2,c3⟩,c4,c5,c6,c7⟩:=t5.c.cs
  have hs1:=isSame_any ((hH.below hb5)) (HSH.out _ t5.below) oH HOH.out
  have HO:Hid (h.all okM=true∧b.all okM=true∧ch.all okM=true∧cb0.all okM=true):=⟨oH,oB,HOH.out,HOB.out⟩
  have T5:=hide t5
  clear t5 t4 hbo hH hB hb5 HOH HOB HSH HOKR oH oB
  simp only[mkE,Option.isSome_some,clV]
  simp only[TV.val] at hs1
  by_cases e1:h=ch
  ·subst e1
   simp only[decide_true] at hs1
   go_wp2_with fail
   refine hs1.mono ?_
   clear hs1 c0 c1 c2 c3 c4 c5 c6 c7 o0 o1 o2 o3 o4 o5 o6 o7
   rintro e V6 ⟨rfl,g6⟩
   have t6:=T5.out.next g6
   obtain⟨k1,k2,k3⟩:=HH.out V6 g6
   have hs2:=isSame_any k2 (HSB.out _ t6.below) HO.out.2.1 HO.out.2.2.2
   obtain⟨⟨o0,o1,o2,o3⟩,o4,o5,o6,o7⟩:=k3.cs
   obtain⟨⟨c0,c1,c2,c3⟩,c4,c5,c6,c7⟩:=t6.c.cs
   have T6:=hide t6
   have G6:=hide g6
   clear T5 g6 t6 k1 k2 k3 HSB HO
   simp only[TV.val] at hs2
   by_cases e2:b=cb0
   ·subst e2
    simp only[decide_true] at hs2
    go_wp2_with fail
    refine hs2.mono ?_
    clear hs2 c0 c1 c2 c3 c4 c5 c6 c7 o0 o1 o2 o3 o4 o5 o6 o7
    rintro e V7 ⟨rfl,g7⟩
    have t7:=T6.out.next g7
    obtain⟨k1,k2,k3⟩:=HH.out V7 ((unhide G6).trans (g7.mono (unhide G6).size))
    obtain⟨⟨o0,o1,o2,o3⟩,o4,o5,o6,o7⟩:=k3.cs
    obtain⟨⟨z0,z1,z2,z3⟩,z4,z5,z6,z7⟩:=t7.z.cs
    obtain⟨y0,y1,y2,y3,y4,y5,y6,y7⟩:=t7.z.fs
    have hL3:W.heap.size+1<V3.heap.size:=HL3.out
    have HF:Hid (Below W.heap.size W (set8 V7 (W.heap.size+1) hx bx)∧HoldsS (n+4) (W.heap.size≤ ·) (set8 V7 (W.heap.size+1) hx bx) hx.val h∧HoldsS (n+4) (W.heap.size≤ ·) (set8 V7 (W.heap.size+1) hx bx) bx.val b):=
     ⟨set8_below t7.below (by omega) _ _,(holdsS_set4 (holdsS_set4 k1 (by omega) 0 _) (by omega) 4 _).mono (Nat.le_refl _) (fun k hk=>by have:V3.heap.size≤k:=hk;show W.heap.size≤k;omega),(holdsS_set4 (holdsS_set4 k2 (by omega) 0 _) (by omega) 4 _).mono (Nat.le_refl _) (fun k hk=>by have:V3.heap.size≤k:=hk;show W.heap.size≤k;omega)⟩
    clear T6 G6 g7 t7 k1 k2 k3 HH hL3 HL3
    go_wp2_with fail
    exact bodyPost_ret (v:=.tuple #[clV hx bx,.int .i64 0]) (by simp[results,Tryz.results23,go_sem,clV,z0,z1,z2,z3,z4,z5,z6,z7]) rfl ⟨⟨hx,bx,by simp[plainE],fun _=>⟨HF.out.2.1,HF.out.2.2⟩,fun he=>(he (by simp[plainE])).elim⟩,HF.out.1⟩
   ·have hd:decide (b=cb0)=false:=decide_eq_false e2
    rw[hd] at hs2
    have HE:Hid (plainE (some (h,b)) h cb0=7):=by show(if h=h∧b=cb0 then(0:Int) else 7)=7;rw[if_neg (fun q=>e2 q.2)]
    clear e2 hd
    go_wp2_with fail
    refine hs2.mono ?_
    clear hs2 c0 c1 c2 c3 c4 c5 c6 c7 o0 o1 o2 o3 o4 o5 o6 o7
    rintro e V7 ⟨rfl,g7⟩
    have t7:=T6.out.next g7
    clear T6 G6 g7 HH
    obtain⟨⟨z0,z1,z2,z3⟩,z4,z5,z6,z7⟩:=t7.z.cs
    obtain⟨y0,y1,y2,y3,y4,y5,y6,y7⟩:=t7.z.fs
    have HF:Hid (Below W.heap.size W (set8 V7 (W.heap.size+1) noTerm noTerm)):=set8_below t7.below (by omega) _ _
    clear t7
    go_wp2_with fail
    exact bodyPost_ret (v:=.tuple #[clV noTerm noTerm,.int .i64 7]) (by simp[results,Tryz.results23,go_sem,clV,noTerm,z0,z1,z2,z3,z4,z5,z6,z7]) rfl ⟨by rw[HE.out];exact RmSays.no (by decide),HF.out⟩
  ·have hd:decide (h=ch)=false:=decide_eq_false e1
   rw[hd] at hs1
   have HE:Hid (plainE (some (h,b)) ch cb0=7):=by show(if h=ch∧b=cb0 then(0:Int) else 7)=7;rw[if_neg (fun q=>e1 q.1)]
   clear e1 hd
   go_wp2_with fail
   refine hs1.mono ?_
   clear hs1 c0 c1 c2 c3 c4 c5 c6 c7 o0 o1 o2 o3 o4 o5 o6 o7
   rintro e V6 ⟨rfl,g6⟩
   have t6:=T5.out.next g6
   clear T5 g6 HH HSB HO
   obtain⟨⟨z0,z1,z2,z3⟩,z4,z5,z6,z7⟩:=t6.z.cs
   obtain⟨y0,y1,y2,y3,y4,y5,y6,y7⟩:=t6.z.fs
   have HF:Hid (Below W.heap.size W (set8 V6 (W.heap.size+1) noTerm noTerm)):=set8_below t6.below (by omega) _ _
   clear t6
   go_wp2_with fail
   exact bodyPost_ret (v:=.tuple #[clV noTerm noTerm,.int .i64 7]) (by simp[results,Tryz.results23,go_sem,clV,noTerm,z0,z1,z2,z3,z4,z5,z6,z7]) rfl ⟨by rw[HE.out];exact RmSays.no (by decide),HF.out⟩
/-- base.remade, whatever it is asked. -/
def remE{n:Nat}(th tb:Tm (n+1)):Int:=if okT th=true∧okT tb=true then plainE (wroteC th tb) (code th) (code tb) else 2
theorem remade_any{n:Nat}(th tb:Tm (n+1))(W:World)(hTH:IsT W.heap.size W th)(hTB:IsT W.heap.size W tb)(hl:2*((code th).length+(code tb).length+1)≤4194304)(hn38:n≤274877906944:=by omega):
  Calls Tryz.prog 23 #[clV th.tv tb.tv] W fun e W'=>RmSays (n+4) W.heap.size (remE th tb) (code th) (code tb) e W'∧Below W.heap.size W W':=by
 unfold remE
 cases okh:okT th with
 | false=>rw[if_neg (by simp)];exact remade_bad1 th tb W hTH hTB okh
 | true=>
  cases okb:okT tb with
  | false=>rw[if_neg (by simp)];exact remade_bad2 th tb W hTH hTB okh okb
  | true=>rw[if_pos ⟨rfl,rfl⟩];exact remade_ok th tb W hTH hTB okh okb hl
theorem plain_rem{n:Nat}(th tb:Tm (n+1)):plainR th tb=if remE th tb=0 then(0,if isTr tb.tv=true then code th else(4,0,[58,45],2)::(code th++code tb)) else(remE th tb,noC):=by
 unfold plainR remE
 by_cases h:okT th=true∧okT tb=true
 ·rw[if_pos h,if_pos h,isTr_isB (ok_top h.2)]
  unfold wroteC
  cases hi:isB tb.tv trueL 0 with
  | true=>
   rw[if_pos rfl,if_pos rfl]
   rcases plainE_two (makeC th.lift) (code th) (code tb) with e | e
   ·rw[e];rfl
   ·rw[e];rfl
  | false=>
   have c:¬((false:Bool)=true):=by simp
   simp only[if_neg c]
   rcases plainE_two (makeJ (headBad th.tv) (code th) (bodyC tb)) (code th) (code tb) with e | e
   ·rw[e];simp
   ·simp[e]
 ·rw[if_neg h,if_neg h]
  rfl
end Go.Proofs.YteaiefjmcinljaaGreatDoor
