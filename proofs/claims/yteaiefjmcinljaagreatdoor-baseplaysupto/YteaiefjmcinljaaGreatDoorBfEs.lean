import Derived.Test.YteaiefjmcinljaaGreatDoorBfCs
namespace Go.Proofs.YteaiefjmcinljaaGreatDoor
set_option maxHeartbeats 4000000
set_option maxRecDepth 100000
open Go.RowKit Go.Shelf Go.Maps
section
variable {n:Nat} {M M' O O':Nat→Prop} {W W' W2 W0:World} {lo b rb vx:Nat} {laid:Int} {E:List En} {H:List (Hd n)} {V:List (Vw n)} {u:Value}
/-- What stands behind base's Add. -/
def AddB(M O:Nat→Prop)(W:World)(b:Nat)(laid:Int)(E:List En)(H:List (Hd n))(first:Bool)(th tb:Tm (n+1))(W':World):Prop:=
 ∃(M' O':Nat→Prop) (x:En),(∀k,M k→M' k)∧(∀k,M' k→M k∨W.heap.size≤k)∧Mut M' W'∧GrB O W.heap.size W W'∧(∀k,O' k→O k∨W.heap.size≤k)∧x.say=(plOf laid first,code th,code tb)∧BaseK M' W' b (laid+1) O' (insE E x) (addH H first th tb)
theorem addH_mem{first:Bool}{th tb:Tm (n+1)}{P:Tm (n+1)→Prop}:(∃d∈addH H first th tb,P d.th)↔(∃d∈H,P d.th)∨P th:=by
 unfold addH
 cases first with
 | true=>
  simp only[if_true,List.mem_cons]
  constructor
  ·rintro⟨d,rfl | hd,hp⟩
   ·exact .inr hp
   ·exact .inl ⟨d,hd,hp⟩
  ·rintro(⟨d,hd,hp⟩ | hp)
   ·exact⟨d,.inr hd,hp⟩
   ·exact⟨_,.inl rfl,hp⟩
 | false=>
  simp only[Bool.false_eq_true,if_false,List.mem_append,List.mem_singleton]
  constructor
  ·rintro⟨d,hd | rfl,hp⟩
   ·exact .inl ⟨d,hd,hp⟩
   ·exact .inr hp
  ·rintro(⟨d,hd,hp⟩ | hp)
   ·exact⟨d,.inl hd,hp⟩
   ·exact⟨_,.inr rfl,hp⟩
theorem addH_ok{first:Bool}{th tb:Tm (n+1)}(h:∀d∈H,HdOk lo W0 d)(hn:∀pl on,HdOk lo W0 (⟨pl,th,tb,on⟩:Hd n)):∀d∈addH H first th tb,HdOk lo W0 d:=by
 unfold addH
 cases first with
 | true=>
  intro d hd
  simp only[if_true,List.mem_cons] at hd
  rcases hd with rfl | hd
  ·exact hn _ _
  ·exact h d hd
 | false=>
  intro d hd
  simp only[Bool.false_eq_true,if_false,List.mem_append,List.mem_singleton] at hd
  rcases hd with hd | rfl
  ·exact h d hd
  ·exact hn _ _
theorem Both.addH(h:Both laid E H)(h0:0≤laid){first:Bool}{x:En}{th tb:Tm (n+1)}(hx:x.say=(plOf laid first,code th,code tb)):Both (laid+1) (insE E x) (addH H first th tb):=by
 unfold Go.Proofs.YteaiefjmcinljaaGreatDoor.addH
 rw[h.len]
 cases first with
 | true=>simp only[if_true];exact h.first h0 (by rw[hx];rfl)
 | false=>simp only[Bool.false_eq_true,if_false];exact h.last h0 (by rw[hx];rfl)
theorem add_one(hp:PlS W0 lo b rb vx M O laid E H V u W)(hbig:laid≤1048575)(first:Bool)(th tb:Tm (n+1))(hTH:IsT W.heap.size W th)(hTB:IsT W.heap.size W tb)(hl:2*((code th).length+(code tb).length+1)≤4194304)(hrem:remE th tb=0)(hnum:numC (code th))(hn38:n≤274877906944):
  Calls Tryz.prog 9 #[.pointer (some ⟨b,0,none⟩),clV th.tv tb.tv,.bool first] W fun e W'=>e=.returned (.tuple #[.int .i64 (laid+1),.int .i64 0])∧AddB M O W b laid E H first th tb W':=by
 obtain⟨me,mf,ce,cf,ge,gf,F,hB,hO,hF⟩:=hp.bs
 have fin:∀(W':World),Added M W b me mf laid F E (plOf laid first) (code th) (code tb) W'→AddB M O W b laid E H first th tb W':=by
  rintro W' ⟨M',a1,a2,a3,g,ce',cf',ge',gf',F',x,x1,x2,x3,o1,hB',hF'⟩
  refine⟨M',Own b me mf F',x,a1,a2,a3,⟨g.os,g.tape,g.output,g.size,fun k hk hn=>g.block k hk (fun e=>hn ((hO k).2 e))⟩,fun k hk=>(o1 k hk).imp (fun h=>(hO k).2 h) id,?_,me,mf,ce',cf',ge',gf',F',hB',fun k=>Iff.rfl,fun p=>?_⟩
  ·show(x.pl,x.ch,x.cb)=_
   rw[x1,x2,x3]
  ·rw[hF' p,hF p,addH_mem (P:=fun t=>predC (code t)=p)]
   constructor
   ·rintro(h | h)
    ·exact .inl h
    ·exact .inr h.symm
   ·rintro(h | h)
    ·exact .inl h
    ·exact .inr h.symm
 cases first with
 | false=>exact(add_bok_last hB hp.mu (by omega) th tb hTH hTB hl hrem hnum).mono fun e W' h=>⟨h.1,fin W' h.2⟩
 | true=>exact(add_bok_first hB hp.mu (by omega) th tb hTH hTB hl hrem hnum).mono fun e W' h=>⟨h.1,fin W' h.2⟩
theorem add_ref(hp:PlS W0 lo b rb vx M O laid E H V u W)(hbig:laid≤1048575)(g2:GrB O W.heap.size W W2)(h2:∀k,M' k→M k∨W.heap.size≤k)(m2:Mut M' W2)(first:Bool)(th tb:Tm (n+1))(hTH:IsT lo W0 th)(hTB:IsT lo W0 tb)(hl:2*((code th).length+(code tb).length+1)≤4194304)(m:Int)(hm:W0.cell? ⟨splitLay_ren.g 1,0,none⟩=some (.int .i64 m))(hm0:splitLay_ren.g 1<lo)(hn38:n≤274877906944):
  Calls Tryz.prog 10 #[.pointer (some ⟨rb,0,none⟩),clV th.tv tb.tv,.bool first] W2 fun e W3=>(e=.returned (.tuple #[.int .i64 (if remE th tb=0 then laid+1 else 0),.int .i64 (remE th tb)])∧RB W3 rb (fun k=> ¬M' k) (if remE th tb=0 then addH H first th tb else H))∧GrB (fun k=>k=rb) W2.heap.size W2 W3:=by
 have hlow:=low_step hp.low hp.los hp.hi g2 (fun k hk=>hp.own hk)
 have hls:lo≤W2.heap.size:=Nat.le_trans hp.los hlow.size
 have hr:=radd_any rb (fun k=> ¬M' k) H first th tb m W2 (hp.rbs.step g2 (fun k hk=>⟨fun e=>(hp.zs k (.inl e)).2 hk,fun e=>e (hp.own hk)⟩) (fun k hk hlt hm'=>(h2 k hm').elim hk (fun e=>absurd hlt (by omega)))) (fun k hk hm'=>absurd (m2 k hm').1 (by omega)) (by have:=hp.both.len;omega) ((hTH.below hlow).mono hls) ((hTB.below hlow).mono hls) hl ((hlow.cell (p:=⟨splitLay_ren.g 1,0,none⟩) hm0).trans hm) (Nat.lt_of_lt_of_le hm0 hls)
 rw[hp.both.len] at hr
 exact hr
theorem add_done(hp:PlS W0 lo b rb vx M O laid E H V u W)(h0:0≤laid)(a1:∀k,M k→M' k)(a2:∀k,M' k→M k∨W.heap.size≤k)(m2:Mut M' W2)(g2:GrB O W.heap.size W W2)(o2:∀k,O' k→O k∨W.heap.size≤k){x:En}{first:Bool}{th tb:Tm (n+1)}(hx:x.say=(plOf laid first,code th,code tb))(k2:BaseK M' W2 b (laid+1) O' (insE E x) (addH H first th tb))(hn:∀pl on,HdOk lo W0 (⟨pl,th,tb,on⟩:Hd n))
  (b3:RB W' rb (fun k=> ¬M' k) (addH H first th tb)) (g3:GrB (fun k=>k=rb) W2.heap.size W2 W'):PlS W0 lo b rb vx M' O' (laid+1) (insE E x) (addH H first th tb) V u W':=by
 have hm:=hp.zs rb (.inl rfl)
 have hlt:=(hp.mu rb hm.1).1
 have hY:∀k,k=rb→M' k∧¬O' k:=fun k hk=>by rw[hk];exact⟨a1 _ hm.1,fun e=>(o2 _ e).elim hm.2 (fun e=>absurd hlt (by omega))⟩
 have hown:∀k,O' k→M' k:=fun k hk=>by
  obtain⟨me,mf,ce,cf,ge,gf,F,hB,hO,hF⟩:=k2
  rcases(hO k).1 hk with rfl | rfl | rfl | ⟨p,f,hf,rfl | rfl⟩
  ·exact hB.mem.1
  ·exact hB.mem.2.1
  ·exact hB.mem.2.2.1
  ·exact(hB.mem.2.2.2 p f hf).1
  ·exact(hB.mem.2.2.2 p f hf).2
 exact hp.both2 (g2.two g3) a1 a2 o2 (m2.grow g3 (fun k hk=>by rw[hk];exact rb_nofix b3)) (k2.step m2 g3 hY hown (fun _ hk=>.inl hk)) b3 (hp.both.addH h0 hx) (addH_ok hp.hds hn)
end
theorem based_0{n:Nat}{W0 W:World}{lo b rb vx:Nat}{M O:Nat→Prop}{laid:Int}{E:List En}{H:List (Hd n)}{V:List (Vw n)}{u:Value}(h:PlS W0 lo b rb vx M O laid E H V u W)(th tb:Tm (n+1))(first:Bool)(N:Int)(tg:Tm (n+1))(hS:StOk lo W0 ⟨0,th,tb,first,N,tg⟩)(hbig:laid≤1048575)(m:Int)(hm:W0.cell? ⟨splitLay_ren.g 1,0,none⟩=some (.int .i64 m))(hm0:splitLay_ren.g 1<lo)(hn38:n≤274877906944):
  Calls Tryz.prog 5 #[.pointer (some ⟨b,0,none⟩),.pointer (some ⟨rb,0,none⟩),.pointer (some ⟨vx,0,none⟩),.agg #[.int .i64 0,.int .i64 th.tv.k,.int .i64 th.tv.N,.string th.tv.s,.slice th.tv.a th.tv.len th.tv.cap,.int .i64 tb.tv.k,.int .i64 tb.tv.N,.string tb.tv.s,.slice tb.tv.a tb.tv.len tb.tv.cap,.bool first,.int .i64 N,.int .i64 tg.tv.k,.int .i64 tg.tv.N,.string tg.tv.s,.slice tg.tv.a tg.tv.len tg.tv.cap]] W fun e W'=>e=.returned (.bool true)∧∃(M' O':Nat→Prop) (laid':Int) (E':List En) (H':List (Hd n)),PlS W0 lo b rb vx M' O' laid' E' H' V u W'∧laid'≤laid+1:=by
 have hB1:Below W.heap.size W (W.alloc (.cells #[.int .i64 0,.int .i64 th.tv.k,.int .i64 th.tv.N,.string th.tv.s,.slice th.tv.a th.tv.len th.tv.cap,.int .i64 tb.tv.k,.int .i64 tb.tv.N,.string tb.tv.s,.slice tb.tv.a tb.tv.len tb.tv.cap,.bool first,.int .i64 N,.int .i64 tg.tv.k,.int .i64 tg.tv.N,.string tg.tv.s,.slice tg.tv.a tg.tv.len tg.tv.cap] 38)):=(Below.refl _ W).alloc (Nat.le_refl _) _
 have hx1:BoxS (W.alloc (.cells #[.int .i64 0,.int .i64 th.tv.k,.int .i64 th.tv.N,.string th.tv.s,.slice th.tv.a th.tv.len th.tv.cap,.int .i64 tb.tv.k,.int .i64 tb.tv.N,.string tb.tv.s,.slice tb.tv.a tb.tv.len tb.tv.cap,.bool first,.int .i64 N,.int .i64 tg.tv.k,.int .i64 tg.tv.N,.string tg.tv.s,.slice tg.tv.a tg.tv.len tg.tv.cap] 38)) W.heap.size ⟨0,th,tb,first,N,tg⟩:=BoxS.new W ⟨0,th,tb,first,N,tg⟩
 have h1:=h.below hB1
 obtain⟨W1,hW1⟩:∃W1,W.alloc (.cells #[.int .i64 0,.int .i64 th.tv.k,.int .i64 th.tv.N,.string th.tv.s,.slice th.tv.a th.tv.len th.tv.cap,.int .i64 tb.tv.k,.int .i64 tb.tv.N,.string tb.tv.s,.slice tb.tv.a tb.tv.len tb.tv.cap,.bool first,.int .i64 N,.int .i64 tg.tv.k,.int .i64 tg.tv.N,.string tg.tv.s,.slice tg.tv.a tg.tv.len tg.tv.cap] 38)=W1:=⟨_,rfl⟩
 rw[hW1] at hB1 hx1 h1
 have h0:0≤laid:=by have:=h1.both.len;omega
 have hls:lo≤W1.heap.size:=Nat.le_trans h1.los h1.low.size
 have hT:IsT W1.heap.size W1 th:=(hS.th.below h1.low).mono hls
 have hT':IsT W1.heap.size W1 tb:=(hS.tb.below h1.low).mono hls
 have hnO:¬O W.heap.size:=fun e=>absurd (h.mu _ (h.own e)).1 (by omega)
 have hnR:¬W.heap.size=rb:=fun e=>absurd (h.mu _ (h.zs rb (.inl rfl)).1).1 (by omega)
 have hc1:∀X,BoxS X W.heap.size ⟨0,th,tb,first,N,tg⟩→(X.cell? ⟨W.heap.size,1,none⟩=some (.int .i64 th.tv.k)∧X.cell? ⟨W.heap.size,2,none⟩=some (.int .i64 th.tv.N)∧X.cell? ⟨W.heap.size,3,none⟩=some (.string th.tv.s)∧X.cell? ⟨W.heap.size,4,none⟩=some (.slice th.tv.a th.tv.len th.tv.cap))∧
   (X.cell? ⟨W.heap.size,5,none⟩=some (.int .i64 tb.tv.k)∧X.cell? ⟨W.heap.size,6,none⟩=some (.int .i64 tb.tv.N)∧X.cell? ⟨W.heap.size,7,none⟩=some (.string tb.tv.s)∧X.cell? ⟨W.heap.size,8,none⟩=some (.slice tb.tv.a tb.tv.len tb.tv.cap))∧X.cell? ⟨W.heap.size,9,none⟩=some (.bool first):=fun X hX=>⟨hX.c.2.1,hX.c.2.2.1,hX.c.2.2.2.1⟩
 by_cases hrem:remE th tb=0
 ·have hA:=add_one h1 hbig first th tb hT hT' hS.len hrem hS.nth hn38
  have hR:=fun(M':Nat→Prop) (W2:World) (g2:GrB O W1.heap.size W1 W2) (h2:∀k,M' k→M k∨W1.heap.size≤k) (m2:Mut M' W2)=>add_ref h1 hbig g2 h2 m2 first th tb hS.th hS.tb hS.len m hm hm0 hn38
  simp only[if_pos hrem] at hR
  rw[hrem] at hR
  have hnew:∀pl on,HdOk lo W0 (⟨pl,th,tb,on⟩:Hd n):=fun pl on=>⟨hS.th,hS.tb,first_is th hS.th.wl (by rw[←okT_m];exact(rem_ok hrem).1) hS.nth,rem_kind hrem⟩
  have HR:=hide hR
  have HP:=hide h1
  have HX:=hide hx1
  have HN:=hide (And.intro hnO (And.intro hnR (And.intro h0 hnew)))
  have HC:=hide hc1
  rw[←hW1] at hA
  simp only[clV] at hA
  have HW:=hide hW1
  clear h h1 hR hB1 hx1 hS hbig hW1 hT hT' hnO hnR hnew hc1 hm hm0 hls hrem h0
  go_enter Tryz.func5,Tryz.ntmps5
  go_wp2_with fail
  refine hA.mono ?_
  clear hA
  rw[unhide HW]
  rintro e W2 ⟨rfl,M',O',x,a1,a2,m2,g2,o2,hx,k2⟩
  have hR:=(unhide HR) M' W2 g2 a2 m2
  simp only[clV] at hR
  have hx2:=(unhide HX).kept (g2.block W.heap.size (unhide HX).lt (unhide HN).1)
  obtain⟨⟨c1,c2,c3,c4⟩,⟨c5,c6,c7,c8⟩,c9⟩:=(unhide HC) W2 hx2
  have HK:=hide (And.intro a1 (And.intro a2 (And.intro m2 (And.intro g2 (And.intro o2 (And.intro hx k2))))))
  clear a1 a2 m2 g2 o2 hx k2 hx2
  go_wp2_with fail
  refine hR.mono ?_
  clear hR
  rintro e W3 ⟨⟨rfl,b3⟩,g3⟩
  have HF:=hide (add_done (unhide HP) (unhide HN).2.2.1 (unhide HK).1 (unhide HK).2.1 (unhide HK).2.2.1 (unhide HK).2.2.2.1 (unhide HK).2.2.2.2.1 (unhide HK).2.2.2.2.2.1 (unhide HK).2.2.2.2.2.2 (unhide HN).2.2.2 b3 g3)
  clear b3 g3
  go_wp2_with fail
  go_ret
  exact⟨by simp,M',O',laid+1,insE E x,addH H first th tb,unhide HF,by omega⟩
 ·have hA:=badd_bad b first th tb W1 hT hT' hS.len hrem hn38
  have hR:=fun(W2:World) (g2:Below W1.heap.size W1 W2)=>add_ref (M':=M) (h1.below g2) hbig (GrB.refl _ _ W2) (fun _ hk=>.inl hk) (h1.below g2).mu first th tb hS.th hS.tb hS.len m hm hm0 hn38
  simp only[if_neg hrem] at hR
  obtain⟨er,her⟩:∃er,remE th tb=er:=⟨_,rfl⟩
  rw[her] at hA hR
  have HR:=hide hR
  have HP:=hide h1
  have HX:=hide hx1
  have HC:=hide hc1
  rw[←hW1] at hA
  simp only[clV] at hA
  have HW:=hide hW1
  clear h h1 hR hB1 hx1 hS hbig hW1 hT hT' hnO hnR hc1 hm hm0 hls hrem h0 her
  go_enter Tryz.func5,Tryz.ntmps5
  go_wp2_with fail
  refine hA.mono ?_
  clear hA
  rw[unhide HW]
  rintro e W2 ⟨rfl,g2⟩
  have hR:=(unhide HR) W2 g2
  simp only[clV] at hR
  have hx2:=(unhide HX).kept (g2.block W.heap.size (unhide HX).lt)
  obtain⟨⟨c1,c2,c3,c4⟩,⟨c5,c6,c7,c8⟩,c9⟩:=(unhide HC) W2 hx2
  have HP2:=hide ((unhide HP).below g2)
  clear g2 hx2
  go_wp2_with fail
  refine hR.mono ?_
  clear hR
  rintro e W3 ⟨⟨rfl,b3⟩,g3⟩
  have HF:=hide ((unhide HP2).refed g3 b3 (unhide HP2).bs (unhide HP2).both (unhide HP2).hds)
  clear b3 g3
  go_wp2_with fail
  go_ret
  exact⟨by simp,M,O,laid,E,H,unhide HF,by omega⟩
set_option maxHeartbeats 4000000
set_option maxRecDepth 100000
theorem blk_true:∀{n n₀:Nat} {W:World} {t:Tm n},IsT n₀ W t→BlkT (fun _=>True) t:=by
 intro n
 induction n with
 | zero=>intro n₀ W t _;exact Empty.elim t
 | succ n ih=>
  intro n₀ W t h
  obtain⟨x,kids⟩:=t
  obtain⟨-,-,-,h4⟩:=h
  rcases h4 with h4 | ⟨b,off,ea,_,hk⟩
  ·exact⟨.inl h4,fun u hu=>by have hu':u∈kids:=hu;rw[show kids=[] from h4] at hu';cases hu'⟩
  ·refine⟨.inr ⟨b,off,ea,trivial⟩,fun u hu=>?_⟩
   obtain⟨i,hi⟩:=List.getElem?_of_mem (show u∈kids from hu)
   exact ih (hk i u hi).2
theorem holds_tm{n:Nat}{t:Tm n}{W:World}(hT:IsT W.heap.size W t):HoldsS n (fun _=>True) W t.tv.val (code t):=holdsS_of hT (blk_true hT)
/-- What both Gets answer: the error, the head's code, the body's. -/
def gotC{n:Nat}(H:List (Hd n))(N:Int):Int×List Nd×List Nd:=match H.find? (hitB N) with
 | some d=>(0,code d.th,code d.tb)
 | none=>(8,noC,noC)
def gotV{n:Nat}(H:List (Hd n))(N:Int):TV×TV:=match H.find? (hitB N) with
 | some d=>(d.th.tv,d.tb.tv)
 | none=>(noTerm,noTerm)
theorem getC_eq{n:Nat}(H:List (Hd n))(N:Int):getC H N=(clV (gotV H N).1 (gotV H N).2,(gotC H N).1):=by
 unfold getC gotV gotC
 cases H.find? (hitB N) <;> rfl
theorem got_holds{n:Nat}{H:List (Hd n)}{N:Int}{W:World}(h:∀d∈H,IsT W.heap.size W d.th∧IsT W.heap.size W d.tb):(∃S,HoldsS (n+1) S W (gotV H N).1.val (gotC H N).2.1)∧∃S,HoldsS (n+1) S W (gotV H N).2.val (gotC H N).2.2:=by
 unfold gotV gotC
 cases hf:H.find? (hitB N) with
 | some d=>
  have hd:=List.mem_of_find?_eq_some hf
  exact⟨⟨_,holds_tm (h d hd).1⟩,⟨_,holds_tm (h d hd).2⟩⟩
 | none=>exact⟨⟨_,no_shared (n+1) 0 0 (by omega) W⟩,⟨_,no_shared (n+1) 0 0 (by omega) W⟩⟩
section
variable {n:Nat} {M O:Nat→Prop} {W W0:World} {lo b rb vx:Nat} {laid:Int} {E:List En} {H:List (Hd n)} {V:List (Vw n)} {u:Value}
theorem get_base(hp:PlS W0 lo b rb vx M O laid E H V u W)(N:Int)(hN: -9223372036854775808≤N∧N≤9223372036854775807):
  Calls Tryz.prog 13 #[.pointer (some ⟨b,0,none⟩),.int .i64 N] W fun e W'=>(∃(D:Upto 1099511627776) (x y:TV),e=.returned (.tuple #[clV x y,.int .i64 (gotC H N).1])∧(∃S,HoldsS D.1 S W' x.val (gotC H N).2.1)∧∃S,HoldsS D.1 S W' y.val (gotC H N).2.2)∧Below W.heap.size W W':=by
 obtain⟨me,mf,ce,cf,ge,gf,F,hB,hO,hF⟩:=hp.bs
 have hbo:=hp.both.get N
 have hge:=hB.get N
 unfold gotC
 cases hf:H.find? (hitB N) with
 | none=>
  rw[hf] at hbo
  have hE:(E.find? fun e=>decide (max e.pl (-e.pl)=N))=none:=by
   cases hE:(E.find? fun e=>decide (max e.pl (-e.pl)=N)) with
   | none=>rfl
   | some e=>rw[hE] at hbo;cases hbo
  rw[hE] at hge
  exact(get_absent b me mf laid N ce ge W hB.base hB.ent hN.1 hN.2 hge).mono fun e W' h=>⟨⟨⟨1,by omega⟩,noTerm,noTerm,h.1,⟨_,no_shared 1 0 0 (by omega) W'⟩,⟨_,no_shared 1 0 0 (by omega) W'⟩⟩,h.2⟩
 | some d=>
  rw[hf] at hbo
  cases hE:(E.find? fun e=>decide (max e.pl (-e.pl)=N)) with
  | none=>rw[hE] at hbo;cases hbo
  | some e=>
   rw[hE] at hge hbo
   have hs:e.say=d.say:=Option.some.inj hbo
   have h1:e.ch=code d.th:=congrArg (fun s=>s.2.1) hs
   have h2:e.cb=code d.tb:=congrArg (fun s=>s.2.2) hs
   have hm:=List.mem_of_find?_eq_some hE
   obtain⟨hen,D,S,hx,hy,-⟩:=hB.ents e hm
   have hok:=hB.oks e hm
   rw[h1] at hx hok
   rw[h2] at hy hok
   refine(get_any b me mf e.eb laid e.pl N ce ge W hB.base hB.ent hN.1 hN.2 hge hen hx hy hok.1 hok.2.1 (by have:=D.2;omega)).mono ?_
   rintro e' W' ⟨⟨x',y',he,hx',hy'⟩,hb⟩
   exact⟨⟨⟨D.1+1,by have:=D.2;omega⟩,x',y',he,⟨_,hx'⟩,⟨_,hy'⟩⟩,hb⟩
theorem get_ref(hp:PlS W0 lo b rb vx M O laid E H V u W)(hbig:laid≤1048575)(N:Int):
  Calls Tryz.prog 14 #[.pointer (some ⟨rb,0,none⟩),.int .i64 N] W fun e W'=>e=.returned (.tuple #[clV (gotV H N).1 (gotV H N).2,.int .i64 (gotC H N).1])∧Below W.heap.size W W':=by
 obtain⟨a,cap,h1,h2,-,-⟩:=hp.rbs.ex
 have h:=rget_any rb a H.length cap H N W h1 h2 (by have:=hp.both.len;omega)
 rw[getC_eq] at h
 exact h
theorem PlS.held(hp:PlS W0 lo b rb vx M O laid E H V u W):∀d∈H,IsT W.heap.size W d.th∧IsT W.heap.size W d.tb:=fun d hd=>
 ⟨((hp.hds d hd).th.below hp.low).mono (Nat.le_trans hp.los hp.low.size),((hp.hds d hd).tb.below hp.low).mono (Nat.le_trans hp.los hp.low.size)⟩
end
theorem based_2{n:Nat}{W0 W:World}{lo b rb vx:Nat}{M O:Nat→Prop}{laid:Int}{E:List En}{H:List (Hd n)}{V:List (Vw n)}{u:Value}(h:PlS W0 lo b rb vx M O laid E H V u W)(th tb:Tm (n+1))(first:Bool)(N:Int)(tg:Tm (n+1))(hS:StOk lo W0 ⟨2,th,tb,first,N,tg⟩)(hbig:laid≤1048575)(hn38:n≤274877906944):
  Calls Tryz.prog 5 #[.pointer (some ⟨b,0,none⟩),.pointer (some ⟨rb,0,none⟩),.pointer (some ⟨vx,0,none⟩),.agg #[.int .i64 2,.int .i64 th.tv.k,.int .i64 th.tv.N,.string th.tv.s,.slice th.tv.a th.tv.len th.tv.cap,.int .i64 tb.tv.k,.int .i64 tb.tv.N,.string tb.tv.s,.slice tb.tv.a tb.tv.len tb.tv.cap,.bool first,.int .i64 N,.int .i64 tg.tv.k,.int .i64 tg.tv.N,.string tg.tv.s,.slice tg.tv.a tg.tv.len tg.tv.cap]] W fun e W'=>e=.returned (.bool true)∧PlS W0 lo b rb vx M O laid E H V u W':=by
 have hB1:Below W.heap.size W (W.alloc (.cells #[.int .i64 2,.int .i64 th.tv.k,.int .i64 th.tv.N,.string th.tv.s,.slice th.tv.a th.tv.len th.tv.cap,.int .i64 tb.tv.k,.int .i64 tb.tv.N,.string tb.tv.s,.slice tb.tv.a tb.tv.len tb.tv.cap,.bool first,.int .i64 N,.int .i64 tg.tv.k,.int .i64 tg.tv.N,.string tg.tv.s,.slice tg.tv.a tg.tv.len tg.tv.cap] 38)):=(Below.refl _ W).alloc (Nat.le_refl _) _
 have hx1:BoxS (W.alloc (.cells #[.int .i64 2,.int .i64 th.tv.k,.int .i64 th.tv.N,.string th.tv.s,.slice th.tv.a th.tv.len th.tv.cap,.int .i64 tb.tv.k,.int .i64 tb.tv.N,.string tb.tv.s,.slice tb.tv.a tb.tv.len tb.tv.cap,.bool first,.int .i64 N,.int .i64 tg.tv.k,.int .i64 tg.tv.N,.string tg.tv.s,.slice tg.tv.a tg.tv.len tg.tv.cap] 38)) W.heap.size ⟨2,th,tb,first,N,tg⟩:=BoxS.new W ⟨2,th,tb,first,N,tg⟩
 have h1:=h.below hB1
 obtain⟨W1,hW1⟩:∃W1,W.alloc (.cells #[.int .i64 2,.int .i64 th.tv.k,.int .i64 th.tv.N,.string th.tv.s,.slice th.tv.a th.tv.len th.tv.cap,.int .i64 tb.tv.k,.int .i64 tb.tv.N,.string tb.tv.s,.slice tb.tv.a tb.tv.len tb.tv.cap,.bool first,.int .i64 N,.int .i64 tg.tv.k,.int .i64 tg.tv.N,.string tg.tv.s,.slice tg.tv.a tg.tv.len tg.tv.cap] 38)=W1:=⟨_,rfl⟩
 rw[hW1] at hB1 hx1 h1
 have hA:=get_base h1 N hS.N0
 have hR:∀X,Below W1.heap.size W1 X→Calls Tryz.prog 14 #[.pointer (some ⟨rb,0,none⟩),.int .i64 N] X fun e W'=>e=.returned (.tuple #[clV (gotV H N).1 (gotV H N).2,.int .i64 (gotC H N).1])∧Below X.heap.size X W':=fun X hX=>get_ref (h1.below hX) hbig N
 have hG:∀X,Below W1.heap.size W1 X→(∃S,HoldsS (n+1) S X (gotV H N).1.val (gotC H N).2.1)∧∃S,HoldsS (n+1) S X (gotV H N).2.val (gotC H N).2.2:=fun X hX=>got_holds (h1.below hX).held
 have hc1:∀X,Below W1.heap.size W1 X→X.cell? ⟨W.heap.size,10,none⟩=some (.int .i64 N):=fun X hX=>(hx1.kept (hX.block _ hx1.lt)).c.2.2.2.2.1
 obtain⟨⟨x2,y2⟩,hv⟩:∃v,gotV H N=v:=⟨_,rfl⟩
 obtain⟨⟨er,ch,cb⟩,hg⟩:∃v,gotC H N=v:=⟨_,rfl⟩
 rw[hv,hg] at hG
 rw[hg] at hA
 simp only[hv,hg] at hR
 have HR:=hide hR
 have HP:=hide h1
 have HG:=hide hG
 have HC:=hide hc1
 rw[←hW1] at hA
 have HW:=hide hW1
 simp only[clV] at hA
 clear h h1 hR hB1 hx1 hS hbig hW1 hG hc1 hv hg
 go_enter Tryz.func5,Tryz.ntmps5
 go_wp2_with fail
 refine hA.mono ?_
 clear hA
 rw[unhide HW]
 rintro e W2 ⟨⟨D,x,y,rfl,hx,hy⟩,b2⟩
 have hB3:Below W1.heap.size W1 (W2.alloc (.cells #[.int .i64 x.k,.int .i64 x.N,.string x.s,.slice x.a x.len x.cap,.int .i64 y.k,.int .i64 y.N,.string y.s,.slice y.a y.len y.cap] 36)):=b2.trans (((Below.refl _ W2).alloc (Nat.le_refl _) _).mono b2.size)
 have hbx:=BoxC.new W2 x y
 have hR:=(unhide HR) _ hB3
 have c10:=(unhide HC) _ hB3
 have hx3:∃S,HoldsS D.1 S (W2.alloc (.cells #[.int .i64 x.k,.int .i64 x.N,.string x.s,.slice x.a x.len x.cap,.int .i64 y.k,.int .i64 y.N,.string y.s,.slice y.a y.len y.cap] 36)) x.val ch:=hx.imp fun S h=>HoldsS.below h ((Below.refl _ W2).alloc (Nat.le_refl _) _)
 have hy3:∃S,HoldsS D.1 S (W2.alloc (.cells #[.int .i64 x.k,.int .i64 x.N,.string x.s,.slice x.a x.len x.cap,.int .i64 y.k,.int .i64 y.N,.string y.s,.slice y.a y.len y.cap] 36)) y.val cb:=hy.imp fun S h=>HoldsS.below h ((Below.refl _ W2).alloc (Nat.le_refl _) _)
 have HB3:=hide hB3
 have HBX:=hide hbx
 have HH:=hide (And.intro hx3 hy3)
 have HL2:=hide (show W2.heap.size<(W2.alloc (.cells #[.int .i64 x.k,.int .i64 x.N,.string x.s,.slice x.a x.len x.cap,.int .i64 y.k,.int .i64 y.N,.string y.s,.slice y.a y.len y.cap] 36)).heap.size by simp)
 simp only[clV] at hR
 clear b2 hx hy hB3 hbx hx3 hy3
 go_wp2_with fail
 obtain⟨W3,hW3⟩:∃W3,W2.alloc (.cells #[.int .i64 x.k,.int .i64 x.N,.string x.s,.slice x.a x.len x.cap,.int .i64 y.k,.int .i64 y.N,.string y.s,.slice y.a y.len y.cap] 36)=W3:=⟨_,rfl⟩
 rw[hW3] at HB3 HBX HH HL2 hR⊢
 clear hW3 c10
 refine Calls.mono hR ?_
 clear hR
 rintro e W4 ⟨rfl,b4⟩
 have hB4:=(unhide HB3).trans (b4.mono (unhide HB3).size)
 have hB5:Below W1.heap.size W1 (W4.alloc (.cells #[.int .i64 x2.k,.int .i64 x2.N,.string x2.s,.slice x2.a x2.len x2.cap,.int .i64 y2.k,.int .i64 y2.N,.string y2.s,.slice y2.a y2.len y2.cap] 36)):=hB4.trans (((Below.refl _ W4).alloc (Nat.le_refl _) _).mono hB4.size)
 have b5:Below W3.heap.size W3 (W4.alloc (.cells #[.int .i64 x2.k,.int .i64 x2.N,.string x2.s,.slice x2.a x2.len x2.cap,.int .i64 y2.k,.int .i64 y2.N,.string y2.s,.slice y2.a y2.len y2.cap] 36)):=b4.trans (((Below.refl _ W4).alloc (Nat.le_refl _) _).mono b4.size)
 have hbx5:=(unhide HBX).below b5 (unhide HL2)
 have hby5:=BoxC.new W4 x2 y2
 obtain⟨⟨S1,hx5⟩,⟨S2,hy5⟩⟩:(∃S,HoldsS D.1 S (W4.alloc (.cells #[.int .i64 x2.k,.int .i64 x2.N,.string x2.s,.slice x2.a x2.len x2.cap,.int .i64 y2.k,.int .i64 y2.N,.string y2.s,.slice y2.a y2.len y2.cap] 36)) x.val ch)∧∃S,HoldsS D.1 S (W4.alloc (.cells #[.int .i64 x2.k,.int .i64 x2.N,.string x2.s,.slice x2.a x2.len x2.cap,.int .i64 y2.k,.int .i64 y2.N,.string y2.s,.slice y2.a y2.len y2.cap] 36)) y.val cb:=⟨(unhide HH).1.imp fun S h=>HoldsS.below h b5,(unhide HH).2.imp fun S h=>HoldsS.below h b5⟩
 obtain⟨⟨S3,hx6⟩,⟨S4,hy6⟩⟩:=(unhide HG) _ hB5
 have hl4:W4.heap.size<(W4.alloc (.cells #[.int .i64 x2.k,.int .i64 x2.N,.string x2.s,.slice x2.a x2.len x2.cap,.int .i64 y2.k,.int .i64 y2.N,.string y2.s,.slice y2.a y2.len y2.cap] 36)).heap.size:=by simp
 obtain⟨⟨c0,c1,c2,c3⟩,c4,c5,c6,c7⟩:=hbx5.cs
 obtain⟨⟨d0,d1,d2,d3⟩,d4,d5,d6,d7⟩:=hby5.cs
 obtain⟨W5,hW5⟩:∃W5,W4.alloc (.cells #[.int .i64 x2.k,.int .i64 x2.N,.string x2.s,.slice x2.a x2.len x2.cap,.int .i64 y2.k,.int .i64 y2.N,.string y2.s,.slice y2.a y2.len y2.cap] 36)=W5:=⟨_,rfl⟩
 rw[hW5] at hB5 hbx5 hby5 hx5 hy5 hx6 hy6 hl4
 have s1:∀X,Below W5.heap.size W5 X→Calls Tryz.prog 15 #[x.val,x2.val] X fun e W'=>e=.returned (.bool true)∧Below W5.heap.size W5 W':=fun X hX=>(same_shared (HoldsS.below hx5 hX) (HoldsS.below hx6 hX) (by have:=D.2;omega)).mono fun e W' h=>⟨by rw[h.1];simp,hX.trans (h.2.mono hX.size)⟩
 have s2:∀X,Below W5.heap.size W5 X→Calls Tryz.prog 15 #[y.val,y2.val] X fun e W'=>e=.returned (.bool true)∧Below W5.heap.size W5 W':=fun X hX=>(same_shared (HoldsS.below hy5 hX) (HoldsS.below hy6 hX) (by have:=D.2;omega)).mono fun e W' h=>⟨by rw[h.1];simp,hX.trans (h.2.mono hX.size)⟩
 have hcs:∀X,Below W5.heap.size W5 X→BoxC X W2.heap.size x y∧BoxC X W4.heap.size x2 y2:=fun X hX=>⟨hbx5.below hX (by have:=hbx5.lt;omega),hby5.below hX hl4⟩
 simp only[TV.val] at s1 s2
 have HS1:=hide s1
 have HS2:=hide s2
 have HCS:=hide hcs
 have HB5:=hide hB5
 have HW5:=hide hW5
 clear b4 hB4 hB5 b5 hbx5 hby5 hx5 hy5 hx6 hy6 s1 s2 hcs HB3 HBX HH HL2 HR HG HC HW hW5
 go_wp2_with fail
 rw[unhide HW5]
 refine((unhide HS1) W5 (Below.refl _ _)).mono ?_
 rintro e W6 ⟨rfl,b6⟩
 obtain⟨⟨-,e4,e5,e6,e7⟩,-,f4,f5,f6,f7⟩:=(⟨((unhide HCS) W6 b6).1.cs,((unhide HCS) W6 b6).2.cs⟩:_∧_)
 clear c0 c1 c2 c3 c4 c5 c6 c7 d0 d1 d2 d3 d4 d5 d6 d7
 go_wp2_with fail
 refine((unhide HS2) W6 b6).mono ?_
 rintro e W7 ⟨rfl,b7⟩
 have HF:=hide ((unhide HP).below ((unhide HB5).trans (b7.mono (unhide HB5).size)))
 clear b6 b7 e4 e5 e6 e7 f4 f5 f6 f7
 go_wp2_with fail
 go_ret
 exact⟨rfl,unhide HF⟩
end Go.Proofs.YteaiefjmcinljaaGreatDoor
