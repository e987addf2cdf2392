import Derived.Test.YteaiefjmcinljaaGreatDoorBeIs
namespace Go.Proofs.YteaiefjmcinljaaGreatDoor
set_option maxHeartbeats 4000000
set_option maxRecDepth 100000
open Go.RowKit Go.Shelf Go.Maps
theorem known_at{n:Nat}{W:World}{M O:Nat→Prop}{b:Nat}{laid:Int}{E:List En}{H:List (Hd n)}(h:BaseK M W b laid O E H)(hH:∀d∈H,FirstIs (code d.th)∧(d.th.tv.k=3∨d.th.tv.k=4))(s:ByteArray)(N:Int)(hs:s.size≤maxLen)(hN: -9223372036854775808≤N∧N≤9223372036854775807):
  Calls Tryz.prog 16 #[.pointer (some ⟨b,0,none⟩),.string s,.int .i64 N] W fun e W'=>e=.returned (.bool (H.any fun d=>isB d.th.tv s.toList N))∧Below W.heap.size W W':=by
 obtain⟨me,mf,ce,cf,ge,gf,F,hB,hO,hF⟩:=h
 have hk:=known_any b me mf laid cf gf s N W hB.base hB.fam hs hN
 rw[hB.gfs,Option.isSome_map] at hk
 rw[←known_same hF hH s N hs hN]
 exact hk
theorem rknown_at{n:Nat}{W:World}{rb:Nat}{X:Nat→Prop}{H:List (Hd n)}(h:RB W rb X H)(hl:H.length≤4194304)(s:ByteArray)(N:Int):
  Calls Tryz.prog 17 #[.pointer (some ⟨rb,0,none⟩),.string s,.int .i64 N] W fun e W'=>e=.returned (.bool (H.any fun d=>isB d.th.tv s.toList N))∧Below W.heap.size W W':=by
 obtain⟨a,cap,h1,h2,-,-⟩:=h.ex
 exact rknown_any rb a H.length cap H s N W h1 h2 hl
theorem tv_size{n lo:Nat}{W:World}{t:Tm (n+1)}(h:IsT lo W t):t.tv.s.size≤maxLen:=by
 obtain⟨x,kids⟩:=t
 obtain⟨-,-,h3,-⟩:=h
 unfold maxLen
 exact h3
theorem based_3{n:Nat}{W0 W:World}{lo b rb vx:Nat}{M O:Nat→Prop}{laid:Int}{E:List En}{H:List (Hd n)}{V:List (Vw n)}{u:Value}(h:PlS W0 lo b rb vx M O laid E H V u W)(th tb:Tm (n+1))(first:Bool)(N:Int)(tg:Tm (n+1))(hS:StOk lo W0 ⟨3,th,tb,first,N,tg⟩)(hbig:laid≤1048575):
  Calls Tryz.prog 5 #[.pointer (some ⟨b,0,none⟩),.pointer (some ⟨rb,0,none⟩),.pointer (some ⟨vx,0,none⟩),.agg #[.int .i64 3,.int .i64 th.tv.k,.int .i64 th.tv.N,.string th.tv.s,.slice th.tv.a th.tv.len th.tv.cap,.int .i64 tb.tv.k,.int .i64 tb.tv.N,.string tb.tv.s,.slice tb.tv.a tb.tv.len tb.tv.cap,.bool first,.int .i64 N,.int .i64 tg.tv.k,.int .i64 tg.tv.N,.string tg.tv.s,.slice tg.tv.a tg.tv.len tg.tv.cap]] W fun e W'=>e=.returned (.bool true)∧PlS W0 lo b rb vx M O laid E H V u W':=by
 have hB1:Below W.heap.size W (W.alloc (.cells #[.int .i64 3,.int .i64 th.tv.k,.int .i64 th.tv.N,.string th.tv.s,.slice th.tv.a th.tv.len th.tv.cap,.int .i64 tb.tv.k,.int .i64 tb.tv.N,.string tb.tv.s,.slice tb.tv.a tb.tv.len tb.tv.cap,.bool first,.int .i64 N,.int .i64 tg.tv.k,.int .i64 tg.tv.N,.string tg.tv.s,.slice tg.tv.a tg.tv.len tg.tv.cap] 38)):=(Below.refl _ W).alloc (Nat.le_refl _) _
 have hx1:BoxS (W.alloc (.cells #[.int .i64 3,.int .i64 th.tv.k,.int .i64 th.tv.N,.string th.tv.s,.slice th.tv.a th.tv.len th.tv.cap,.int .i64 tb.tv.k,.int .i64 tb.tv.N,.string tb.tv.s,.slice tb.tv.a tb.tv.len tb.tv.cap,.bool first,.int .i64 N,.int .i64 tg.tv.k,.int .i64 tg.tv.N,.string tg.tv.s,.slice tg.tv.a tg.tv.len tg.tv.cap] 38)) W.heap.size ⟨3,th,tb,first,N,tg⟩:=BoxS.new W ⟨3,th,tb,first,N,tg⟩
 have h1:=h.below hB1
 obtain⟨W1,hW1⟩:∃W1,W.alloc (.cells #[.int .i64 3,.int .i64 th.tv.k,.int .i64 th.tv.N,.string th.tv.s,.slice th.tv.a th.tv.len th.tv.cap,.int .i64 tb.tv.k,.int .i64 tb.tv.N,.string tb.tv.s,.slice tb.tv.a tb.tv.len tb.tv.cap,.bool first,.int .i64 N,.int .i64 tg.tv.k,.int .i64 tg.tv.N,.string tg.tv.s,.slice tg.tv.a tg.tv.len tg.tv.cap] 38)=W1:=⟨_,rfl⟩
 rw[hW1] at hB1 hx1 h1
 have hlen:H.length≤4194304:=by have:=h1.both.len;omega
 have hA:∀X,Below W1.heap.size W1 X→Calls Tryz.prog 16 #[.pointer (some ⟨b,0,none⟩),.string tg.tv.s,.int .i64 N] X fun e W'=>e=.returned (.bool (H.any fun d=>isB d.th.tv tg.tv.s.toList N))∧Below W1.heap.size W1 W':=fun X hX=>
  (known_at (h1.below hX).bs (fun d hd=>⟨(h1.hds d hd).fst,(h1.hds d hd).kind⟩) tg.tv.s N (tv_size hS.tg) hS.N0).mono fun e W' k=>⟨k.1,hX.trans (k.2.mono hX.size)⟩
 have hR:∀X,Below W1.heap.size W1 X→Calls Tryz.prog 17 #[.pointer (some ⟨rb,0,none⟩),.string tg.tv.s,.int .i64 N] X fun e W'=>e=.returned (.bool (H.any fun d=>isB d.th.tv tg.tv.s.toList N))∧Below W1.heap.size W1 W':=fun X hX=>
  (rknown_at (h1.below hX).rbs hlen tg.tv.s N).mono fun e W' k=>⟨k.1,hX.trans (k.2.mono hX.size)⟩
 have hcs:∀X,Below W1.heap.size W1 X→X.cell? ⟨W.heap.size,13,none⟩=some (.string tg.tv.s)∧X.cell? ⟨W.heap.size,10,none⟩=some (.int .i64 N):=fun X hX=>by
  have hb:=(hx1.kept (hX.block _ hx1.lt)).c
  exact⟨hb.2.2.2.2.2.2.2.1,hb.2.2.2.2.1⟩
 generalize (H.any fun d=>isB d.th.tv tg.tv.s.toList N)=q at hA hR
 have HA:=hide hA
 have HR:=hide hR
 have HC:=hide hcs
 have HP:=hide h1
 have HW:=hide hW1
 have hd:=(Below.refl W1.heap.size W1).drew
 have HX:=hide hx1
 clear h h1 hA hR hcs hB1 hx1 hS hbig hlen hW1
 go_enter Tryz.func5,Tryz.ntmps5
 go_wp2_with fail
 rw[unhide HW]
 obtain⟨c0,c1⟩:=(unhide HC) W1 (Below.refl _ _)
 go_region_held3 (fun w'=>w'.cell? ⟨W.heap.size,13,none⟩=some (.string tg.tv.s)∧w'.cell? ⟨W.heap.size,10,none⟩=some (.int .i64 N)) (first | exact⟨c0,c1⟩ | exact(unhide HC) _ (by assumption) | go_keep) (first | (go_at_call 16;refine((unhide HA) _ hd).mono ?_;rintro e w2 ⟨rfl,hb2⟩) | (go_at_call 17;refine((unhide HR) _ hb2).mono ?_;rintro e w3 ⟨rfl,hb3⟩))
 go_wp2_with fail
 go_ret
 exact⟨by simp,(unhide HP).below hb3⟩
set_option maxHeartbeats 4000000
set_option maxRecDepth 100000
section
variable {n:Nat} {M M' O O':Nat→Prop} {W W' W2 W0:World} {lo b rb vx:Nat} {laid:Int} {E:List En} {H:List (Hd n)} {V:List (Vw n)} {u:Value}
theorem GrB.two(g:GrB O W.heap.size W W2)(g':GrB (fun k=>k=rb) W2.heap.size W2 W'):GrB (fun k=>O k∨k=rb) W.heap.size W W':=
 ⟨g'.os.trans g.os,g'.tape.trans g.tape,g'.output.trans g.output,Nat.le_trans g.size g'.size,fun k hk hn=>(g'.block k (Nat.lt_of_lt_of_le hk g.size) (fun e=>hn (.inr e))).trans (g.block k hk (fun e=>hn (.inl e)))⟩
theorem rb_nofix{X:Nat→Prop}(h:RB W rb X H):NoFix W rb:=fun c t o hc=>by
 obtain⟨a,cap,hbx,-⟩:=h.ex
 rw[show W.heap[rb]?=_ from hbx] at hc
 simp at hc
 rw[←hc.2.1]
 unfold FixK
 decide
theorem PlS.both2(h:PlS W0 lo b rb vx M O laid E H V u W)(g:GrB (fun k=>O k∨k=rb) W.heap.size W W')(h1:∀k,M k→M' k)(h2:∀k,M' k→M k∨W.heap.size≤k)(hO:∀k,O' k→O k∨W.heap.size≤k)(hM:Mut M' W'){laid':Int}{E':List En}{H':List (Hd n)}(hb:BaseK M' W' b laid' O' E' H')(hr:RB W' rb (fun k=> ¬M' k) H')(hboth:Both laid' E' H')(hds:∀d∈H',HdOk lo W0 d):PlS W0 lo b rb vx M' O' laid' E' H' V u W':=by
 have hz:∀k,Zs rb vx u V k→¬O k:=fun k hk=>(h.zs k hk).2
 have hzl:∀k,Zs rb vx u V k→k<W.heap.size:=fun k hk=>(h.mu k (h.zs k hk).1).1
 have hlo:lo≤W.heap.size:=Nat.le_trans h.los h.low.size
 have hYM:∀k,(O k∨k=rb)→M k:=fun k hk=>hk.elim (fun e=>h.own e) (fun e=>by rw[e];exact(h.zs rb (.inl rfl)).1)
 refine⟨low_step h.low h.los h.hi g hYM,fun k hk=>(h2 k hk).elim (h.hi k) (fun e=>Nat.le_trans hlo e),h.los,hM,hb,hr,hboth,hds,
  box_grb h.box g (fun e=>e.elim (hz vx (.inr (.inl rfl))) (fun e=>h.ap1 e.symm)),owns_below h.row (fun g' hg=>g.block g' (owns_lt h.row hg).2 (fun e=>e.elim (hz g' (.inr (.inr (.inl hg)))) (fun e=>(h.ap2 g' hg).1 e))),fun v hv=>(h.each v hv).step h.mu g (fun k hk=>⟨hYM k hk,fun e=>hk.elim (fun e'=>hz k (.inr (.inr (.inr ⟨v,hv,e⟩))) e') (fun e'=>(h.ap3 v hv).1 (by rw[←e,e']))⟩) (h1 _ (h.each v hv).ok.mem) h2,h.vbs,fun k hk=>⟨h1 k (h.zs k hk).1,fun ho=>(hO k ho).elim (hz k hk) (fun e=>absurd (hzl k hk) (by omega))⟩,h.ap1,h.ap2,h.ap3⟩
theorem rem_ref(hp:PlS W0 lo b rb vx M O laid E H V u W)(g2:GrB O W.heap.size W W2)(m2:Mut M W2)(hl:H.length≤4194304)(N:Int):
  Calls Tryz.prog 12 #[.pointer (some ⟨rb,0,none⟩),.int .i64 N] W2 fun e W3=> ∃(r:Int) (H':List (Hd n)),e=.returned (.int .i64 r)∧RemH H N r H'∧RB W3 rb (fun k=> ¬M k) H'∧GrB (fun k=>k=rb) W2.heap.size W2 W3:=
 rremove_any rb (fun k=> ¬M k) H N W2 (hp.rbs.step g2 (fun k hk=>⟨fun e=>(hp.zs k (.inl e)).2 hk,fun e=>e (hp.own hk)⟩) (fun _ hk _=>hk)) (fun k hk hm=>absurd (m2 k hm).1 (by omega)) hl
theorem rem_heads{id r:Int}{H':List (Hd n)}(h:RemH H id r H'):H'.map Hd.th=H.map Hd.th∧∀d'∈H',∃d∈H,d'.th=d.th∧d'.tb=d.tb:=by
 cases h with
 | no _=>exact⟨rfl,fun d hd=>⟨d,hd,rfl,rfl⟩⟩
 | yes j d hd _ _=>
  refine⟨?_,fun d' hd'=>?_⟩
  ·unfold offAt
   rw[List.map_set]
   apply List.ext_getElem?
   intro i
   rw[List.getElem?_set]
   split
   ·rename_i e
    subst e
    split
    ·rw[List.getElem?_map,hd];rfl
    ·rename_i hlt;rw[List.getElem?_eq_none (by omega)]
   ·rfl
  ·unfold offAt at hd'
   rcases List.mem_or_eq_of_mem_set hd' with h | h
   ·exact⟨d',h,rfl,rfl⟩
   ·exact⟨d,List.mem_of_getElem? hd,by rw[h],by rw[h]⟩
theorem ex_map{P:Tm (n+1)→Prop}{H H':List (Hd n)}(h:H'.map Hd.th=H.map Hd.th):(∃d∈H',P d.th)↔∃d∈H,P d.th:=by
 have key:∀L:List (Hd n),(∃d∈L,P d.th)↔∃t∈L.map Hd.th,P t:=fun L=>by
  constructor
  ·rintro⟨d,hd,hp⟩;exact⟨d.th,List.mem_map.2 ⟨d,hd,rfl⟩,hp⟩
  ·rintro⟨t,ht,hp⟩;obtain⟨d,hd,rfl⟩:=List.mem_map.1 ht;exact⟨d,hd,hp⟩
 rw[key,key,h]
theorem rem_done(hp:PlS W0 lo b rb vx M O laid E H V u W)(g2:GrB O W.heap.size W W2)(m2:Mut M W2)(o2:∀k,O' k→O k){E':List En}(k2:BaseK M W2 b laid O' E' H){N r r':Int}(r2:RemIs E N r E'){H':List (Hd n)}(r3:RemH H N r' H')(b3:RB W' rb (fun k=> ¬M k) H')(g3:GrB (fun k=>k=rb) W2.heap.size W2 W'):r=r'∧PlS W0 lo b rb vx M O' laid E' H' V u W':=by
 obtain⟨hr,hbo⟩:=hp.both.rem r2 r3
 obtain⟨hmap,hmem⟩:=rem_heads r3
 have hm:=hp.zs rb (.inl rfl)
 have hY:∀k,k=rb→M k∧¬O' k:=fun k hk=>by rw[hk];exact⟨hm.1,fun e=>hm.2 (o2 _ e)⟩
 have k3:BaseK M W' b laid O' E' H:=k2.step m2 g3 hY (fun k hk=>hp.own (o2 k hk)) (fun _ hk=>.inl hk)
 refine⟨hr,hp.both2 (g2.two g3) (fun _ hk=>hk) (fun _ hk=>.inl hk) (fun k hk=>.inl (o2 k hk)) (m2.grow g3 (fun k hk=>by rw[hk];exact rb_nofix b3)) ?_ b3 hbo (fun d' hd'=>?_)⟩
 ·obtain⟨me,mf,ce,cf,ge,gf,F,hB,hOo,hF⟩:=k3
  exact⟨me,mf,ce,cf,ge,gf,F,hB,hOo,fun p=>(hF p).trans (ex_map (P:=fun t=>predC (code t)=p) hmap).symm⟩
 ·obtain⟨d,hd,e1,e2⟩:=hmem d' hd'
  have h:=hp.hds d hd
  exact⟨by rw[e1];exact h.th,by rw[e2];exact h.tb,by rw[e1];exact h.fst,by rw[e1];exact h.kind⟩
end
theorem based_1{n:Nat}{W0 W:World}{lo b rb vx:Nat}{M O:Nat→Prop}{laid:Int}{E:List En}{H:List (Hd n)}{V:List (Vw n)}{u:Value}(h:PlS W0 lo b rb vx M O laid E H V u W)(th tb:Tm (n+1))(first:Bool)(N:Int)(tg:Tm (n+1))(hS:StOk lo W0 ⟨1,th,tb,first,N,tg⟩)(hbig:laid≤1048575):
  Calls Tryz.prog 5 #[.pointer (some ⟨b,0,none⟩),.pointer (some ⟨rb,0,none⟩),.pointer (some ⟨vx,0,none⟩),.agg #[.int .i64 1,.int .i64 th.tv.k,.int .i64 th.tv.N,.string th.tv.s,.slice th.tv.a th.tv.len th.tv.cap,.int .i64 tb.tv.k,.int .i64 tb.tv.N,.string tb.tv.s,.slice tb.tv.a tb.tv.len tb.tv.cap,.bool first,.int .i64 N,.int .i64 tg.tv.k,.int .i64 tg.tv.N,.string tg.tv.s,.slice tg.tv.a tg.tv.len tg.tv.cap]] W fun e W'=>e=.returned (.bool true)∧∃(O':Nat→Prop) (E':List En) (H':List (Hd n)),PlS W0 lo b rb vx M O' laid E' H' V u W':=by
 have hB1:Below W.heap.size W (W.alloc (.cells #[.int .i64 1,.int .i64 th.tv.k,.int .i64 th.tv.N,.string th.tv.s,.slice th.tv.a th.tv.len th.tv.cap,.int .i64 tb.tv.k,.int .i64 tb.tv.N,.string tb.tv.s,.slice tb.tv.a tb.tv.len tb.tv.cap,.bool first,.int .i64 N,.int .i64 tg.tv.k,.int .i64 tg.tv.N,.string tg.tv.s,.slice tg.tv.a tg.tv.len tg.tv.cap] 38)):=(Below.refl _ W).alloc (Nat.le_refl _) _
 have hx1:BoxS (W.alloc (.cells #[.int .i64 1,.int .i64 th.tv.k,.int .i64 th.tv.N,.string th.tv.s,.slice th.tv.a th.tv.len th.tv.cap,.int .i64 tb.tv.k,.int .i64 tb.tv.N,.string tb.tv.s,.slice tb.tv.a tb.tv.len tb.tv.cap,.bool first,.int .i64 N,.int .i64 tg.tv.k,.int .i64 tg.tv.N,.string tg.tv.s,.slice tg.tv.a tg.tv.len tg.tv.cap] 38)) W.heap.size ⟨1,th,tb,first,N,tg⟩:=BoxS.new W ⟨1,th,tb,first,N,tg⟩
 have h1:=h.below hB1
 obtain⟨W1,hW1⟩:∃W1,W.alloc (.cells #[.int .i64 1,.int .i64 th.tv.k,.int .i64 th.tv.N,.string th.tv.s,.slice th.tv.a th.tv.len th.tv.cap,.int .i64 tb.tv.k,.int .i64 tb.tv.N,.string tb.tv.s,.slice tb.tv.a tb.tv.len tb.tv.cap,.bool first,.int .i64 N,.int .i64 tg.tv.k,.int .i64 tg.tv.N,.string tg.tv.s,.slice tg.tv.a tg.tv.len tg.tv.cap] 38)=W1:=⟨_,rfl⟩
 rw[hW1] at hB1 hx1 h1
 have hlen:H.length≤4194304:=by have:=h1.both.len;omega
 have hA:∀X,Below W1.heap.size W1 X→Calls Tryz.prog 11 #[.pointer (some ⟨b,0,none⟩),.int .i64 N] X fun e W'=> ∃(r:Int) (O':Nat→Prop) (E':List En),e=.returned (.int .i64 r)∧GrB O X.heap.size X W'∧Mut M W'∧(∀k,O' k→O k)∧BaseK M W' b laid O' E' H∧RemIs E N r E':=fun X hX=>by
  obtain⟨me,mf,ce,cf,ge,gf,F,hB,hO,hF⟩:=(h1.below hX).bs
  refine(remove_bok hB (h1.below hX).mu (by omega) N hS.N0.1 hS.N0.2).mono ?_
  rintro e W' ⟨r,he,hg,hm,ge',F',E',hO',hB',hri,hF'⟩
  exact⟨r,Own b me mf F',E',he,⟨hg.os,hg.tape,hg.output,hg.size,fun k hk hn=>hg.block k hk (fun e=>hn ((hO k).2 e))⟩,hm,fun k hk=>(hO k).2 (hO' k hk),⟨me,mf,ce,cf,ge',gf,F',hB',fun k=>Iff.rfl,fun p=>(hF' p).trans (hF p)⟩,hri⟩
 have hc1:∀X,BoxS X W.heap.size ⟨1,th,tb,first,N,tg⟩→X.cell? ⟨W.heap.size,10,none⟩=some (.int .i64 N):=fun X hX=>hX.c.2.2.2.2.1
 have hnO:¬O W.heap.size:=fun e=>absurd (h.mu _ (h.own e)).1 (by omega)
 have hnR:¬W.heap.size=rb:=fun e=>absurd (h.mu _ (h.zs rb (.inl rfl)).1).1 (by omega)
 have HNR:=hide hnR
 have hd:=(Below.refl W1.heap.size W1).drew
 have hpd:=h1.below hd
 have HA:=hide hA
 have HC:=hide hc1
 have HP:=hide hpd
 have HW:=hide hW1
 have HX:=hide hx1
 have HNO:=hide hnO
 have HL:=hide hlen
 clear h h1 hA hc1 hB1 hx1 hS hbig hlen hW1 hpd hnO hnR
 go_enter Tryz.func5,Tryz.ntmps5
 go_wp2_with fail
 rw[unhide HW]
 have c1:=(unhide HC) W1 (unhide HX)
 go_region_held3 (fun w'=>w'.cell? ⟨W.heap.size,10,none⟩=some (.int .i64 N)) (first | exact c1 | exact c2 | exact c3 | go_keep) (first | (go_at_call 11;refine((unhide HA) _ hd).mono ?_;rintro e w2 ⟨r,O',E',rfl,g2,m2,o2,k2,r2⟩;have hx2:=(unhide HX).kept (g2.block W.heap.size (unhide HX).lt (unhide HNO));have c2:=(unhide HC) w2 hx2;have HR:=hide (And.intro g2 (And.intro m2 (And.intro o2 (And.intro k2 r2))));clear g2 m2 o2 k2 r2) | (go_at_call 12;refine(rem_ref (unhide HP) (unhide HR).1 (unhide HR).2.1 (unhide HL) N).mono ?_;rintro e w3 ⟨r',H',rfl,q3,b3,g3⟩;obtain⟨rfl,hp3⟩:=rem_done (unhide HP) (unhide HR).1 (unhide HR).2.1 (unhide HR).2.2.1 (unhide HR).2.2.2.1 (unhide HR).2.2.2.2 q3 b3 g3;have c3:=(unhide HC) w3 (hx2.kept (g3.block W.heap.size hx2.lt (unhide HNR)));have HP3:=hide hp3;clear q3 b3 g3 hp3))
 go_wp2_with fail
 go_ret
 exact⟨by simp,O',E',H',unhide HP3⟩
end Go.Proofs.YteaiefjmcinljaaGreatDoor
