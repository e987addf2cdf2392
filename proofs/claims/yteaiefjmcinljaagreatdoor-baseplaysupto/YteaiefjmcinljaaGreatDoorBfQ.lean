import Derived.Test.YteaiefjmcinljaaGreatDoorTks
import Derived.Test.YteaiefjmcinljaaGreatDoorBfNs
namespace Go.Proofs.YteaiefjmcinljaaGreatDoor
set_option maxHeartbeats 4000000
set_option maxRecDepth 100000
open Go.RowKit Go.Shelf Go.Maps
theorem cell_at{A B:World}{k:Nat}(e:B.heap[k]?=A.heap[k]?)(o:Nat):B.cell? ⟨k,o,none⟩=A.cell? ⟨k,o,none⟩:=by simp only[World.cell?,e]
theorem frozen_at{A B:World}{k:Nat}(e:B.heap[k]?=A.heap[k]?)(o:Nat):B.frozen? ⟨k,o,none⟩=A.frozen? ⟨k,o,none⟩:=by simp only[World.frozen?,e]
theorem based_6_some{n:Nat}{W0 W:World}{lo b rb vx:Nat}{M O:Nat→Prop}{laid:Int}{E:List En}{H:List (Hd n)}{V:List (Vw n)}{u:Value}(h:PlS W0 lo b rb vx M O laid E H V u W)(th tb:Tm (n+1))(first:Bool)(j:Nat)(tg:Tm (n+1))(hn38:n≤274877906944){v:Vw n}(hj:V[j]?=some v){d:Hd n}{L':List (Hd n)}(hL:v.L=d::L'):
  Calls Tryz.prog 5 #[.pointer (some ⟨b,0,none⟩),.pointer (some ⟨rb,0,none⟩),.pointer (some ⟨vx,0,none⟩),.agg #[.int .i64 6,.int .i64 th.tv.k,.int .i64 th.tv.N,.string th.tv.s,.slice th.tv.a th.tv.len th.tv.cap,.int .i64 tb.tv.k,.int .i64 tb.tv.N,.string tb.tv.s,.slice tb.tv.a tb.tv.len tb.tv.cap,.bool first,.int .i64 (j:Int),.int .i64 tg.tv.k,.int .i64 tg.tv.N,.string tg.tv.s,.slice tg.tv.a tg.tv.len tg.tv.cap]] W fun e W'=>e=.returned (.bool true)∧∃V',V'.length=V.length∧PlS W0 lo b rb vx M O laid E H V' u W':=by
 have hB1:Below W.heap.size W (W.alloc (.cells #[.int .i64 6,.int .i64 th.tv.k,.int .i64 th.tv.N,.string th.tv.s,.slice th.tv.a th.tv.len th.tv.cap,.int .i64 tb.tv.k,.int .i64 tb.tv.N,.string tb.tv.s,.slice tb.tv.a tb.tv.len tb.tv.cap,.bool first,.int .i64 (j:Int),.int .i64 tg.tv.k,.int .i64 tg.tv.N,.string tg.tv.s,.slice tg.tv.a tg.tv.len tg.tv.cap] 38)):=(Below.refl _ W).alloc (Nat.le_refl _) _
 have hx1:BoxS (W.alloc (.cells #[.int .i64 6,.int .i64 th.tv.k,.int .i64 th.tv.N,.string th.tv.s,.slice th.tv.a th.tv.len th.tv.cap,.int .i64 tb.tv.k,.int .i64 tb.tv.N,.string tb.tv.s,.slice tb.tv.a tb.tv.len tb.tv.cap,.bool first,.int .i64 (j:Int),.int .i64 tg.tv.k,.int .i64 tg.tv.N,.string tg.tv.s,.slice tg.tv.a tg.tv.len tg.tv.cap] 38)) W.heap.size ⟨6,th,tb,first,(j:Int),tg⟩:=BoxS.new W ⟨6,th,tb,first,(j:Int),tg⟩
 have h1:=h.below hB1
 obtain⟨W1,hW1⟩:∃W1,W.alloc (.cells #[.int .i64 6,.int .i64 th.tv.k,.int .i64 th.tv.N,.string th.tv.s,.slice th.tv.a th.tv.len th.tv.cap,.int .i64 tb.tv.k,.int .i64 tb.tv.N,.string tb.tv.s,.slice tb.tv.a tb.tv.len tb.tv.cap,.bool first,.int .i64 (j:Int),.int .i64 tg.tv.k,.int .i64 tg.tv.N,.string tg.tv.s,.slice tg.tv.a tg.tv.len tg.tv.cap] 38)=W1:=⟨_,rfl⟩
 rw[hW1] at hB1 hx1 h1
 obtain⟨gg,ucap,-,hu,-⟩:=h1.at hj
 have hlt:=(List.getElem?_eq_some_iff.1 hj).1
 have hd2:Below W1.heap.size W1 W1.drew.drew:=(Below.refl _ _).drew.drew
 have h2:=h1.below hd2
 have hgl:gg<W1.heap.size:=(owns_lt h1.row (by rw[hu];rfl)).2
 obtain⟨c1,c2,c3⟩:=h2.cells hj hu
 have KEEP:W1.cell? ⟨W.heap.size,10,none⟩=some (.int .i64 (j:Int))∧W1.cell? ⟨vx,0,none⟩=some (.slice (some ⟨gg,0,none⟩) V.length ucap):=⟨hx1.c.2.2.2.2.1,by have hb:=h1.box.cell;rw[hu] at hb;exact hb⟩
 have hvx:=(h1.mu vx (h1.zs vx (.inr (.inl rfl))).1).1
 have hA:=next_some_pl h2 hj hL
 have hv:=h2.each v (List.mem_of_getElem? hj)
 have hrow:=hv.row
 rw[hL] at c2 hrow
 have hHd:=hv.hds d (by rw[hL];exact List.mem_cons_self ..)
 have hfar:=hv.far
 have hvM:=hv.ok.mem
 have hcp:=hv.cp
 rw[hL,List.length_cons] at hcp
 have hgne:gg≠v.vb:=fun e=>(h2.ap3 v (List.mem_of_getElem? hj)).2.2 (by rw[hu,←e];rfl)
 have hgo:∀(W' W3:World),GrB (fun k=>k=v.vb) W1.drew.drew.heap.size W1.drew.drew W'→Mut M W'→VOK M W' v.vb v.A1 v.A2 d.pl→∀Ls',Seq v.A1 v.A2 d.pl Ls'→Ls'.map En.say=L'.map Hd.say→Below W'.heap.size W' W3→∀(a':Option Addr) (cap':Nat),(∀b off,v.a=some ⟨b,off,none⟩→L'=[]∨a'=some ⟨b,off+10,none⟩)→(∀b off,a'=some ⟨b,off,none⟩→∃off',v.a=some ⟨b,off',none⟩)→L'.length≤cap'→∃V',V'.length=V.length∧PlS W0 lo b rb vx M O laid E H V' u (W3.setCell ⟨gg,j*2+1,none⟩ (.slice a' L'.length cap')):=
  fun W' W3 g m ok Ls' q s hb a' cap' ha hf hc=>⟨_,by rw[List.length_set],h2.goes hj hL g m ok q s hb hu a' cap' ha hf hc⟩
 obtain⟨vl,hvle⟩:∃vl,V.length=vl:=⟨_,rfl⟩
 rw[hvle] at hlt KEEP
 obtain⟨va,hva⟩:∃va,v.a=va:=⟨_,rfl⟩
 obtain⟨vcap,hvc⟩:∃va,v.cap=va:=⟨_,rfl⟩
 obtain⟨vb,hvb⟩:∃va,v.vb=va:=⟨_,rfl⟩
 simp only[hva,hvc,hvb] at c1 c2 hA hrow hfar hgne hgo hvM hcp
 simp only[clV] at hA
 have hj1:(j:Int)<(vl:Int):=by omega
 have hj0:¬((j:Int)<0):=by omega
 have HW:=hide hW1
 have hgl2:gg<W1.drew.drew.heap.size:=hgl
 have hvxl:W.heap.size<W1.heap.size:=hx1.lt
 have HT:=hide (fun(X:World) (low:Below lo W0 X)=>And.intro ((hHd.th.below low).mono (Nat.le_trans h2.los low.size)) ((hHd.tb.below low).mono (Nat.le_trans h2.los low.size)))
 have HG:=hide hgo
 have HR:=hide hrow
 have HFar:=hide hfar
 have HM:=hide hvM
 have HN:=hide hgne
 have HC:=hide (And.intro c2 c3)
 have HL:=hide hgl2
 clear h h1 h2 hB1 hx1 hW1 hu hj hd2 hvle hva hvc hvb hL hgo hrow hfar hvM hgne hHd hv c2 c3 hgl hgl2 hvxl
 go_enter Tryz.func5,Tryz.ntmps5
 go_wp2_with fail
 rw[unhide HW]
 refine wp_region_noPanic ?_
 refine wp_region_held_drew (S:=(fun w'=>w'.cell? ⟨W.heap.size,10,none⟩=some (.int .i64 (j:Int))∧w'.cell? ⟨vx,0,none⟩=some (.slice (some ⟨gg,0,none⟩) vl ucap))) (by kernel_rfl) ?_ (fun hHeld=>?_)
 ·exact KEEP
 refine tk 0 rfl hHeld ?_
 refine tk 1 rfl hHeld ?_
 refine tk 2 rfl hHeld ?_
 refine tk 3 rfl hHeld ?_
 refine tk 4 rfl hHeld ?_
 refine tk 5 rfl hHeld ?_
 refine tk 6 rfl hHeld ?_
 refine tk 7 rfl hHeld ?_
 refine tk 8 rfl hHeld ?_
 refine tk 9 rfl hHeld ?_
 refine tk 10 rfl hHeld ?_
 refine tk 11 rfl hHeld ?_
 refine wpAnyH_done (by kernel_rfl) ?_ _
 refine NoPanic.normal ?_
 have KEEP:W1.drew.cell? ⟨W.heap.size,10,none⟩=some (.int .i64 (j:Int))∧W1.drew.cell? ⟨vx,0,none⟩=some (.slice (some ⟨gg,0,none⟩) vl ucap):=KEEP
 go_wp2_with fail
 refine wp_region_noPanic ?_
 refine wp_region_held_drew (S:=(fun w'=>w'.cell? ⟨W.heap.size,10,none⟩=some (.int .i64 (j:Int))∧w'.cell? ⟨vx,0,none⟩=some (.slice (some ⟨gg,0,none⟩) vl ucap))) (by kernel_rfl) ?_ (fun hHeld=>?_)
 ·exact KEEP
 refine tk 0 rfl hHeld ?_
 refine tk 1 rfl hHeld ?_
 refine tk 2 rfl hHeld ?_
 refine tk 3 rfl hHeld ?_
 refine tk 4 rfl hHeld ?_
 refine tk 5 rfl hHeld ?_
 refine tk 6 rfl hHeld ?_
 refine wpAnyH_done (by kernel_rfl) ?_ _
 refine NoPanic.normal ?_
 clear KEEP
 go_wp2_with fail
 refine hA.mono ?_
 clear hA c1
 rintro e W2 ⟨⟨D,x,y,rfl,hx,hy⟩,g,m,ok,Ls',hq,hs⟩
 have hb3:Below W2.heap.size W2 (W2.alloc (.cells #[.int .i64 x.k,.int .i64 x.N,.string x.s,.slice x.a x.len x.cap,.int .i64 y.k,.int .i64 y.N,.string y.s,.slice y.a y.len y.cap] 36)):=(Below.refl _ W2).alloc (Nat.le_refl _) _
 have hbx:=BoxC.new W2 x y
 have hl3:(W2.alloc (.cells #[.int .i64 x.k,.int .i64 x.N,.string x.s,.slice x.a x.len x.cap,.int .i64 y.k,.int .i64 y.N,.string y.s,.slice y.a y.len y.cap] 36)).heap.size=W2.heap.size+1:=by simp
 have hrow2:=(unhide HR).kept g.size (fun b' off e hb=>g.block b' hb (fun hy=>((unhide HFar) b' off e).1 (hy▸unhide HM)))
 obtain⟨d0,b',off,hd0,rfl,hbl,p0,⟨p1,p2,p3,p4⟩,⟨p5,p6,p7,p8⟩,p9⟩:=hd_at hrow2 hb3 (j:=0) (by simp)
 obtain rfl:d=d0:=by simpa using hd0
 simp only[Nat.zero_mul,Nat.add_zero] at p0 p1 p2 p3 p4 p5 p6 p7 p8 p9
 have hg2:W2.heap[gg]?=W1.drew.drew.heap[gg]?:=g.block gg (unhide HL) (unhide HN)
 have hgl3:gg<W2.heap.size:=Nat.lt_of_lt_of_le (unhide HL) g.size
 have hg3:=(hb3.block gg hgl3).trans hg2
 have c2:=(cell_at hg3 (j*2+1)).trans (unhide HC).1
 have hh4:((W2.alloc (.cells #[.int .i64 x.k,.int .i64 x.N,.string x.s,.slice x.a x.len x.cap,.int .i64 y.k,.int .i64 y.N,.string y.s,.slice y.a y.len y.cap] 36)).alloc (.cells #[.int .i64 d.id,.int .i64 d.th.tv.k,.int .i64 d.th.tv.N,.string d.th.tv.s,.slice d.th.tv.a d.th.tv.len d.th.tv.cap,.int .i64 d.tb.tv.k,.int .i64 d.tb.tv.N,.string d.tb.tv.s,.slice d.tb.tv.a d.tb.tv.len d.tb.tv.cap,.bool d.on] 63)).heap[W2.heap.size+1]?=some (.cells #[.int .i64 d.id,.int .i64 d.th.tv.k,.int .i64 d.th.tv.N,.string d.th.tv.s,.slice d.th.tv.a d.th.tv.len d.th.tv.cap,.int .i64 d.tb.tv.k,.int .i64 d.tb.tv.N,.string d.tb.tv.s,.slice d.tb.tv.a d.tb.tv.len d.tb.tv.cap,.bool d.on] 63 (0,0)):=by
  have h:=World.alloc_heap_new (W2.alloc (.cells #[.int .i64 x.k,.int .i64 x.N,.string x.s,.slice x.a x.len x.cap,.int .i64 y.k,.int .i64 y.N,.string y.s,.slice y.a y.len y.cap] 36)) (.cells #[.int .i64 d.id,.int .i64 d.th.tv.k,.int .i64 d.th.tv.N,.string d.th.tv.s,.slice d.th.tv.a d.th.tv.len d.th.tv.cap,.int .i64 d.tb.tv.k,.int .i64 d.tb.tv.N,.string d.tb.tv.s,.slice d.tb.tv.a d.tb.tv.len d.tb.tv.cap,.bool d.on] 63)
  rw[hl3] at h
  exact h
 have hb34:Below (W2.alloc (.cells #[.int .i64 x.k,.int .i64 x.N,.string x.s,.slice x.a x.len x.cap,.int .i64 y.k,.int .i64 y.N,.string y.s,.slice y.a y.len y.cap] 36)).heap.size (W2.alloc (.cells #[.int .i64 x.k,.int .i64 x.N,.string x.s,.slice x.a x.len x.cap,.int .i64 y.k,.int .i64 y.N,.string y.s,.slice y.a y.len y.cap] 36)) ((W2.alloc (.cells #[.int .i64 x.k,.int .i64 x.N,.string x.s,.slice x.a x.len x.cap,.int .i64 y.k,.int .i64 y.N,.string y.s,.slice y.a y.len y.cap] 36)).alloc (.cells #[.int .i64 d.id,.int .i64 d.th.tv.k,.int .i64 d.th.tv.N,.string d.th.tv.s,.slice d.th.tv.a d.th.tv.len d.th.tv.cap,.int .i64 d.tb.tv.k,.int .i64 d.tb.tv.N,.string d.tb.tv.s,.slice d.tb.tv.a d.tb.tv.len d.tb.tv.cap,.bool d.on] 63)):=(Below.refl _ _).alloc (Nat.le_refl _) _
 have hbx4:BoxC ((W2.alloc (.cells #[.int .i64 x.k,.int .i64 x.N,.string x.s,.slice x.a x.len x.cap,.int .i64 y.k,.int .i64 y.N,.string y.s,.slice y.a y.len y.cap] 36)).alloc (.cells #[.int .i64 d.id,.int .i64 d.th.tv.k,.int .i64 d.th.tv.N,.string d.th.tv.s,.slice d.th.tv.a d.th.tv.len d.th.tv.cap,.int .i64 d.tb.tv.k,.int .i64 d.tb.tv.N,.string d.tb.tv.s,.slice d.tb.tv.a d.tb.tv.len d.tb.tv.cap,.bool d.on] 63)) W2.heap.size x y:=hbx.below hb34 (by omega)
 have hb4:Below W2.heap.size W2 ((W2.alloc (.cells #[.int .i64 x.k,.int .i64 x.N,.string x.s,.slice x.a x.len x.cap,.int .i64 y.k,.int .i64 y.N,.string y.s,.slice y.a y.len y.cap] 36)).alloc (.cells #[.int .i64 d.id,.int .i64 d.th.tv.k,.int .i64 d.th.tv.N,.string d.th.tv.s,.slice d.th.tv.a d.th.tv.len d.th.tv.cap,.int .i64 d.tb.tv.k,.int .i64 d.tb.tv.N,.string d.tb.tv.s,.slice d.tb.tv.a d.tb.tv.len d.tb.tv.cap,.bool d.on] 63)):=hb3.trans (hb34.mono (by omega))
 have hg4:=(hb4.block gg hgl3).trans hg2
 have c4:=(cell_at hg4 (j*2+1)).trans (unhide HC).1
 have f4:=(frozen_at hg4 (j*2+1)).trans (unhide HC).2
 have HX:=hide hrow2
 have HHB:=hide hbl
 clear hb3 hbx hrow2 hd0 hg3 hg4 hb34 hg2 hbl
 by_cases hc1:vcap=1
 ·subst hc1
  obtain rfl:L'=[]:=List.length_eq_zero_iff.1 (by omega)
  obtain⟨V',hV',hp5⟩:=(unhide HG) W2 ((W2.alloc (.cells #[.int .i64 x.k,.int .i64 x.N,.string x.s,.slice x.a x.len x.cap,.int .i64 y.k,.int .i64 y.N,.string y.s,.slice y.a y.len y.cap] 36)).alloc (.cells #[.int .i64 d.id,.int .i64 d.th.tv.k,.int .i64 d.th.tv.N,.string d.th.tv.s,.slice d.th.tv.a d.th.tv.len d.th.tv.cap,.int .i64 d.tb.tv.k,.int .i64 d.tb.tv.N,.string d.tb.tv.s,.slice d.tb.tv.a d.tb.tv.len d.tb.tv.cap,.bool d.on] 63)) g m ok Ls' hq hs hb4 (some ⟨b',off,none⟩) 0 (fun _ _ _=>.inl rfl) (fun b off h=>⟨off,h⟩) (by simp)
  simp only[List.length_nil] at hp5
  clear hcp
  have hhd:(((W2.alloc (.cells #[.int .i64 x.k,.int .i64 x.N,.string x.s,.slice x.a x.len x.cap,.int .i64 y.k,.int .i64 y.N,.string y.s,.slice y.a y.len y.cap] 36)).alloc (.cells #[.int .i64 d.id,.int .i64 d.th.tv.k,.int .i64 d.th.tv.N,.string d.th.tv.s,.slice d.th.tv.a d.th.tv.len d.th.tv.cap,.int .i64 d.tb.tv.k,.int .i64 d.tb.tv.N,.string d.tb.tv.s,.slice d.tb.tv.a d.tb.tv.len d.tb.tv.cap,.bool d.on] 63)).setCell ⟨gg,j*2+1,none⟩ (.slice (some ⟨b',off,none⟩) 0 0)).heap[W2.heap.size+1]?=some (.cells #[.int .i64 d.id,.int .i64 d.th.tv.k,.int .i64 d.th.tv.N,.string d.th.tv.s,.slice d.th.tv.a d.th.tv.len d.th.tv.cap,.int .i64 d.tb.tv.k,.int .i64 d.tb.tv.N,.string d.tb.tv.s,.slice d.tb.tv.a d.tb.tv.len d.tb.tv.cap,.bool d.on] 63 (0,0)):=(Below.heap_setCell _ _ _ _ (show W2.heap.size+1≠gg by omega)).trans hh4
  have hbx5:BoxC (((W2.alloc (.cells #[.int .i64 x.k,.int .i64 x.N,.string x.s,.slice x.a x.len x.cap,.int .i64 y.k,.int .i64 y.N,.string y.s,.slice y.a y.len y.cap] 36)).alloc (.cells #[.int .i64 d.id,.int .i64 d.th.tv.k,.int .i64 d.th.tv.N,.string d.th.tv.s,.slice d.th.tv.a d.th.tv.len d.th.tv.cap,.int .i64 d.tb.tv.k,.int .i64 d.tb.tv.N,.string d.tb.tv.s,.slice d.tb.tv.a d.tb.tv.len d.tb.tv.cap,.bool d.on] 63)).setCell ⟨gg,j*2+1,none⟩ (.slice (some ⟨b',off,none⟩) 0 0)) W2.heap.size x y:=(Below.heap_setCell _ _ _ _ (show W2.heap.size≠gg by omega)).trans hbx4
  obtain⟨⟨c0,c1,c2',c3⟩,c5,c6,c7,c8⟩:=hbx5.cs
  have q0:(((W2.alloc (.cells #[.int .i64 x.k,.int .i64 x.N,.string x.s,.slice x.a x.len x.cap,.int .i64 y.k,.int .i64 y.N,.string y.s,.slice y.a y.len y.cap] 36)).alloc (.cells #[.int .i64 d.id,.int .i64 d.th.tv.k,.int .i64 d.th.tv.N,.string d.th.tv.s,.slice d.th.tv.a d.th.tv.len d.th.tv.cap,.int .i64 d.tb.tv.k,.int .i64 d.tb.tv.N,.string d.tb.tv.s,.slice d.tb.tv.a d.tb.tv.len d.tb.tv.cap,.bool d.on] 63)).setCell ⟨gg,j*2+1,none⟩ (.slice (some ⟨b',off,none⟩) 0 0)).cell? ⟨W2.heap.size+1,0,none⟩=some (.int .i64 d.id):=by simp only[World.cell?,hhd];rfl
  have q1:(((W2.alloc (.cells #[.int .i64 x.k,.int .i64 x.N,.string x.s,.slice x.a x.len x.cap,.int .i64 y.k,.int .i64 y.N,.string y.s,.slice y.a y.len y.cap] 36)).alloc (.cells #[.int .i64 d.id,.int .i64 d.th.tv.k,.int .i64 d.th.tv.N,.string d.th.tv.s,.slice d.th.tv.a d.th.tv.len d.th.tv.cap,.int .i64 d.tb.tv.k,.int .i64 d.tb.tv.N,.string d.tb.tv.s,.slice d.tb.tv.a d.tb.tv.len d.tb.tv.cap,.bool d.on] 63)).setCell ⟨gg,j*2+1,none⟩ (.slice (some ⟨b',off,none⟩) 0 0)).cell? ⟨W2.heap.size+1,1,none⟩=some (.int .i64 d.th.tv.k):=by simp only[World.cell?,hhd];rfl
  have q2:(((W2.alloc (.cells #[.int .i64 x.k,.int .i64 x.N,.string x.s,.slice x.a x.len x.cap,.int .i64 y.k,.int .i64 y.N,.string y.s,.slice y.a y.len y.cap] 36)).alloc (.cells #[.int .i64 d.id,.int .i64 d.th.tv.k,.int .i64 d.th.tv.N,.string d.th.tv.s,.slice d.th.tv.a d.th.tv.len d.th.tv.cap,.int .i64 d.tb.tv.k,.int .i64 d.tb.tv.N,.string d.tb.tv.s,.slice d.tb.tv.a d.tb.tv.len d.tb.tv.cap,.bool d.on] 63)).setCell ⟨gg,j*2+1,none⟩ (.slice (some ⟨b',off,none⟩) 0 0)).cell? ⟨W2.heap.size+1,2,none⟩=some (.int .i64 d.th.tv.N):=by simp only[World.cell?,hhd];rfl
  have q3:(((W2.alloc (.cells #[.int .i64 x.k,.int .i64 x.N,.string x.s,.slice x.a x.len x.cap,.int .i64 y.k,.int .i64 y.N,.string y.s,.slice y.a y.len y.cap] 36)).alloc (.cells #[.int .i64 d.id,.int .i64 d.th.tv.k,.int .i64 d.th.tv.N,.string d.th.tv.s,.slice d.th.tv.a d.th.tv.len d.th.tv.cap,.int .i64 d.tb.tv.k,.int .i64 d.tb.tv.N,.string d.tb.tv.s,.slice d.tb.tv.a d.tb.tv.len d.tb.tv.cap,.bool d.on] 63)).setCell ⟨gg,j*2+1,none⟩ (.slice (some ⟨b',off,none⟩) 0 0)).cell? ⟨W2.heap.size+1,3,none⟩=some (.string d.th.tv.s):=by simp only[World.cell?,hhd];rfl
  have q4:(((W2.alloc (.cells #[.int .i64 x.k,.int .i64 x.N,.string x.s,.slice x.a x.len x.cap,.int .i64 y.k,.int .i64 y.N,.string y.s,.slice y.a y.len y.cap] 36)).alloc (.cells #[.int .i64 d.id,.int .i64 d.th.tv.k,.int .i64 d.th.tv.N,.string d.th.tv.s,.slice d.th.tv.a d.th.tv.len d.th.tv.cap,.int .i64 d.tb.tv.k,.int .i64 d.tb.tv.N,.string d.tb.tv.s,.slice d.tb.tv.a d.tb.tv.len d.tb.tv.cap,.bool d.on] 63)).setCell ⟨gg,j*2+1,none⟩ (.slice (some ⟨b',off,none⟩) 0 0)).cell? ⟨W2.heap.size+1,4,none⟩=some (.slice d.th.tv.a d.th.tv.len d.th.tv.cap):=by simp only[World.cell?,hhd];rfl
  have q5:(((W2.alloc (.cells #[.int .i64 x.k,.int .i64 x.N,.string x.s,.slice x.a x.len x.cap,.int .i64 y.k,.int .i64 y.N,.string y.s,.slice y.a y.len y.cap] 36)).alloc (.cells #[.int .i64 d.id,.int .i64 d.th.tv.k,.int .i64 d.th.tv.N,.string d.th.tv.s,.slice d.th.tv.a d.th.tv.len d.th.tv.cap,.int .i64 d.tb.tv.k,.int .i64 d.tb.tv.N,.string d.tb.tv.s,.slice d.tb.tv.a d.tb.tv.len d.tb.tv.cap,.bool d.on] 63)).setCell ⟨gg,j*2+1,none⟩ (.slice (some ⟨b',off,none⟩) 0 0)).cell? ⟨W2.heap.size+1,5,none⟩=some (.int .i64 d.tb.tv.k):=by simp only[World.cell?,hhd];rfl
  have q6:(((W2.alloc (.cells #[.int .i64 x.k,.int .i64 x.N,.string x.s,.slice x.a x.len x.cap,.int .i64 y.k,.int .i64 y.N,.string y.s,.slice y.a y.len y.cap] 36)).alloc (.cells #[.int .i64 d.id,.int .i64 d.th.tv.k,.int .i64 d.th.tv.N,.string d.th.tv.s,.slice d.th.tv.a d.th.tv.len d.th.tv.cap,.int .i64 d.tb.tv.k,.int .i64 d.tb.tv.N,.string d.tb.tv.s,.slice d.tb.tv.a d.tb.tv.len d.tb.tv.cap,.bool d.on] 63)).setCell ⟨gg,j*2+1,none⟩ (.slice (some ⟨b',off,none⟩) 0 0)).cell? ⟨W2.heap.size+1,6,none⟩=some (.int .i64 d.tb.tv.N):=by simp only[World.cell?,hhd];rfl
  have q7:(((W2.alloc (.cells #[.int .i64 x.k,.int .i64 x.N,.string x.s,.slice x.a x.len x.cap,.int .i64 y.k,.int .i64 y.N,.string y.s,.slice y.a y.len y.cap] 36)).alloc (.cells #[.int .i64 d.id,.int .i64 d.th.tv.k,.int .i64 d.th.tv.N,.string d.th.tv.s,.slice d.th.tv.a d.th.tv.len d.th.tv.cap,.int .i64 d.tb.tv.k,.int .i64 d.tb.tv.N,.string d.tb.tv.s,.slice d.tb.tv.a d.tb.tv.len d.tb.tv.cap,.bool d.on] 63)).setCell ⟨gg,j*2+1,none⟩ (.slice (some ⟨b',off,none⟩) 0 0)).cell? ⟨W2.heap.size+1,7,none⟩=some (.string d.tb.tv.s):=by simp only[World.cell?,hhd];rfl
  have q8:(((W2.alloc (.cells #[.int .i64 x.k,.int .i64 x.N,.string x.s,.slice x.a x.len x.cap,.int .i64 y.k,.int .i64 y.N,.string y.s,.slice y.a y.len y.cap] 36)).alloc (.cells #[.int .i64 d.id,.int .i64 d.th.tv.k,.int .i64 d.th.tv.N,.string d.th.tv.s,.slice d.th.tv.a d.th.tv.len d.th.tv.cap,.int .i64 d.tb.tv.k,.int .i64 d.tb.tv.N,.string d.tb.tv.s,.slice d.tb.tv.a d.tb.tv.len d.tb.tv.cap,.bool d.on] 63)).setCell ⟨gg,j*2+1,none⟩ (.slice (some ⟨b',off,none⟩) 0 0)).cell? ⟨W2.heap.size+1,8,none⟩=some (.slice d.tb.tv.a d.tb.tv.len d.tb.tv.cap):=by simp only[World.cell?,hhd];rfl
  have hx5:HoldsS D.1 (W1.drew.drew.heap.size≤ ·) (((W2.alloc (.cells #[.int .i64 x.k,.int .i64 x.N,.string x.s,.slice x.a x.len x.cap,.int .i64 y.k,.int .i64 y.N,.string y.s,.slice y.a y.len y.cap] 36)).alloc (.cells #[.int .i64 d.id,.int .i64 d.th.tv.k,.int .i64 d.th.tv.N,.string d.th.tv.s,.slice d.th.tv.a d.th.tv.len d.th.tv.cap,.int .i64 d.tb.tv.k,.int .i64 d.tb.tv.N,.string d.tb.tv.s,.slice d.tb.tv.a d.tb.tv.len d.tb.tv.cap,.bool d.on] 63)).setCell ⟨gg,j*2+1,none⟩ (.slice (some ⟨b',off,none⟩) 0 0)) x.val (code d.th):=HoldsS.fromS hx (fun k hk hlt=>(Below.heap_setCell _ _ _ _ (show k≠gg by have:=unhide HL;omega)).trans (hb4.block k hlt)) (by simp;omega)
  have hy5:HoldsS D.1 (W1.drew.drew.heap.size≤ ·) (((W2.alloc (.cells #[.int .i64 x.k,.int .i64 x.N,.string x.s,.slice x.a x.len x.cap,.int .i64 y.k,.int .i64 y.N,.string y.s,.slice y.a y.len y.cap] 36)).alloc (.cells #[.int .i64 d.id,.int .i64 d.th.tv.k,.int .i64 d.th.tv.N,.string d.th.tv.s,.slice d.th.tv.a d.th.tv.len d.th.tv.cap,.int .i64 d.tb.tv.k,.int .i64 d.tb.tv.N,.string d.tb.tv.s,.slice d.tb.tv.a d.tb.tv.len d.tb.tv.cap,.bool d.on] 63)).setCell ⟨gg,j*2+1,none⟩ (.slice (some ⟨b',off,none⟩) 0 0)) y.val (code d.tb):=HoldsS.fromS hy (fun k hk hlt=>(Below.heap_setCell _ _ _ _ (show k≠gg by have:=unhide HL;omega)).trans (hb4.block k hlt)) (by simp;omega)
  obtain⟨W5,hW5⟩:∃W5,((W2.alloc (.cells #[.int .i64 x.k,.int .i64 x.N,.string x.s,.slice x.a x.len x.cap,.int .i64 y.k,.int .i64 y.N,.string y.s,.slice y.a y.len y.cap] 36)).alloc (.cells #[.int .i64 d.id,.int .i64 d.th.tv.k,.int .i64 d.th.tv.N,.string d.th.tv.s,.slice d.th.tv.a d.th.tv.len d.th.tv.cap,.int .i64 d.tb.tv.k,.int .i64 d.tb.tv.N,.string d.tb.tv.s,.slice d.tb.tv.a d.tb.tv.len d.tb.tv.cap,.bool d.on] 63)).setCell ⟨gg,j*2+1,none⟩ (.slice (some ⟨b',off,none⟩) 0 0)=W5:=⟨_,rfl⟩
  have hl5:W5.heap.size=W2.heap.size+2:=by rw[←hW5];simp
  rw[hW5] at hhd hbx5 hp5 hx5 hy5
  have hT5:=(unhide HT) W5 hp5.low
  have s1:∀X,Below W5.heap.size W5 X→Calls Tryz.prog 15 #[x.val,d.th.tv.val] X fun e W'=>e=.returned (.bool true)∧Below W5.heap.size W5 W':=fun X hX=>(same_shared (HoldsS.below hx5 hX) (HoldsS.below (holds_tm hT5.1) hX) (by have:=D.2;omega)).mono fun e W' h=>⟨by rw[h.1];simp,hX.trans (h.2.mono hX.size)⟩
  have s2:∀X,Below W5.heap.size W5 X→Calls Tryz.prog 15 #[y.val,d.tb.tv.val] X fun e W'=>e=.returned (.bool true)∧Below W5.heap.size W5 W':=fun X hX=>(same_shared (HoldsS.below hy5 hX) (HoldsS.below (holds_tm hT5.2) hX) (by have:=D.2;omega)).mono fun e W' h=>⟨by rw[h.1];simp,hX.trans (h.2.mono hX.size)⟩
  have hcs:∀X,Below W5.heap.size W5 X→BoxC X W2.heap.size x y∧X.heap[W2.heap.size+1]?=some (.cells #[.int .i64 d.id,.int .i64 d.th.tv.k,.int .i64 d.th.tv.N,.string d.th.tv.s,.slice d.th.tv.a d.th.tv.len d.th.tv.cap,.int .i64 d.tb.tv.k,.int .i64 d.tb.tv.N,.string d.tb.tv.s,.slice d.tb.tv.a d.tb.tv.len d.tb.tv.cap,.bool d.on] 63 (0,0)):=fun X hX=>⟨hbx5.below hX (by omega),(hX.block _ (by omega)).trans hhd⟩
  simp only[TV.val] at s1 s2
  have HS1:=hide s1
  have HS2:=hide s2
  have HCS:=hide hcs
  have HF:=hide (And.intro hV' hp5)
  have HW5:=hide hW5
  clear hx hy g m ok hq hs hb4 hbx4 hh4 hhd hbx5 hx5 hy5 hW5 hl5 hT5 s1 s2 hcs hV' hp5 HG HX HT HR HFar HL HC HN HM hgl3
  go_wp2_with fail
  rw[unhide HW5]
  refine((unhide HS1) W5 (Below.refl _ _)).mono ?_
  rintro e W6 ⟨rfl,b6⟩
  obtain⟨hc6,hh6⟩:=(unhide HCS) W6 b6
  obtain⟨-,e4,e5,e6,e7⟩:=hc6.cs
  have r5:W6.cell? ⟨W2.heap.size+1,5,none⟩=some (.int .i64 d.tb.tv.k):=by simp only[World.cell?,hh6];rfl
  have r6:W6.cell? ⟨W2.heap.size+1,6,none⟩=some (.int .i64 d.tb.tv.N):=by simp only[World.cell?,hh6];rfl
  have r7:W6.cell? ⟨W2.heap.size+1,7,none⟩=some (.string d.tb.tv.s):=by simp only[World.cell?,hh6];rfl
  have r8:W6.cell? ⟨W2.heap.size+1,8,none⟩=some (.slice d.tb.tv.a d.tb.tv.len d.tb.tv.cap):=by simp only[World.cell?,hh6];rfl
  clear c0 c1 c2' c3 c5 c6 c7 c8 q0 q1 q2 q3 q4 q5 q6 q7 q8 hc6 hh6
  go_wp2_with fail
  refine((unhide HS2) W6 b6).mono ?_
  rintro e W7 ⟨rfl,b7⟩
  have HF2:=hide ((unhide HF).2.below b7)
  clear b6 b7 e4 e5 e6 e7 r5 r6 r7 r8
  go_wp2_with fail
  go_ret
  exact⟨rfl,V',(unhide HF).1,unhide HF2⟩
 ·obtain⟨V',hV',hp5⟩:=(unhide HG) W2 ((W2.alloc (.cells #[.int .i64 x.k,.int .i64 x.N,.string x.s,.slice x.a x.len x.cap,.int .i64 y.k,.int .i64 y.N,.string y.s,.slice y.a y.len y.cap] 36)).alloc (.cells #[.int .i64 d.id,.int .i64 d.th.tv.k,.int .i64 d.th.tv.N,.string d.th.tv.s,.slice d.th.tv.a d.th.tv.len d.th.tv.cap,.int .i64 d.tb.tv.k,.int .i64 d.tb.tv.N,.string d.tb.tv.s,.slice d.tb.tv.a d.tb.tv.len d.tb.tv.cap,.bool d.on] 63)) g m ok Ls' hq hs hb4 (some ⟨b',off+10,none⟩) (vcap-1) (fun b o h=>.inr (by simp at h;rw[h.1,h.2])) (fun b o h=>⟨off,by simp at h;rw[h.1]⟩) (by omega)
  have hhd:(((W2.alloc (.cells #[.int .i64 x.k,.int .i64 x.N,.string x.s,.slice x.a x.len x.cap,.int .i64 y.k,.int .i64 y.N,.string y.s,.slice y.a y.len y.cap] 36)).alloc (.cells #[.int .i64 d.id,.int .i64 d.th.tv.k,.int .i64 d.th.tv.N,.string d.th.tv.s,.slice d.th.tv.a d.th.tv.len d.th.tv.cap,.int .i64 d.tb.tv.k,.int .i64 d.tb.tv.N,.string d.tb.tv.s,.slice d.tb.tv.a d.tb.tv.len d.tb.tv.cap,.bool d.on] 63)).setCell ⟨gg,j*2+1,none⟩ (.slice (some ⟨b',off+10,none⟩) L'.length (vcap-1))).heap[W2.heap.size+1]?=some (.cells #[.int .i64 d.id,.int .i64 d.th.tv.k,.int .i64 d.th.tv.N,.string d.th.tv.s,.slice d.th.tv.a d.th.tv.len d.th.tv.cap,.int .i64 d.tb.tv.k,.int .i64 d.tb.tv.N,.string d.tb.tv.s,.slice d.tb.tv.a d.tb.tv.len d.tb.tv.cap,.bool d.on] 63 (0,0)):=(Below.heap_setCell _ _ _ _ (show W2.heap.size+1≠gg by omega)).trans hh4
  have hbx5:BoxC (((W2.alloc (.cells #[.int .i64 x.k,.int .i64 x.N,.string x.s,.slice x.a x.len x.cap,.int .i64 y.k,.int .i64 y.N,.string y.s,.slice y.a y.len y.cap] 36)).alloc (.cells #[.int .i64 d.id,.int .i64 d.th.tv.k,.int .i64 d.th.tv.N,.string d.th.tv.s,.slice d.th.tv.a d.th.tv.len d.th.tv.cap,.int .i64 d.tb.tv.k,.int .i64 d.tb.tv.N,.string d.tb.tv.s,.slice d.tb.tv.a d.tb.tv.len d.tb.tv.cap,.bool d.on] 63)).setCell ⟨gg,j*2+1,none⟩ (.slice (some ⟨b',off+10,none⟩) L'.length (vcap-1))) W2.heap.size x y:=(Below.heap_setCell _ _ _ _ (show W2.heap.size≠gg by omega)).trans hbx4
  obtain⟨⟨c0,c1,c2',c3⟩,c5,c6,c7,c8⟩:=hbx5.cs
  have q0:(((W2.alloc (.cells #[.int .i64 x.k,.int .i64 x.N,.string x.s,.slice x.a x.len x.cap,.int .i64 y.k,.int .i64 y.N,.string y.s,.slice y.a y.len y.cap] 36)).alloc (.cells #[.int .i64 d.id,.int .i64 d.th.tv.k,.int .i64 d.th.tv.N,.string d.th.tv.s,.slice d.th.tv.a d.th.tv.len d.th.tv.cap,.int .i64 d.tb.tv.k,.int .i64 d.tb.tv.N,.string d.tb.tv.s,.slice d.tb.tv.a d.tb.tv.len d.tb.tv.cap,.bool d.on] 63)).setCell ⟨gg,j*2+1,none⟩ (.slice (some ⟨b',off+10,none⟩) L'.length (vcap-1))).cell? ⟨W2.heap.size+1,0,none⟩=some (.int .i64 d.id):=by simp only[World.cell?,hhd];rfl
  have q1:(((W2.alloc (.cells #[.int .i64 x.k,.int .i64 x.N,.string x.s,.slice x.a x.len x.cap,.int .i64 y.k,.int .i64 y.N,.string y.s,.slice y.a y.len y.cap] 36)).alloc (.cells #[.int .i64 d.id,.int .i64 d.th.tv.k,.int .i64 d.th.tv.N,.string d.th.tv.s,.slice d.th.tv.a d.th.tv.len d.th.tv.cap,.int .i64 d.tb.tv.k,.int .i64 d.tb.tv.N,.string d.tb.tv.s,.slice d.tb.tv.a d.tb.tv.len d.tb.tv.cap,.bool d.on] 63)).setCell ⟨gg,j*2+1,none⟩ (.slice (some ⟨b',off+10,none⟩) L'.length (vcap-1))).cell? ⟨W2.heap.size+1,1,none⟩=some (.int .i64 d.th.tv.k):=by simp only[World.cell?,hhd];rfl
  have q2:(((W2.alloc (.cells #[.int .i64 x.k,.int .i64 x.N,.string x.s,.slice x.a x.len x.cap,.int .i64 y.k,.int .i64 y.N,.string y.s,.slice y.a y.len y.cap] 36)).alloc (.cells #[.int .i64 d.id,.int .i64 d.th.tv.k,.int .i64 d.th.tv.N,.string d.th.tv.s,.slice d.th.tv.a d.th.tv.len d.th.tv.cap,.int .i64 d.tb.tv.k,.int .i64 d.tb.tv.N,.string d.tb.tv.s,.slice d.tb.tv.a d.tb.tv.len d.tb.tv.cap,.bool d.on] 63)).setCell ⟨gg,j*2+1,none⟩ (.slice (some ⟨b',off+10,none⟩) L'.length (vcap-1))).cell? ⟨W2.heap.size+1,2,none⟩=some (.int .i64 d.th.tv.N):=by simp only[World.cell?,hhd];rfl
  have q3:(((W2.alloc (.cells #[.int .i64 x.k,.int .i64 x.N,.string x.s,.slice x.a x.len x.cap,.int .i64 y.k,.int .i64 y.N,.string y.s,.slice y.a y.len y.cap] 36)).alloc (.cells #[.int .i64 d.id,.int .i64 d.th.tv.k,.int .i64 d.th.tv.N,.string d.th.tv.s,.slice d.th.tv.a d.th.tv.len d.th.tv.cap,.int .i64 d.tb.tv.k,.int .i64 d.tb.tv.N,.string d.tb.tv.s,.slice d.tb.tv.a d.tb.tv.len d.tb.tv.cap,.bool d.on] 63)).setCell ⟨gg,j*2+1,none⟩ (.slice (some ⟨b',off+10,none⟩) L'.length (vcap-1))).cell? ⟨W2.heap.size+1,3,none⟩=some (.string d.th.tv.s):=by simp only[World.cell?,hhd];rfl
  have q4:(((W2.alloc (.cells #[.int .i64 x.k,.int .i64 x.N,.string x.s,.slice x.a x.len x.cap,.int .i64 y.k,.int .i64 y.N,.string y.s,.slice y.a y.len y.cap] 36)).alloc (.cells #[.int .i64 d.id,.int .i64 d.th.tv.k,.int .i64 d.th.tv.N,.string d.th.tv.s,.slice d.th.tv.a d.th.tv.len d.th.tv.cap,.int .i64 d.tb.tv.k,.int .i64 d.tb.tv.N,.string d.tb.tv.s,.slice d.tb.tv.a d.tb.tv.len d.tb.tv.cap,.bool d.on] 63)).setCell ⟨gg,j*2+1,none⟩ (.slice (some ⟨b',off+10,none⟩) L'.length (vcap-1))).cell? ⟨W2.heap.size+1,4,none⟩=some (.slice d.th.tv.a d.th.tv.len d.th.tv.cap):=by simp only[World.cell?,hhd];rfl
  have q5:(((W2.alloc (.cells #[.int .i64 x.k,.int .i64 x.N,.string x.s,.slice x.a x.len x.cap,.int .i64 y.k,.int .i64 y.N,.string y.s,.slice y.a y.len y.cap] 36)).alloc (.cells #[.int .i64 d.id,.int .i64 d.th.tv.k,.int .i64 d.th.tv.N,.string d.th.tv.s,.slice d.th.tv.a d.th.tv.len d.th.tv.cap,.int .i64 d.tb.tv.k,.int .i64 d.tb.tv.N,.string d.tb.tv.s,.slice d.tb.tv.a d.tb.tv.len d.tb.tv.cap,.bool d.on] 63)).setCell ⟨gg,j*2+1,none⟩ (.slice (some ⟨b',off+10,none⟩) L'.length (vcap-1))).cell? ⟨W2.heap.size+1,5,none⟩=some (.int .i64 d.tb.tv.k):=by simp only[World.cell?,hhd];rfl
  have q6:(((W2.alloc (.cells #[.int .i64 x.k,.int .i64 x.N,.string x.s,.slice x.a x.len x.cap,.int .i64 y.k,.int .i64 y.N,.string y.s,.slice y.a y.len y.cap] 36)).alloc (.cells #[.int .i64 d.id,.int .i64 d.th.tv.k,.int .i64 d.th.tv.N,.string d.th.tv.s,.slice d.th.tv.a d.th.tv.len d.th.tv.cap,.int .i64 d.tb.tv.k,.int .i64 d.tb.tv.N,.string d.tb.tv.s,.slice d.tb.tv.a d.tb.tv.len d.tb.tv.cap,.bool d.on] 63)).setCell ⟨gg,j*2+1,none⟩ (.slice (some ⟨b',off+10,none⟩) L'.length (vcap-1))).cell? ⟨W2.heap.size+1,6,none⟩=some (.int .i64 d.tb.tv.N):=by simp only[World.cell?,hhd];rfl
  have q7:(((W2.alloc (.cells #[.int .i64 x.k,.int .i64 x.N,.string x.s,.slice x.a x.len x.cap,.int .i64 y.k,.int .i64 y.N,.string y.s,.slice y.a y.len y.cap] 36)).alloc (.cells #[.int .i64 d.id,.int .i64 d.th.tv.k,.int .i64 d.th.tv.N,.string d.th.tv.s,.slice d.th.tv.a d.th.tv.len d.th.tv.cap,.int .i64 d.tb.tv.k,.int .i64 d.tb.tv.N,.string d.tb.tv.s,.slice d.tb.tv.a d.tb.tv.len d.tb.tv.cap,.bool d.on] 63)).setCell ⟨gg,j*2+1,none⟩ (.slice (some ⟨b',off+10,none⟩) L'.length (vcap-1))).cell? ⟨W2.heap.size+1,7,none⟩=some (.string d.tb.tv.s):=by simp only[World.cell?,hhd];rfl
  have q8:(((W2.alloc (.cells #[.int .i64 x.k,.int .i64 x.N,.string x.s,.slice x.a x.len x.cap,.int .i64 y.k,.int .i64 y.N,.string y.s,.slice y.a y.len y.cap] 36)).alloc (.cells #[.int .i64 d.id,.int .i64 d.th.tv.k,.int .i64 d.th.tv.N,.string d.th.tv.s,.slice d.th.tv.a d.th.tv.len d.th.tv.cap,.int .i64 d.tb.tv.k,.int .i64 d.tb.tv.N,.string d.tb.tv.s,.slice d.tb.tv.a d.tb.tv.len d.tb.tv.cap,.bool d.on] 63)).setCell ⟨gg,j*2+1,none⟩ (.slice (some ⟨b',off+10,none⟩) L'.length (vcap-1))).cell? ⟨W2.heap.size+1,8,none⟩=some (.slice d.tb.tv.a d.tb.tv.len d.tb.tv.cap):=by simp only[World.cell?,hhd];rfl
  have hx5:HoldsS D.1 (W1.drew.drew.heap.size≤ ·) (((W2.alloc (.cells #[.int .i64 x.k,.int .i64 x.N,.string x.s,.slice x.a x.len x.cap,.int .i64 y.k,.int .i64 y.N,.string y.s,.slice y.a y.len y.cap] 36)).alloc (.cells #[.int .i64 d.id,.int .i64 d.th.tv.k,.int .i64 d.th.tv.N,.string d.th.tv.s,.slice d.th.tv.a d.th.tv.len d.th.tv.cap,.int .i64 d.tb.tv.k,.int .i64 d.tb.tv.N,.string d.tb.tv.s,.slice d.tb.tv.a d.tb.tv.len d.tb.tv.cap,.bool d.on] 63)).setCell ⟨gg,j*2+1,none⟩ (.slice (some ⟨b',off+10,none⟩) L'.length (vcap-1))) x.val (code d.th):=HoldsS.fromS hx (fun k hk hlt=>(Below.heap_setCell _ _ _ _ (show k≠gg by have:=unhide HL;omega)).trans (hb4.block k hlt)) (by simp;omega)
  have hy5:HoldsS D.1 (W1.drew.drew.heap.size≤ ·) (((W2.alloc (.cells #[.int .i64 x.k,.int .i64 x.N,.string x.s,.slice x.a x.len x.cap,.int .i64 y.k,.int .i64 y.N,.string y.s,.slice y.a y.len y.cap] 36)).alloc (.cells #[.int .i64 d.id,.int .i64 d.th.tv.k,.int .i64 d.th.tv.N,.string d.th.tv.s,.slice d.th.tv.a d.th.tv.len d.th.tv.cap,.int .i64 d.tb.tv.k,.int .i64 d.tb.tv.N,.string d.tb.tv.s,.slice d.tb.tv.a d.tb.tv.len d.tb.tv.cap,.bool d.on] 63)).setCell ⟨gg,j*2+1,none⟩ (.slice (some ⟨b',off+10,none⟩) L'.length (vcap-1))) y.val (code d.tb):=HoldsS.fromS hy (fun k hk hlt=>(Below.heap_setCell _ _ _ _ (show k≠gg by have:=unhide HL;omega)).trans (hb4.block k hlt)) (by simp;omega)
  obtain⟨W5,hW5⟩:∃W5,((W2.alloc (.cells #[.int .i64 x.k,.int .i64 x.N,.string x.s,.slice x.a x.len x.cap,.int .i64 y.k,.int .i64 y.N,.string y.s,.slice y.a y.len y.cap] 36)).alloc (.cells #[.int .i64 d.id,.int .i64 d.th.tv.k,.int .i64 d.th.tv.N,.string d.th.tv.s,.slice d.th.tv.a d.th.tv.len d.th.tv.cap,.int .i64 d.tb.tv.k,.int .i64 d.tb.tv.N,.string d.tb.tv.s,.slice d.tb.tv.a d.tb.tv.len d.tb.tv.cap,.bool d.on] 63)).setCell ⟨gg,j*2+1,none⟩ (.slice (some ⟨b',off+10,none⟩) L'.length (vcap-1))=W5:=⟨_,rfl⟩
  have hl5:W5.heap.size=W2.heap.size+2:=by rw[←hW5];simp
  rw[hW5] at hhd hbx5 hp5 hx5 hy5
  have hT5:=(unhide HT) W5 hp5.low
  have s1:∀X,Below W5.heap.size W5 X→Calls Tryz.prog 15 #[x.val,d.th.tv.val] X fun e W'=>e=.returned (.bool true)∧Below W5.heap.size W5 W':=fun X hX=>(same_shared (HoldsS.below hx5 hX) (HoldsS.below (holds_tm hT5.1) hX) (by have:=D.2;omega)).mono fun e W' h=>⟨by rw[h.1];simp,hX.trans (h.2.mono hX.size)⟩
  have s2:∀X,Below W5.heap.size W5 X→Calls Tryz.prog 15 #[y.val,d.tb.tv.val] X fun e W'=>e=.returned (.bool true)∧Below W5.heap.size W5 W':=fun X hX=>(same_shared (HoldsS.below hy5 hX) (HoldsS.below (holds_tm hT5.2) hX) (by have:=D.2;omega)).mono fun e W' h=>⟨by rw[h.1];simp,hX.trans (h.2.mono hX.size)⟩
  have hcs:∀X,Below W5.heap.size W5 X→BoxC X W2.heap.size x y∧X.heap[W2.heap.size+1]?=some (.cells #[.int .i64 d.id,.int .i64 d.th.tv.k,.int .i64 d.th.tv.N,.string d.th.tv.s,.slice d.th.tv.a d.th.tv.len d.th.tv.cap,.int .i64 d.tb.tv.k,.int .i64 d.tb.tv.N,.string d.tb.tv.s,.slice d.tb.tv.a d.tb.tv.len d.tb.tv.cap,.bool d.on] 63 (0,0)):=fun X hX=>⟨hbx5.below hX (by omega),(hX.block _ (by omega)).trans hhd⟩
  simp only[TV.val] at s1 s2
  have HS1:=hide s1
  have HS2:=hide s2
  have HCS:=hide hcs
  have HF:=hide (And.intro hV' hp5)
  have HW5:=hide hW5
  clear hx hy g m ok hq hs hb4 hbx4 hh4 hhd hbx5 hx5 hy5 hW5 hl5 hT5 s1 s2 hcs hV' hp5 HG HX HT HR HFar HL HC HN HM hgl3
  go_wp2_with fail
  rw[unhide HW5]
  refine((unhide HS1) W5 (Below.refl _ _)).mono ?_
  rintro e W6 ⟨rfl,b6⟩
  obtain⟨hc6,hh6⟩:=(unhide HCS) W6 b6
  obtain⟨-,e4,e5,e6,e7⟩:=hc6.cs
  have r5:W6.cell? ⟨W2.heap.size+1,5,none⟩=some (.int .i64 d.tb.tv.k):=by simp only[World.cell?,hh6];rfl
  have r6:W6.cell? ⟨W2.heap.size+1,6,none⟩=some (.int .i64 d.tb.tv.N):=by simp only[World.cell?,hh6];rfl
  have r7:W6.cell? ⟨W2.heap.size+1,7,none⟩=some (.string d.tb.tv.s):=by simp only[World.cell?,hh6];rfl
  have r8:W6.cell? ⟨W2.heap.size+1,8,none⟩=some (.slice d.tb.tv.a d.tb.tv.len d.tb.tv.cap):=by simp only[World.cell?,hh6];rfl
  clear c0 c1 c2' c3 c5 c6 c7 c8 q0 q1 q2 q3 q4 q5 q6 q7 q8 hc6 hh6
  go_wp2_with fail
  refine((unhide HS2) W6 b6).mono ?_
  rintro e W7 ⟨rfl,b7⟩
  have HF2:=hide ((unhide HF).2.below b7)
  clear b6 b7 e4 e5 e6 e7 r5 r6 r7 r8
  go_wp2_with fail
  go_ret
  exact⟨rfl,V',(unhide HF).1,unhide HF2⟩
end Go.Proofs.YteaiefjmcinljaaGreatDoor
