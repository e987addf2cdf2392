import Derived.Test.YteaiefjmcinljaaGreatDoorTks
import Derived.Test.YteaiefjmcinljaaGreatDoorBfKs
namespace Go.Proofs.YteaiefjmcinljaaGreatDoor
set_option maxHeartbeats 4000000
set_option maxRecDepth 100000
open Go.RowKit Go.Shelf Go.Maps
theorem PlS.sl{n:Nat}{M O:Nat→Prop}{W W0:World}{lo b rb vx:Nat}{laid:Int}{E:List En}{H:List (Hd n)}{V:List (Vw n)}{u:Value}(h:PlS W0 lo b rb vx M O laid E H V u W):∃a cap,u=.slice a V.length cap:=by
 rcases h.row.2 with⟨h1,h0⟩ | ⟨g,cap,cur,e,_⟩
 ·exact⟨_,_,by rw[h0];exact h1⟩
 ·exact⟨_,_,e⟩
theorem based_6_out{n:Nat}{W0 W:World}{lo b rb vx:Nat}{M O:Nat→Prop}{laid:Int}{E:List En}{H:List (Hd n)}{V:List (Vw n)}{u:Value}(h:PlS W0 lo b rb vx M O laid E H V u W)(th tb:Tm (n+1))(first:Bool)(N:Int)(tg:Tm (n+1))(hS:StOk lo W0 ⟨6,th,tb,first,N,tg⟩)(_hbig:laid≤1048575)(_hvl:V.length≤4194304)(hno:N<0∨(V.length:Int)≤N):
  Calls Tryz.prog 5 #[.pointer (some ⟨b,0,none⟩),.pointer (some ⟨rb,0,none⟩),.pointer (some ⟨vx,0,none⟩),.agg #[.int .i64 6,.int .i64 th.tv.k,.int .i64 th.tv.N,.string th.tv.s,.slice th.tv.a th.tv.len th.tv.cap,.int .i64 tb.tv.k,.int .i64 tb.tv.N,.string tb.tv.s,.slice tb.tv.a tb.tv.len tb.tv.cap,.bool first,.int .i64 N,.int .i64 tg.tv.k,.int .i64 tg.tv.N,.string tg.tv.s,.slice tg.tv.a tg.tv.len tg.tv.cap]] W fun e W'=>e=.returned (.bool true)∧PlS W0 lo b rb vx M O laid E H V u W':=by
 have hB1:Below W.heap.size W (W.alloc (.cells #[.int .i64 6,.int .i64 th.tv.k,.int .i64 th.tv.N,.string th.tv.s,.slice th.tv.a th.tv.len th.tv.cap,.int .i64 tb.tv.k,.int .i64 tb.tv.N,.string tb.tv.s,.slice tb.tv.a tb.tv.len tb.tv.cap,.bool first,.int .i64 N,.int .i64 tg.tv.k,.int .i64 tg.tv.N,.string tg.tv.s,.slice tg.tv.a tg.tv.len tg.tv.cap] 38)):=(Below.refl _ W).alloc (Nat.le_refl _) _
 have hx1:BoxS (W.alloc (.cells #[.int .i64 6,.int .i64 th.tv.k,.int .i64 th.tv.N,.string th.tv.s,.slice th.tv.a th.tv.len th.tv.cap,.int .i64 tb.tv.k,.int .i64 tb.tv.N,.string tb.tv.s,.slice tb.tv.a tb.tv.len tb.tv.cap,.bool first,.int .i64 N,.int .i64 tg.tv.k,.int .i64 tg.tv.N,.string tg.tv.s,.slice tg.tv.a tg.tv.len tg.tv.cap] 38)) W.heap.size ⟨6,th,tb,first,N,tg⟩:=BoxS.new W ⟨6,th,tb,first,N,tg⟩
 have h1:=h.below hB1
 obtain⟨W1,hW1⟩:∃W1,W.alloc (.cells #[.int .i64 6,.int .i64 th.tv.k,.int .i64 th.tv.N,.string th.tv.s,.slice th.tv.a th.tv.len th.tv.cap,.int .i64 tb.tv.k,.int .i64 tb.tv.N,.string tb.tv.s,.slice tb.tv.a tb.tv.len tb.tv.cap,.bool first,.int .i64 N,.int .i64 tg.tv.k,.int .i64 tg.tv.N,.string tg.tv.s,.slice tg.tv.a tg.tv.len tg.tv.cap] 38)=W1:=⟨_,rfl⟩
 rw[hW1] at hB1 hx1 h1
 obtain⟨ua,ucap,hu⟩:=h1.sl
 have hN0:=hS.N0
 have KEEP:W1.cell? ⟨W.heap.size,10,none⟩=some (.int .i64 N)∧W1.cell? ⟨vx,0,none⟩=some (.slice ua V.length ucap):=⟨hx1.c.2.2.2.2.1,by have hb:=h1.box.cell;rw[hu] at hb;exact hb⟩
 have HP:=hide h1
 have HW:=hide hW1
 clear h h1 hB1 hx1 hS hW1 hu
 go_enter Tryz.func5,Tryz.ntmps5
 go_wp2_with fail
 rw[unhide HW]
 by_cases hn0:N<0
 ·clear hno
  refine wp_region_noPanic ?_
  refine wp_region_held_drew (S:=(fun w'=>w'.cell? ⟨W.heap.size,10,none⟩=some (.int .i64 N)∧w'.cell? ⟨vx,0,none⟩=some (.slice ua V.length ucap))) (by kernel_rfl) ?_ (fun hHeld=>?_)
  ·exact KEEP
  refine tk 0 rfl hHeld ?_
  refine tk 1 rfl hHeld ?_
  refine tk 2 rfl hHeld ?_
  refine tk 3 rfl hHeld ?_
  refine tu 4 rfl hHeld ?_
  refine tu 5 rfl hHeld ?_
  refine tu 6 rfl hHeld ?_
  refine tu 7 rfl hHeld ?_
  refine tu 8 rfl hHeld ?_
  refine tu 9 rfl hHeld ?_
  refine tu 10 rfl hHeld ?_
  refine tk 11 rfl hHeld ?_
  refine wpAnyH_done (by kernel_rfl) ?_ _
  refine NoPanic.normal ?_
  go_wp2_with fail
  go_ret
  exact⟨rfl,(unhide HP).below (Below.refl _ _).drew⟩
 ·have hge:(V.length:Int)≤N:=hno.resolve_left hn0
  clear hno
  refine wp_region_noPanic ?_
  refine wp_region_held_drew (S:=(fun w'=>w'.cell? ⟨W.heap.size,10,none⟩=some (.int .i64 N)∧w'.cell? ⟨vx,0,none⟩=some (.slice ua V.length ucap))) (by kernel_rfl) ?_ (fun hHeld=>?_)
  ·exact KEEP
  refine tk 0 rfl hHeld ?_
  refine tk 1 rfl hHeld ?_
  refine tk 2 rfl hHeld ?_
  refine tk 3 rfl hHeld ?_
  refine tk 4 rfl hHeld ?_
  refine tk 5 rfl hHeld ?_
  refine tk 6 rfl hHeld ?_
  refine tk 7 rfl hHeld ?_
  refine tk 8 rfl hHeld ?_
  refine tk 9 rfl hHeld ?_
  refine tk 10 rfl hHeld ?_
  refine tk 11 rfl hHeld ?_
  refine wpAnyH_done (by kernel_rfl) ?_ _
  refine NoPanic.normal ?_
  go_wp2_with fail
  go_ret
  exact⟨rfl,(unhide HP).below (Below.refl _ _).drew⟩
section
variable {n:Nat} {M O:Nat→Prop} {W W' W3 W0:World} {lo b rb vx:Nat} {laid:Int} {E:List En} {H:List (Hd n)} {V:List (Vw n)} {u:Value}
theorem set_self{V:List (Vw n)}{j:Nat}{v:Vw n}(hj:V[j]?=some v):V.set j v=V:=by
 obtain⟨h1,h2⟩:=List.getElem?_eq_some_iff.1 hj
 rw[←h2]
 exact List.set_getElem_self h1
theorem next_none_pl(h:PlS W0 lo b rb vx M O laid E H V u W){j:Nat}{v:Vw n}(hj:V[j]?=some v)(hL:v.L=[]):
  Calls Tryz.prog 19 #[.pointer (some ⟨v.vb,0,none⟩)] W fun e W'=>(∃(D:Upto 1099511627776) (x y:TV),e=.returned (.tuple #[.int .i64 0,clV x y,.bool false])∧HoldsS D.1 (W.heap.size≤ ·) W' x.val noC∧HoldsS D.1 (W.heap.size≤ ·) W' y.val noC)∧PlS W0 lo b rb vx M O laid E H V u W':=by
 have hm:=List.mem_of_getElem? hj
 have hv:=h.each v hm
 have hLs:v.Ls=[]:=by have:=hv.says;rw[hL] at this;simpa using this
 have hst:stepN v.A1 v.A2 v.last=none:=by have:=hv.seq;rw[hLs] at this;exact this
 refine(next_vok hv.ok h.mu none (by rw[hst];rfl)).mono ?_
 rintro e W' ⟨hA,g,m,ok⟩
 refine⟨hA,?_⟩
 have h3:=h.next hj rfl (W3:=W') (v':=v) ⟨g.os,g.tape,g.output,g.size,fun k hk hn=>g.block k hk (fun e=>hn (.inl e))⟩ m ⟨ok,hv.seq,hv.says,hv.row.kept g.size (fun b' off e hb=>g.block b' hb (fun hy=>(hv.far b' off e).1 (hy▸hv.ok.mem))),fun g' off e=>⟨(hv.far g' off e).1,Nat.lt_of_lt_of_le (hv.far g' off e).2 g.size⟩,hv.hds,hv.cp⟩ (by rw[set_self hj];exact owns_below h.row (fun g' hg=>g.block g' (owns_lt h.row hg).2 (fun e=>(h.ap3 v hm).2.2 (e▸hg))))
 rwa[set_self hj] at h3
theorem next_some_pl(h:PlS W0 lo b rb vx M O laid E H V u W){j:Nat}{v:Vw n}(hj:V[j]?=some v){d:Hd n}{L':List (Hd n)}(hL:v.L=d::L'):
  Calls Tryz.prog 19 #[.pointer (some ⟨v.vb,0,none⟩)] W fun e W'=>(∃(D:Upto 1099511627776) (x y:TV),e=.returned (.tuple #[.int .i64 d.id,clV x y,.bool true])∧HoldsS D.1 (W.heap.size≤ ·) W' x.val (code d.th)∧HoldsS D.1 (W.heap.size≤ ·) W' y.val (code d.tb))∧GrB (fun k=>k=v.vb) W.heap.size W W'∧Mut M W'∧VOK M W' v.vb v.A1 v.A2 d.pl∧∃Ls',Seq v.A1 v.A2 d.pl Ls'∧Ls'.map En.say=L'.map Hd.say:=by
 have hv:=h.each v (List.mem_of_getElem? hj)
 have hsy:=hv.says
 have hsq:=hv.seq
 rw[hL] at hsy
 cases hLs:v.Ls with
 | nil=>rw[hLs] at hsy;simp at hsy
 | cons x Ls'=>
  rw[hLs] at hsy hsq
  simp only[List.map_cons,List.cons.injEq] at hsy
  obtain⟨hq,hq'⟩:=hsq
  refine(next_vok hv.ok h.mu (some d.say) (by rw[hq];exact congrArg some hsy.1)).mono ?_
  rintro e W' ⟨hA,g,m,ok⟩
  exact⟨hA,g,m,ok,Ls',by rw[show d.pl=x.pl from(say_pl hsy.1).symm];exact hq',hsy.2⟩
theorem PlS.goes(h:PlS W0 lo b rb vx M O laid E H V u W){j:Nat}{v:Vw n}(hj:V[j]?=some v){d:Hd n}{L':List (Hd n)}(hL:v.L=d::L')(g:GrB (fun k=>k=v.vb) W.heap.size W W')(m:Mut M W')(ok:VOK M W' v.vb v.A1 v.A2 d.pl){Ls':List En}(hq:Seq v.A1 v.A2 d.pl Ls')(hs:Ls'.map En.say=L'.map Hd.say)(hb:Below W'.heap.size W' W3){gg ucap:Nat}(hu:u=.slice (some ⟨gg,0,none⟩) V.length ucap)(a':Option Addr)(cap':Nat)(ha:∀b off,v.a=some ⟨b,off,none⟩→L'=[]∨a'=some ⟨b,off+10,none⟩)(hf:∀b off,a'=some ⟨b,off,none⟩→∃off',v.a=some ⟨b,off',none⟩)(hcp:L'.length≤cap'):
  PlS W0 lo b rb vx M O laid E H (V.set j {v with a:=a',cap:=cap',last:=d.pl,Ls:=Ls',L:=L'}) u (W3.setCell ⟨gg,j*2+1,none⟩ (.slice a' L'.length cap')):=by
 have hm:=List.mem_of_getElem? hj
 have hv:=h.each v hm
 have hug:u.ownBlock=some gg:=by rw[hu];rfl
 have hM:=h.zs gg (.inr (.inr (.inl hug)))
 have hne:gg≠v.vb:=fun e=>(h.ap3 v hm).2.2 (e▸hug)
 have hlt:=(List.getElem?_eq_some_iff.1 hj).1
 have hv1:VwOk lo W0 M W' {v with a:=a',cap:=cap',last:=d.pl,Ls:=Ls',L:=L'}:=by
  refine⟨ok,hq,hs,⟨rfl,?_⟩,fun g' off e=>?_,fun x hx=>hv.hds x (by rw[hL];exact List.mem_cons_of_mem _ hx),hcp⟩
  ·rcases(hv.row.kept g.size (fun b' off e hb=>g.block b' hb (fun hy=>(hv.far b' off e).1 (hy▸hv.ok.mem)))).2 with h0 | ⟨b',off,e,hl,hk⟩
   ·rw[hL] at h0;cases h0
   ·rcases ha b' off e with h0 | h0
    ·exact .inl h0
    ·refine .inr ⟨b',off+10,h0,hl,fun i x hi=>?_⟩
     have:=hk (i+1) x (by rw[hL];simpa using hi)
     rw[show off+10+i*10=off+(i+1)*10 by omega]
     exact this
  ·obtain⟨off',e'⟩:=hf g' off e
   exact⟨(hv.far g' off' e').1,Nat.lt_of_lt_of_le (hv.far g' off' e').2 g.size⟩
 have hv3:=hv1.step (M':=M) m (GrB.of_below (X:=fun _=>False) hb) (fun _ e=>e.elim) ok.mem (fun _ hk=>.inl hk)
 have m3:=m.grow (GrB.of_below (X:=fun _=>False) hb) (fun _ e=>e.elim)
 have hrow3:W3.ownsRow lo 58 2 u V.length (V.flatMap Vw.row):=owns_below h.row (fun g' hg=>by
  have hl:=(owns_lt h.row hg).2
  exact(hb.block g' (Nat.lt_of_lt_of_le hl g.size)).trans (g.block g' hl (fun e=>(h.ap3 v hm).2.2 (e▸hg))))
 have g6:GrB (fun k=>k=gg) W3.heap.size W3 (W3.setCell ⟨gg,j*2+1,none⟩ (.slice a' L'.length cap')):=⟨rfl,rfl,rfl,by simp,fun k _ hn=>Below.heap_setCell _ _ _ k hn⟩
 have hrow6:(W3.setCell ⟨gg,j*2+1,none⟩ (.slice a' L'.length cap')).ownsRow lo 58 2 u (V.set j {v with a:=a',cap:=cap',last:=d.pl,Ls:=Ls',L:=L'}).length ((V.set j {v with a:=a',cap:=cap',last:=d.pl,Ls:=Ls',L:=L'}).flatMap Vw.row):=by
  rw[vrow_set (v':={v with a:=a',cap:=cap',last:=d.pl,Ls:=Ls',L:=L'}) hj rfl,List.length_set,hu]
  rw[hu] at hrow3
  exact row_set hrow3 (j*2+1) (by omega) _
 refine h.next hj rfl ⟨g6.os.trans (hb.os.trans g.os),g6.tape.trans (hb.tape.trans g.tape),g6.output.trans (hb.output.trans g.output),Nat.le_trans g.size (Nat.le_trans hb.size g6.size),fun k hk hn=>?_⟩ (m3.grow g6 (fun k hk=>by rw[hk];exact row_nofix hrow6 hug)) (hv3.step m3 g6 (fun k hk=>by rw[hk];exact⟨hM.1,hne⟩) ok.mem (fun _ hk=>.inl hk)) hrow6
 exact(g6.block k (Nat.lt_of_lt_of_le hk (Nat.le_trans g.size hb.size)) (fun e=>hn (.inr (by rw[e];exact hug)))).trans ((hb.block k (Nat.lt_of_lt_of_le hk g.size)).trans (g.block k hk (fun e=>hn (.inl e))))
end
set_option maxHeartbeats 4000000
set_option maxRecDepth 100000
theorem based_6_none{n:Nat}{W0 W:World}{lo b rb vx:Nat}{M O:Nat→Prop}{laid:Int}{E:List En}{H:List (Hd n)}{V:List (Vw n)}{u:Value}(h:PlS W0 lo b rb vx M O laid E H V u W)(th tb:Tm (n+1))(first:Bool)(j:Nat)(tg:Tm (n+1)){v:Vw n}(hj:V[j]?=some v)(hL:v.L=[]):
  Calls Tryz.prog 5 #[.pointer (some ⟨b,0,none⟩),.pointer (some ⟨rb,0,none⟩),.pointer (some ⟨vx,0,none⟩),.agg #[.int .i64 6,.int .i64 th.tv.k,.int .i64 th.tv.N,.string th.tv.s,.slice th.tv.a th.tv.len th.tv.cap,.int .i64 tb.tv.k,.int .i64 tb.tv.N,.string tb.tv.s,.slice tb.tv.a tb.tv.len tb.tv.cap,.bool first,.int .i64 (j:Int),.int .i64 tg.tv.k,.int .i64 tg.tv.N,.string tg.tv.s,.slice tg.tv.a tg.tv.len tg.tv.cap]] W fun e W'=>e=.returned (.bool true)∧PlS W0 lo b rb vx M O laid E H V u W':=by
 have hB1:Below W.heap.size W (W.alloc (.cells #[.int .i64 6,.int .i64 th.tv.k,.int .i64 th.tv.N,.string th.tv.s,.slice th.tv.a th.tv.len th.tv.cap,.int .i64 tb.tv.k,.int .i64 tb.tv.N,.string tb.tv.s,.slice tb.tv.a tb.tv.len tb.tv.cap,.bool first,.int .i64 (j:Int),.int .i64 tg.tv.k,.int .i64 tg.tv.N,.string tg.tv.s,.slice tg.tv.a tg.tv.len tg.tv.cap] 38)):=(Below.refl _ W).alloc (Nat.le_refl _) _
 have hx1:BoxS (W.alloc (.cells #[.int .i64 6,.int .i64 th.tv.k,.int .i64 th.tv.N,.string th.tv.s,.slice th.tv.a th.tv.len th.tv.cap,.int .i64 tb.tv.k,.int .i64 tb.tv.N,.string tb.tv.s,.slice tb.tv.a tb.tv.len tb.tv.cap,.bool first,.int .i64 (j:Int),.int .i64 tg.tv.k,.int .i64 tg.tv.N,.string tg.tv.s,.slice tg.tv.a tg.tv.len tg.tv.cap] 38)) W.heap.size ⟨6,th,tb,first,(j:Int),tg⟩:=BoxS.new W ⟨6,th,tb,first,(j:Int),tg⟩
 have h1:=h.below hB1
 obtain⟨W1,hW1⟩:∃W1,W.alloc (.cells #[.int .i64 6,.int .i64 th.tv.k,.int .i64 th.tv.N,.string th.tv.s,.slice th.tv.a th.tv.len th.tv.cap,.int .i64 tb.tv.k,.int .i64 tb.tv.N,.string tb.tv.s,.slice tb.tv.a tb.tv.len tb.tv.cap,.bool first,.int .i64 (j:Int),.int .i64 tg.tv.k,.int .i64 tg.tv.N,.string tg.tv.s,.slice tg.tv.a tg.tv.len tg.tv.cap] 38)=W1:=⟨_,rfl⟩
 rw[hW1] at hB1 hx1 h1
 obtain⟨gg,ucap,-,hu,-⟩:=h1.at hj
 have hlt:=(List.getElem?_eq_some_iff.1 hj).1
 have hd2:Below W1.heap.size W1 W1.drew.drew:=(Below.refl _ _).drew.drew
 have h2:=h1.below hd2
 have hgl:gg<W1.heap.size:=(owns_lt h1.row (by rw[hu];rfl)).2
 obtain⟨c1,c2,c3⟩:=h2.cells hj hu
 have KEEP:W1.cell? ⟨W.heap.size,10,none⟩=some (.int .i64 (j:Int))∧W1.cell? ⟨vx,0,none⟩=some (.slice (some ⟨gg,0,none⟩) V.length ucap):=⟨hx1.c.2.2.2.2.1,by have hb:=h1.box.cell;rw[hu] at hb;exact hb⟩
 have hvx:=(h1.mu vx (h1.zs vx (.inr (.inl rfl))).1).1
 have hA:=next_none_pl h2 hj hL
 rw[hL] at c2
 simp only[List.length_nil] at c2
 obtain⟨vl,hvle⟩:∃vl,V.length=vl:=⟨_,rfl⟩
 rw[hvle] at hlt KEEP
 obtain⟨va,hva⟩:∃va,v.a=va:=⟨_,rfl⟩
 obtain⟨vcap,hvc⟩:∃va,v.cap=va:=⟨_,rfl⟩
 obtain⟨vb,hvb⟩:∃va,v.vb=va:=⟨_,rfl⟩
 rw[hva,hvc] at c2
 rw[hvb] at c1 hA
 simp only[clV] at hA
 have hj1:(j:Int)<(vl:Int):=by omega
 have hj0:¬((j:Int)<0):=by omega
 have HP:=hide h2
 have HU:=hide hu
 have HW:=hide hW1
 have HJ:=hide hj
 have HE:=hide (show v.L.length=0 by rw[hL];rfl)
 clear h h1 h2 hB1 hx1 hW1 hu hj hd2 hvle hva hvc hvb hL
 go_enter Tryz.func5,Tryz.ntmps5
 go_wp2_with fail
 rw[unhide HW]
 refine wp_region_noPanic ?_
 refine wp_region_held_drew (S:=(fun w'=>w'.cell? ⟨W.heap.size,10,none⟩=some (.int .i64 (j:Int))∧w'.cell? ⟨vx,0,none⟩=some (.slice (some ⟨gg,0,none⟩) vl ucap))) (by kernel_rfl) ?_ (fun hHeld=>?_)
 ·exact KEEP
 refine tk 0 rfl hHeld ?_
 refine tk 1 rfl hHeld ?_
 refine tk 2 rfl hHeld ?_
 refine tk 3 rfl hHeld ?_
 refine tk 4 rfl hHeld ?_
 refine tk 5 rfl hHeld ?_
 refine tk 6 rfl hHeld ?_
 refine tk 7 rfl hHeld ?_
 refine tk 8 rfl hHeld ?_
 refine tk 9 rfl hHeld ?_
 refine tk 10 rfl hHeld ?_
 refine tk 11 rfl hHeld ?_
 refine wpAnyH_done (by kernel_rfl) ?_ _
 refine NoPanic.normal ?_
 have KEEP:W1.drew.cell? ⟨W.heap.size,10,none⟩=some (.int .i64 (j:Int))∧W1.drew.cell? ⟨vx,0,none⟩=some (.slice (some ⟨gg,0,none⟩) vl ucap):=KEEP
 go_wp2_with fail
 refine wp_region_noPanic ?_
 refine wp_region_held_drew (S:=(fun w'=>w'.cell? ⟨W.heap.size,10,none⟩=some (.int .i64 (j:Int))∧w'.cell? ⟨vx,0,none⟩=some (.slice (some ⟨gg,0,none⟩) vl ucap))) (by kernel_rfl) ?_ (fun hHeld=>?_)
 ·exact KEEP
 refine tk 0 rfl hHeld ?_
 refine tk 1 rfl hHeld ?_
 refine tk 2 rfl hHeld ?_
 refine tk 3 rfl hHeld ?_
 refine tk 4 rfl hHeld ?_
 refine tk 5 rfl hHeld ?_
 refine tk 6 rfl hHeld ?_
 refine wpAnyH_done (by kernel_rfl) ?_ _
 refine NoPanic.normal ?_
 clear KEEP
 go_wp2_with fail
 refine hA.mono ?_
 clear hA c1 c2
 rintro e W2 ⟨⟨D,x,y,rfl,hx,hy⟩,hp⟩
 have hb3:Below W2.heap.size W2 (W2.alloc (.cells #[.int .i64 x.k,.int .i64 x.N,.string x.s,.slice x.a x.len x.cap,.int .i64 y.k,.int .i64 y.N,.string y.s,.slice y.a y.len y.cap] 36)):=(Below.refl _ W2).alloc (Nat.le_refl _) _
 have hbx:=BoxC.new W2 x y
 have hp3:=hp.below hb3
 have c2:=(hp3.cells (unhide HJ) (unhide HU)).2.1
 have e0:v.L.length=0:=unhide HE
 rw[e0] at c2
 have s1:∀X,Calls Tryz.prog 20 #[x.val] X fun e W'=>e=.returned (.bool true)∧Below X.heap.size X W':=fun X=>none_ans (HoldsS.mono hx (Nat.le_refl _) (S':=Mix 0 W1.drew.drew.heap.size) (fun b hb=>.inr hb)) X (by have:=D.2;omega)
 have s2:∀X,Calls Tryz.prog 20 #[y.val] X fun e W'=>e=.returned (.bool true)∧Below X.heap.size X W':=fun X=>none_ans (HoldsS.mono hy (Nat.le_refl _) (S':=Mix 0 W1.drew.drew.heap.size) (fun b hb=>.inr hb)) X (by have:=D.2;omega)
 have hl3:W2.heap.size<(W2.alloc (.cells #[.int .i64 x.k,.int .i64 x.N,.string x.s,.slice x.a x.len x.cap,.int .i64 y.k,.int .i64 y.N,.string y.s,.slice y.a y.len y.cap] 36)).heap.size:=by simp
 obtain⟨⟨b0,b1,b2,b3⟩,b4,b5,b6,b7⟩:=hbx.cs
 obtain⟨W3,hW3⟩:∃W3,W2.alloc (.cells #[.int .i64 x.k,.int .i64 x.N,.string x.s,.slice x.a x.len x.cap,.int .i64 y.k,.int .i64 y.N,.string y.s,.slice y.a y.len y.cap] 36)=W3:=⟨_,rfl⟩
 rw[hW3] at hp3 hbx hl3
 have hcs:∀X,Below W3.heap.size W3 X→BoxC X W2.heap.size x y:=fun X hX=>hbx.below hX hl3
 simp only[TV.val] at s1 s2
 have HS1:=hide s1
 have HS2:=hide s2
 have HCS:=hide hcs
 have HP3:=hide hp3
 have HW3:=hide hW3
 clear hx hy hp hp3 hb3 hbx s1 s2 hcs hW3 hl3 e0
 go_wp2_with fail
 rw[unhide HW3]
 refine((unhide HS1) W3).mono ?_
 rintro e W4 ⟨rfl,d4⟩
 obtain⟨-,e4,e5,e6,e7⟩:=((unhide HCS) W4 d4).cs
 clear b0 b1 b2 b3 b4 b5 b6 b7 c2
 go_wp2_with fail
 refine((unhide HS2) W4).mono ?_
 rintro e W5 ⟨rfl,d5⟩
 have HF:=hide (((unhide HP3).below d4).below d5)
 clear d4 d5 e4 e5 e6 e7
 go_wp2_with fail
 go_ret
 exact⟨rfl,unhide HF⟩
end Go.Proofs.YteaiefjmcinljaaGreatDoor
