import Derived.Test.YtjbdkbaacjfecaaDoorGqJ
import Derived.Test.YtjbdkbaacjfecaaDoorGmLs
namespace Go.Proofs.YtjbdkbaacjfecaaDoor
set_option maxHeartbeats 8000000
set_option maxRecDepth 100000
open Go.RowKit Go.Shelf
/-- Two tasks were left, and a row of two. -/
structure TwoP (B wb:Nat) (nx:Int) (lf:Value) (S:List Task) (V:World) (R:Nat) (T1 T2:Task) (V':World):Prop where
 hR:V.heap.size≤R
 rR:Row4 V' R 2
 st:∃lf',WrB V' wb nx lf'∧StkK B V' lf' (S++[T2]++[T1])
 fr:FrG B (fun k=>k=wb) V V'
 gr:GrB (fun k=>k=wb∨lf.ownBlock=some k) V.heap.size V V'
theorem StkK.notbox{B:Nat}{W:World}{v:Value}{S:List Task}{b:Nat}{x:TV}(h:StkK B W v S)(hb:BoxT W b x):∀g,v.ownBlock=some g→g≠b:=fun g hg e=>by
 obtain⟨_,_,cur,hc⟩:=StkW.lt h hg;rw[e] at hc;have:=hc.symm.trans hb;simp at this
theorem FrG.set4{B:Nat}{X:Nat→Prop}{V V':World}(h:FrG B X V V'){b:Nat}(hb:V.heap.size≤b)(o:Nat)(x:TV):FrG B X V (Proofs.YtjbdkbaacjfecaaDoor.set4 V' b o x):=
 ⟨h.os,h.tape,h.output,by rw[set4_size];exact h.size,fun k hk hx hc=>(set4_other V' b o x (by omega)).trans (h.block k hk hx hc)⟩
theorem FrG.box{B:Nat}{X:Nat→Prop}{V V':World}(h:FrG B X V V'){b:Nat}{x:TV}(hb:BoxT V b x)(hx:¬X b):BoxT V' b x:=(h.block b hb.lt hx (.inr fun o ho=>by
 rw[show V.heap[b]?=_ from hb] at ho;cases ho;simp[ofK])).trans hb
theorem TwoP.set4{B wb:Nat}{nx:Int}{lf:Value}{S:List Task}{V U U2:World}{R:Nat}{T1 T2:Task}(h:TwoP B wb nx lf S U R T1 T2 U2)(hV:Below V.heap.size V U){b:Nat}{z:TV}(hbV:V.heap.size≤b)(hbU:b<U.heap.size)(hwb:wb≠b)(hbx:BoxT U2 b z)(x:TV):TwoP B wb nx lf S V R T1 T2 (Proofs.YtjbdkbaacjfecaaDoor.set4 U2 b 0 x):=by
 obtain⟨lf',hw,hst⟩:=h.st;have ot:=fun k (hk:k≠b)=>set4_other U2 b 0 x hk;have hsz:=hV.size;exact⟨by have:=h.hR;omega,h.rR.kept (ot _ (by have:=h.hR;omega)),⟨lf',hw.kept (ot _ hwb),hst.frame (fun g hg=>ot g (hst.notbox hbx g hg))⟩,((FrG.of_below hV).trans h.fr).set4 hbV 0 x,((GrB.of_below hV).trans (h.gr.mono hV.size)).set4 hbV 0 x⟩
section
variable {B wb Bk off:Nat} {V:World} {nx:Int} {lf:Value} {S:List Task} {a b:TV}
theorem top_seq(E:Task)(hf:formB E.x=2)(hw:WrB V wb nx lf)(hS:StkK B V lf S)(hl:S.length+2≤1099511627776)(_hB:B≤V.heap.size)(hwB:B≤wb)(hBk:Bk<B)(hxa:E.x.a=some ⟨Bk,off,none⟩)(hxl:E.x.len=2)(ha:cellsAt V Bk off a)(hb:cellsAt V Bk (off+4) b):
  Calls Tryd.prog 37 #[.pointer (some ⟨wb,0,none⟩),E.val] V fun e V'=> ∃R q,e=.returned (compV E.x.s (some ⟨R,0,none⟩) 2 2).val∧V.heap.size≤q∧PtB V' q noTerm false∧TwoP B wb nx lf S V R ⟨a,E.pf,q,⟨R,0,none⟩⟩ ⟨b,q,E.pt,⟨R,4,none⟩⟩ V':=by
 obtain⟨W2,W3,hW2,hW3,t0,hs2,g3,hs3,b0,b1,b2⟩:=box_top V E;have HFO:Hid (Calls Tryd.prog 33 #[.agg #[.int .i64 E.x.k,.int .i64 E.x.N,.string E.x.s,.slice E.x.a E.x.len E.x.cap]] W3 fun e W'=>e=.returned (.int .i64 (formB E.x))∧Below W3.heap.size W3 W'):=hide (form_any E.x W3);have hwl:=hw.lt
 have HBO:Hid (∀(U:World) (q:Nat),Below W3.heap.size W3 U→Calls Tryd.prog 55 #[.pointer (some ⟨wb,0,none⟩),.agg #[.int .i64 E.x.k,.int .i64 E.x.N,.string E.x.s,.slice E.x.a E.x.len E.x.cap],.agg #[.int .i64 0,.int .i64 0,.string ⟨#[]⟩,.slice none 0 0,.pointer (some ⟨E.pf,0,none⟩),.pointer (some ⟨q,0,none⟩),.pointer none],.agg #[.int .i64 0,.int .i64 0,.string ⟨#[]⟩,.slice none 0 0,.pointer (some ⟨q,0,none⟩),.pointer (some ⟨E.pt,0,none⟩),.pointer none]] U fun e V'=> ∃R,e=.returned (compV E.x.s (some ⟨R,0,none⟩) 2 2).val∧TwoP B wb nx lf S U R ⟨a,E.pf,q,⟨R,0,none⟩⟩ ⟨b,q,E.pt,⟨R,4,none⟩⟩ V'):=hide fun U q hU=>by
  have gU:=g3.trans (hU.mono g3.size);have hz:=gU.size;refine(both_any (x:=E.x) (y1:=noTerm) (y2:=noTerm) (a:=a) (b:=b) (Bk:=Bk) (off:=off) (pl1:=.pointer none) (pl2:=.pointer none) (hw.kept (gU.block wb hwl)) (hS.below gU) hl (by omega) hwB hBk hxa hxl (ha.kept (gU.block Bk (by omega))) (hb.kept (gU.block Bk (by omega)))).mono fun e V' h=>?_;obtain⟨R,lf',h1,h2,h3,h4,h5,h6,h7⟩:=h;exact⟨R,h1,h2,h3,⟨lf',h4,h5⟩,h6,h7⟩
 have HST:=hide (And.intro g3 hwl);have a0:=b2.c0;have a1:=b2.c1;have a2:=b2.c2;have a3:=b2.c3;obtain⟨j0,j1,j2,j3,_,_,_⟩:=t0.cells;have HB:=hide (And.intro b0 (And.intro b1 b2));have hrow:E.row.toArray=#[.int .i64 E.x.k,.int .i64 E.x.N,.string E.x.s,.slice E.x.a E.x.len E.x.cap,.pointer (some ⟨E.pf,0,none⟩),.pointer (some ⟨E.pt,0,none⟩),.pointer (some E.pl)]:=rfl;rw[hf] at HFO;clear t0 b0 b1 b2 g3 hw hS hl _hB hwB hBk hxa hxl ha hb hwl;simp only[Task.val];rw[hrow];clear hrow;go_enter Tryd.func37,Tryd.ntmps37
 go_wp2_with fail
 try rw[hW2]
 go_wp2_with fail
 try rw[hW3]
 go_wp2_with fail
 clear hW2 hW3 j0 j1 j2 j3 a0 a1 a2 a3;refine(uh HFO).mono ?_;rintro e U ⟨rfl,hU⟩;obtain⟨b0,b1,b2⟩:=uh HB;have hUs:=hU.size;have t0:TkB U V.heap.size E:=(hU.block _ (by omega)).trans b0;have r0:BoxT U (V.heap.size+1) noTerm:=b1.below hU (by omega);have x0:BoxT U (V.heap.size+1+1) E.x:=b2.below hU (by omega);clear b0 b1 b2 HB HFO;obtain⟨i0,i1,i2,i3,i4,i5,i6⟩:=t0.cells;obtain⟨q,hq⟩:∃q,U.heap.size=q:=⟨_,rfl⟩;obtain⟨UQ,hUQ⟩:∃UQ,U.alloc (.cells #[.int .i64 0,.int .i64 0,.string ⟨#[]⟩,.slice none 0 0,.bool false] 62)=UQ:=⟨_,rfl⟩;have gQ:Below U.heap.size U UQ:=by rw[←hUQ];exact(Below.refl _ U).alloc (Nat.le_refl _) _
 have hsQ:UQ.heap.size=U.heap.size+1:=by rw[←hUQ];simp
 have bq:PtB UQ q noTerm false:=by rw[←hUQ,←hq];exact World.alloc_heap_new U _
 have tQ:TkB UQ V.heap.size E:=(gQ.block _ (by omega)).trans t0;have xQ:=x0.below gQ (by omega);have rQ:=r0.below gQ (by omega);obtain⟨j0,j1,j2,j3,j4,j5,j6⟩:=tQ.cells;have a0:=xQ.c0;have a1:=xQ.c1;have a2:=xQ.c2;have a3:=xQ.c3;have hUQ3:=hU.trans (gQ.mono hU.size);have HRU:=hide ((uh HBO) UQ q hUQ3);have hqs:V.heap.size+3≤q∧q<UQ.heap.size:=by omega
 have HUU:=hide (And.intro hUQ3 (And.intro rQ bq));clear t0 r0 x0 hU HBO gQ bq tQ xQ rQ hUQ3 hsQ;go_wp2_with fail
 try rw[hUQ]
 go_wp2_with fail
 clear hUQ hq;refine(uh HRU).mono ?_;rintro e U2 ⟨R,rfl,hP⟩;have hVQ:Below V.heap.size V UQ:=(uh HST).1.trans ((uh HUU).1.mono (uh HST).1.size);have hwv:=(uh HST).2;have bx:BoxT U2 (V.heap.size+1) noTerm:=hP.fr.box (uh HUU).2.1 (by omega);have pq:PtB U2 q noTerm false:=hP.fr.pt (uh HUU).2.2 (by omega);obtain⟨f0',f1',f2',f3'⟩:=bx.frz;have e0:=bx.c0;have e1:=bx.c1;have e2:=bx.c2;have e3:=bx.c3;have b6:=set4_box bx (compV E.x.s (some ⟨R,0,none⟩) 2 2);have g0:=b6.c0;have g1:=b6.c1;have g2:=b6.c2;have g3:=b6.c3;have HZ:=hide (And.intro (pq.kept (set4_other U2 (V.heap.size+1) 0 (compV E.x.s (some ⟨R,0,none⟩) 2 2) (show q≠V.heap.size+1 by omega))) (hP.set4 hVQ (show V.heap.size≤V.heap.size+1 by omega) (by omega) (by omega) bx (compV E.x.s (some ⟨R,0,none⟩) 2 2)));clear hP hVQ bx pq b6 HRU i0 i1 i2 i3 i4 i5 i6 a0 a1 a2 a3 j0 j1 j2 j3 j4 j5 j6;simp only[TV.val,compV];go_wp2_with fail
 exact bodyPost_ret (v:=(compV E.x.s (some ⟨R,0,none⟩) 2 2).val) (by
  have e:(((U2.setCell ⟨V.heap.size+1,0,none⟩ (.int .i64 4)).setCell ⟨V.heap.size+1,1,none⟩ (.int .i64 0)).setCell ⟨V.heap.size+1,2,none⟩ (.string E.x.s)).setCell ⟨V.heap.size+1,3,none⟩ (.slice (some ⟨R,0,none⟩) 2 2)=set4 U2 (V.heap.size+1) 0 (compV E.x.s (some ⟨R,0,none⟩) 2 2):=rfl;rw[e];simp[results,Tryd.results37,go_sem,TV.val,g0,g1,g2,g3]) rfl ⟨R,q,rfl,by omega,(uh HZ).1,(uh HZ).2⟩
theorem top_choice(E:Task)(hf:formB E.x=3)(hw:WrB V wb nx lf)(hS:StkK B V lf S)(hl:S.length+2≤1099511627776)(_hB:B≤V.heap.size)(hwB:B≤wb)(hBk:Bk<B)(hxa:E.x.a=some ⟨Bk,off,none⟩)(hxl:E.x.len=2)(ha:cellsAt V Bk off a)(hb:cellsAt V Bk (off+4) b):
  Calls Tryd.prog 37 #[.pointer (some ⟨wb,0,none⟩),E.val] V fun e V'=> ∃R,e=.returned (compV E.x.s (some ⟨R,0,none⟩) 2 2).val∧TwoP B wb nx lf S V R ⟨a,E.pf,E.pt,⟨R,0,none⟩⟩ ⟨b,E.pf,E.pt,⟨R,4,none⟩⟩ V':=by
 obtain⟨W2,W3,hW2,hW3,t0,hs2,g3,hs3,b0,b1,b2⟩:=box_top V E;have HFO:Hid (Calls Tryd.prog 33 #[.agg #[.int .i64 E.x.k,.int .i64 E.x.N,.string E.x.s,.slice E.x.a E.x.len E.x.cap]] W3 fun e W'=>e=.returned (.int .i64 (formB E.x))∧Below W3.heap.size W3 W'):=hide (form_any E.x W3);have hwl:=hw.lt
 have HBO:Hid (∀(U:World),Below W3.heap.size W3 U→Calls Tryd.prog 55 #[.pointer (some ⟨wb,0,none⟩),.agg #[.int .i64 E.x.k,.int .i64 E.x.N,.string E.x.s,.slice E.x.a E.x.len E.x.cap],.agg #[.int .i64 E.x.k,.int .i64 E.x.N,.string E.x.s,.slice E.x.a E.x.len E.x.cap,.pointer (some ⟨E.pf,0,none⟩),.pointer (some ⟨E.pt,0,none⟩),.pointer (some E.pl)],.agg #[.int .i64 E.x.k,.int .i64 E.x.N,.string E.x.s,.slice E.x.a E.x.len E.x.cap,.pointer (some ⟨E.pf,0,none⟩),.pointer (some ⟨E.pt,0,none⟩),.pointer (some E.pl)]] U fun e V'=> ∃R,e=.returned (compV E.x.s (some ⟨R,0,none⟩) 2 2).val∧TwoP B wb nx lf S U R ⟨a,E.pf,E.pt,⟨R,0,none⟩⟩ ⟨b,E.pf,E.pt,⟨R,4,none⟩⟩ V'):=hide fun U hU=>by
  have gU:=g3.trans (hU.mono g3.size);have hz:=gU.size;refine(both_any (x:=E.x) (y1:=E.x) (y2:=E.x) (a:=a) (b:=b) (Bk:=Bk) (off:=off) (pl1:=.pointer (some E.pl)) (pl2:=.pointer (some E.pl)) (hw.kept (gU.block wb hwl)) (hS.below gU) hl (by omega) hwB hBk hxa hxl (ha.kept (gU.block Bk (by omega))) (hb.kept (gU.block Bk (by omega)))).mono fun e V' h=>?_;obtain⟨R,lf',h1,h2,h3,h4,h5,h6,h7⟩:=h;exact⟨R,h1,h2,h3,⟨lf',h4,h5⟩,h6,h7⟩
 have HST:=hide (And.intro g3 hwl);have a0:=b2.c0;have a1:=b2.c1;have a2:=b2.c2;have a3:=b2.c3;obtain⟨j0,j1,j2,j3,_,_,_⟩:=t0.cells;have HB:=hide (And.intro b0 (And.intro b1 b2));have hrow:E.row.toArray=#[.int .i64 E.x.k,.int .i64 E.x.N,.string E.x.s,.slice E.x.a E.x.len E.x.cap,.pointer (some ⟨E.pf,0,none⟩),.pointer (some ⟨E.pt,0,none⟩),.pointer (some E.pl)]:=rfl;rw[hf] at HFO;clear t0 b0 b1 b2 g3 hw hS hl _hB hwB hBk hxa hxl ha hb hwl;simp only[Task.val];rw[hrow];clear hrow;go_enter Tryd.func37,Tryd.ntmps37
 go_wp2_with fail
 try rw[hW2]
 go_wp2_with fail
 try rw[hW3]
 go_wp2_with fail
 clear hW2 hW3 j0 j1 j2 j3 a0 a1 a2 a3;refine(uh HFO).mono ?_;rintro e U ⟨rfl,hU⟩;obtain⟨b0,b1,b2⟩:=uh HB;have hUs:=hU.size;have t0:TkB U V.heap.size E:=(hU.block _ (by omega)).trans b0;have r0:BoxT U (V.heap.size+1) noTerm:=b1.below hU (by omega);have x0:BoxT U (V.heap.size+1+1) E.x:=b2.below hU (by omega);clear b0 b1 b2 HB HFO;obtain⟨i0,i1,i2,i3,i4,i5,i6⟩:=t0.cells;have a0:=x0.c0;have a1:=x0.c1;have a2:=x0.c2;have a3:=x0.c3;have HRU:=hide ((uh HBO) U hU);have HUU:=hide (And.intro hU r0);clear t0 r0 x0 hU HBO;go_wp2_with fail
 refine(uh HRU).mono ?_;rintro e U2 ⟨R,rfl,hP⟩;have hVQ:Below V.heap.size V U:=(uh HST).1.trans ((uh HUU).1.mono (uh HST).1.size);have hwv:=(uh HST).2;have bx:BoxT U2 (V.heap.size+1) noTerm:=hP.fr.box (uh HUU).2 (by omega);obtain⟨f0',f1',f2',f3'⟩:=bx.frz;have e0:=bx.c0;have e1:=bx.c1;have e2:=bx.c2;have e3:=bx.c3;have b6:=set4_box bx (compV E.x.s (some ⟨R,0,none⟩) 2 2);have g0:=b6.c0;have g1:=b6.c1;have g2:=b6.c2;have g3:=b6.c3;have HZ:=hide (hP.set4 hVQ (show V.heap.size≤V.heap.size+1 by omega) (by omega) (by omega) bx (compV E.x.s (some ⟨R,0,none⟩) 2 2));clear hP hVQ bx b6 HRU i0 i1 i2 i3 i4 i5 i6 a0 a1 a2 a3;simp only[TV.val,compV];go_wp2_with fail
 exact bodyPost_ret (v:=(compV E.x.s (some ⟨R,0,none⟩) 2 2).val) (by
  have e:(((U2.setCell ⟨V.heap.size+1,0,none⟩ (.int .i64 4)).setCell ⟨V.heap.size+1,1,none⟩ (.int .i64 0)).setCell ⟨V.heap.size+1,2,none⟩ (.string E.x.s)).setCell ⟨V.heap.size+1,3,none⟩ (.slice (some ⟨R,0,none⟩) 2 2)=set4 U2 (V.heap.size+1) 0 (compV E.x.s (some ⟨R,0,none⟩) 2 2):=rfl;rw[e];simp[results,Tryd.results37,go_sem,TV.val,g0,g1,g2,g3]) rfl ⟨R,rfl,uh HZ⟩
theorem NotP.set4{V U U2:World}{E:Task}{I A q:Nat}(h:NotP B wb nx lf S E a U I A q U2)(hV:Below V.heap.size V U){k:Nat}{z:TV}(hbV:V.heap.size≤k)(hbU:k<U.heap.size)(hwb:wb≠k)(hbx:BoxT U2 k z)(x:TV):NotP B wb nx lf S E a V I A q (Proofs.YtjbdkbaacjfecaaDoor.set4 U2 k 0 x):=by
 obtain⟨lf',hw,hst⟩:=h.st;have ot:=fun i (hk:i≠k)=>set4_other U2 k 0 x hk;have hsz:=hV.size;have h1:=h.hI;have h2:=h.hA;have h3:=h.hq;exact⟨by omega,by omega,by omega,h.ne,h.rI.kept (ot _ (by omega)),h.rA.kept (ot _ (by omega)),h.cA.kept (ot _ (by omega)),h.pq.kept (ot _ (by omega)),⟨lf',hw.kept (ot _ hwb),hst.frame (fun g hg=>ot g (hst.notbox hbx g hg))⟩,((FrG.of_below hV).trans h.fr).set4 hbV 0 x,((GrB.of_below hV).trans (h.gr.mono hV.size)).set4 hbV 0 x⟩
theorem top_not(E:Task)(hf:formB E.x=4)(hw:WrB V wb nx lf)(hS:StkK B V lf S)(hl:S.length+2≤1099511627776)(_hB:B≤V.heap.size)(hwB:B≤wb)(hBk:Bk<B)(hxa:E.x.a=some ⟨Bk,off,none⟩)(hxl:E.x.len=1)(ha:cellsAt V Bk off a):
  Calls Tryd.prog 37 #[.pointer (some ⟨wb,0,none⟩),E.val] V fun e V'=> ∃I A q,e=.returned (compV ⟨#[44]⟩ (some ⟨A,0,none⟩) 2 2).val∧NotP B wb nx lf S E a V I A q V':=by
 obtain⟨W2,W3,hW2,hW3,t0,hs2,g3,hs3,b0,b1,b2⟩:=box_top V E;have HFO:Hid (Calls Tryd.prog 33 #[.agg #[.int .i64 E.x.k,.int .i64 E.x.N,.string E.x.s,.slice E.x.a E.x.len E.x.cap]] W3 fun e W'=>e=.returned (.int .i64 (formB E.x))∧Below W3.heap.size W3 W'):=hide (form_any E.x W3);have hwl:=hw.lt
 have HBO:Hid (∀(U:World),Below W3.heap.size W3 U→Calls Tryd.prog 56 #[.pointer (some ⟨wb,0,none⟩),.agg #[.int .i64 E.x.k,.int .i64 E.x.N,.string E.x.s,.slice E.x.a E.x.len E.x.cap,.pointer (some ⟨E.pf,0,none⟩),.pointer (some ⟨E.pt,0,none⟩),.pointer (some E.pl)]] U fun e V'=> ∃I A q,e=.returned (compV ⟨#[44]⟩ (some ⟨A,0,none⟩) 2 2).val∧NotP B wb nx lf S E a U I A q V'):=hide fun U hU=>by
  have gU:=g3.trans (hU.mono g3.size);have hz:=gU.size;exact not_any (Bk:=Bk) (off:=off) E (hw.kept (gU.block wb hwl)) (hS.below gU) hl (by omega) hwB hBk hxa hxl (ha.kept (gU.block Bk (by omega)))
 have HST:=hide (And.intro g3 hwl);have a0:=b2.c0;have a1:=b2.c1;have a2:=b2.c2;have a3:=b2.c3;obtain⟨j0,j1,j2,j3,_,_,_⟩:=t0.cells;have HB:=hide (And.intro b0 (And.intro b1 b2));have hrow:E.row.toArray=#[.int .i64 E.x.k,.int .i64 E.x.N,.string E.x.s,.slice E.x.a E.x.len E.x.cap,.pointer (some ⟨E.pf,0,none⟩),.pointer (some ⟨E.pt,0,none⟩),.pointer (some E.pl)]:=rfl;rw[hf] at HFO;clear t0 b0 b1 b2 g3 hw hS hl _hB hwB hBk hxa hxl ha hwl;simp only[Task.val];rw[hrow];clear hrow;go_enter Tryd.func37,Tryd.ntmps37
 go_wp2_with fail
 try rw[hW2]
 go_wp2_with fail
 try rw[hW3]
 go_wp2_with fail
 clear hW2 hW3 j0 j1 j2 j3 a0 a1 a2 a3;refine(uh HFO).mono ?_;rintro e U ⟨rfl,hU⟩;obtain⟨b0,b1,b2⟩:=uh HB;have hUs:=hU.size;have t0:TkB U V.heap.size E:=(hU.block _ (by omega)).trans b0;have r0:BoxT U (V.heap.size+1) noTerm:=b1.below hU (by omega);have x0:BoxT U (V.heap.size+1+1) E.x:=b2.below hU (by omega);clear b0 b1 b2 HB HFO;obtain⟨i0,i1,i2,i3,i4,i5,i6⟩:=t0.cells;have HRU:=hide ((uh HBO) U hU);have HUU:=hide (And.intro hU r0);clear t0 r0 x0 hU HBO;go_wp2_with fail
 refine(uh HRU).mono ?_;rintro e U2 ⟨I,A,q,rfl,hP⟩;have hVQ:Below V.heap.size V U:=(uh HST).1.trans ((uh HUU).1.mono (uh HST).1.size);have hwv:=(uh HST).2;have bx:BoxT U2 (V.heap.size+1) noTerm:=hP.fr.box (uh HUU).2 (by omega);obtain⟨f0',f1',f2',f3'⟩:=bx.frz;have e0:=bx.c0;have e1:=bx.c1;have e2:=bx.c2;have e3:=bx.c3;have b6:=set4_box bx (compV ⟨#[44]⟩ (some ⟨A,0,none⟩) 2 2);have g0:=b6.c0;have g1:=b6.c1;have g2:=b6.c2;have g3:=b6.c3;have HZ:=hide (hP.set4 hVQ (show V.heap.size≤V.heap.size+1 by omega) (by omega) (by omega) bx (compV ⟨#[44]⟩ (some ⟨A,0,none⟩) 2 2));clear hP hVQ bx b6 HRU i0 i1 i2 i3 i4 i5 i6;simp only[TV.val,compV];go_wp2_with fail
 exact bodyPost_ret (v:=(compV ⟨#[44]⟩ (some ⟨A,0,none⟩) 2 2).val) (by
  have e:(((U2.setCell ⟨V.heap.size+1,0,none⟩ (.int .i64 4)).setCell ⟨V.heap.size+1,1,none⟩ (.int .i64 0)).setCell ⟨V.heap.size+1,2,none⟩ (.string ⟨#[44]⟩)).setCell ⟨V.heap.size+1,3,none⟩ (.slice (some ⟨A,0,none⟩) 2 2)=set4 U2 (V.heap.size+1) 0 (compV ⟨#[44]⟩ (some ⟨A,0,none⟩) 2 2):=rfl;rw[e];simp[results,Tryd.results37,go_sem,TV.val,g0,g1,g2,g3]) rfl ⟨I,A,q,rfl,uh HZ⟩
end
theorem ren_old{f0:Int}{vs:List Int}{c:List Nd}(hok:c.all okM=true)(h:∀N,IsVarOf c N→N<f0):renC (newR f0 vs) c=c:=by
 refine Eq.trans ?_ (renC_id hok);unfold renC;refine sub_congr_on fun N hN=>?_;unfold newR;rw[if_neg (by have:=h N hN;omega)]
theorem ext_old{f0:Int}{vs:List Int}{c:List Nd}(h:∀N,IsVarOf c N→N<f0):extV f0 vs c=vs:=Come.stay fun N h1 h2=>by have:=h N h1;omega
theorem ext_nv{f0:Int}{vs:List Int}{x:Nd}{c:List Nd}(h:x.1≠1):extV f0 vs (x::c)=extV f0 vs c:=by rw[extV_cons,if_neg h]
theorem ext_end{f0:Int}{vs:List Int}(r:List Nd):∀{n:Nat} (t:Tm n),Wl t→(∀N,IsVarOf (code t) N→N<f0)→extV f0 vs (endC t r)=extV f0 vs r:=by
 intro n
 induction n with
 | zero=>intro t;exact Empty.elim t
 | succ n ih=>
  intro t hw hv;obtain⟨x,kids⟩:=t;rw[endC_succ];cases hx:isB x [46] 2 with
  | false=>simp
  | true=>
   have hl:x.len=2:=by have:=isB_len hx;omega
   obtain⟨u,v,rfl⟩:=two_kids hw hl;have hwk:∀z∈[u,v],Wl z:=hw.2;have k1:=nd_one (isB_kind hx)
   have hvu:∀N,IsVarOf (code u) N→N<f0:=fun N hN=>hv N ((code_vars (isB_kind hx) N).2 (by
    rw[List.flatMap_cons];exact(isVar_append _ _ N).2 (.inl hN)))
   have hvv:∀N,IsVarOf (code v) N→N<f0:=fun N hN=>hv N ((code_vars (isB_kind hx) N).2 (by
    rw[List.flatMap_cons,List.flatMap_cons];exact(isVar_append _ _ N).2 (.inr ((isVar_append _ _ N).2 (.inl hN)))))
   rw[if_pos rfl]
   show extV f0 vs (x.nd::(code u++endC v r))=_
   rw[ext_nv k1,extV_append,ext_old hvu,ih v (hwk v (by simp)) hvv]
theorem leaf_ext{f0 f:Int}{vs:List Int}{s r:List Nd}{n:Nat}(t:Tm (n+1))(hw:Wl t)(h2:formB t.tv≠2)(h3:formB t.tv≠3)(h4:formB t.tv≠4)(hv:∀N,IsVarOf (code t) N→N<f0)(hs:Come f0 vs s):extV f0 vs (btwC t s r f)=extV f0 vs r:=by
 have hend:=ext_end (f0:=f0) (vs:=vs) r t hw hv;obtain⟨x,kids⟩:=t;simp only[Tm.tv] at h2 h3 h4;have hsr:extV f0 vs (s++r)=extV f0 vs r:=by rw[extV_append,hs.stay]
 have heq:extV f0 vs (eqC s r)=extV f0 vs r:=by unfold eqC;rw[ext_nv (by simp),hsr]
 rw[btwC_succ]
 by_cases f1:formB x=1
 ·rw[if_pos f1,ext_nv (by simp)]
  show extV f0 vs ([varNd x.N]++(s++r))=_
  rw[extV_append,ext_old (c:=[varNd x.N]) (fun N hN=>?_),hsr];have hN':N=x.N:=(var_one x.N N).1 hN;refine hv N ⟨x.nd,by rw[code_succ];simp,form_one.1 f1,?_⟩;rw[hN'];rfl
 ·have k1:x.k≠1:=fun h=>f1 (form_one.2 h)
  have hkv:∀N,IsVarOf (kids.flatMap code) N→N<f0:=fun N hN=>hv N ((code_vars k1 N).2 hN);rw[if_neg f1,if_neg h2,if_neg h3,if_neg h4]
  by_cases f5:formB x=5
  ·rw[if_pos f5,ext_nv (by simp),extV_append,hs.stay,hend]
  ·rw[if_neg f5]
   by_cases f6:formB x=6
   ·rw[if_pos f6]
    cases kids with
    | nil=>exact heq
    | cons u l=>
     show extV f0 vs ((4,0,[44],2)::((bodyC u).getD []++eqC s r))=_
     rw[ext_nv (by simp),extV_append,ext_old (c:=(bodyC u).getD []) (fun N hN=>?_),heq];have hwu:Wl u:=hw.2 u (by simp[Tm.kids]);cases hb:bodyC u with
     | none=>rw[hb] at hN;obtain⟨y,hy,_⟩:=hN;simp at hy
     | some c=>
      rw[hb] at hN;exact hkv N (by rw[List.flatMap_cons];exact(isVar_append _ _ N).2 (.inl ((body_has hwu hb N).1 hN)))
   ·rw[if_neg f6]
    by_cases f7:formB x=7
    ·rw[if_pos f7,ext_nv (by simp),ext_nv (by simp),heq]
    ·rw[if_neg f7,ext_nv (by simp),extV_append,ext_old hkv,hsr]
theorem leaf_cnt{n:Nat}(t:Tm (n+1))(h2:formB t.tv≠2)(h3:formB t.tv≠3)(h4:formB t.tv≠4):cntT t=0:=by
 obtain⟨x,kids⟩:=t;simp only[Tm.tv] at h2 h3 h4;rw[cntT_succ,if_neg (by omega),if_neg h3]
theorem leaf_ren{f0 f f':Int}{vs:List Int}{s r:List Nd}{n:Nat}(t:Tm (n+1))(hw:Wl t)(ok:okT t=true)(h2:formB t.tv≠2)(h3:formB t.tv≠3)(h4:formB t.tv≠4)(hv:∀N,IsVarOf (code t) N→N<f0):btwC t (renC (newR f0 vs) s) (renC (newR f0 vs) r) f'=renC (newR f0 vs) (btwC t s r f):=
 (btw_ren (newR f0 vs) t hw ok t hw (ren_old (by rw[←okT_m];exact ok) hv).symm).2.2 s r f f' (fun i hi=>by rw[leaf_cnt t h2 h3 h4] at hi;omega)
theorem nodup_leG:∀(c:Nat) (l:List Int) (f:Int),l.Nodup→(∀N∈l,f≤N∧N<f+c)→l.length≤c
 | 0,l,f,_,h=>by
  cases l with
  | nil=>simp
  | cons a l=>have:=h a (by simp);omega
 | c+1,l,f,hn,h=>by
  have h1:=nodup_leG c (l.erase (f+c)) f (hn.erase _) (fun N hN=>by
   rw[hn.mem_erase_iff] at hN;have:=h N hN.2;omega)
  by_cases hm:f+c∈l
  ·rw[List.length_erase_of_mem hm] at h1;omega
  ·rw[List.erase_of_not_mem hm] at h1;omega
theorem ext_in{f0 f:Int}{vs:List Int}{s r:List Nd}{n:Nat}{t:Tm n}(hw:Wl t)(ok:okT t=true)(hv:∀N,IsVarOf (code t) N→N<f0)(hs:∀N,IsVarOf s N→f0≤N→N<f)(hr:∀N,IsVarOf r N→f0≤N→N<f)(hi:∀N∈vs,f0≤N∧N<f):∀N∈extV f0 vs (btwC t s r f),f0≤N∧N<f+cntT t:=fun N hN=>by
 rcases(extV_mem f0 _ vs N).1 hN with h | ⟨h,h'⟩
 ·have:=hi N h;omega
 ·rcases(btw_vars t hw ok s r f N).1 h with h | h | h | h
  ·have:=hv N h;omega
  ·have:=hs N h h';omega
  ·have:=hr N h h';omega
  ·omega
theorem ext_not{f0 f v:Int}{vs:List Int}{s r:List Nd}{n:Nat}{t:Tm n}(hw:Wl t)(ok:okT t=true)(hv:∀N,IsVarOf (code t) N→N<f0)(hs:Come f0 vs s)(hr:¬IsVarOf r v)(h0:f0≤v)(hvs:v∉vs)(hf:v<f):v∉extV f0 vs (btwC t s r f):=fun hN=>by
 rcases(extV_mem f0 _ vs v).1 hN with h | ⟨h,_⟩
 ·exact hvs h
 ·rcases(btw_vars t hw ok s r f v).1 h with h | h | h | h
  ·have:=hv v h;omega
  ·exact hvs (hs v h h0)
  ·exact hr h
  ·omega
/-- Only the writer, the second point, rows of tasks, new blocks and the place's four cells were changed. -/
structure FrT (wb pt pb po:Nat) (V V':World):Prop where
 fr:FrG wb (fun k=>k=wb∨k=pt∨k=pb) V V'
 at4:∀arr T,V.heap[pb]?=some (.cells arr T (0,0))→∃arr',V'.heap[pb]?=some (.cells arr' T (0,0))∧arr'.size=arr.size∧∀q,(q<po∨po+3<q)→arr'[q]?=arr[q]?
/-- A task's turn comes. -/
structure Tin (D wb:Nat) (f0 f:Int) (vs:List Int) (s r:List Nd) (S:List Task) (E:Task) (pb po:Nat) {m:Nat} (u:Tm m) (lf:Value) (V:World):Prop where
 ws:Wst D wb wb E.pf E.pt f0 vs s r lf V
 st:StkK wb V lf (S++[E])
 hx:E.x=u.tv
 is:IsT wb V u
 ok:okT u=true
 er:berr u=0
 vu:∀N,IsVarOf (code u) N→N<f0
 pl:E.pl=⟨pb,po,none⟩
 pk:∃arr,V.heap[pb]?=some (.cells arr 24 (0,0))∧po+4≤arr.size
 pw:wb<pb
 ne:E.pf≠E.pt
 nd:vs.Nodup
 vi:∀N∈vs,f0≤N∧N<f
 vf:∀N,IsVarOf s N→f0≤N→N<f
 vr:∀N,IsVarOf r N→f0≤N→N<f
 ff:f0≤f
 fc:f+cntT u≤1099511627777
/-- Its goal is written. -/
structure Tout (G D wb:Nat) (f0 f:Int) (vs:List Int) (s r:List Nd) (S:List Task) (E:Task) (pb po:Nat) {m:Nat} (u:Tm m) (lf':Value) (V V':World):Prop where
 y:∃y:TV,cellsAt V' pb po y∧HoldsG anyP G V.heap.size V' y.val (renC (newR f0 (extV f0 vs (btwC u s r f))) (btwC u s r f))
 kf:PtK D wb f0 (extV f0 vs (btwC u s r f)) V' E.pf s
 kt:PtK D wb f0 (extV f0 vs (btwC u s r f)) V' E.pt r
 wr:WrB V' wb (f0+(extV f0 vs (btwC u s r f)).length) lf'
 st:StkK wb V' lf' S
 fr:FrT wb E.pt pb po V V'
theorem notCome_new{f0 f:Int}{vs:List Int}{r:List Nd}{m:Nat}{u:Tm m}(nd:vs.Nodup)(vi:∀N∈vs,f0≤N∧N<f)(vr:∀N,IsVarOf r N→f0≤N→N<f)(ff:f0≤f)(fc:f+cntT u≤1099511627777):¬Come f0 vs r→f0+vs.length≤1099511627776:=fun h=>by
 by_cases he:f0+(vs.length:Int)≤1099511627776
 ·exact he
 ·exfalso
  apply h;intro N h1 h2
  by_cases hm:N∈vs
  ·exact hm
  ·have hl:=nodup_leG (f-f0).toNat (N::vs) f0 (List.nodup_cons.2 ⟨hm,nd⟩) (fun M hM=>by
    rcases List.mem_cons.1 hM with rfl | hM
    ·have:=vr _ h1 h2;omega
    ·have:=vi M hM;omega)
   simp only[List.length_cons] at hl;omega
/-- A task was taken from the row. -/
structure PopS (wb:Nat) (nx:Int) (lf lf':Value) (S:List Task) (E:Task) (V U:World):Prop where
 gr:GrB (fun k=>k=wb) V.heap.size V U
 sz:V.heap.size<U.heap.size
 wr:WrB U wb nx lf'
 st:StkK wb U lf' S
 tk:TkB U V.heap.size E
 ow:lf'.ownBlock=lf.ownBlock
theorem PtK.point{D w0 q:Nat}{f0:Int}{vs:List Int}{V:World}{s:List Nd}(h:PtK D w0 f0 vs V q s):∃x b,PtB V q x b:=by obtain⟨x,h,_⟩:=h;exact⟨x,_,h⟩
theorem PtIs.point{D w0 q:Nat}{f0:Int}{vs:List Int}{V:World}{s:List Nd}(h:PtIs D w0 f0 vs V q s):∃x b,PtB V q x b:=by
 rcases h with h | ⟨v,_,_,_,h⟩
 ·exact h.point
 ·exact⟨_,_,h⟩
theorem PtB.ne_term{W:World}{q pb:Nat}{x:TV}{b:Bool}{arr:Array Value}(h:PtB W q x b)(hp:W.heap[pb]?=some (.cells arr 24 (0,0))):q≠pb:=fun e=>by
 subst e;have:=(show W.heap[q]?=_ from h).symm.trans hp;simp at this
theorem StkK.ne_pt{B:Nat}{W:World}{v:Value}{S:List Task}{q:Nat}{x:TV}{b:Bool}(h:StkK B W v S)(hp:PtB W q x b):∀g,v.ownBlock=some g→g≠q:=fun g hg e=>by
 obtain⟨_,_,cur,hc⟩:=StkW.lt h hg;subst e;have:=hc.symm.trans hp;simp at this
theorem StkK.ne_wr{B:Nat}{W:World}{v:Value}{S:List Task}{q:Nat}{n:Int}{l:Value}(h:StkK B W v S)(hp:WrB W q n l):∀g,v.ownBlock=some g→g≠q:=fun g hg e=>by
 obtain⟨_,_,cur,hc⟩:=StkW.lt h hg;subst e;have:=hc.symm.trans hp;simp at this
theorem StkK.ne_term{B:Nat}{W:World}{v:Value}{S:List Task}{q:Nat}{arr:Array Value}(h:StkK B W v S)(hp:W.heap[q]?=some (.cells arr 24 (0,0))):∀g,v.ownBlock=some g→g≠q:=fun g hg e=>by
 obtain⟨_,_,cur,hc⟩:=StkW.lt h hg;subst e;have:=hc.symm.trans hp;simp at this
theorem PtK.moved{D w0 q:Nat}{f0:Int}{vs:List Int}{V V':World}{s:List Nd}(h:PtK D w0 f0 vs V q s)(hq:V'.heap[q]?=V.heap[q]?)(hs:∀k,k<w0→V'.heap[k]?=V.heap[k]?)(hz:V.heap.size≤V'.heap.size):PtK D w0 f0 vs V' q s:=h.kept hq hs hz []
theorem PtIs.moved{D w0 q:Nat}{f0:Int}{vs:List Int}{V V':World}{s:List Nd}(h:PtIs D w0 f0 vs V q s)(hq:V'.heap[q]?=V.heap[q]?)(hs:∀k,k<w0→V'.heap[k]?=V.heap[k]?)(hz:V.heap.size≤V'.heap.size):PtIs D w0 f0 vs V' q s:=by
 rcases h with h | ⟨v,h1,h2,h3,h4⟩
 ·exact .inl (h.moved hq hs hz)
 ·exact .inr ⟨v,h1,h2,h3,h4.kept hq⟩
theorem Wst.pop{D wb pf pt:Nat}{f0:Int}{vs:List Int}{s r:List Nd}{lf lf':Value}{S:List Task}{E:Task}{V U:World}(h:Wst D wb wb pf pt f0 vs s r lf V)(hp:PopS wb (f0+vs.length) lf lf' S E V U):Wst D wb wb pf pt f0 vs s r lf' U:=by
 obtain⟨x1,b1,q1⟩:=h.kf.point;obtain⟨x2,b2,q2⟩:=h.kt.point;have hwl:=h.wr.lt;exact⟨h.kf.moved (hp.gr.block pf h.kf.lt (fun e=>q1.ne_wr h.wr e.symm)) (fun k hk=>hp.gr.block k (by omega) (by omega)) hp.gr.size,h.kt.moved (hp.gr.block pt h.kt.lt (fun e=>q2.ne_wr h.wr e.symm)) (fun k hk=>hp.gr.block k (by omega) (by omega)) hp.gr.size,hp.wr,h.d1,h.w0b,h.w0f,h.w0t,h.f00,h.n40⟩
theorem isT_low{wb m:Nat}{V V':World}{t:Tm m}(h:IsT wb V t)(hk:∀k,k<wb→V'.heap[k]?=V.heap[k]?):IsT wb V' t:=h.fromS (S:=(· <wb)) hk h.blk
section
variable {G D wb:Nat} {f0 f:Int} {vs:List Int} {s r:List Nd} {S:List Task} {E:Task} {pb po m:Nat} {lf lf':Value} {V U V':World}
theorem Tin.apart{u:Tm m}(h:Tin D wb f0 f vs s r S E pb po u lf V):wb<V.heap.size∧E.pf<V.heap.size∧E.pt<V.heap.size∧pb<V.heap.size∧wb≠E.pf∧wb≠E.pt∧E.pf≠pb∧E.pt≠pb:=by
 obtain⟨x1,b1,q1⟩:=h.ws.kf.point;obtain⟨x2,b2,q2⟩:=h.ws.kt.point;obtain⟨arr,hp,_⟩:=h.pk;exact⟨h.ws.wr.lt,h.ws.kf.lt,h.ws.kt.lt,(Array.getElem?_eq_some_iff.1 hp).1,q1.ne_wr h.ws.wr,q2.ne_wr h.ws.wr,q1.ne_term hp,q2.ne_term hp⟩
theorem leaf_out{n Dd:Nat}{u:Tm (n+1)}{y:TV}(h:Tin D wb f0 f vs s r S E pb po u lf V)(hp:PopS wb (f0+vs.length) lf lf' S E V U)(h2:formB u.tv≠2)(h3:formB u.tv≠3)(h4:formB u.tv≠4)
  (hG:HoldsG anyP Dd U.heap.size V' y.val (btwC u (renC (newR f0 (extV f0 vs r)) s) (renC (newR f0 (extV f0 vs r)) r) 0)) (hW:Wen D wb wb E.pf E.pt f0 vs s r lf' U V') (hD:Dd≤G):
  TkB V' V.heap.size E∧Spot V' pb po∧Tout G D wb f0 f vs s r S E pb po u lf' V (set4 V' pb po y):=by
 obtain⟨a1,a2,a3,a4,a5,a6,a7,a8⟩:=h.apart;have hsz:=hp.sz;obtain⟨arr,hpk,hpo⟩:=h.pk;have hw0:=h.pw;have hwl:Wl u:=h.is.wl;have hcs:Come f0 vs s:=by obtain⟨x,_,_,_,hc⟩:=h.ws.kf;exact hc
 have eE:=leaf_ext (f:=f) (r:=r) u hwl h2 h3 h4 h.vu hcs;have eR:=leaf_ren (f:=f) (f':=0) (vs:=extV f0 vs r) (s:=s) (r:=r) u hwl h.ok h2 h3 h4 h.vu;rw[eR] at hG;have kU:∀k,k<V.heap.size→k≠wb→U.heap[k]?=V.heap[k]?:=fun k hk hne=>hp.gr.block k hk hne;have kV:∀k,k<U.heap.size→k≠wb→k≠E.pt→V'.heap[k]?=U.heap[k]?:=fun k hk h1 h2=>hW.gr.block k hk (fun e=>e.elim h1 h2);have hpb:V'.heap[pb]?=V.heap[pb]?:=(kV pb (by omega) (by omega) (fun e=>a8 e.symm)).trans (kU pb a4 (by omega));have hsp:Spot V' pb po:=⟨arr,_,hpb.trans hpk,hpo⟩;obtain⟨q0,y0⟩:=hsp.cell (q:=po) (by omega);obtain⟨q1,y1⟩:=hsp.cell (q:=po+1) (by omega);obtain⟨q2,y2⟩:=hsp.cell (q:=po+2) (by omega);obtain⟨q3,y3⟩:=hsp.cell (q:=po+3) (by omega);have ot:=fun k (hk:k≠pb)=>set4_other V' pb po y hk;have htk:TkB V' V.heap.size E:=(kV _ (by omega) (by omega) (by omega)).trans hp.tk;have hw0t:=h.ws.w0t;refine⟨htk,hsp,⟨⟨y,set4_cells V' pb po y q0 q1 q2 q3,?_⟩,?_,?_,?_,?_,⟨⟨hW.gr.os.trans hp.gr.os,hW.gr.tape.trans hp.gr.tape,hW.gr.output.trans hp.gr.output,by rw[set4_size];exact Nat.le_trans hp.gr.size hW.gr.size,fun k hk hx _=>?_⟩,fun arr' T ha=>set4_arr (hpb.trans ha) y⟩⟩⟩
 ·rw[eE]
  exact(hG.set4 (by omega) po y).mono hD (by omega) (fun _ h=>h)
 ·rw[eE]
  exact hW.kf.moved (ot _ (by omega)) (fun k hk=>ot k (by omega)) (by rw[set4_size];exact Nat.le_refl _)
 ·rw[eE]
  exact hW.kt.moved (ot _ (by omega)) (fun k hk=>ot k (by omega)) (by rw[set4_size];exact Nat.le_refl _)
 ·rw[eE]
  exact hW.wr.kept (ot wb (by omega))
 ·have hpt:=((h.ws.pop hp).kt).point
  obtain⟨x2,b2,p2⟩:=hpt;have sV':StkK wb V' lf' S:=hp.st.frame (fun g hg=>kV g (StkW.lt hp.st hg).2.1 (hp.st.ne_wr hp.wr g hg) (hp.st.ne_pt p2 g hg));exact sV'.frame (fun g hg=>ot g (sV'.ne_term (hpb.trans hpk) g hg))
 ·exact(ot k (fun e=>hx (.inr (.inr e)))).trans ((kV k (by omega) (fun e=>hx (.inl e)) (fun e=>hx (.inr (.inl e)))).trans (kU k hk (fun e=>hx (.inl e))))
end
theorem FrT.low{wb pt pb po:Nat}{V V':World}(h:FrT wb pt pb po V V')(hw:wb<V.heap.size)(hpt:wb≤pt)(hpb:wb<pb):∀k,k<wb→V'.heap[k]?=V.heap[k]?:=fun k hk=>h.fr.block k (by omega) (by omega) (.inl hk)
theorem FrT.point{wb pt pb po q:Nat}{V V':World}(h:FrT wb pt pb po V V'){x:TV}{b:Bool}(hq:PtB V q x b)(h1:q≠wb)(h2:q≠pt)(h3:q≠pb):V'.heap[q]?=V.heap[q]?:=h.fr.block q hq.lt (by omega) (.inr fun o ho=>by
 rw[show V.heap[q]?=_ from hq] at ho;cases ho;simp[ofK])
theorem FrT.terms{wb pt pb po q:Nat}{V V':World}(h:FrT wb pt pb po V V'){arr:Array Value}(hq:V.heap[q]?=some (.cells arr 24 (0,0)))(h1:q≠wb)(h2:q≠pt)(h3:q≠pb):V'.heap[q]?=V.heap[q]?:=h.fr.block q (Array.getElem?_eq_some_iff.1 hq).1 (by omega) (.inr fun o ho=>by
 rw[hq] at ho;cases ho;simp[ofK])
theorem FrT.cell{wb pt pb po:Nat}{V V':World}(h:FrT wb pt pb po V V'){arr:Array Value}{T:TypeId}(hb:V.heap[pb]?=some (.cells arr T (0,0))){o:Nat}{x:TV}(hc:cellsAt V pb o x)(ho:o+4≤po∨po+4≤o):cellsAt V' pb o x:=by
 obtain⟨arr',h1,_,h3⟩:=h.at4 arr T hb;have hq:∀q,(q<po∨po+3<q)→V'.cell? ⟨pb,q,none⟩=V.cell? ⟨pb,q,none⟩:=fun q hq=>by simp only[World.cell?,hb,h1,h3 q hq]
 obtain⟨c0,c1,c2,c3⟩:=hc;exact⟨(hq _ (by omega)).trans c0,(hq _ (by omega)).trans c1,(hq _ (by omega)).trans c2,(hq _ (by omega)).trans c3⟩
theorem FrT.row{wb pt pb po len:Nat}{V V':World}(h:FrT wb pt pb po V V')(hb:Row4 V pb len):Row4 V' pb len:=by
 obtain⟨arr,h1,h2⟩:=hb;obtain⟨arr',k1,k2,_⟩:=h.at4 arr _ h1;exact⟨arr',k1,by omega⟩
theorem FrT.holds{P:Nat→Prop}{wb pt pb po D lo:Nat}{V V':World}(h:FrT wb pt pb po V V'){v:Value}{c:List Nd}(hg:HoldsG P D lo V v c)(h1:wb<lo)(h2:pt<lo)(h3:pb<lo):HoldsG P D lo V' v c:=
 hg.frame h.fr fun k _ hk=>by have:=hk.1;omega
end Go.Proofs.YtjbdkbaacjfecaaDoor
