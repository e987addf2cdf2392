import Derived.Test.YtjbdkbaacjfecaaDoorGsFs
import Derived.Test.YtjbdkbaacjfecaaDoorTks
namespace Go.Proofs.YtjbdkbaacjfecaaDoor
set_option maxHeartbeats 8000000
set_option maxRecDepth 100000
open Go.RowKit Go.Shelf Go.Maps
theorem btw_none{n D ns:Nat}{x xs xr:TV}{kids:List (Tm n)}{s r:List Nd}{f:Int}{W:World}(hc:x.s.toList=[99,97,108,108])(h0:¬0<x.len)(h50:kids.length+2≤50)(hT:IsT (n:=n+1) ns W ((x,kids):TV×List (Tm n)))(hns:ns≤W.heap.size)(hs:HoldsS D (· <ns) W xs.val s)(hr:HoldsS D (· <ns) W xr.val r){mm:Int}(hm:W.cell? ⟨splitLay_ren.g 1,0,none⟩=some (.int .i64 mm))(hm0:splitLay_ren.g 1<W.heap.size)(hres:resB x.s.toList ((kids.length:Nat)+2)=false)
  (k1:(x.k == 1)=false) (k2:(x.k == 2)=false) (q1:isB x [44] 2=false) (q2:isB x [45,62] 2=false) (q3:isB x [59] 2=false) (q4:isB x [92,43] 1=false) (q5:isB x [91,93] 0=false) (q6:isB x [123,125] 0=false) (q7:isB x [33] 0=false) (q8:isB x [123,125] 1=false) (q9:isB x [46] 2=false):
  Calls Tryd.prog 24 #[x.val,xs.val,xr.val,.int .i64 f] W fun e U=> ∃(y:TV) (m:Int),e=.returned (.tuple #[y.val,.int .i64 m,.int .i64 0])∧Below W.heap.size W U∧BtwP (D+n+1) ns 0 0 ((4,0,x.s.toList,(kids.length:Nat)+2)::(kids.flatMap code++(s++r))) W.heap.size y m U:=by
 obtain⟨W4,sb,rb,zb,hW4,h2,h3,h4,hS⟩:=btw_boxes W x xs xr;have H2:=hide (And.intro h2 (And.intro h3 h4));clear h2 h3 h4;simp only[TV.val];go_enter Tryd.func24,Tryd.ntmps24
 go_wp2_with fail
 try rw[hW4]
 rw[(uh H2).1,(uh H2).2.1,(uh H2).2.2];clear hW4 H2;refine wp_btw1 hT hns (by omega) hS ?_;intro X vm u19 u20 u21 u22 u23 u24 u25 HI;clear hS;obtain⟨g,cap,q,rfl,hq,hq2⟩:=HI.slice;rw[show(kids.map Tm.tv).length=kids.length by simp] at hq;have HQ:=hide hq;clear hq hq2;obtain⟨c0,c1,c2,c3,-⟩:=HI.cells;go_wp2_with fail
 refine(HI.is q1 l44).mono ?_;clear HI c0 c1 c2 c3;rintro e X ⟨rfl,HI,c0,c1,c2,c3⟩;go_wp2_with fail
 refine(HI.is q2 lar).mono ?_;clear HI c0 c1 c2 c3;rintro e X ⟨rfl,HI,c0,c1,c2,c3⟩;go_wp2_with fail
 refine(HI.is q3 lse).mono ?_;clear HI c0 c1 c2 c3;rintro e X ⟨rfl,HI,c0,c1,c2,c3⟩;go_wp2_with fail
 refine(HI.is q4 lno).mono ?_;clear HI c0 c1 c2 c3;rintro e X ⟨rfl,HI,c0,c1,c2,c3⟩;go_wp2_with fail
 refine(HI.is q5 lni).mono ?_;clear HI c0 c1 c2 c3;rintro e X ⟨rfl,HI,c0,c1,c2,c3⟩;go_wp2_with fail
 refine(HI.is q6 lcu).mono ?_;clear HI c0 c1 c2 c3;rintro e X ⟨rfl,HI,c0,c1,c2,c3⟩;go_wp2_with fail
 refine(HI.is q7 lbx).mono ?_;clear HI c0 c1 c2 c3;rintro e X ⟨rfl,HI,c0,c1,c2,c3⟩;go_wp2_with fail
 refine(HI.is q8 lcu).mono ?_;clear HI c0 c1 c2 c3;rintro e X ⟨rfl,HI,c0,c1,c2,c3⟩;go_wp2_with fail
 refine(HI.is q9 ldo).mono ?_;clear HI c0 c1 c2 c3;rintro e X ⟨rfl,HI,-⟩;have hb:¬(50:Int)<(q:Int):=by have:=uh HQ;omega
 clear h50;obtain⟨c0,c1,c2,c3,-⟩:=HI.cells
 have HR:Hid (Calls Tryd.prog 21 #[.string x.s,.int .i64 q] X fun e W'=>e=.returned (.bool false)∧Below X.heap.size X W'):=hide (by
  have:=rres_any x.s (q:Int) mm X ((HI.g.cell hm0).trans hm) (Nat.lt_of_lt_of_le hm0 HI.g.size);rw[show(q:Int)=((kids.length:Nat):Int)+2 by have:=uh HQ;omega,hres] at this;rw[show(q:Int)=((kids.length:Nat):Int)+2 by have:=uh HQ;omega];exact this)
 clear hres;go_wp2_with fail
 refine(uh HR).mono ?_;rintro e X1 ⟨rfl,h⟩;replace HI:=HI.below h;clear h c0 c1 c2 c3 HR;obtain⟨c0,c1,c2,c3,-⟩:=HI.cells;go_wp2_with fail
 refine(rcompound_any x.s (some ⟨g,0,none⟩) q cap X1).mono ?_;rintro e X2 ⟨rfl,h⟩;replace HI:=HI.below h;have hh:=more_holds (nm:=x.s) HI (uh HQ) hT.2.2.1 hT hns hs hr;have hh2:=hide hh;clear h c0 c1 c2 c3 hh;simp only[TV.val,compV];obtain⟨⟨f0,f1,f2,f3⟩,p0,p1,p2,p3⟩:=HI.zero;obtain⟨lF,bF,hF⟩:=HI.fin (compV x.s (some ⟨g,0,none⟩) q cap);have HF:Hid (Below W.heap.size W (set4 X2 zb 0 (compV x.s (some ⟨g,0,none⟩) q cap))∧BtwP (D+n+1) ns 0 0 ((4,0,x.s.toList,(kids.length:Nat)+2)::(kids.flatMap code++(s++r))) W.heap.size (compV x.s (some ⟨g,0,none⟩) q cap) 0 (set4 X2 zb 0 (compV x.s (some ⟨g,0,none⟩) q cap))):=hide ⟨lF,Int.le_refl _,Int.le_refl _,fun _=>⟨rfl,hF hns (by rw[uh HQ];exact uh hh2)⟩⟩;have z0:=bF.c0;have z1:=bF.c1;have z2:=bF.c2;have z3:=bF.c3;clear lF bF hF;go_wp2_with fail
 exact bodyPost_ret (v:=.tuple #[(compV x.s (some ⟨g,0,none⟩) q cap).val,.int .i64 0,.int .i64 0]) (by
  have e:(((X2.setCell ⟨zb,0,none⟩ (.int .i64 4)).setCell ⟨zb,1,none⟩ (.int .i64 0)).setCell ⟨zb,2,none⟩ (.string x.s)).setCell ⟨zb,3,none⟩ (.slice (some ⟨g,0,none⟩) q cap)=set4 X2 zb 0 (compV x.s (some ⟨g,0,none⟩) q cap):=rfl;rw[e];simp[results,Tryd.results24,go_sem,TV.val,z0,z1,z2,z3]) rfl ⟨(compV x.s (some ⟨g,0,none⟩) q cap),_,rfl,(uh HF).1,(uh HF).2⟩
theorem btw_none_clause{n D ns:Nat}{x xs xr:TV}{kids:List (Tm n)}{s:List Nd}{f:Int}{W:World}(hc:x.s.toList=[99,97,108,108])(h0:¬0<x.len)(h50:kids.length+2≤50)(hT:IsT (n:=n+1) ns W ((x,kids):TV×List (Tm n)))(hns:ns≤W.heap.size){mm:Int}(hm:W.cell? ⟨splitLay_ren.g 1,0,none⟩=some (.int .i64 mm))(hm0:splitLay_ren.g 1<W.heap.size)(hres:resB x.s.toList ((kids.length:Nat)+2)=true)
  (k1:(x.k == 1)=false) (k2:(x.k == 2)=false) (q1:isB x [44] 2=false) (q2:isB x [45,62] 2=false) (q3:isB x [59] 2=false) (q4:isB x [92,43] 1=false) (q5:isB x [91,93] 0=false) (q6:isB x [123,125] 0=false) (q7:isB x [33] 0=false) (q8:isB x [123,125] 1=false) (q9:isB x [46] 2=false):
  Calls Tryd.prog 24 #[x.val,xs.val,xr.val,.int .i64 f] W fun e U=> ∃(y:TV) (m:Int),e=.returned (.tuple #[y.val,.int .i64 m,.int .i64 7])∧Below W.heap.size W U∧BtwP D ns 0 7 s W.heap.size y m U:=by
 obtain⟨W4,sb,rb,zb,hW4,h2,h3,h4,hS⟩:=btw_boxes W x xs xr;have H2:=hide (And.intro h2 (And.intro h3 h4));clear h2 h3 h4;simp only[TV.val];go_enter Tryd.func24,Tryd.ntmps24
 go_wp2_with fail
 try rw[hW4]
 rw[(uh H2).1,(uh H2).2.1,(uh H2).2.2];clear hW4 H2;refine wp_btw1 hT hns (by omega) hS ?_;intro X vm u19 u20 u21 u22 u23 u24 u25 HI;clear hS;obtain⟨g,cap,q,rfl,hq,hq2⟩:=HI.slice;rw[show(kids.map Tm.tv).length=kids.length by simp] at hq;have HQ:=hide hq;clear hq hq2;obtain⟨c0,c1,c2,c3,-⟩:=HI.cells;go_wp2_with fail
 refine(HI.is q1 l44).mono ?_;clear HI c0 c1 c2 c3;rintro e X ⟨rfl,HI,c0,c1,c2,c3⟩;go_wp2_with fail
 refine(HI.is q2 lar).mono ?_;clear HI c0 c1 c2 c3;rintro e X ⟨rfl,HI,c0,c1,c2,c3⟩;go_wp2_with fail
 refine(HI.is q3 lse).mono ?_;clear HI c0 c1 c2 c3;rintro e X ⟨rfl,HI,c0,c1,c2,c3⟩;go_wp2_with fail
 refine(HI.is q4 lno).mono ?_;clear HI c0 c1 c2 c3;rintro e X ⟨rfl,HI,c0,c1,c2,c3⟩;go_wp2_with fail
 refine(HI.is q5 lni).mono ?_;clear HI c0 c1 c2 c3;rintro e X ⟨rfl,HI,c0,c1,c2,c3⟩;go_wp2_with fail
 refine(HI.is q6 lcu).mono ?_;clear HI c0 c1 c2 c3;rintro e X ⟨rfl,HI,c0,c1,c2,c3⟩;go_wp2_with fail
 refine(HI.is q7 lbx).mono ?_;clear HI c0 c1 c2 c3;rintro e X ⟨rfl,HI,c0,c1,c2,c3⟩;go_wp2_with fail
 refine(HI.is q8 lcu).mono ?_;clear HI c0 c1 c2 c3;rintro e X ⟨rfl,HI,c0,c1,c2,c3⟩;go_wp2_with fail
 refine(HI.is q9 ldo).mono ?_;clear HI c0 c1 c2 c3;rintro e X ⟨rfl,HI,-⟩;have hb:¬(50:Int)<(q:Int):=by have:=uh HQ;omega
 clear h50;obtain⟨c0,c1,c2,c3,-⟩:=HI.cells
 have HR:Hid (Calls Tryd.prog 21 #[.string x.s,.int .i64 q] X fun e W'=>e=.returned (.bool true)∧Below X.heap.size X W'):=hide (by
  have:=rres_any x.s (q:Int) mm X ((HI.g.cell hm0).trans hm) (Nat.lt_of_lt_of_le hm0 HI.g.size);rw[show(q:Int)=((kids.length:Nat):Int)+2 by have:=uh HQ;omega,hres] at this;rw[show(q:Int)=((kids.length:Nat):Int)+2 by have:=uh HQ;omega];exact this)
 clear hres;go_wp2_with fail
 refine(uh HR).mono ?_;rintro e X1 ⟨rfl,h⟩;replace HI:=HI.below h;clear h c0 c1 c2 c3 HR;obtain⟨c0,c1,c2,c3,-⟩:=HI.cells;obtain⟨⟨f0,f1,f2,f3⟩,p0,p1,p2,p3⟩:=HI.zero;obtain⟨lF,bF,hF⟩:=HI.fin x;have HF:=hide lF;have z0:=bF.c0;have z1:=bF.c1;have z2:=bF.c2;have z3:=bF.c3;clear lF bF hF;go_wp2_with fail
 exact bodyPost_ret (v:=.tuple #[x.val,.int .i64 0,.int .i64 7]) (by
  have e:(((X1.setCell ⟨zb,0,none⟩ (.int .i64 x.k)).setCell ⟨zb,1,none⟩ (.int .i64 x.N)).setCell ⟨zb,2,none⟩ (.string x.s)).setCell ⟨zb,3,none⟩ (.slice x.a x.len x.cap)=set4 X1 zb 0 x:=rfl;rw[e];simp[results,Tryd.results24,go_sem,TV.val,z0,z1,z2,z3]) rfl ⟨x,_,rfl,uh HF,Int.le_refl _,Int.le_refl _,fun e=>absurd e (by decide)⟩
set_option maxHeartbeats 8000000
set_option maxRecDepth 100000
theorem btw_cut{n D ns:Nat}{x xs xr:TV}{kids:List (Tm n)}{s r:List Nd}{f:Int}{W:World}(hT:IsT (n:=n+1) ns W ((x,kids):TV×List (Tm n)))(hns:ns≤W.heap.size)(hl:kids.length≤1099511627776)(hs:HoldsS D (· <ns) W xs.val s)(hr:HoldsS D (· <ns) W xr.val r)
  (k1:(x.k == 1)=false) (k2:(x.k == 2)=false) (q1:isB x [44] 2=false) (q2:isB x [45,62] 2=false) (q3:isB x [59] 2=false) (q4:isB x [92,43] 1=false) (q5:isB x [91,93] 0=false) (q6:isB x [123,125] 0=false) (q7:isB x [33] 0=true):
  Calls Tryd.prog 24 #[x.val,xs.val,xr.val,.int .i64 f] W fun e U=> ∃(y:TV) (m:Int),e=.returned (.tuple #[y.val,.int .i64 m,.int .i64 0])∧Below W.heap.size W U∧BtwP (D+n+3) ns 0 0 ((4,0,[44],2)::(code (n:=n+1) ((x,kids):TV×List (Tm n))++eqC s r)) W.heap.size y m U:=by
 obtain⟨W4,sb,rb,zb,hW4,h2,h3,h4,hS⟩:=btw_boxes W x xs xr;have H2:=hide (And.intro h2 (And.intro h3 h4));clear h2 h3 h4;simp only[TV.val];go_enter Tryd.func24,Tryd.ntmps24
 go_wp2_with fail
 try rw[hW4]
 rw[(uh H2).1,(uh H2).2.1,(uh H2).2.2];clear hW4 H2;refine wp_btw1 hT hns hl hS ?_;intro X vm u19 u20 u21 u22 u23 u24 u25 HI;clear hS;obtain⟨c0,c1,c2,c3,-⟩:=HI.cells;go_wp2_with fail
 refine(HI.is q1 l44).mono ?_;clear HI c0 c1 c2 c3;rintro e X ⟨rfl,HI,c0,c1,c2,c3⟩;go_wp2_with fail
 refine(HI.is q2 lar).mono ?_;clear HI c0 c1 c2 c3;rintro e X ⟨rfl,HI,c0,c1,c2,c3⟩;go_wp2_with fail
 refine(HI.is q3 lse).mono ?_;clear HI c0 c1 c2 c3;rintro e X ⟨rfl,HI,c0,c1,c2,c3⟩;go_wp2_with fail
 refine(HI.is q4 lno).mono ?_;clear HI c0 c1 c2 c3;rintro e X ⟨rfl,HI,c0,c1,c2,c3⟩;go_wp2_with fail
 refine(HI.is q5 lni).mono ?_;clear HI c0 c1 c2 c3;rintro e X ⟨rfl,HI,c0,c1,c2,c3⟩;go_wp2_with fail
 refine(HI.is q6 lcu).mono ?_;clear HI c0 c1 c2 c3;rintro e X ⟨rfl,HI,c0,c1,c2,c3⟩;go_wp2_with fail
 refine(HI.is q7 lbx).mono ?_;clear HI c0 c1 c2 c3;rintro e X ⟨rfl,HI,-⟩;obtain⟨c0,c1,c2,c3,d0,d1,d2,d3,e0,e1,e2,e3⟩:=HI.cells;have KEEP:=hide (HI.but);obtain⟨D1,hD1⟩:∃D1,X.drew=D1:=⟨_,rfl⟩;have l:Below X.heap.size X D1:=by rw[←hD1];exact(Below.refl _ X).drew
 have kD:=(uh KEEP) D1 (fun k hk _=>l.block k hk);replace HI:=HI.below l;go_wp2_with fail
 refine wp_region_noPanic ?_;refine wp_region_held_drew (S:=fun w'=>w'.cell? ⟨W.heap.size,0,none⟩=some (.int .i64 x.k)∧w'.cell? ⟨W.heap.size,1,none⟩=some (.int .i64 x.N)∧w'.cell? ⟨W.heap.size,2,none⟩=some (.string x.s)∧w'.cell? ⟨W.heap.size,3,none⟩=some (.slice x.a x.len x.cap)∧w'.cell? ⟨sb,0,none⟩=some (.int .i64 xs.k)∧w'.cell? ⟨sb,1,none⟩=some (.int .i64 xs.N)∧w'.cell? ⟨sb,2,none⟩=some (.string xs.s)∧w'.cell? ⟨sb,3,none⟩=some (.slice xs.a xs.len xs.cap)∧w'.cell? ⟨rb,0,none⟩=some (.int .i64 xr.k)∧w'.cell? ⟨rb,1,none⟩=some (.int .i64 xr.N)∧w'.cell? ⟨rb,2,none⟩=some (.string xr.s)∧w'.cell? ⟨rb,3,none⟩=some (.slice xr.a xr.len xr.cap)) (by kernel_rfl) ?_ (fun hHeld=>?_)
 ·(try rw[hD1]);exact kD
 rw[hD1] at hHeld⊢;clear hD1 kD;refine tk 0 rfl hHeld ?_;refine tk 1 rfl hHeld ?_;refine tk 2 rfl hHeld ?_;refine rd 3 rfl fun K hK=>?_;have hHold:=hHeld;clear hHeld;go_simp;obtain⟨Z1,hY⟩:∃Y,D1.alloc (.cells #[.int .i64 xs.k,.int .i64 xs.N,.string xs.s,.slice xs.a xs.len xs.cap,.int .i64 xr.k,.int .i64 xr.N,.string xr.s,.slice xr.a xr.len xr.cap] 24)=Y:=⟨_,rfl⟩;obtain⟨b2,hb⟩:∃b,D1.heap.size=b:=⟨_,rfl⟩;have g:Below D1.heap.size D1 Z1:=by rw[←hY];exact(Below.refl _ D1).alloc (Nat.le_refl _) _
 have nn:zb+1≤b2∧Z1.heap[b2]?=some (.cells #[.int .i64 xs.k,.int .i64 xs.N,.string xs.s,.slice xs.a xs.len xs.cap,.int .i64 xr.k,.int .i64 xr.N,.string xr.s,.slice xr.a xr.len xr.cap] 24 (0,0)):=⟨by have:=HI.o.2.2.2.2;omega,by rw[←hY,←hb];exact World.alloc_heap_new _ _⟩;replace l:Below X.heap.size X Z1:=l.trans (g.mono l.size);replace HI:=HI.below g;have nb2:=nn;try rw[hb]
 try rw[hY]
 clear g hY hb nn;refine hK.out _ _ ?_ (fun hHeld=>?_)
 ·((try dsimp only);exact(uh KEEP) _ (fun k hk _=>l.block k hk))
 clear hK K hHold;try simp only[pu]
 refine rd 4 rfl fun K hK=>?_;have hHold:=hHeld;clear hHeld;go_simp;refine(rcompound_any ⟨#[61]⟩ (some ⟨b2,0,none⟩) 2 2 Z1).mono ?_;rintro e Z2 ⟨rfl,g⟩;replace nb2:=keep_blk nb2 g;replace l:Below X.heap.size X Z2:=l.trans (g.mono l.size);replace HI:=HI.below g;clear g;simp only[TV.val,compV];go_wp2_with fail
 refine hK.out _ _ ?_ (fun hHeld=>?_)
 ·((try dsimp only);exact(uh KEEP) _ (fun k hk _=>l.block k hk))
 clear hK K hHold;try simp only[pu]
 refine rd 5 rfl fun K hK=>?_;have hHold:=hHeld;clear hHeld;go_simp;obtain⟨Z3,hY⟩:∃Y,Z2.alloc (.cells #[.int .i64 x.k,.int .i64 x.N,.string x.s,.slice x.a x.len x.cap,.int .i64 4,.int .i64 0,.string ⟨#[61]⟩,.slice (some ⟨b2,0,none⟩) 2 2] 24)=Y:=⟨_,rfl⟩;obtain⟨b3,hb⟩:∃b,Z2.heap.size=b:=⟨_,rfl⟩;have g:Below Z2.heap.size Z2 Z3:=by rw[←hY];exact(Below.refl _ Z2).alloc (Nat.le_refl _) _
 have nn:zb+1≤b3∧Z3.heap[b3]?=some (.cells #[.int .i64 x.k,.int .i64 x.N,.string x.s,.slice x.a x.len x.cap,.int .i64 4,.int .i64 0,.string ⟨#[61]⟩,.slice (some ⟨b2,0,none⟩) 2 2] 24 (0,0)):=⟨by have:=HI.o.2.2.2.2;omega,by rw[←hY,←hb];exact World.alloc_heap_new _ _⟩;replace nb2:=keep_blk nb2 g;replace l:Below X.heap.size X Z3:=l.trans (g.mono l.size);replace HI:=HI.below g;have nb3:=nn;try rw[hb]
 try rw[hY]
 clear g hY hb nn;refine hK.out _ _ ?_ (fun hHeld=>?_)
 ·((try dsimp only);exact(uh KEEP) _ (fun k hk _=>l.block k hk))
 clear hK K hHold;try simp only[pu]
 refine rd 6 rfl fun K hK=>?_;have hHold:=hHeld;clear hHeld;go_simp;refine(rcompound_any ⟨#[44]⟩ (some ⟨b3,0,none⟩) 2 2 Z3).mono ?_;rintro e Z4 ⟨rfl,g⟩;replace nb2:=keep_blk nb2 g;replace nb3:=keep_blk nb3 g;replace l:Below X.heap.size X Z4:=l.trans (g.mono l.size);replace HI:=HI.below g;clear g;simp only[TV.val,compV];go_wp2_with fail
 refine hK.out _ _ ?_ (fun hHeld=>?_)
 ·((try dsimp only);exact(uh KEEP) _ (fun k hk _=>l.block k hk))
 clear hK K hHold;try simp only[pu]
 have l2:=hide l;obtain⟨⟨f0,f1,f2,f3⟩,p0,p1,p2,p3⟩:=HI.zero;obtain⟨lF,bF,hF⟩:=HI.fin (compV ⟨#[44]⟩ (some ⟨b3,0,none⟩) 2 2);have hh:=conj_holds (D:=D+n+1) ((HI.term hT hns).mono (by omega) (fun _ h=>h)) ((HI.holds hs).mono (by omega) (fun _ h=>h)) ((HI.holds hr).mono (by omega) (fun _ h=>h)) nb2 nb3;have HF:=hide (And.intro lF (hF hns hh));have KF:=(uh KEEP) (set4 Z4 zb 0 (compV ⟨#[44]⟩ (some ⟨b3,0,none⟩) 2 2)) (fun k hk hne=>(set4_other Z4 zb 0 (compV ⟨#[44]⟩ (some ⟨b3,0,none⟩) 2 2) hne).trans (l.block k hk));have z0:=bF.c0;have z1:=bF.c1;have z2:=bF.c2;have z3:=bF.c3;clear lF bF hF l;refine rd 7 rfl fun K hK=>?_;have hHold:=hHeld;clear hHeld;go_simp;refine hK.out _ _ ?_ (fun hHeld=>?_)
 ·((try dsimp only);exact KF)
 clear hK K hHold;try simp only[pu]
 refine tk 8 rfl hHeld ?_;refine tk 9 rfl hHeld ?_;refine wpAnyH_done (by kernel_rfl) ?_ _;refine NoPanic.normal ?_;clear hHeld KF;go_wp2_with fail
 exact bodyPost_ret (v:=.tuple #[(compV ⟨#[44]⟩ (some ⟨b3,0,none⟩) 2 2).val,.int .i64 0,.int .i64 0]) (by
  have e:(((Z4.setCell ⟨zb,0,none⟩ (.int .i64 4)).setCell ⟨zb,1,none⟩ (.int .i64 0)).setCell ⟨zb,2,none⟩ (.string ⟨#[44]⟩)).setCell ⟨zb,3,none⟩ (.slice (some ⟨b3,0,none⟩) 2 2)=set4 Z4 zb 0 (compV ⟨#[44]⟩ (some ⟨b3,0,none⟩) 2 2):=rfl;rw[e];simp[results,Tryd.results24,go_sem,TV.val,z0,z1,z2,z3]) rfl ⟨(compV ⟨#[44]⟩ (some ⟨b3,0,none⟩) 2 2),_,rfl,(uh HF).1,Int.le_refl _,Int.le_refl _,fun _=>⟨rfl,(uh HF).2⟩⟩
end Go.Proofs.YtjbdkbaacjfecaaDoor
