import Derived.Test.YtjbdkbaacjfecaaDoorTks
import Derived.Test.YtjbdkbaacjfecaaDoorGsFs
namespace Go.Proofs.YtjbdkbaacjfecaaDoor
set_option maxHeartbeats 8000000
set_option maxRecDepth 100000
open Go.RowKit Go.Shelf Go.Maps
theorem btw_braces{n D ns:Nat}{x xs xr:TV}{kids:List (Tm n)}{s r:List Nd}{f:Int}{W:World}{u:Tm n}{Bk off:Nat}{cb:List Nd}(ha:x.a=some ⟨Bk,off,none⟩)(hx:x.len=1)(hB:Bk<ns)(hu:cellsAt W Bk off u.tv)(hTu:IsT ns W u)(oku:okT u=true)(hb:bodyC u=some cb)(hT:IsT (n:=n+1) ns W ((x,kids):TV×List (Tm n)))(hns:ns≤W.heap.size)(hl:kids.length≤1099511627776)(hs:HoldsS D (· <ns) W xs.val s)(hr:HoldsS D (· <ns) W xr.val r)
  (k1:(x.k == 1)=false) (k2:(x.k == 2)=false) (q1:isB x [44] 2=false) (q2:isB x [45,62] 2=false) (q3:isB x [59] 2=false) (q4:isB x [92,43] 1=false) (q5:isB x [91,93] 0=false) (q6:isB x [123,125] 0=false) (q7:isB x [33] 0=false) (q8:isB x [123,125] 1=true):
  Calls Tryd.prog 24 #[x.val,xs.val,xr.val,.int .i64 f] W fun e U=> ∃(y:TV) (m:Int),e=.returned (.tuple #[y.val,.int .i64 m,.int .i64 0])∧Below W.heap.size W U∧BtwP (D+n+3) ns 0 0 ((4,0,[44],2)::(cb++eqC s r)) W.heap.size y m U:=by
 have Ha:=hide ha;have Hx:=hide hx;have Hu:=hide hu;clear ha hx hu;obtain⟨W4,sb,rb,zb,hW4,h2,h3,h4,hS⟩:=btw_boxes W x xs xr;have H2:=hide (And.intro h2 (And.intro h3 h4));clear h2 h3 h4;simp only[TV.val];go_enter Tryd.func24,Tryd.ntmps24
 go_wp2_with fail
 try rw[hW4]
 rw[(uh H2).1,(uh H2).2.1,(uh H2).2.2];clear hW4 H2;refine wp_btw1 hT hns hl hS ?_;intro X vm u19 u20 u21 u22 u23 u24 u25 HI;clear hS;obtain⟨c0,c1,c2,c3,-⟩:=HI.cells;go_wp2_with fail
 refine(HI.is q1 l44).mono ?_;clear HI c0 c1 c2 c3;rintro e X ⟨rfl,HI,c0,c1,c2,c3⟩;go_wp2_with fail
 refine(HI.is q2 lar).mono ?_;clear HI c0 c1 c2 c3;rintro e X ⟨rfl,HI,c0,c1,c2,c3⟩;go_wp2_with fail
 refine(HI.is q3 lse).mono ?_;clear HI c0 c1 c2 c3;rintro e X ⟨rfl,HI,c0,c1,c2,c3⟩;go_wp2_with fail
 refine(HI.is q4 lno).mono ?_;clear HI c0 c1 c2 c3;rintro e X ⟨rfl,HI,c0,c1,c2,c3⟩;go_wp2_with fail
 refine(HI.is q5 lni).mono ?_;clear HI c0 c1 c2 c3;rintro e X ⟨rfl,HI,c0,c1,c2,c3⟩;go_wp2_with fail
 refine(HI.is q6 lcu).mono ?_;clear HI c0 c1 c2 c3;rintro e X ⟨rfl,HI,c0,c1,c2,c3⟩;go_wp2_with fail
 refine(HI.is q7 lbx).mono ?_;clear HI c0 c1 c2 c3;rintro e X ⟨rfl,HI,c0,c1,c2,c3⟩;go_wp2_with fail
 refine(HI.is q8 lcu).mono ?_;clear HI c0 c1 c2 c3;rintro e X ⟨rfl,HI,-⟩;obtain⟨c0,c1,c2,c3,-⟩:=HI.cells;rw[uh Ha,uh Hx] at c3;obtain⟨d0,d1,d2,d3⟩:=(uh Hu).kept (HI.g.block Bk (by omega));have hbd:=rbody_any u ns X (hTu.below (HI.g.mono hns)) (Nat.le_trans hns HI.g.size) oku;rw[hb] at hbd;simp only[TV.val,BSays,Option.isSome] at hbd;have HBD:=hide hbd;clear hbd;go_wp2_with fail
 refine(uh HBD).mono ?_;rintro e X1 ⟨⟨yb,rfl,hyb⟩,g⟩;have hxs:=HI.o.2.2.2.2;have HY:=hide hyb;clear hyb HBD c0 c1 c2 c3 d0 d1 d2 d3;obtain⟨Y,hY⟩:∃Y,X1.alloc (.cells #[.int .i64 0,.int .i64 0,.string ⟨#[]⟩,.slice none 0 0] 24)=Y:=⟨_,rfl⟩;obtain⟨ab,hab⟩:∃b,X1.heap.size=b:=⟨_,rfl⟩;have bY:BoxT Y ab noTerm:=by rw[←hY,←hab];exact BoxT.new X1 noTerm
 have gY:Below X1.heap.size X1 Y:=by rw[←hY];exact(Below.refl _ X1).alloc (Nat.le_refl _) _
 obtain⟨Z,hZ⟩:∃Z,set4 Y ab 0 yb=Z:=⟨_,rfl⟩;have gZ:Below X1.heap.size X1 Z:=by rw[←hZ];exact set4_below gY (by omega) 0 yb
 have bZ:BoxT Z ab yb:=by rw[←hZ];exact set4_box bY yb
 obtain⟨r0,r1,r2,r3⟩:=bY.frz;have v0:=bY.c0;have v1:=bY.c1;have v2:=bY.c2;have v3:=bY.c3;unfold set4 at hZ;simp only[Nat.zero_add] at hZ;have gs:=g.size;have hz:zb<ab:=by omega
 replace HI:=(HI.below g).below gZ;have HAB:=hide (And.intro bZ hz);have HY2:=hide (HoldsS.below (show HoldsS (n+1) (Mix ns X.heap.size) X1 yb.val cb from uh HY) gZ);clear bY gY gZ bZ g HY hz;skip;go_upto_region 19 with fail
 try rw[hab]
 try rw[hY]
 try rw[hZ]
 clear hY hZ r0 r1 r2 r3 v0 v1 v2 v3
 have KEEP:=hide (fun(U:World) (hU:∀k,k<Z.heap.size→k≠zb→U.heap[k]?=Z.heap[k]?)=>(by
  obtain⟨-,-,-,-,c4,c5,c6,c7,c8,c9,c10,c11⟩:=HI.but U hU;have e1:∀j,U.cell? ⟨ab,j,none⟩=Z.cell? ⟨ab,j,none⟩:=fun j=>World.cell?_of_block (hU ab (uh HAB).1.lt (by have:=(uh HAB).2;omega));exact⟨c4,c5,c6,c7,c8,c9,c10,c11,(e1 _).trans (uh HAB).1.c0,(e1 _).trans (uh HAB).1.c1,(e1 _).trans (uh HAB).1.c2,(e1 _).trans (uh HAB).1.c3⟩:U.cell? ⟨sb,0,none⟩=some (.int .i64 xs.k)∧U.cell? ⟨sb,1,none⟩=some (.int .i64 xs.N)∧U.cell? ⟨sb,2,none⟩=some (.string xs.s)∧U.cell? ⟨sb,3,none⟩=some (.slice xs.a xs.len xs.cap)∧U.cell? ⟨rb,0,none⟩=some (.int .i64 xr.k)∧U.cell? ⟨rb,1,none⟩=some (.int .i64 xr.N)∧U.cell? ⟨rb,2,none⟩=some (.string xr.s)∧U.cell? ⟨rb,3,none⟩=some (.slice xr.a xr.len xr.cap)∧U.cell? ⟨ab,0,none⟩=some (.int .i64 yb.k)∧U.cell? ⟨ab,1,none⟩=some (.int .i64 yb.N)∧U.cell? ⟨ab,2,none⟩=some (.string yb.s)∧U.cell? ⟨ab,3,none⟩=some (.slice yb.a yb.len yb.cap)))
 obtain⟨D1,hD1⟩:∃D1,Z.drew=D1:=⟨_,rfl⟩;have l:Below Z.heap.size Z D1:=by rw[←hD1];exact(Below.refl _ Z).drew
 have kD:=(uh KEEP) D1 (fun k hk _=>l.block k hk);replace HI:=HI.below l;go_wp2_with fail
 refine wp_region_noPanic ?_;refine wp_region_held_drew (S:=fun w'=>w'.cell? ⟨sb,0,none⟩=some (.int .i64 xs.k)∧w'.cell? ⟨sb,1,none⟩=some (.int .i64 xs.N)∧w'.cell? ⟨sb,2,none⟩=some (.string xs.s)∧w'.cell? ⟨sb,3,none⟩=some (.slice xs.a xs.len xs.cap)∧w'.cell? ⟨rb,0,none⟩=some (.int .i64 xr.k)∧w'.cell? ⟨rb,1,none⟩=some (.int .i64 xr.N)∧w'.cell? ⟨rb,2,none⟩=some (.string xr.s)∧w'.cell? ⟨rb,3,none⟩=some (.slice xr.a xr.len xr.cap)∧w'.cell? ⟨ab,0,none⟩=some (.int .i64 yb.k)∧w'.cell? ⟨ab,1,none⟩=some (.int .i64 yb.N)∧w'.cell? ⟨ab,2,none⟩=some (.string yb.s)∧w'.cell? ⟨ab,3,none⟩=some (.slice yb.a yb.len yb.cap)) (by kernel_rfl) ?_ (fun hHeld=>?_)
 ·(try rw[hD1]);exact kD
 rw[hD1] at hHeld⊢;clear hD1 kD;refine tk 0 rfl hHeld ?_;refine tk 1 rfl hHeld ?_;refine tk 2 rfl hHeld ?_;refine rd 3 rfl fun K hK=>?_;have hHold:=hHeld;clear hHeld;go_simp;obtain⟨Z1,hY⟩:∃Y,D1.alloc (.cells #[.int .i64 xs.k,.int .i64 xs.N,.string xs.s,.slice xs.a xs.len xs.cap,.int .i64 xr.k,.int .i64 xr.N,.string xr.s,.slice xr.a xr.len xr.cap] 24)=Y:=⟨_,rfl⟩;obtain⟨b2,hb⟩:∃b,D1.heap.size=b:=⟨_,rfl⟩;have g:Below D1.heap.size D1 Z1:=by rw[←hY];exact(Below.refl _ D1).alloc (Nat.le_refl _) _
 have nn:zb+1≤b2∧Z1.heap[b2]?=some (.cells #[.int .i64 xs.k,.int .i64 xs.N,.string xs.s,.slice xs.a xs.len xs.cap,.int .i64 xr.k,.int .i64 xr.N,.string xr.s,.slice xr.a xr.len xr.cap] 24 (0,0)):=⟨by have:=HI.o.2.2.2.2;omega,by rw[←hY,←hb];exact World.alloc_heap_new _ _⟩;replace l:Below Z.heap.size Z Z1:=l.trans (g.mono l.size);replace HI:=HI.below g;have nb2:=nn;try rw[hb]
 try rw[hY]
 clear g hY hb nn;refine hK.out _ _ ?_ (fun hHeld=>?_)
 ·((try dsimp only);exact(uh KEEP) _ (fun k hk _=>l.block k hk))
 clear hK K hHold;try simp only[pu]
 refine rd 4 rfl fun K hK=>?_;have hHold:=hHeld;clear hHeld;go_simp;refine(rcompound_any ⟨#[61]⟩ (some ⟨b2,0,none⟩) 2 2 Z1).mono ?_;rintro e Z2 ⟨rfl,g⟩;replace nb2:=keep_blk nb2 g;replace l:Below Z.heap.size Z Z2:=l.trans (g.mono l.size);replace HI:=HI.below g;clear g;simp only[TV.val,compV];go_wp2_with fail
 refine hK.out _ _ ?_ (fun hHeld=>?_)
 ·((try dsimp only);exact(uh KEEP) _ (fun k hk _=>l.block k hk))
 clear hK K hHold;try simp only[pu]
 refine rd 5 rfl fun K hK=>?_;have hHold:=hHeld;clear hHeld;go_simp;obtain⟨Z3,hY⟩:∃Y,Z2.alloc (.cells #[.int .i64 yb.k,.int .i64 yb.N,.string yb.s,.slice yb.a yb.len yb.cap,.int .i64 4,.int .i64 0,.string ⟨#[61]⟩,.slice (some ⟨b2,0,none⟩) 2 2] 24)=Y:=⟨_,rfl⟩;obtain⟨b3,hb⟩:∃b,Z2.heap.size=b:=⟨_,rfl⟩;have g:Below Z2.heap.size Z2 Z3:=by rw[←hY];exact(Below.refl _ Z2).alloc (Nat.le_refl _) _
 have nn:zb+1≤b3∧Z3.heap[b3]?=some (.cells #[.int .i64 yb.k,.int .i64 yb.N,.string yb.s,.slice yb.a yb.len yb.cap,.int .i64 4,.int .i64 0,.string ⟨#[61]⟩,.slice (some ⟨b2,0,none⟩) 2 2] 24 (0,0)):=⟨by have:=HI.o.2.2.2.2;omega,by rw[←hY,←hb];exact World.alloc_heap_new _ _⟩;replace nb2:=keep_blk nb2 g;replace l:Below Z.heap.size Z Z3:=l.trans (g.mono l.size);replace HI:=HI.below g;have nb3:=nn;try rw[hb]
 try rw[hY]
 clear g hY hb nn;refine hK.out _ _ ?_ (fun hHeld=>?_)
 ·((try dsimp only);exact(uh KEEP) _ (fun k hk _=>l.block k hk))
 clear hK K hHold;try simp only[pu]
 refine rd 6 rfl fun K hK=>?_;have hHold:=hHeld;clear hHeld;go_simp;refine(rcompound_any ⟨#[44]⟩ (some ⟨b3,0,none⟩) 2 2 Z3).mono ?_;rintro e Z4 ⟨rfl,g⟩;replace nb2:=keep_blk nb2 g;replace nb3:=keep_blk nb3 g;replace l:Below Z.heap.size Z Z4:=l.trans (g.mono l.size);replace HI:=HI.below g;clear g;simp only[TV.val,compV];go_wp2_with fail
 refine hK.out _ _ ?_ (fun hHeld=>?_)
 ·((try dsimp only);exact(uh KEEP) _ (fun k hk _=>l.block k hk))
 clear hK K hHold;try simp only[pu]
 have l2:=hide l;obtain⟨⟨f0,f1,f2,f3⟩,p0,p1,p2,p3⟩:=HI.zero;obtain⟨lF,bF,hF⟩:=HI.fin (compV ⟨#[44]⟩ (some ⟨b3,0,none⟩) 2 2);have hh:=conj_holds (D:=D+n+1) (((uh HY2).below l).mono (by omega) (fun k hk=>by have:=(uh HAB).2;unfold Mix at hk⊢;omega)) ((HI.holds hs).mono (by omega) (fun _ h=>h)) ((HI.holds hr).mono (by omega) (fun _ h=>h)) nb2 nb3;have HF:=hide (And.intro lF (hF hns hh));have KF:=(uh KEEP) (set4 Z4 zb 0 (compV ⟨#[44]⟩ (some ⟨b3,0,none⟩) 2 2)) (fun k hk hne=>(set4_other Z4 zb 0 (compV ⟨#[44]⟩ (some ⟨b3,0,none⟩) 2 2) hne).trans (l.block k hk));have z0:=bF.c0;have z1:=bF.c1;have z2:=bF.c2;have z3:=bF.c3;clear lF bF hF l;refine rd 7 rfl fun K hK=>?_;have hHold:=hHeld;clear hHeld;go_simp;refine hK.out _ _ ?_ (fun hHeld=>?_)
 ·((try dsimp only);exact KF)
 clear hK K hHold;try simp only[pu]
 refine tk 8 rfl hHeld ?_;refine tk 9 rfl hHeld ?_;refine wpAnyH_done (by kernel_rfl) ?_ _;refine NoPanic.normal ?_;clear hHeld KF;go_wp2_with fail
 exact bodyPost_ret (v:=.tuple #[(compV ⟨#[44]⟩ (some ⟨b3,0,none⟩) 2 2).val,.int .i64 0,.int .i64 0]) (by
  have e:(((Z4.setCell ⟨zb,0,none⟩ (.int .i64 4)).setCell ⟨zb,1,none⟩ (.int .i64 0)).setCell ⟨zb,2,none⟩ (.string ⟨#[44]⟩)).setCell ⟨zb,3,none⟩ (.slice (some ⟨b3,0,none⟩) 2 2)=set4 Z4 zb 0 (compV ⟨#[44]⟩ (some ⟨b3,0,none⟩) 2 2):=rfl;rw[e];simp[results,Tryd.results24,go_sem,TV.val,z0,z1,z2,z3]) rfl ⟨(compV ⟨#[44]⟩ (some ⟨b3,0,none⟩) 2 2),_,rfl,(uh HF).1,Int.le_refl _,Int.le_refl _,fun _=>⟨rfl,(uh HF).2⟩⟩
theorem btw_braces_no{n D ns:Nat}{x xs xr:TV}{kids:List (Tm n)}{s:List Nd}{f:Int}{W:World}{u:Tm n}{Bk off:Nat}(ha:x.a=some ⟨Bk,off,none⟩)(hx:x.len=1)(hB:Bk<ns)(hu:cellsAt W Bk off u.tv)(hTu:IsT ns W u)(oku:okT u=true)(hb:bodyC u=none)(hT:IsT (n:=n+1) ns W ((x,kids):TV×List (Tm n)))(hns:ns≤W.heap.size)(hl:kids.length≤1099511627776)
  (k1:(x.k == 1)=false) (k2:(x.k == 2)=false) (q1:isB x [44] 2=false) (q2:isB x [45,62] 2=false) (q3:isB x [59] 2=false) (q4:isB x [92,43] 1=false) (q5:isB x [91,93] 0=false) (q6:isB x [123,125] 0=false) (q7:isB x [33] 0=false) (q8:isB x [123,125] 1=true):
  Calls Tryd.prog 24 #[x.val,xs.val,xr.val,.int .i64 f] W fun e U=> ∃(y:TV) (m:Int),e=.returned (.tuple #[y.val,.int .i64 m,.int .i64 14])∧Below W.heap.size W U∧BtwP D ns 0 14 s W.heap.size y m U:=by
 have Ha:=hide ha;have Hx:=hide hx;have Hu:=hide hu;clear ha hx hu;obtain⟨W4,sb,rb,zb,hW4,h2,h3,h4,hS⟩:=btw_boxes W x xs xr;have H2:=hide (And.intro h2 (And.intro h3 h4));clear h2 h3 h4;simp only[TV.val];go_enter Tryd.func24,Tryd.ntmps24
 go_wp2_with fail
 try rw[hW4]
 rw[(uh H2).1,(uh H2).2.1,(uh H2).2.2];clear hW4 H2;refine wp_btw1 hT hns hl hS ?_;intro X vm u19 u20 u21 u22 u23 u24 u25 HI;clear hS;obtain⟨c0,c1,c2,c3,-⟩:=HI.cells;go_wp2_with fail
 refine(HI.is q1 l44).mono ?_;clear HI c0 c1 c2 c3;rintro e X ⟨rfl,HI,c0,c1,c2,c3⟩;go_wp2_with fail
 refine(HI.is q2 lar).mono ?_;clear HI c0 c1 c2 c3;rintro e X ⟨rfl,HI,c0,c1,c2,c3⟩;go_wp2_with fail
 refine(HI.is q3 lse).mono ?_;clear HI c0 c1 c2 c3;rintro e X ⟨rfl,HI,c0,c1,c2,c3⟩;go_wp2_with fail
 refine(HI.is q4 lno).mono ?_;clear HI c0 c1 c2 c3;rintro e X ⟨rfl,HI,c0,c1,c2,c3⟩;go_wp2_with fail
 refine(HI.is q5 lni).mono ?_;clear HI c0 c1 c2 c3;rintro e X ⟨rfl,HI,c0,c1,c2,c3⟩;go_wp2_with fail
 refine(HI.is q6 lcu).mono ?_;clear HI c0 c1 c2 c3;rintro e X ⟨rfl,HI,c0,c1,c2,c3⟩;go_wp2_with fail
 refine(HI.is q7 lbx).mono ?_;clear HI c0 c1 c2 c3;rintro e X ⟨rfl,HI,c0,c1,c2,c3⟩;go_wp2_with fail
 refine(HI.is q8 lcu).mono ?_;clear HI c0 c1 c2 c3;rintro e X ⟨rfl,HI,-⟩;obtain⟨c0,c1,c2,c3,-⟩:=HI.cells;rw[uh Ha,uh Hx] at c3;obtain⟨d0,d1,d2,d3⟩:=(uh Hu).kept (HI.g.block Bk (by omega));have hbd:=rbody_any u ns X (hTu.below (HI.g.mono hns)) (Nat.le_trans hns HI.g.size) oku;rw[hb] at hbd;simp only[TV.val,BSays,Option.isSome] at hbd;have HBD:=hide hbd;clear hbd;go_wp2_with fail
 refine(uh HBD).mono ?_;rintro e X1 ⟨⟨yb,rfl,hyb⟩,g⟩;have hxs:=HI.o.2.2.2.2;have HY:=hide hyb;clear hyb HBD c0 c1 c2 c3 d0 d1 d2 d3;obtain⟨Y,hY⟩:∃Y,X1.alloc (.cells #[.int .i64 0,.int .i64 0,.string ⟨#[]⟩,.slice none 0 0] 24)=Y:=⟨_,rfl⟩;obtain⟨ab,hab⟩:∃b,X1.heap.size=b:=⟨_,rfl⟩;have bY:BoxT Y ab noTerm:=by rw[←hY,←hab];exact BoxT.new X1 noTerm
 have gY:Below X1.heap.size X1 Y:=by rw[←hY];exact(Below.refl _ X1).alloc (Nat.le_refl _) _
 obtain⟨Z,hZ⟩:∃Z,set4 Y ab 0 yb=Z:=⟨_,rfl⟩;have gZ:Below X1.heap.size X1 Z:=by rw[←hZ];exact set4_below gY (by omega) 0 yb
 have bZ:BoxT Z ab yb:=by rw[←hZ];exact set4_box bY yb
 obtain⟨r0,r1,r2,r3⟩:=bY.frz;have v0:=bY.c0;have v1:=bY.c1;have v2:=bY.c2;have v3:=bY.c3;unfold set4 at hZ;simp only[Nat.zero_add] at hZ;have gs:=g.size;have hz:zb<ab:=by omega
 replace HI:=(HI.below g).below gZ;have HAB:=hide (And.intro bZ hz);have HY2:=hide (HoldsS.below (D:=1) (S:=anyK) (c:=[varNd f]) ((varV_holds f 0 X1).holdsS.mono (Nat.le_refl _) (fun _ _=>trivial)) gZ);clear bY gY gZ bZ g HY hz;skip;go_upto_region 19 with fail
 try rw[hab]
 try rw[hY]
 try rw[hZ]
 clear hY hZ r0 r1 r2 r3 v0 v1 v2 v3;clear HY2 HAB hab;obtain⟨c0,c1,c2,c3,-⟩:=HI.cells;obtain⟨⟨f0,f1,f2,f3⟩,p0,p1,p2,p3⟩:=HI.zero;obtain⟨lF,bF,hF⟩:=HI.fin x;have HF:=hide lF;have z0:=bF.c0;have z1:=bF.c1;have z2:=bF.c2;have z3:=bF.c3;clear lF bF hF;go_wp2_with fail
 exact bodyPost_ret (v:=.tuple #[x.val,.int .i64 0,.int .i64 14]) (by
  have e:(((Z.setCell ⟨zb,0,none⟩ (.int .i64 x.k)).setCell ⟨zb,1,none⟩ (.int .i64 x.N)).setCell ⟨zb,2,none⟩ (.string x.s)).setCell ⟨zb,3,none⟩ (.slice x.a x.len x.cap)=set4 Z zb 0 x:=rfl;rw[e];simp[results,Tryd.results24,go_sem,TV.val,z0,z1,z2,z3]) rfl ⟨x,_,rfl,uh HF,Int.le_refl _,Int.le_refl _,fun e=>absurd e (by decide)⟩
set_option maxHeartbeats 8000000
set_option maxRecDepth 100000
theorem StkT.list{B:Nat}{W:World}{v:Value}{S:List TV}(h:StkT B W v S):∃a g cap,v=.slice a S.length cap∧(S=[]∨a=some ⟨g,0,none⟩∧g<W.heap.size)∧S.length≤cap∧cap≤9223372036854775807∧∀j x,S[j]?=some x→cellsAt W g (0+j*4) x:=by
 rcases h.2.2 with⟨h0,h1⟩ | ⟨g,cap,cur,h0,h1,h2,h3,h4,_⟩
 ·have:S=[]:=by simpa using h1
  subst this;exact⟨none,0,0,h0,.inl rfl,Nat.le_refl _,by omega,fun j x hx=>by simp at hx⟩
 ·have e:v=.slice (some ⟨g,0,none⟩) S.length cap:=by rw[h0];simp
  refine⟨_,g,cap,e,.inr ⟨rfl,(Array.getElem?_eq_some_iff.1 h2).1⟩,by simpa using h3,by unfold maxLen at h4;omega,fun j x hx=>?_⟩;rw[Nat.zero_add];rw[e] at h;exact StkT.at h rfl hx
theorem ents_holds{ns:Nat}{W:World}(hns:ns≤W.heap.size):∀{n:Nat} (t:Tm n),IsT ns W t→∀(j:Nat) (e:TV×List Nd),(ents t)[j]?=some e→HoldsS n (· <ns) W e.1.val e.2:=by
 intro n
 induction n with
 | zero=>intro t;exact Empty.elim t
 | succ n ih=>
  intro t hT j e he;obtain⟨x,kids⟩:=t;rw[ents_succ] at he
  by_cases hx:isB x [46] 2=true
  ·rw[if_pos hx] at he
   obtain⟨a,b,rfl⟩:=two_kids hT.wl (by have:=isB_len hx;omega)
   rcases hT.2.2.2 with h4 | ⟨Bk,off,_,_,hcs⟩
   ·cases h4
   simp only at he;cases j with
   | zero=>
    simp at he;subst he;exact(holdsS_of ((hcs 0 a rfl).2.mono hns) (hcs 0 a rfl).2.blk).mono (by omega) (fun _ h=>h)
   | succ j=>exact(ih b (hcs 1 b rfl).2 j e (by simpa using he)).mono (by omega) (fun _ h=>h)
  ·rw[if_neg hx] at he
   simp at he
theorem btw_list_no{n D ns:Nat}{x xs xr:TV}{kids:List (Tm n)}{s:List Nd}{f:Int}{W:World}(ok:okT (n:=n+1) ((x,kids):TV×List (Tm n))=true){qs:ByteArray}(hq:qs.toList.isEmpty=false)(hw:whyS (n:=n+1) ((x,kids):TV×List (Tm n))=qs)(hT:IsT (n:=n+1) ns W ((x,kids):TV×List (Tm n)))(hns:ns≤W.heap.size)(hl:kids.length≤1099511627776)
  (k1:(x.k == 1)=false) (k2:(x.k == 2)=false) (q1:isB x [44] 2=false) (q2:isB x [45,62] 2=false) (q3:isB x [59] 2=false) (q4:isB x [92,43] 1=false) (q5:isB x [91,93] 0=false) (q6:isB x [123,125] 0=false) (q7:isB x [33] 0=false) (q8:isB x [123,125] 1=false) (q9:isB x [46] 2=true):
  Calls Tryd.prog 24 #[x.val,xs.val,xr.val,.int .i64 f] W fun e U=> ∃(y:TV) (m:Int),e=.returned (.tuple #[y.val,.int .i64 m,.int .i64 14])∧Below W.heap.size W U∧BtwP D ns 0 14 s W.heap.size y m U:=by
 obtain⟨W4,sb,rb,zb,hW4,h2,h3,h4,hS⟩:=btw_boxes W x xs xr;have H2:=hide (And.intro h2 (And.intro h3 h4));clear h2 h3 h4;simp only[TV.val];go_enter Tryd.func24,Tryd.ntmps24
 go_wp2_with fail
 try rw[hW4]
 rw[(uh H2).1,(uh H2).2.1,(uh H2).2.2];clear hW4 H2;refine wp_btw1 hT hns hl hS ?_;intro X vm u19 u20 u21 u22 u23 u24 u25 HI;clear hS;obtain⟨c0,c1,c2,c3,-⟩:=HI.cells;go_wp2_with fail
 refine(HI.is q1 l44).mono ?_;clear HI c0 c1 c2 c3;rintro e X ⟨rfl,HI,c0,c1,c2,c3⟩;go_wp2_with fail
 refine(HI.is q2 lar).mono ?_;clear HI c0 c1 c2 c3;rintro e X ⟨rfl,HI,c0,c1,c2,c3⟩;go_wp2_with fail
 refine(HI.is q3 lse).mono ?_;clear HI c0 c1 c2 c3;rintro e X ⟨rfl,HI,c0,c1,c2,c3⟩;go_wp2_with fail
 refine(HI.is q4 lno).mono ?_;clear HI c0 c1 c2 c3;rintro e X ⟨rfl,HI,c0,c1,c2,c3⟩;go_wp2_with fail
 refine(HI.is q5 lni).mono ?_;clear HI c0 c1 c2 c3;rintro e X ⟨rfl,HI,c0,c1,c2,c3⟩;go_wp2_with fail
 refine(HI.is q6 lcu).mono ?_;clear HI c0 c1 c2 c3;rintro e X ⟨rfl,HI,c0,c1,c2,c3⟩;go_wp2_with fail
 refine(HI.is q7 lbx).mono ?_;clear HI c0 c1 c2 c3;rintro e X ⟨rfl,HI,c0,c1,c2,c3⟩;go_wp2_with fail
 refine(HI.is q8 lcu).mono ?_;clear HI c0 c1 c2 c3;rintro e X ⟨rfl,HI,c0,c1,c2,c3⟩;go_wp2_with fail
 refine(HI.is q9 ldo).mono ?_;clear HI c0 c1 c2 c3;rintro e X ⟨rfl,HI,-⟩;obtain⟨c0,c1,c2,c3,-⟩:=HI.cells;have hen:=rents_any (n+1) ((x,kids):TV×List (Tm n)) X ((hT.below (HI.g.mono hns)).mono (Nat.le_trans hns HI.g.size)) ok;rw[hw] at hen;simp only[TV.val,Tm.tv] at hen;have HEN:=hide hen;clear hen;go_wp2_with fail
 refine(uh HEN).mono ?_;rintro e X1 ⟨v,rfl,hv,g⟩;replace HI:=HI.below g;clear g HEN c0 c1 c2 c3;clear hv hw;obtain⟨c0,c1,c2,c3,-⟩:=HI.cells;obtain⟨⟨f0,f1,f2,f3⟩,p0,p1,p2,p3⟩:=HI.zero;obtain⟨lF,bF,hF⟩:=HI.fin x;have HF:=hide lF;have z0:=bF.c0;have z1:=bF.c1;have z2:=bF.c2;have z3:=bF.c3;clear lF bF hF;go_wp2_with fail
 exact bodyPost_ret (v:=.tuple #[x.val,.int .i64 0,.int .i64 14]) (by
  have e:(((X1.setCell ⟨zb,0,none⟩ (.int .i64 x.k)).setCell ⟨zb,1,none⟩ (.int .i64 x.N)).setCell ⟨zb,2,none⟩ (.string x.s)).setCell ⟨zb,3,none⟩ (.slice x.a x.len x.cap)=set4 X1 zb 0 x:=rfl;rw[e];simp[results,Tryd.results24,go_sem,TV.val,z0,z1,z2,z3]) rfl ⟨x,_,rfl,uh HF,Int.le_refl _,Int.le_refl _,fun e=>absurd e (by decide)⟩
set_option maxHeartbeats 8000000
set_option maxRecDepth 100000
theorem btw_list{n D ns:Nat}{x xs xr:TV}{kids:List (Tm n)}{s r:List Nd}{f:Int}{W:World}(ok:okT (n:=n+1) ((x,kids):TV×List (Tm n))=true)(hlim:D+2*n+8≤2199023255552)(hw:whyS (n:=n+1) ((x,kids):TV×List (Tm n))=⟨#[]⟩)(hT:IsT (n:=n+1) ns W ((x,kids):TV×List (Tm n)))(hns:ns≤W.heap.size)(hl:kids.length≤1099511627776)(hs:HoldsS D (· <ns) W xs.val s)(hr:HoldsS D (· <ns) W xr.val r)
  (k1:(x.k == 1)=false) (k2:(x.k == 2)=false) (q1:isB x [44] 2=false) (q2:isB x [45,62] 2=false) (q3:isB x [59] 2=false) (q4:isB x [92,43] 1=false) (q5:isB x [91,93] 0=false) (q6:isB x [123,125] 0=false) (q7:isB x [33] 0=false) (q8:isB x [123,125] 1=false) (q9:isB x [46] 2=true):
  Calls Tryd.prog 24 #[x.val,xs.val,xr.val,.int .i64 f] W fun e U=> ∃(y:TV) (m:Int),e=.returned (.tuple #[y.val,.int .i64 m,.int .i64 0])∧Below W.heap.size W U∧BtwP (D+n+1+(ents (n:=n+1) ((x,kids):TV×List (Tm n))).length+1) ns 0 0 (eqC s (listC (ents (n:=n+1) ((x,kids):TV×List (Tm n))) r)) W.heap.size y m U:=by
 obtain⟨W4,sb,rb,zb,hW4,h2,h3,h4,hS⟩:=btw_boxes W x xs xr;have H2:=hide (And.intro h2 (And.intro h3 h4));clear h2 h3 h4;simp only[TV.val];go_enter Tryd.func24,Tryd.ntmps24
 go_wp2_with fail
 try rw[hW4]
 rw[(uh H2).1,(uh H2).2.1,(uh H2).2.2];clear hW4 H2;refine wp_btw1 hT hns hl hS ?_;intro X vm u19 u20 u21 u22 u23 u24 u25 HI;clear hS;obtain⟨c0,c1,c2,c3,-⟩:=HI.cells;go_wp2_with fail
 refine(HI.is q1 l44).mono ?_;clear HI c0 c1 c2 c3;rintro e X ⟨rfl,HI,c0,c1,c2,c3⟩;go_wp2_with fail
 refine(HI.is q2 lar).mono ?_;clear HI c0 c1 c2 c3;rintro e X ⟨rfl,HI,c0,c1,c2,c3⟩;go_wp2_with fail
 refine(HI.is q3 lse).mono ?_;clear HI c0 c1 c2 c3;rintro e X ⟨rfl,HI,c0,c1,c2,c3⟩;go_wp2_with fail
 refine(HI.is q4 lno).mono ?_;clear HI c0 c1 c2 c3;rintro e X ⟨rfl,HI,c0,c1,c2,c3⟩;go_wp2_with fail
 refine(HI.is q5 lni).mono ?_;clear HI c0 c1 c2 c3;rintro e X ⟨rfl,HI,c0,c1,c2,c3⟩;go_wp2_with fail
 refine(HI.is q6 lcu).mono ?_;clear HI c0 c1 c2 c3;rintro e X ⟨rfl,HI,c0,c1,c2,c3⟩;go_wp2_with fail
 refine(HI.is q7 lbx).mono ?_;clear HI c0 c1 c2 c3;rintro e X ⟨rfl,HI,c0,c1,c2,c3⟩;go_wp2_with fail
 refine(HI.is q8 lcu).mono ?_;clear HI c0 c1 c2 c3;rintro e X ⟨rfl,HI,c0,c1,c2,c3⟩;go_wp2_with fail
 refine(HI.is q9 ldo).mono ?_;clear HI c0 c1 c2 c3;rintro e X ⟨rfl,HI,-⟩;obtain⟨c0,c1,c2,c3,-⟩:=HI.cells;have hen:=rents_any (n+1) ((x,kids):TV×List (Tm n)) X ((hT.below (HI.g.mono hns)).mono (Nat.le_trans hns HI.g.size)) ok;rw[hw] at hen;simp only[TV.val,Tm.tv] at hen;have HEN:=hide hen;clear hen;go_wp2_with fail
 refine(uh HEN).mono ?_;rintro e X1 ⟨v,rfl,hv,g⟩;replace HI:=HI.below g;clear g HEN c0 c1 c2 c3;obtain⟨a,g,cap,rfl,hes,hcap,hcm,hce⟩:=StkT.list hv;rw[List.length_map] at hcap⊢;have hel:=ents_len (n:=n+1) ((x,kids):TV×List (Tm n));have hEH:=ents_holds hns (n:=n+1) ((x,kids):TV×List (Tm n)) hT;obtain⟨es,hse⟩:∃es,ents (n:=n+1) ((x,kids):TV×List (Tm n))=es:=⟨_,rfl⟩;rw[hse] at hes hcap hce hel hEH⊢;have HES:=hide (And.intro hes (And.intro hce hEH));have HSE:=hide hse;clear hes hce hEH hse hv hw
 have KEEP:=hide (fun(U:World) (hU:∀k,k<X1.heap.size→k≠zb→U.heap[k]?=X1.heap[k]?)=>(by
  obtain⟨-,-,-,-,c4,c5,c6,c7,c8,c9,c10,c11⟩:=HI.but U hU;exact⟨c4,c5,c6,c7,c8,c9,c10,c11⟩:U.cell? ⟨sb,0,none⟩=some (.int .i64 xs.k)∧U.cell? ⟨sb,1,none⟩=some (.int .i64 xs.N)∧U.cell? ⟨sb,2,none⟩=some (.string xs.s)∧U.cell? ⟨sb,3,none⟩=some (.slice xs.a xs.len xs.cap)∧U.cell? ⟨rb,0,none⟩=some (.int .i64 xr.k)∧U.cell? ⟨rb,1,none⟩=some (.int .i64 xr.N)∧U.cell? ⟨rb,2,none⟩=some (.string xr.s)∧U.cell? ⟨rb,3,none⟩=some (.slice xr.a xr.len xr.cap)))
 obtain⟨D1,hD1⟩:∃D1,X1.drew=D1:=⟨_,rfl⟩;have l:Below X1.heap.size X1 D1:=by rw[←hD1];exact(Below.refl _ X1).drew
 have kD:=(uh KEEP) D1 (fun k hk _=>l.block k hk);replace HI:=HI.below l
 have HL:=hide (rlist_any (D:=D+n+1) (ns:=ns) es a g 0 cap xr r D1 (Nat.le_trans hns HI.g.size) (by
  rcases(uh HES).1 with h | h
  ·exact .inl (by simpa using h)
  ·exact .inr ⟨h.1,Nat.lt_of_lt_of_le h.2 l.size⟩) (fun j e he=>⟨by
   have hlt:g<X1.heap.size:=by
    rcases(uh HES).1 with h | h
    ·have:es=[]:=by simpa using h
     subst this;simp at he
    ·exact h.2
   exact((uh HES).2.1 j e.1 (by rw[List.getElem?_map,he];rfl)).kept (l.block g hlt),(((uh HES).2.2 j e he).below HI.g).mono (by omega) (fun _ h=>h)⟩) ((hr.below HI.g).mono (by omega) (fun _ h=>h)) (by omega) hcap hcm)
 simp only[TV.val] at HL;go_wp2_with fail
 refine wp_region_noPanic ?_;refine wp_region_held_drew (S:=fun w'=>w'.cell? ⟨sb,0,none⟩=some (.int .i64 xs.k)∧w'.cell? ⟨sb,1,none⟩=some (.int .i64 xs.N)∧w'.cell? ⟨sb,2,none⟩=some (.string xs.s)∧w'.cell? ⟨sb,3,none⟩=some (.slice xs.a xs.len xs.cap)∧w'.cell? ⟨rb,0,none⟩=some (.int .i64 xr.k)∧w'.cell? ⟨rb,1,none⟩=some (.int .i64 xr.N)∧w'.cell? ⟨rb,2,none⟩=some (.string xr.s)∧w'.cell? ⟨rb,3,none⟩=some (.slice xr.a xr.len xr.cap)) (by kernel_rfl) ?_ (fun hHeld=>?_)
 ·(try rw[hD1]);exact kD
 rw[hD1] at hHeld⊢;clear hD1 kD;refine tk 0 rfl hHeld ?_;refine tk 1 rfl hHeld ?_;refine tk 2 rfl hHeld ?_;refine rd 3 rfl fun K hK=>?_;have hHold:=hHeld;clear hHeld;go_simp;refine(uh HL).mono ?_;rintro e Z0 ⟨yl,rfl,hyl,g⟩;have hz:=HI.o.2.2.2.2;have HYL:=hide (hyl.mono (S':=Mix ns (zb+1)) (Nat.le_refl _) (fun k hk=>by unfold Mix at hk⊢;omega));clear hyl HL;replace l:Below X1.heap.size X1 Z0:=l.trans (g.mono l.size);replace HI:=HI.below g;clear g;go_wp2_with fail
 refine hK.out _ _ ?_ (fun hHeld=>?_)
 ·((try dsimp only);exact(uh KEEP) _ (fun k hk _=>l.block k hk))
 clear hK K hHold;try simp only[pu]
 have lz:=Below.refl Z0.heap.size Z0;refine rd 4 rfl fun K hK=>?_;have hHold:=hHeld;clear hHeld;go_simp;obtain⟨Z1,hY⟩:∃Y,Z0.alloc (.cells #[.int .i64 xs.k,.int .i64 xs.N,.string xs.s,.slice xs.a xs.len xs.cap,.int .i64 yl.k,.int .i64 yl.N,.string yl.s,.slice yl.a yl.len yl.cap] 24)=Y:=⟨_,rfl⟩;obtain⟨b2,hb⟩:∃b,Z0.heap.size=b:=⟨_,rfl⟩;have g:Below Z0.heap.size Z0 Z1:=by rw[←hY];exact(Below.refl _ Z0).alloc (Nat.le_refl _) _
 have nn:zb+1≤b2∧Z1.heap[b2]?=some (.cells #[.int .i64 xs.k,.int .i64 xs.N,.string xs.s,.slice xs.a xs.len xs.cap,.int .i64 yl.k,.int .i64 yl.N,.string yl.s,.slice yl.a yl.len yl.cap] 24 (0,0)):=⟨by have:=HI.o.2.2.2.2;omega,by rw[←hY,←hb];exact World.alloc_heap_new _ _⟩;replace l:Below X1.heap.size X1 Z1:=l.trans (g.mono l.size);replace HI:=HI.below g;replace lz:Below Z0.heap.size Z0 Z1:=lz.trans (g.mono lz.size);have nb2:=nn;try rw[hb]
 try rw[hY]
 clear g hY hb nn;refine hK.out _ _ ?_ (fun hHeld=>?_)
 ·((try dsimp only);exact(uh KEEP) _ (fun k hk _=>l.block k hk))
 clear hK K hHold;try simp only[pu]
 refine rd 5 rfl fun K hK=>?_;have hHold:=hHeld;clear hHeld;go_simp;refine(rcompound_any ⟨#[61]⟩ (some ⟨b2,0,none⟩) 2 2 Z1).mono ?_;rintro e Z2 ⟨rfl,g⟩;replace nb2:=keep_blk nb2 g;replace l:Below X1.heap.size X1 Z2:=l.trans (g.mono l.size);replace HI:=HI.below g;replace lz:Below Z0.heap.size Z0 Z2:=lz.trans (g.mono lz.size);clear g;simp only[TV.val,compV];go_wp2_with fail
 refine hK.out _ _ ?_ (fun hHeld=>?_)
 ·((try dsimp only);exact(uh KEEP) _ (fun k hk _=>l.block k hk))
 clear hK K hHold;try simp only[pu]
 have l2:=hide l;obtain⟨⟨f0,f1,f2,f3⟩,p0,p1,p2,p3⟩:=HI.zero;obtain⟨lF,bF,hF⟩:=HI.fin (compV ⟨#[61]⟩ (some ⟨b2,0,none⟩) 2 2);have hh:=eq_holds ((HI.holds hs).mono (D':=D+n+1+es.length) (by omega) (fun _ h=>h)) ((uh HYL).below lz) nb2;have HF:Hid (Below W.heap.size W (set4 Z2 zb 0 (compV ⟨#[61]⟩ (some ⟨b2,0,none⟩) 2 2))∧BtwP (D+n+1+(ents (n:=n+1) ((x,kids):TV×List (Tm n))).length+1) ns 0 0 (eqC s (listC (ents (n:=n+1) ((x,kids):TV×List (Tm n))) r)) W.heap.size (compV ⟨#[61]⟩ (some ⟨b2,0,none⟩) 2 2) 0 (set4 Z2 zb 0 (compV ⟨#[61]⟩ (some ⟨b2,0,none⟩) 2 2))):=hide ⟨lF,Int.le_refl _,Int.le_refl _,fun _=>⟨rfl,hF hns (by rw[uh HSE];exact hh)⟩⟩;have KF:=(uh KEEP) (set4 Z2 zb 0 (compV ⟨#[61]⟩ (some ⟨b2,0,none⟩) 2 2)) (fun k hk hne=>(set4_other Z2 zb 0 (compV ⟨#[61]⟩ (some ⟨b2,0,none⟩) 2 2) hne).trans (l.block k hk));have z0:=bF.c0;have z1:=bF.c1;have z2:=bF.c2;have z3:=bF.c3;clear lF bF hF l;refine rd 6 rfl fun K hK=>?_;have hHold:=hHeld;clear hHeld;go_simp;refine hK.out _ _ ?_ (fun hHeld=>?_)
 ·((try dsimp only);exact KF)
 clear hK K hHold;try simp only[pu]
 refine tk 7 rfl hHeld ?_;refine tk 8 rfl hHeld ?_;refine wpAnyH_done (by kernel_rfl) ?_ _;refine NoPanic.normal ?_;clear hHeld KF;go_wp2_with fail
 exact bodyPost_ret (v:=.tuple #[(compV ⟨#[61]⟩ (some ⟨b2,0,none⟩) 2 2).val,.int .i64 0,.int .i64 0]) (by
  have e:(((Z2.setCell ⟨zb,0,none⟩ (.int .i64 4)).setCell ⟨zb,1,none⟩ (.int .i64 0)).setCell ⟨zb,2,none⟩ (.string ⟨#[61]⟩)).setCell ⟨zb,3,none⟩ (.slice (some ⟨b2,0,none⟩) 2 2)=set4 Z2 zb 0 (compV ⟨#[61]⟩ (some ⟨b2,0,none⟩) 2 2):=rfl;rw[e];simp[results,Tryd.results24,go_sem,TV.val,z0,z1,z2,z3]) rfl ⟨(compV ⟨#[61]⟩ (some ⟨b2,0,none⟩) 2 2),_,rfl,(uh HF).1,(uh HF).2⟩
end Go.Proofs.YtjbdkbaacjfecaaDoor
