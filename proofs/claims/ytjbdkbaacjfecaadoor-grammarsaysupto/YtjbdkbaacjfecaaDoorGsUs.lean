import Derived.Test.YtjbdkbaacjfecaaDoorGsT
namespace Go.Proofs.YtjbdkbaacjfecaaDoor
set_option maxHeartbeats 8000000
set_option maxRecDepth 100000
open Go.RowKit Go.Shelf Go.Maps
theorem lru:(⟨#[45,45,62]⟩:ByteArray).toList=ruleL:=by decide +kernel
/-- Within Translate: the boxes of the rule, of the answer, of the head. -/
structure TrI (W:World) (tb zb hb:Nat) (x h:TV) (V:World):Prop where
 g:Below W.heap.size W V
 o:W.heap.size≤tb∧tb<zb∧zb<hb∧hb<V.heap.size
 bt:BoxT V tb x
 bz:BoxT V zb noTerm
 bh:BoxT V hb h
section
variable {W V V':World} {tb zb hb:Nat} {x h:TV}
theorem TrI.below(i:TrI W tb zb hb x h V)(hb':Below V.heap.size V V'):TrI W tb zb hb x h V':=
 have s:=i.o
 ⟨i.g.trans (hb'.mono i.g.size),by have:=hb'.size;omega,i.bt.below hb' (by omega),i.bz.below hb' (by omega),i.bh.below hb' (by omega)⟩
theorem TrI.belowN(i:TrI W tb zb hb x h V)(hb':Below (hb+1) V V'):TrI W tb zb hb x h V':=
 have s:=i.o
 ⟨i.g.trans (hb'.mono (by omega)),by have:=hb'.size;omega,i.bt.below hb' (by omega),i.bz.below hb' (by omega),i.bh.below hb' (by omega)⟩
theorem TrI.cells(i:TrI W tb zb hb x h V):V.cell? ⟨tb,0,none⟩=some (.int .i64 x.k)∧V.cell? ⟨tb,1,none⟩=some (.int .i64 x.N)∧V.cell? ⟨tb,2,none⟩=some (.string x.s)∧V.cell? ⟨tb,3,none⟩=some (.slice x.a x.len x.cap)∧V.cell? ⟨hb,0,none⟩=some (.int .i64 h.k)∧V.cell? ⟨hb,1,none⟩=some (.int .i64 h.N)∧V.cell? ⟨hb,2,none⟩=some (.string h.s)∧V.cell? ⟨hb,3,none⟩=some (.slice h.a h.len h.cap):=⟨i.bt.c0,i.bt.c1,i.bt.c2,i.bt.c3,i.bh.c0,i.bh.c1,i.bh.c2,i.bh.c3⟩
theorem TrI.zero(i:TrI W tb zb hb x h V):(V.frozen? ⟨zb,0,none⟩=false∧V.frozen? ⟨zb,1,none⟩=false∧V.frozen? ⟨zb,2,none⟩=false∧V.frozen? ⟨zb,3,none⟩=false)∧V.cell? ⟨zb,0,none⟩=some (.int .i64 0)∧V.cell? ⟨zb,1,none⟩=some (.int .i64 0)∧V.cell? ⟨zb,2,none⟩=some (.string ⟨#[]⟩)∧V.cell? ⟨zb,3,none⟩=some (.slice none 0 0):=
 ⟨i.bz.frz,i.bz.c0,i.bz.c1,i.bz.c2,i.bz.c3⟩
theorem TrI.fin(i:TrI W tb zb hb x h V)(y:TV):Below W.heap.size W (set4 V zb 0 y)∧BoxT (set4 V zb 0 y) zb y:=⟨set4_below i.g (by have:=i.o;omega) 0 y,set4_box i.bz y⟩
theorem TrI.head(i:TrI W tb zb hb x h V)(y:TV):TrI W tb zb hb x y (set4 V hb 0 y):=
 have s:=i.o
 ⟨set4_below i.g (by omega) 0 y,by rw[set4_size];exact s,(set4_other V hb 0 y (by omega)).trans i.bt,(set4_other V hb 0 y (by omega)).trans i.bz,set4_box i.bh y⟩
end
theorem StkT.two{B:Nat}{V:World}{vm:Value}{L:List TV}{y z:TV}(h:StkT B V vm (L++[y,z])):∃g cap q,vm=.slice (some ⟨g,0,none⟩) q cap∧L.length+2=q∧B≤g∧g<V.heap.size∧q≤cap∧cap≤maxLen:=by
 have h':=h;unfold StkT at h';rw[show(L++[y,z]).map trow=(L.map trow++[trow y])++[trow z] by simp] at h';obtain⟨g,cap,cur,h1,h2,h3,h4,h5,_⟩:=StkW.slice h';refine⟨g,cap,_,h1,by simp,h2,h3,h4,h5⟩
theorem code_kids{n:Nat}(h:Tm (n+1)):code h=h.tv.nd::h.kids.flatMap code:=by
 obtain⟨x,k⟩:=h;exact code_succ x k
theorem tr_args{n:Nat}{x:TV}{h b:Tm n}{W:World}(hT:IsT (n:=n+1) W.heap.size W ((x,[h,b]):TV×List (Tm n))):∃Bk off,x.a=some ⟨Bk,off,none⟩∧Bk<W.heap.size∧cellsAt W Bk off h.tv∧cellsAt W Bk (off+4) b.tv∧IsT W.heap.size W h∧IsT W.heap.size W b:=by
 rcases hT.2.2.2 with h4 | ⟨Bk,off,h1,h2,hcs⟩
 ·cases h4
 have ha:=hcs 0 h rfl;have hb:=hcs 1 b rfl;rw[Nat.zero_mul,Nat.add_zero] at ha;exact⟨Bk,off,h1,h2,ha.1,by simpa using hb.1,ha.2,hb.2⟩
theorem rtr_not(x:TV)(W:World)(hx:isB x ruleL 2=false):Calls Tryd.prog 8 #[x.val] W fun e V'=>e=.returned (.tuple #[noTerm.val,.int .i64 1])∧Below W.heap.size W V':=by
 have hr:=ris_any x ⟨#[45,45,62]⟩ 2;rw[lru,hx] at hr;obtain⟨W2,hW2,g2,hs2,b0,b1⟩:=box_zero W x;have b1':BoxT W2 (W.heap.size+1) noTerm:=b1;have HIS:=hide (hr W2);have c0:=b0.c0;have c1:=b0.c1;have c2:=b0.c2;have c3:=b0.c3;have HB:=hide (And.intro g2 b1');clear hr b0 b1 b1' g2;simp only[TV.val] at HIS⊢;go_enter Tryd.func8,Tryd.ntmps8
 go_wp2_with fail
 try rw[hW2]
 go_wp2_with fail
 refine(uh HIS).mono ?_;rintro e X ⟨rfl,g⟩;clear c0 c1 c2 c3 HIS hW2;have b1:=BoxT.below (x:=noTerm) (uh HB).2 g (uh HB).2.lt;have gX:=(uh HB).1.trans (g.mono (uh HB).1.size);obtain⟨f0,f1,f2,f3⟩:=b1.frz;have p0:=b1.c0;have p1:=b1.c1;have p2:=b1.c2;have p3:=b1.c3;have bF:=set4_box b1 noTerm;have z0:=bF.c0;have z1:=bF.c1;have z2:=bF.c2;have z3:=bF.c3;have HF:=hide (set4_below gX (show W.heap.size≤W.heap.size+1 by omega) 0 noTerm);clear bF b1 gX g HB;go_wp2_with fail
 exact bodyPost_ret (v:=.tuple #[noTerm.val,.int .i64 1]) (by
  have e:(((X.setCell ⟨W.heap.size+1,0,none⟩ (.int .i64 0)).setCell ⟨W.heap.size+1,1,none⟩ (.int .i64 0)).setCell ⟨W.heap.size+1,2,none⟩ (.string ⟨#[]⟩)).setCell ⟨W.heap.size+1,3,none⟩ (.slice none 0 0)=set4 X (W.heap.size+1) 0 noTerm:=rfl;rw[e];simp[results,Tryd.results8,go_sem,TV.val,z0,z1,z2,z3]) rfl ⟨rfl,uh HF⟩
theorem rtr_kind{n:Nat}(x:TV)(h b:Tm (n+1))(W:World)(hT:IsT (n:=n+2) W.heap.size W ((x,[h,b]):TV×List (Tm (n+1))))(hx:isB x ruleL 2=true)(k3:(h.tv.k != 3)=true)(k4:(h.tv.k != 4)=true):
  Calls Tryd.prog 8 #[x.val] W fun e V'=>e=.returned (.tuple #[noTerm.val,.int .i64 7])∧Below W.heap.size W V':=by
 obtain⟨Bk,off,ha,hB,hch,hcb,hTh,hTb⟩:=tr_args hT;have hl2:x.len=2:=by have:=isB_len hx;omega
 have hr:=ris_any x ⟨#[45,45,62]⟩ 2;rw[lru,hx] at hr;obtain⟨W2,hW2,g2,hs2,b0,b1⟩:=box_zero W x;have b1':BoxT W2 (W.heap.size+1) noTerm:=b1;have HIS:=hide (hr W2);have c0:=b0.c0;have c1:=b0.c1;have c2:=b0.c2;have c3:=b0.c3;have HB:=hide (And.intro g2 (And.intro b0 b1'));have Ha:=hide ha;have Hx:=hide hl2;obtain⟨zb,hzb⟩:∃z,W.heap.size+1=z:=⟨_,rfl⟩;have HZ:=hide hzb;clear hr b0 b1 b1' g2 ha hl2 hzb;simp only[TV.val] at HIS⊢;go_enter Tryd.func8,Tryd.ntmps8
 go_wp2_with fail
 try rw[hW2]
 go_wp2_with fail
 refine(uh HIS).mono ?_;rintro e X ⟨rfl,g⟩;clear c0 c1 c2 c3 HIS hW2;rw[uh HZ];have b0:=(uh HB).2.1.below g (uh HB).2.1.lt;have b1:=BoxT.below (x:=noTerm) (uh HB).2.2 g (uh HB).2.2.lt;rw[uh HZ] at b1;have gX:=(uh HB).1.trans (g.mono (uh HB).1.size);have hz1:W.heap.size<zb:=by have:=uh HZ;omega
 have hz2:=b1.lt;clear HB g;have c3:=b0.c3;rw[uh Ha,uh Hx] at c3;obtain⟨d0,d1,d2,d3⟩:=hch.kept (gX.block Bk hB);obtain⟨Y,hY⟩:∃Y,X.alloc (.cells #[.int .i64 0,.int .i64 0,.string ⟨#[]⟩,.slice none 0 0] 24)=Y:=⟨_,rfl⟩;obtain⟨hb,hhb⟩:∃k,X.heap.size=k:=⟨_,rfl⟩;have bY:BoxT Y hb noTerm:=by rw[←hY,←hhb];exact BoxT.new X noTerm
 have gY:Below X.heap.size X Y:=by rw[←hY];exact(Below.refl _ X).alloc (Nat.le_refl _) _
 obtain⟨Z,hZ⟩:∃Z,set4 Y hb 0 h.tv=Z:=⟨_,rfl⟩;have gZ:Below X.heap.size X Z:=by rw[←hZ];exact set4_below gY (by omega) 0 h.tv
 have bZ:BoxT Z hb h.tv:=by rw[←hZ];exact set4_box bY h.tv
 obtain⟨r0,r1,r2,r3⟩:=bY.frz;have v0:=bY.c0;have v1:=bY.c1;have v2:=bY.c2;have v3:=bY.c3;unfold set4 at hZ;simp only[Nat.zero_add] at hZ;have HI:Hid (TrI W W.heap.size zb hb x h.tv Z):=hide ⟨gX.trans (gZ.mono gX.size),⟨Nat.le_refl _,hz1,by omega,bZ.lt⟩,b0.below gZ b0.lt,BoxT.below (x:=noTerm) b1 gZ b1.lt,bZ⟩;clear b0 b1 gX bY gY gZ bZ;go_upto_region 4 with fail
 try rw[hhb]
 try rw[hY]
 try rw[hZ]
 clear hhb hY hZ r0 r1 r2 r3 v0 v1 v2 v3 c3 d0 d1 d2 d3 hz1 hz2;obtain⟨c0,c1,c2,c3,d0,d1,d2,d3⟩:=(uh HI).cells;obtain⟨⟨f0,f1,f2,f3⟩,p0,p1,p2,p3⟩:=(uh HI).zero;obtain⟨lF,bF⟩:=(uh HI).fin noTerm;have z0:=bF.c0;have z1:=bF.c1;have z2:=bF.c2;have z3:=bF.c3;have HF:=hide lF;clear lF bF;go_wp2_with fail
 exact bodyPost_ret (v:=.tuple #[noTerm.val,.int .i64 7]) (by
  have e:(((Z.setCell ⟨zb,0,none⟩ (.int .i64 0)).setCell ⟨zb,1,none⟩ (.int .i64 0)).setCell ⟨zb,2,none⟩ (.string ⟨#[]⟩)).setCell ⟨zb,3,none⟩ (.slice none 0 0)=set4 Z zb 0 noTerm:=rfl;rw[e];simp[results,Tryd.results8,go_sem,TV.val,z0,z1,z2,z3]) rfl ⟨rfl,uh HF⟩
theorem rtr_large{n:Nat}(x:TV)(h b:Tm (n+1))(W:World)(hT:IsT (n:=n+2) W.heap.size W ((x,[h,b]):TV×List (Tm (n+1))))(hx:isB x ruleL 2=true)(hk0:h.tv.k=3∨h.tv.k=4)(hl50:h.tv.len≤50)(hl:(50:Int)<(h.tv.len:Int)+2):
  Calls Tryd.prog 8 #[x.val] W fun e V'=>e=.returned (.tuple #[noTerm.val,.int .i64 9])∧Below W.heap.size W V':=by
 have HK:=hide hk0;clear hk0;obtain⟨Bk,off,ha,hB,hch,hcb,hTh,hTb⟩:=tr_args hT;have hl2:x.len=2:=by have:=isB_len hx;omega
 have hr:=ris_any x ⟨#[45,45,62]⟩ 2;rw[lru,hx] at hr;obtain⟨W2,hW2,g2,hs2,b0,b1⟩:=box_zero W x;have b1':BoxT W2 (W.heap.size+1) noTerm:=b1;have HIS:=hide (hr W2);have c0:=b0.c0;have c1:=b0.c1;have c2:=b0.c2;have c3:=b0.c3;have HB:=hide (And.intro g2 (And.intro b0 b1'));have Ha:=hide ha;have Hx:=hide hl2;obtain⟨zb,hzb⟩:∃z,W.heap.size+1=z:=⟨_,rfl⟩;have HZ:=hide hzb;clear hr b0 b1 b1' g2 ha hl2 hzb;simp only[TV.val] at HIS⊢;go_enter Tryd.func8,Tryd.ntmps8
 go_wp2_with fail
 try rw[hW2]
 go_wp2_with fail
 refine(uh HIS).mono ?_;rintro e X ⟨rfl,g⟩;clear c0 c1 c2 c3 HIS hW2;rw[uh HZ];have b0:=(uh HB).2.1.below g (uh HB).2.1.lt;have b1:=BoxT.below (x:=noTerm) (uh HB).2.2 g (uh HB).2.2.lt;rw[uh HZ] at b1;have gX:=(uh HB).1.trans (g.mono (uh HB).1.size);have hz1:W.heap.size<zb:=by have:=uh HZ;omega
 have hz2:=b1.lt;clear HB g;have c3:=b0.c3;rw[uh Ha,uh Hx] at c3;obtain⟨d0,d1,d2,d3⟩:=hch.kept (gX.block Bk hB);obtain⟨Y,hY⟩:∃Y,X.alloc (.cells #[.int .i64 0,.int .i64 0,.string ⟨#[]⟩,.slice none 0 0] 24)=Y:=⟨_,rfl⟩;obtain⟨hb,hhb⟩:∃k,X.heap.size=k:=⟨_,rfl⟩;have bY:BoxT Y hb noTerm:=by rw[←hY,←hhb];exact BoxT.new X noTerm
 have gY:Below X.heap.size X Y:=by rw[←hY];exact(Below.refl _ X).alloc (Nat.le_refl _) _
 obtain⟨Z,hZ⟩:∃Z,set4 Y hb 0 h.tv=Z:=⟨_,rfl⟩;have gZ:Below X.heap.size X Z:=by rw[←hZ];exact set4_below gY (by omega) 0 h.tv
 have bZ:BoxT Z hb h.tv:=by rw[←hZ];exact set4_box bY h.tv
 obtain⟨r0,r1,r2,r3⟩:=bY.frz;have v0:=bY.c0;have v1:=bY.c1;have v2:=bY.c2;have v3:=bY.c3;unfold set4 at hZ;simp only[Nat.zero_add] at hZ;have HI:Hid (TrI W W.heap.size zb hb x h.tv Z):=hide ⟨gX.trans (gZ.mono gX.size),⟨Nat.le_refl _,hz1,by omega,bZ.lt⟩,b0.below gZ b0.lt,BoxT.below (x:=noTerm) b1 gZ b1.lt,bZ⟩;clear b0 b1 gX bY gY gZ bZ;go_upto_region 4 with fail
 try rw[hhb]
 try rw[hY]
 try rw[hZ]
 clear hhb hY hZ r0 r1 r2 r3 v0 v1 v2 v3 c3 d0 d1 d2 d3 hz1 hz2
 go_cut [24] from 17 (fun s wc=>s=.bool false∧Z=wc)
 case first=>
  obtain⟨c0,c1,c2,c3,d0,d1,d2,d3⟩:=(uh HI).cells
  rcases uh HK with hk | hk
  ·have k3:(h.tv.k != 3)=false:=by simp[hk]
   clear hk;go_wp2_with fail
   all_goals go_meet
   all_goals exact⟨rfl,rfl⟩
  ·have k3:(h.tv.k != 3)=true:=by simp[hk]
   have k4:(h.tv.k != 4)=false:=by simp[hk]
   clear hk;go_wp2_with fail
   all_goals go_meet
   all_goals exact⟨rfl,rfl⟩
 case rest=>
  obtain⟨rfl,rfl⟩:=hcut;obtain⟨c0,c1,c2,c3,d0,d1,d2,d3⟩:=(uh HI).cells;obtain⟨⟨f0,f1,f2,f3⟩,p0,p1,p2,p3⟩:=(uh HI).zero;obtain⟨lF,bF⟩:=(uh HI).fin noTerm;have z0:=bF.c0;have z1:=bF.c1;have z2:=bF.c2;have z3:=bF.c3;have HF:=hide lF;clear lF bF;go_wp2_with fail
  exact bodyPost_ret (v:=.tuple #[noTerm.val,.int .i64 9]) (by
   have e:(((Z.setCell ⟨zb,0,none⟩ (.int .i64 0)).setCell ⟨zb,1,none⟩ (.int .i64 0)).setCell ⟨zb,2,none⟩ (.string ⟨#[]⟩)).setCell ⟨zb,3,none⟩ (.slice none 0 0)=set4 Z zb 0 noTerm:=rfl;rw[e];simp[results,Tryd.results8,go_sem,TV.val,z0,z1,z2,z3]) rfl ⟨rfl,uh HF⟩
theorem rtr_clause{n:Nat}(x:TV)(h b:Tm (n+1))(W:World)(hT:IsT (n:=n+2) W.heap.size W ((x,[h,b]):TV×List (Tm (n+1))))(hx:isB x ruleL 2=true)(hk0:h.tv.k=3∨h.tv.k=4)(hl50:h.tv.len≤50)(hl:¬(50:Int)<(h.tv.len:Int)+2){mm:Int}(hm:W.cell? ⟨splitLay_ren.g 1,0,none⟩=some (.int .i64 mm))(hm0:splitLay_ren.g 1<W.heap.size)(hres:resB h.tv.s.toList ((h.tv.len:Int)+2)=true):
  Calls Tryd.prog 8 #[x.val] W fun e V'=>e=.returned (.tuple #[noTerm.val,.int .i64 7])∧Below W.heap.size W V':=by
 have HK:=hide hk0;clear hk0;obtain⟨Bk,off,ha,hB,hch,hcb,hTh,hTb⟩:=tr_args hT;have hl2:x.len=2:=by have:=isB_len hx;omega
 have hr:=ris_any x ⟨#[45,45,62]⟩ 2;rw[lru,hx] at hr;obtain⟨W2,hW2,g2,hs2,b0,b1⟩:=box_zero W x;have b1':BoxT W2 (W.heap.size+1) noTerm:=b1;have HIS:=hide (hr W2);have c0:=b0.c0;have c1:=b0.c1;have c2:=b0.c2;have c3:=b0.c3;have HB:=hide (And.intro g2 (And.intro b0 b1'));have Ha:=hide ha;have Hx:=hide hl2;obtain⟨zb,hzb⟩:∃z,W.heap.size+1=z:=⟨_,rfl⟩;have HZ:=hide hzb;clear hr b0 b1 b1' g2 ha hl2 hzb;simp only[TV.val] at HIS⊢;go_enter Tryd.func8,Tryd.ntmps8
 go_wp2_with fail
 try rw[hW2]
 go_wp2_with fail
 refine(uh HIS).mono ?_;rintro e X ⟨rfl,g⟩;clear c0 c1 c2 c3 HIS hW2;rw[uh HZ];have b0:=(uh HB).2.1.below g (uh HB).2.1.lt;have b1:=BoxT.below (x:=noTerm) (uh HB).2.2 g (uh HB).2.2.lt;rw[uh HZ] at b1;have gX:=(uh HB).1.trans (g.mono (uh HB).1.size);have hz1:W.heap.size<zb:=by have:=uh HZ;omega
 have hz2:=b1.lt;clear HB g;have c3:=b0.c3;rw[uh Ha,uh Hx] at c3;obtain⟨d0,d1,d2,d3⟩:=hch.kept (gX.block Bk hB);obtain⟨Y,hY⟩:∃Y,X.alloc (.cells #[.int .i64 0,.int .i64 0,.string ⟨#[]⟩,.slice none 0 0] 24)=Y:=⟨_,rfl⟩;obtain⟨hb,hhb⟩:∃k,X.heap.size=k:=⟨_,rfl⟩;have bY:BoxT Y hb noTerm:=by rw[←hY,←hhb];exact BoxT.new X noTerm
 have gY:Below X.heap.size X Y:=by rw[←hY];exact(Below.refl _ X).alloc (Nat.le_refl _) _
 obtain⟨Z,hZ⟩:∃Z,set4 Y hb 0 h.tv=Z:=⟨_,rfl⟩;have gZ:Below X.heap.size X Z:=by rw[←hZ];exact set4_below gY (by omega) 0 h.tv
 have bZ:BoxT Z hb h.tv:=by rw[←hZ];exact set4_box bY h.tv
 obtain⟨r0,r1,r2,r3⟩:=bY.frz;have v0:=bY.c0;have v1:=bY.c1;have v2:=bY.c2;have v3:=bY.c3;unfold set4 at hZ;simp only[Nat.zero_add] at hZ;have HI:Hid (TrI W W.heap.size zb hb x h.tv Z):=hide ⟨gX.trans (gZ.mono gX.size),⟨Nat.le_refl _,hz1,by omega,bZ.lt⟩,b0.below gZ b0.lt,BoxT.below (x:=noTerm) b1 gZ b1.lt,bZ⟩;clear b0 b1 gX bY gY gZ bZ;go_upto_region 4 with fail
 try rw[hhb]
 try rw[hY]
 try rw[hZ]
 clear hhb hY hZ r0 r1 r2 r3 v0 v1 v2 v3 c3 d0 d1 d2 d3 hz1 hz2
 go_cut [24] from 17 (fun s wc=>s=.bool false∧Z=wc)
 case first=>
  obtain⟨c0,c1,c2,c3,d0,d1,d2,d3⟩:=(uh HI).cells
  rcases uh HK with hk | hk
  ·have k3:(h.tv.k != 3)=false:=by simp[hk]
   clear hk;go_wp2_with fail
   all_goals go_meet
   all_goals exact⟨rfl,rfl⟩
  ·have k3:(h.tv.k != 3)=true:=by simp[hk]
   have k4:(h.tv.k != 4)=false:=by simp[hk]
   clear hk;go_wp2_with fail
   all_goals go_meet
   all_goals exact⟨rfl,rfl⟩
 case rest=>
  obtain⟨rfl,rfl⟩:=hcut
  have HR:Hid (Calls Tryd.prog 21 #[.string h.tv.s,.int .i64 ((h.tv.len:Int)+2)] Z fun e W'=>e=.returned (.bool true)∧Below Z.heap.size Z W'):=hide (by
   have:=rres_any h.tv.s ((h.tv.len:Int)+2) mm Z (((uh HI).g.cell hm0).trans hm) (Nat.lt_of_lt_of_le hm0 (uh HI).g.size);rw[hres] at this;exact this)
  clear hres;obtain⟨c0,c1,c2,c3,d0,d1,d2,d3⟩:=(uh HI).cells;go_wp2_with fail
  refine(uh HR).mono ?_;rintro e X1 ⟨rfl,g⟩;replace HI:=hide ((uh HI).below g);clear g HR c0 c1 c2 c3 d0 d1 d2 d3;obtain⟨⟨f0,f1,f2,f3⟩,p0,p1,p2,p3⟩:=(uh HI).zero;obtain⟨lF,bF⟩:=(uh HI).fin noTerm;have z0:=bF.c0;have z1:=bF.c1;have z2:=bF.c2;have z3:=bF.c3;have HF:=hide lF;clear lF bF;go_wp2_with fail
  exact bodyPost_ret (v:=.tuple #[noTerm.val,.int .i64 7]) (by
   have e:(((X1.setCell ⟨zb,0,none⟩ (.int .i64 0)).setCell ⟨zb,1,none⟩ (.int .i64 0)).setCell ⟨zb,2,none⟩ (.string ⟨#[]⟩)).setCell ⟨zb,3,none⟩ (.slice none 0 0)=set4 X1 zb 0 noTerm:=rfl;rw[e];simp[results,Tryd.results8,go_sem,TV.val,z0,z1,z2,z3]) rfl ⟨rfl,uh HF⟩
set_option maxHeartbeats 8000000
set_option maxRecDepth 100000
theorem rtr_body{n:Nat}(x:TV)(h b:Tm (n+1))(W:World)(hT:IsT (n:=n+2) W.heap.size W ((x,[h,b]):TV×List (Tm (n+1))))(hx:isB x ruleL 2=true)(hk0:h.tv.k=3∨h.tv.k=4)(hl50:h.tv.len≤50)(hl:¬(50:Int)<(h.tv.len:Int)+2){mm:Int}(hm:W.cell? ⟨splitLay_ren.g 1,0,none⟩=some (.int .i64 mm))(hm0:splitLay_ren.g 1<W.heap.size)(hres:resB h.tv.s.toList ((h.tv.len:Int)+2)=false)(ok:okT (n:=n+2) ((x,[h,b]):TV×List (Tm (n+1)))=true)(hcl:(code (n:=n+2) ((x,[h,b]):TV×List (Tm (n+1)))).length≤4194304)(hn:n≤34359738368){n0:Int}(hn0:behC (varsC [] (code (n:=n+2) ((x,[h,b]):TV×List (Tm (n+1)))))=n0){er:Int}(her:berr b=er)(hne:(er != 0)=true):
  Calls Tryd.prog 8 #[x.val] W fun e V'=>e=.returned (.tuple #[noTerm.val,.int .i64 er])∧Below W.heap.size W V':=by
 have HK:=hide hk0;clear hk0;obtain⟨Bk,off,ha,hB,hch,hcb,hTh,hTb⟩:=tr_args hT;have hl2:x.len=2:=by have:=isB_len hx;omega
 have hr:=ris_any x ⟨#[45,45,62]⟩ 2;rw[lru,hx] at hr;obtain⟨W2,hW2,g2,hs2,b0,b1⟩:=box_zero W x;have b1':BoxT W2 (W.heap.size+1) noTerm:=b1;have HIS:=hide (hr W2);have c0:=b0.c0;have c1:=b0.c1;have c2:=b0.c2;have c3:=b0.c3;have HB:=hide (And.intro g2 (And.intro b0 b1'));have Ha:=hide ha;have Hx:=hide hl2;obtain⟨zb,hzb⟩:∃z,W.heap.size+1=z:=⟨_,rfl⟩;have HZ:=hide hzb;clear hr b0 b1 b1' g2 ha hl2 hzb;simp only[TV.val] at HIS⊢;go_enter Tryd.func8,Tryd.ntmps8
 go_wp2_with fail
 try rw[hW2]
 go_wp2_with fail
 refine(uh HIS).mono ?_;rintro e X ⟨rfl,g⟩;clear c0 c1 c2 c3 HIS hW2;rw[uh HZ];have b0:=(uh HB).2.1.below g (uh HB).2.1.lt;have b1:=BoxT.below (x:=noTerm) (uh HB).2.2 g (uh HB).2.2.lt;rw[uh HZ] at b1;have gX:=(uh HB).1.trans (g.mono (uh HB).1.size);have hz1:W.heap.size<zb:=by have:=uh HZ;omega
 have hz2:=b1.lt;clear HB g;have c3:=b0.c3;rw[uh Ha,uh Hx] at c3;obtain⟨d0,d1,d2,d3⟩:=hch.kept (gX.block Bk hB);obtain⟨Y,hY⟩:∃Y,X.alloc (.cells #[.int .i64 0,.int .i64 0,.string ⟨#[]⟩,.slice none 0 0] 24)=Y:=⟨_,rfl⟩;obtain⟨hb,hhb⟩:∃k,X.heap.size=k:=⟨_,rfl⟩;have bY:BoxT Y hb noTerm:=by rw[←hY,←hhb];exact BoxT.new X noTerm
 have gY:Below X.heap.size X Y:=by rw[←hY];exact(Below.refl _ X).alloc (Nat.le_refl _) _
 obtain⟨Z,hZ⟩:∃Z,set4 Y hb 0 h.tv=Z:=⟨_,rfl⟩;have gZ:Below X.heap.size X Z:=by rw[←hZ];exact set4_below gY (by omega) 0 h.tv
 have bZ:BoxT Z hb h.tv:=by rw[←hZ];exact set4_box bY h.tv
 obtain⟨r0,r1,r2,r3⟩:=bY.frz;have v0:=bY.c0;have v1:=bY.c1;have v2:=bY.c2;have v3:=bY.c3;unfold set4 at hZ;simp only[Nat.zero_add] at hZ;have HI:Hid (TrI W W.heap.size zb hb x h.tv Z):=hide ⟨gX.trans (gZ.mono gX.size),⟨Nat.le_refl _,hz1,by omega,bZ.lt⟩,b0.below gZ b0.lt,BoxT.below (x:=noTerm) b1 gZ b1.lt,bZ⟩;clear b0 b1 gX bY gY gZ bZ;go_upto_region 4 with fail
 try rw[hhb]
 try rw[hY]
 try rw[hZ]
 clear hhb hY hZ r0 r1 r2 r3 v0 v1 v2 v3 c3 d0 d1 d2 d3 hz1 hz2
 go_cut [24] from 17 (fun s wc=>s=.bool false∧Z=wc)
 case first=>
  obtain⟨c0,c1,c2,c3,d0,d1,d2,d3⟩:=(uh HI).cells
  rcases uh HK with hk | hk
  ·have k3:(h.tv.k != 3)=false:=by simp[hk]
   clear hk;go_wp2_with fail
   all_goals go_meet
   all_goals exact⟨rfl,rfl⟩
  ·have k3:(h.tv.k != 3)=true:=by simp[hk]
   have k4:(h.tv.k != 4)=false:=by simp[hk]
   clear hk;go_wp2_with fail
   all_goals go_meet
   all_goals exact⟨rfl,rfl⟩
 case rest=>
  obtain⟨rfl,rfl⟩:=hcut
  have HR:Hid (Calls Tryd.prog 21 #[.string h.tv.s,.int .i64 ((h.tv.len:Int)+2)] Z fun e W'=>e=.returned (.bool false)∧Below Z.heap.size Z W'):=hide (by
   have:=rres_any h.tv.s ((h.tv.len:Int)+2) mm Z (((uh HI).g.cell hm0).trans hm) (Nat.lt_of_lt_of_le hm0 (uh HI).g.size);rw[hres] at this;exact this)
  clear hres;obtain⟨c0,c1,c2,c3,d0,d1,d2,d3⟩:=(uh HI).cells;go_wp2_with fail
  refine(uh HR).mono ?_;rintro e X1 ⟨rfl,g⟩;replace HI:=hide ((uh HI).below g);clear g HR c0 c1 c2 c3 d0 d1 d2 d3;have hkk:=(ok_kids ok).2;have hbl:(code b).length≤(code (n:=n+2) ((x,[h,b]):TV×List (Tm (n+1)))).length:=by rw[code_succ];simp only[List.flatMap_cons,List.flatMap_nil,List.append_nil,List.length_cons,List.length_append];omega
  have hcb2:=cnt_le b hTb.wl;obtain⟨Y1,hY1⟩:∃Y,X1.alloc (.cells #[.int .i64 x.k,.int .i64 x.N,.string x.s,.slice x.a x.len x.cap] 24)=Y:=⟨_,rfl⟩;obtain⟨b5,hb5⟩:∃k,X1.heap.size=k:=⟨_,rfl⟩;have gY1:Below X1.heap.size X1 Y1:=by rw[←hY1];exact(Below.refl _ X1).alloc (Nat.le_refl _) _
  have bY1:BoxT Y1 b5 x:=by rw[←hY1,←hb5];exact BoxT.new X1 x
  have gWY:=(uh HI).g.trans (gY1.mono (uh HI).g.size);have HV:=hide (gVars_one (n:=n+2) ((x,[h,b]):TV×List (Tm (n+1))) b5 0 1 Y1 ((hT.below gWY).mono gWY.size) ⟨bY1.c0,bY1.c1,bY1.c2,bY1.c3⟩ (okLT_of ok) (by omega));have hvl:=varsC_len [] (code (n:=n+2) ((x,[h,b]):TV×List (Tm (n+1))));have hvb:∀N∈varsC [] (code (n:=n+2) ((x,[h,b]):TV×List (Tm (n+1)))),0≤N∧N+1≤1099511627777:=fun N hN=>ok_num ok hN;obtain⟨c0,c1,c2,c3,d0,d1,d2,d3⟩:=(uh HI).cells;replace HI:=hide ((uh HI).below gY1);clear gY1 bY1 gWY;go_wp2_with fail
  try rw[hb5]
  try rw[hY1]
  refine(uh HV).mono ?_;rintro e Z1 ⟨v,rfl,g,hv⟩;obtain⟨va,vc,rfl,hN⟩:=hv.isN (by simp at hvl;omega);have HBH:=hide (rbehind_any _ va _ vc Z1 hN (fun N hN=>by have:=hvb N hN;omega));rw[hn0] at HBH;have hn1:=beh_le (l:=varsC [] (code (n:=n+2) ((x,[h,b]):TV×List (Tm (n+1))))) (a:=1099511627777) (by omega) (fun N hN=>(hvb N hN).2);rw[hn0] at hn1;replace HI:=hide ((uh HI).below g);clear g hv hN HV hY1 hb5 c0 c1 c2 c3 d0 d1 d2 d3 hvl hvb;clear Y1;go_wp2_with fail
  refine(uh HBH).mono ?_;rintro e Z2 ⟨rfl,g⟩;replace HI:=hide ((uh HI).below g);clear g HBH;have hH2:=(uh HI).o;have hg2:=(uh HI).g.size
  have HBT:Hid (∀U,Below Z2.heap.size Z2 U→Calls Tryd.prog 24 #[.agg #[.int .i64 b.tv.k,.int .i64 b.tv.N,.string b.tv.s,.slice b.tv.a b.tv.len b.tv.cap],.agg #[.int .i64 1,.int .i64 n0,.string ⟨#[]⟩,.slice none 0 0],.agg #[.int .i64 1,.int .i64 (n0+1),.string ⟨#[]⟩,.slice none 0 0],.int .i64 (n0+2)] U fun e U'=> ∃(y:TV) (m:Int),e=.returned (.tuple #[y.val,.int .i64 m,.int .i64 er])∧Below U.heap.size U U'∧BtwP (1+3*(n+1)+4) W.heap.size (cntT b) er (btwC b [varNd n0] [varNd (n0+1)] (n0+2)) U.heap.size y m U'):=hide fun U hU=>(by
   have hWU:=(uh HI).g.trans (hU.mono (uh HI).g.size);have:=rbtw_any mm (n+1) b 1 W.heap.size (varV n0) (varV (n0+1)) [varNd n0] [varNd (n0+1)] (n0+2) U (Nat.le_refl _) hWU.size (hTb.below hWU) (hkk b (by simp)) (by omega) (var_S n0 (Nat.le_refl _)) (var_S (n0+1) (Nat.le_refl _)) (by omega) (by omega) (by omega) ((hWU.cell hm0).trans hm) (Nat.lt_of_lt_of_le hm0 hWU.size);rw[her] at this;exact this)
  obtain⟨c0,c1,c2,c3,d0,d1,d2,d3⟩:=(uh HI).cells;rw[uh Ha,uh Hx] at c3;obtain⟨q0,q1,q2,q3⟩:=hcb.kept ((uh HI).g.block Bk hB);go_wp2_with fail
  refine wp_rtr11 (tb:=W.heap.size) (Bk:=Bk) (off:=off) (oc:=x.cap) (D:=1+3*(n+1)+4) (ns:=W.heap.size) (M:=cntT b) (b:=b.tv) (n0:=n0) (er:=er) (c:=btwC b [varNd n0] [varNd (n0+1)] (n0+2)) (by omega) (by omega) (by omega) (by omega) ⟨c3,q0,q1,q2,q3⟩ (uh HBT) ?_;intro Z3 bx y m w44 w45 w46 w47 w48 w49 w50 w51 w52 w53 w54 w55 w56 w57 w58 w59 g hbx bX hP;replace HI:=hide ((uh HI).below g);clear g HBT c0 c1 c2 c3 d0 d1 d2 d3 q0 q1 q2 q3;obtain⟨⟨f0,f1,f2,f3⟩,p0,p1,p2,p3⟩:=(uh HI).zero;obtain⟨lF,bF⟩:=(uh HI).fin noTerm;have z0:=bF.c0;have z1:=bF.c1;have z2:=bF.c2;have z3:=bF.c3;have HF:=hide lF;clear lF bF;go_wp2_with fail
  exact bodyPost_ret (v:=.tuple #[noTerm.val,.int .i64 er]) (by
   have e:(((Z3.setCell ⟨zb,0,none⟩ (.int .i64 0)).setCell ⟨zb,1,none⟩ (.int .i64 0)).setCell ⟨zb,2,none⟩ (.string ⟨#[]⟩)).setCell ⟨zb,3,none⟩ (.slice none 0 0)=set4 Z3 zb 0 noTerm:=rfl;rw[e];simp[results,Tryd.results8,go_sem,TV.val,z0,z1,z2,z3]) rfl ⟨rfl,uh HF⟩
end Go.Proofs.YtjbdkbaacjfecaaDoor
