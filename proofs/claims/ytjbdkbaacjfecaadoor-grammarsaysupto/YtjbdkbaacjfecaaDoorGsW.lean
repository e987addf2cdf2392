import Derived.Test.YtjbdkbaacjfecaaDoorTks
import Derived.Test.YtjbdkbaacjfecaaDoorGsUs
namespace Go.Proofs.YtjbdkbaacjfecaaDoor
set_option maxHeartbeats 8000000
set_option maxRecDepth 100000
open Go.RowKit Go.Shelf Go.Maps
theorem rtr_yes{n:Nat}(x:TV)(h b:Tm (n+1))(W:World)(hT:IsT (n:=n+2) W.heap.size W ((x,[h,b]):TV×List (Tm (n+1))))(hx:isB x ruleL 2=true)(hk0:h.tv.k=3∨h.tv.k=4)(hl50:h.tv.len≤50)(hl:¬(50:Int)<(h.tv.len:Int)+2){mm:Int}(hm:W.cell? ⟨splitLay_ren.g 1,0,none⟩=some (.int .i64 mm))(hm0:splitLay_ren.g 1<W.heap.size)(hres:resB h.tv.s.toList ((h.tv.len:Int)+2)=false)(ok:okT (n:=n+2) ((x,[h,b]):TV×List (Tm (n+1)))=true)(hcl:(code (n:=n+2) ((x,[h,b]):TV×List (Tm (n+1)))).length≤4194304)(hn:n≤34359738368){n0:Int}(hn0:behC (varsC [] (code (n:=n+2) ((x,[h,b]):TV×List (Tm (n+1)))))=n0)(her:berr b=0):
  Calls Tryd.prog 8 #[x.val] W fun e V'=> ∃y:TV,e=.returned (.tuple #[y.val,.int .i64 0])∧HoldsS (1+3*(n+1)+4+1+1) (fun _=>True) V' y.val (canon 0 ((4,0,[58,45],2)::(((4,0,h.tv.s.toList,h.tv.len+2)::(h.kids.flatMap code++([varNd n0]++[varNd (n0+1)])))++btwC b [varNd n0] [varNd (n0+1)] (n0+2))))∧Below W.heap.size W V':=by
 have HK:=hide hk0;clear hk0;obtain⟨Bk,off,ha,hB,hch,hcb,hTh,hTb⟩:=tr_args hT;have hl2:x.len=2:=by have:=isB_len hx;omega
 have hr:=ris_any x ⟨#[45,45,62]⟩ 2;rw[lru,hx] at hr;obtain⟨W2,hW2,g2,hs2,b0,b1⟩:=box_zero W x;have b1':BoxT W2 (W.heap.size+1) noTerm:=b1;have HIS:=hide (hr W2);have c0:=b0.c0;have c1:=b0.c1;have c2:=b0.c2;have c3:=b0.c3;have HB:=hide (And.intro g2 (And.intro b0 b1'));have Ha:=hide ha;have Hx:=hide hl2;obtain⟨zb,hzb⟩:∃z,W.heap.size+1=z:=⟨_,rfl⟩;have HZ:=hide hzb;clear hr b0 b1 b1' g2 ha hl2 hzb;simp only[TV.val] at HIS⊢;go_enter Tryd.func8,Tryd.ntmps8
 go_wp2_with fail
 try rw[hW2]
 go_wp2_with fail
 refine(uh HIS).mono ?_;rintro e X ⟨rfl,g⟩;clear c0 c1 c2 c3 HIS hW2;rw[uh HZ];have b0:=(uh HB).2.1.below g (uh HB).2.1.lt;have b1:=BoxT.below (x:=noTerm) (uh HB).2.2 g (uh HB).2.2.lt;rw[uh HZ] at b1;have gX:=(uh HB).1.trans (g.mono (uh HB).1.size);have hz1:W.heap.size<zb:=by have:=uh HZ;omega
 have hz2:=b1.lt;clear HB g;have c3:=b0.c3;rw[uh Ha,uh Hx] at c3;obtain⟨d0,d1,d2,d3⟩:=hch.kept (gX.block Bk hB);obtain⟨Y,hY⟩:∃Y,X.alloc (.cells #[.int .i64 0,.int .i64 0,.string ⟨#[]⟩,.slice none 0 0] 24)=Y:=⟨_,rfl⟩;obtain⟨hb,hhb⟩:∃k,X.heap.size=k:=⟨_,rfl⟩;have bY:BoxT Y hb noTerm:=by rw[←hY,←hhb];exact BoxT.new X noTerm
 have gY:Below X.heap.size X Y:=by rw[←hY];exact(Below.refl _ X).alloc (Nat.le_refl _) _
 obtain⟨Z,hZ⟩:∃Z,set4 Y hb 0 h.tv=Z:=⟨_,rfl⟩;have gZ:Below X.heap.size X Z:=by rw[←hZ];exact set4_below gY (by omega) 0 h.tv
 have bZ:BoxT Z hb h.tv:=by rw[←hZ];exact set4_box bY h.tv
 obtain⟨r0,r1,r2,r3⟩:=bY.frz;have v0:=bY.c0;have v1:=bY.c1;have v2:=bY.c2;have v3:=bY.c3;unfold set4 at hZ;simp only[Nat.zero_add] at hZ;have HI:Hid (TrI W W.heap.size zb hb x h.tv Z):=hide ⟨gX.trans (gZ.mono gX.size),⟨Nat.le_refl _,hz1,by omega,bZ.lt⟩,b0.below gZ b0.lt,BoxT.below (x:=noTerm) b1 gZ b1.lt,bZ⟩;clear b0 b1 gX bY gY gZ bZ;go_upto_region 4 with fail
 try rw[hhb]
 try rw[hY]
 try rw[hZ]
 clear hhb hY hZ r0 r1 r2 r3 v0 v1 v2 v3 c3 d0 d1 d2 d3 hz1 hz2
 go_cut [24] from 17 (fun s wc=>s=.bool false∧Z=wc)
 case first=>
  obtain⟨c0,c1,c2,c3,d0,d1,d2,d3⟩:=(uh HI).cells
  rcases uh HK with hk | hk
  ·have k3:(h.tv.k != 3)=false:=by simp[hk]
   clear hk;go_wp2_with fail
   all_goals go_meet
   all_goals exact⟨rfl,rfl⟩
  ·have k3:(h.tv.k != 3)=true:=by simp[hk]
   have k4:(h.tv.k != 4)=false:=by simp[hk]
   clear hk;go_wp2_with fail
   all_goals go_meet
   all_goals exact⟨rfl,rfl⟩
 case rest=>
  obtain⟨rfl,rfl⟩:=hcut
  have HR:Hid (Calls Tryd.prog 21 #[.string h.tv.s,.int .i64 ((h.tv.len:Int)+2)] Z fun e W'=>e=.returned (.bool false)∧Below Z.heap.size Z W'):=hide (by
   have:=rres_any h.tv.s ((h.tv.len:Int)+2) mm Z (((uh HI).g.cell hm0).trans hm) (Nat.lt_of_lt_of_le hm0 (uh HI).g.size);rw[hres] at this;exact this)
  clear hres;obtain⟨c0,c1,c2,c3,d0,d1,d2,d3⟩:=(uh HI).cells;go_wp2_with fail
  refine(uh HR).mono ?_;rintro e X1 ⟨rfl,g⟩;replace HI:=hide ((uh HI).below g);clear g HR c0 c1 c2 c3 d0 d1 d2 d3;have hkk:=(ok_kids ok).2;have hbl:(code b).length≤(code (n:=n+2) ((x,[h,b]):TV×List (Tm (n+1)))).length:=by rw[code_succ];simp only[List.flatMap_cons,List.flatMap_nil,List.append_nil,List.length_cons,List.length_append];omega
  have hcb2:=cnt_le b hTb.wl;obtain⟨Y1,hY1⟩:∃Y,X1.alloc (.cells #[.int .i64 x.k,.int .i64 x.N,.string x.s,.slice x.a x.len x.cap] 24)=Y:=⟨_,rfl⟩;obtain⟨b5,hb5⟩:∃k,X1.heap.size=k:=⟨_,rfl⟩;have gY1:Below X1.heap.size X1 Y1:=by rw[←hY1];exact(Below.refl _ X1).alloc (Nat.le_refl _) _
  have bY1:BoxT Y1 b5 x:=by rw[←hY1,←hb5];exact BoxT.new X1 x
  have gWY:=(uh HI).g.trans (gY1.mono (uh HI).g.size);have HV:=hide (gVars_one (n:=n+2) ((x,[h,b]):TV×List (Tm (n+1))) b5 0 1 Y1 ((hT.below gWY).mono gWY.size) ⟨bY1.c0,bY1.c1,bY1.c2,bY1.c3⟩ (okLT_of ok) (by omega));have hvl:=varsC_len [] (code (n:=n+2) ((x,[h,b]):TV×List (Tm (n+1))));have hvb:∀N∈varsC [] (code (n:=n+2) ((x,[h,b]):TV×List (Tm (n+1)))),0≤N∧N+1≤1099511627777:=fun N hN=>ok_num ok hN;obtain⟨c0,c1,c2,c3,d0,d1,d2,d3⟩:=(uh HI).cells;replace HI:=hide ((uh HI).below gY1);clear gY1 bY1 gWY;go_wp2_with fail
  try rw[hb5]
  try rw[hY1]
  refine(uh HV).mono ?_;rintro e Z1 ⟨v,rfl,g,hv⟩;obtain⟨va,vc,rfl,hN⟩:=hv.isN (by simp at hvl;omega);have HBH:=hide (rbehind_any _ va _ vc Z1 hN (fun N hN=>by have:=hvb N hN;omega));rw[hn0] at HBH;have hn1:=beh_le (l:=varsC [] (code (n:=n+2) ((x,[h,b]):TV×List (Tm (n+1))))) (a:=1099511627777) (by omega) (fun N hN=>(hvb N hN).2);rw[hn0] at hn1;replace HI:=hide ((uh HI).below g);clear g hv hN HV hY1 hb5 c0 c1 c2 c3 d0 d1 d2 d3 hvl hvb;clear Y1;go_wp2_with fail
  refine(uh HBH).mono ?_;rintro e Z2 ⟨rfl,g⟩;replace HI:=hide ((uh HI).below g);clear g HBH;have hH2:=(uh HI).o;have hg2:=(uh HI).g.size
  have HBT:Hid (∀U,Below Z2.heap.size Z2 U→Calls Tryd.prog 24 #[.agg #[.int .i64 b.tv.k,.int .i64 b.tv.N,.string b.tv.s,.slice b.tv.a b.tv.len b.tv.cap],.agg #[.int .i64 1,.int .i64 n0,.string ⟨#[]⟩,.slice none 0 0],.agg #[.int .i64 1,.int .i64 (n0+1),.string ⟨#[]⟩,.slice none 0 0],.int .i64 (n0+2)] U fun e U'=> ∃(y:TV) (m:Int),e=.returned (.tuple #[y.val,.int .i64 m,.int .i64 0])∧Below U.heap.size U U'∧BtwP (1+3*(n+1)+4) W.heap.size (cntT b) 0 (btwC b [varNd n0] [varNd (n0+1)] (n0+2)) U.heap.size y m U'):=hide fun U hU=>(by
   have hWU:=(uh HI).g.trans (hU.mono (uh HI).g.size);have:=rbtw_any mm (n+1) b 1 W.heap.size (varV n0) (varV (n0+1)) [varNd n0] [varNd (n0+1)] (n0+2) U (Nat.le_refl _) hWU.size (hTb.below hWU) (hkk b (by simp)) (by omega) (var_S n0 (Nat.le_refl _)) (var_S (n0+1) (Nat.le_refl _)) (by omega) (by omega) (by omega) ((hWU.cell hm0).trans hm) (Nat.lt_of_lt_of_le hm0 hWU.size);rw[her] at this;exact this)
  obtain⟨c0,c1,c2,c3,d0,d1,d2,d3⟩:=(uh HI).cells;rw[uh Ha,uh Hx] at c3;obtain⟨q0,q1,q2,q3⟩:=hcb.kept ((uh HI).g.block Bk hB);go_wp2_with fail
  refine wp_rtr11 (tb:=W.heap.size) (Bk:=Bk) (off:=off) (oc:=x.cap) (D:=1+3*(n+1)+4) (ns:=W.heap.size) (M:=cntT b) (b:=b.tv) (n0:=n0) (er:=0) (c:=btwC b [varNd n0] [varNd (n0+1)] (n0+2)) (by omega) (by omega) (by omega) (by omega) ⟨c3,q0,q1,q2,q3⟩ (uh HBT) ?_;intro Z3 bx y m w44 w45 w46 w47 w48 w49 w50 w51 w52 w53 w54 w55 w56 w57 w58 w59 g hbx bX hP;replace HI:=hide ((uh HI).below g);clear g HBT c0 c1 c2 c3 d0 d1 d2 d3 q0 q1 q2 q3;have hy:HoldsS (1+3*(n+1)+4) (Mix W.heap.size (hb+1)) Z3 y.val (btwC b [varNd n0] [varNd (n0+1)] (n0+2)):=(hP.2.2 rfl).2.mono (Nat.le_refl _) (fun k hk=>by unfold Mix at hk⊢;omega);have HBX:=hide bX;have hbxl:hb<bx:=by omega
  have hz3':hb+1≤Z3.heap.size:=by have:=(uh HI).o;omega
  clear hP bX;have KEEP:=hide (fun(U:World) (hU:∀k,k<Z3.heap.size→U.heap[k]?=Z3.heap[k]?)=>((World.cell?_of_block (hU hb (uh HI).bh.lt)).trans (uh HI).bh.c2:U.cell? ⟨hb,2,none⟩=some (.string h.tv.s)));obtain⟨D1,hD1⟩:∃D1,Z3.drew=D1:=⟨_,rfl⟩;have l:Below Z3.heap.size Z3 D1:=by rw[←hD1];exact(Below.refl _ Z3).drew
  have kD:=(uh KEEP) D1 (fun k hk=>l.block k hk);replace HI:=hide ((uh HI).below l);have HW1:Hid (IntKind.i64.wrap (n0+1)=n0+1):=hide (by simp[IntKind.wrap,IntKind.bits,IntKind.signed];omega);go_wp2_with fail
  refine wp_region_noPanic ?_;refine wp_region_held_drew (S:=fun w'=>w'.cell? ⟨hb,2,none⟩=some (.string h.tv.s)) (by kernel_rfl) ?_ (fun hHeld=>?_)
  ·(try rw[hD1]);exact kD
  rw[hD1] at hHeld⊢;clear hD1 kD;refine tk 0 rfl hHeld ?_;refine tk 1 rfl hHeld ?_;refine tk 2 rfl hHeld ?_;refine tk 5 rfl hHeld ?_;refine tk 7 rfl hHeld ?_;refine tk 8 rfl hHeld ?_;have d3:=(uh HI).bh.c3;refine rd 3 rfl fun K hK=>?_;have hHold:=hHeld;clear hHeld;go_simp;clear d3;refine hK.out _ _ ?_ (fun hHeld=>?_)
  ·((try dsimp only);exact(uh KEEP) _ (fun k hk=>l.block k hk))
  clear hK K hHold;try simp only[pu]
  obtain⟨v1,X2,r1,s1,q1⟩:=app_args (B:=Z3.heap.size) (ns:=W.heap.size) (x:=h.tv) (kids:=h.kids) (U:=D1) (show IsT (n:=n+1) W.heap.size D1 h from hTh.below (uh HI).g) (by have:h.tv.len=h.kids.length:=hTh.1;omega) l.size;have g:Below D1.heap.size D1 X2:=(Below.refl _ D1).grown q1 (Nat.le_refl _) (fun k e=>by cases e);refine rd 4 rfl fun K hK=>?_;have hHold:=hHeld;clear hHeld;rw[if_pos (by rfl)];refine wp_append_row _ _ _ rfl rfl rfl r1 ?_;replace l:Below Z3.heap.size Z3 X2:=l.trans (g.mono l.size);replace HI:=hide ((uh HI).below g);clear r1 q1;clear g;refine hK.out _ _ ?_ (fun hHeld=>?_)
  ·((try dsimp only);exact(uh KEEP) _ (fun k hk=>l.block k hk))
  clear hK K hHold;try simp only[pu]
  refine rd 6 rfl fun K hK=>?_;have hHold:=hHeld;clear hHeld;go_simp;try rw[uh HW1]
  refine(v_any n0 _).mono ?_;rintro e X3 ⟨rfl,g⟩;replace s1:StkT Z3.heap.size X3 v1 (h.kids.map Tm.tv):=StkW.below s1 g;replace l:Below Z3.heap.size Z3 X3:=l.trans (g.mono l.size);replace HI:=hide ((uh HI).below g);clear g;simp only[TV.val,varV];go_wp2_with fail
  refine hK.out _ _ ?_ (fun hHeld=>?_)
  ·((try dsimp only);exact(uh KEEP) _ (fun k hk=>l.block k hk))
  clear hK K hHold;try simp only[pu]
  refine rd 9 rfl fun K hK=>?_;have hHold:=hHeld;clear hHeld;go_simp;try rw[uh HW1]
  refine(v_any (n0+1) _).mono ?_;rintro e X4 ⟨rfl,g⟩;replace s1:StkT Z3.heap.size X4 v1 (h.kids.map Tm.tv):=StkW.below s1 g;replace l:Below Z3.heap.size Z3 X4:=l.trans (g.mono l.size);replace HI:=hide ((uh HI).below g);clear g;simp only[TV.val,varV];go_wp2_with fail
  refine hK.out _ _ ?_ (fun hHeld=>?_)
  ·((try dsimp only);exact(uh KEEP) _ (fun k hk=>l.block k hk))
  clear hK K hHold;try simp only[pu]
  obtain⟨X5,hX5⟩:∃Y,X4.alloc (.cells #[.int .i64 1,.int .i64 n0,.string ⟨#[]⟩,.slice none 0 0,.int .i64 1,.int .i64 (n0+1),.string ⟨#[]⟩,.slice none 0 0] 24)=Y:=⟨_,rfl⟩;have g:Below X4.heap.size X4 X5:=by rw[←hX5];exact(Below.refl _ X4).alloc (Nat.le_refl _) _
  have hrow:StkT Z3.heap.size X5 (.slice (some ⟨X4.heap.size,0,none⟩) 2 2) [varV n0,varV (n0+1)]:=by rw[←hX5];exact StkT.lay2 (varV n0) (varV (n0+1)) l.size
  replace s1:StkT Z3.heap.size X5 v1 (h.kids.map Tm.tv):=StkW.below s1 g;refine rd 10 rfl fun K hK=>?_;have hHold:=hHeld;clear hHeld;go_simp;try rw[hX5]
  replace l:Below Z3.heap.size Z3 X5:=l.trans (g.mono l.size);replace HI:=hide ((uh HI).below g);clear hX5;clear g;refine hK.out _ _ ?_ (fun hHeld=>?_)
  ·((try dsimp only);exact(uh KEEP) _ (fun k hk=>l.block k hk))
  clear hK K hHold;try simp only[pu]
  obtain⟨vm,X6,r3,s3,q3⟩:=s1.app hrow (by have:h.tv.len=h.kids.length:=hTh.1;simp;omega) l.size;have gl:Below Z3.heap.size X5 X6:=(Below.refl _ X5).grown q3 l.size (fun k e=>(StkW.lt s1 e).1);replace l:Below Z3.heap.size Z3 X6:=l.trans gl;have hz3:hb+1≤Z3.heap.size:=hz3';replace HI:=hide ((uh HI).belowN (gl.mono hz3));obtain⟨g5,cap,q,rfl,hq,hg5⟩:=StkT.two s3;rw[List.length_map] at hq;have hS:W.heap.size≤hb:=by have:=(uh HI).o;omega
  have hh:HoldsS (n+1+1) (Mix W.heap.size (hb+1)) X6 (compV h.tv.s (some ⟨g5,0,none⟩) q cap).val ((4,0,h.tv.s.toList,q)::(h.kids.flatMap code++([varNd n0]++[varNd (n0+1)]))):=row_holds (D:=n+1) s3 hq ⟨.inr (by omega),hg5.2⟩ hTh.2.2.1 (fun u hu=>by
   rcases hTh.2.2.2 with h4 | ⟨Bk',off',_,_,hcs⟩
   ·have h5:h.kids=[]:=h4
    rw[h5] at hu;cases hu
   ·obtain⟨j,hj⟩:=List.mem_iff_getElem?.1 hu
    exact((mix_of (hcs j u hj).2 (Nat.le_refl _) (hb+1)).below (uh HI).g).mono (by omega) (fun _ h=>h)) (var_S n0 (by omega)) (var_S (n0+1) (by omega))
  have HH:=hide (And.intro hh hq);clear hh hq gl q3 s3 hrow s1;refine rd 11 rfl fun K hK=>?_;have hHold:=hHeld;clear hHeld;rw[if_pos (by rfl)];refine wp_append_row _ _ _ rfl rfl rfl r3 ?_;refine hK.out _ _ ?_ (fun hHeld=>?_)
  ·((try dsimp only);exact(uh KEEP) _ (fun k hk=>l.block k hk))
  clear hK K hHold;try simp only[pu]
  refine rd 12 rfl fun K hK=>?_;have hHold:=hHeld;clear hHeld;go_simp;refine(rcompound_any h.tv.s (some ⟨g5,0,none⟩) q cap X6).mono ?_;rintro e X7 ⟨rfl,g⟩;replace HH:=hide (And.intro ((uh HH).1.below g) (uh HH).2);replace l:Below Z3.heap.size Z3 X7:=l.trans (g.mono l.size);replace HI:=hide ((uh HI).below g);clear r3;clear g;simp only[TV.val,compV];go_wp2_with fail
  refine hK.out _ _ ?_ (fun hHeld=>?_)
  ·((try dsimp only);exact(uh KEEP) _ (fun k hk=>l.block k hk))
  clear hK K hHold;try simp only[pu]
  obtain⟨ZF,hZF⟩:∃Z,set4 X7 hb 0 (compV h.tv.s (some ⟨g5,0,none⟩) q cap)=Z:=⟨_,rfl⟩;have HIF:Hid (TrI W W.heap.size zb hb x (compV h.tv.s (some ⟨g5,0,none⟩) q cap) ZF):=hide (by rw[←hZF];exact(uh HI).head (compV h.tv.s (some ⟨g5,0,none⟩) q cap));have oF:∀k,k≠hb→ZF.heap[k]?=X7.heap[k]?:=fun k hk=>by rw[←hZF];exact set4_other _ _ _ _ hk
  have sF:ZF.heap.size=X7.heap.size:=by rw[←hZF,set4_size]
  have hhF:=HoldsS.fromS (uh HH).1 (fun k hS' _=>oF k (by unfold Mix at hS';omega)) (by rw[sF];exact Nat.le_refl _);have hyF:=HoldsS.fromS (hy.below l) (fun k hS' _=>oF k (by unfold Mix at hS';omega)) (by rw[sF];exact Nat.le_refl _);have bxF:BoxT ZF bx y:=(oF bx (by omega)).trans ((uh HBX).below l (uh HBX).lt);have HFF:=hide (And.intro hhF (And.intro hyF (And.intro bxF (uh HH).2)));obtain⟨f0,f1,f2,f3⟩:=(uh HI).bh.frz;have p0:=(uh HI).bh.c0;have p1:=(uh HI).bh.c1;have p2:=(uh HI).bh.c2;have p3:=(uh HI).bh.c3;unfold set4 at hZF;simp only[Nat.zero_add,compV] at hZF;clear hhF hyF bxF oF sF hy l HH HBX;refine rd 13 rfl fun K hK=>?_;have hHold:=hHeld;clear hHeld;go_simp;try rw[hZF]
  refine hK.out _ _ ?_ (fun hHeld=>?_)
  ·((try dsimp only);exact(uh HIF).bh.c2)
  clear hK K hHold;try simp only[pu]
  refine wpAnyH_done (by kernel_rfl) ?_ _;refine NoPanic.normal ?_;clear hHeld hZF f0 f1 f2 f3 p0 p1 p2 p3 HI KEEP;have d0:=(uh HIF).bh.c0;have d1:=(uh HIF).bh.c1;have d2:=(uh HIF).bh.c2;have d3:=(uh HIF).bh.c3;simp only[compV] at d0 d1 d2 d3;have e0:=(uh HFF).2.2.1.c0;have e1:=(uh HFF).2.2.1.c1;have e2:=(uh HFF).2.2.1.c2;have e3:=(uh HFF).2.2.1.c3;obtain⟨Y7,hY7⟩:∃Y,ZF.alloc (.cells #[.int .i64 4,.int .i64 0,.string h.tv.s,.slice (some ⟨g5,0,none⟩) q cap,.int .i64 y.k,.int .i64 y.N,.string y.s,.slice y.a y.len y.cap] 24)=Y:=⟨_,rfl⟩;obtain⟨b7,hb7⟩:∃k,ZF.heap.size=k:=⟨_,rfl⟩;have g:Below ZF.heap.size ZF Y7:=by rw[←hY7];exact(Below.refl _ ZF).alloc (Nat.le_refl _) _
  have n7:Y7.heap[b7]?=some (.cells #[.int .i64 4,.int .i64 0,.string h.tv.s,.slice (some ⟨g5,0,none⟩) q cap,.int .i64 y.k,.int .i64 y.N,.string y.s,.slice y.a y.len y.cap] 24 (0,0)):=by rw[←hY7,←hb7];exact World.alloc_heap_new _ _
  have hcl7:=holdsS_two (((uh HFF).1.below g).mono (D':=(1+3*(n+1)+4)) (by omega) (fun _ h=>h)) ((uh HFF).2.1.below g) (b:=b7) (.inr (by have:=(uh HIF).o;omega)) n7 ⟨#[58,45]⟩ (by decide);replace HIF:=hide ((uh HIF).below g);have HCL:=hide (And.intro hcl7 (uh HFF).2.2.2);clear hcl7 n7 g HFF;go_wp2_with fail
  try rw[hb7]
  try rw[hY7]
  clear hb7 hY7 d0 d1 d2 d3 e0 e1 e2 e3;refine(rcompound_any ⟨#[58,45]⟩ (some ⟨b7,0,none⟩) 2 2 Y7).mono ?_;rintro e Z8 ⟨rfl,g⟩;replace HIF:=hide ((uh HIF).below g);obtain⟨tc,t1,t2,t3,t4⟩:=(uh HCL).1.below g ((1+3*(n+1)+4)+1) (Nat.le_refl _) (by omega);have hqq:=(uh HCL).2;have hl5:=btw_len b hTb.wl (hkk b (by simp)) her [varNd n0] [varNd (n0+1)] (n0+2) (by simp) (by simp)
  have hl6:(h.kids.flatMap code).length≤(code (n:=n+2) ((x,[h,b]):TV×List (Tm (n+1)))).length:=by
   rw[code_succ];have:(code h).length=1+(h.kids.flatMap code).length:=by rw[code_kids,List.length_cons];omega
   simp only[List.flatMap_cons,List.flatMap_nil,List.append_nil,List.length_cons,List.length_append];omega
  have hlen:(code tc).length≤4398046511104:=by
   rw[t4];simp only[List.length_cons,List.length_append,List.length_nil] at hl5⊢;omega
  have hok:okLT tc=true:=by
   have hko:(code h).all okN=true:=okN_of (by rw[←okT_m];exact hkk h (by simp));rw[code_kids,all_cons] at hko;have hko2:=hko.2;have hkl:h.tv.len=h.kids.length:=hTh.1;rw[okLT_code,t4,all_cons,all_app,all_cons,all_app,all_app];exact⟨by simp[okN],⟨by simp[okN];omega,hko2,varN n0,varN (n0+1)⟩,btw_okN b hTb.wl (hkk b (by simp)) her (n0+2) (varN n0) (varN (n0+1))⟩
  have hrn:=grename_any tc 0 Z8 t2 hok hlen (by omega) (by omega);rw[←t1,t4] at hrn;simp only[TV.val,compV] at hrn;have HRN:=hide hrn;clear hrn g hlen hok hl5 hl6 t1 t2 t3 t4 HCL;clear tc;simp only[TV.val,compV];go_wp2_with fail
  refine(uh HRN).mono ?_;rintro e Z9 ⟨y2,rfl,g,hy2⟩;have hz8:=(uh HIF).o;replace HIF:=hide ((uh HIF).below g);clear g HRN;obtain⟨⟨f0,f1,f2,f3⟩,p0,p1,p2,p3⟩:=(uh HIF).zero;obtain⟨lF,bF⟩:=(uh HIF).fin y2;have hfin:=(HoldsS.fromS hy2 (B:=set4 Z9 zb 0 y2) (fun k hS' _=>set4_other Z9 zb 0 y2 (by unfold Mix at hS';omega)) (by rw[set4_size];exact Nat.le_refl _)).mono (S':=fun _=>True) (Nat.le_refl _) (fun _ _=>trivial);rw[show(⟨#[58,45]⟩:ByteArray).toList=[58,45] by decide +kernel,←hqq,←(show h.tv.len=h.kids.length from hTh.1)] at hfin;have HF:=hide (And.intro lF hfin);have z0:=bF.c0;have z1:=bF.c1;have z2:=bF.c2;have z3:=bF.c3;clear lF bF hfin hy2;go_wp2_with fail
  exact bodyPost_ret (v:=.tuple #[y2.val,.int .i64 0]) (by
   have e:(((Z9.setCell ⟨zb,0,none⟩ (.int .i64 y2.k)).setCell ⟨zb,1,none⟩ (.int .i64 y2.N)).setCell ⟨zb,2,none⟩ (.string y2.s)).setCell ⟨zb,3,none⟩ (.slice y2.a y2.len y2.cap)=set4 Z9 zb 0 y2:=rfl;rw[e];simp[results,Tryd.results8,go_sem,TV.val,z0,z1,z2,z3]) rfl ⟨y2,rfl,(uh HF).2,(uh HF).1⟩
end Go.Proofs.YtjbdkbaacjfecaaDoor
