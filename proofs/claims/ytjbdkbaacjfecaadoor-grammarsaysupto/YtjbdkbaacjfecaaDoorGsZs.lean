import Derived.Test.YtjbdkbaacjfecaaDoorGsXs
namespace Go.Proofs.YtjbdkbaacjfecaaDoor
set_option maxHeartbeats 8000000
set_option maxRecDepth 100000
open Go.RowKit Go.Shelf Go.Maps
theorem rphr_yes{n:Nat}(tb tl tr:Tm n)(W:World)(hTb:IsT W.heap.size W tb)(hTl:IsT W.heap.size W tl)(hTr:IsT W.heap.size W tr)(okb:okT tb=true)(okl:okT tl=true)(okr:okT tr=true)(hcl:([tb,tl,tr].flatMap code).length≤1048576)(hn:n≤34359738368){mm:Int}(hm:W.cell? ⟨splitLay_ren.g 1,0,none⟩=some (.int .i64 mm))(hm0:splitLay_ren.g 1<W.heap.size){n0:Int}(hn0:freeC [tb,tl,tr]=n0)(her:berr tb=0)(hL:n0+cntT tb≤1099511627777):
  Calls Tryd.prog 10 #[tb.tv.val,tl.tv.val,tr.tv.val] W fun e V'=> ∃y:TV,e=.returned (.tuple #[y.val,.int .i64 0])∧HoldsS (n+1+3*n+4+1+1) (fun _=>True) V' y.val (renC (newR n0 (extV n0 [] (btwC tb (code tl) (code tr) n0))) (btwC tb (code tl) (code tr) n0))∧Below W.heap.size W V':=by
 have hlb:(code tb).length+((code tl).length+(code tr).length)≤1048576:=by simpa using hcl
 have hpb:=code_pos tb;have hpl:=code_pos tl;have hpr:=code_pos tr;have hcb:=cnt_le tb hTb.wl;have hn1:=free_le (ts:=[tb,tl,tr]) (fun u hu=>by simp at hu;rcases hu with rfl | rfl | rfl <;> assumption);have hn2:=free_beh [tb,tl,tr];rw[hn0] at hn1 hn2;obtain⟨W4,sb,rb,zb,hW4,h2,h3,h4,hS⟩:=btw_boxes W tb.tv tl.tv tr.tv;have HI:=hide (hS.new W4 (.slice none 0 0) [] (Below.refl _ _) ⟨fun r hr=>by simp at hr,by simp,.inl ⟨rfl,rfl⟩⟩);have H2:=hide h2;have H3:=hide h3;have H4:=hide h4;clear h2 h3 h4 hS;obtain⟨Y1,hY1⟩:∃Y,W4.alloc (.cells #[.int .i64 tb.tv.k,.int .i64 tb.tv.N,.string tb.tv.s,.slice tb.tv.a tb.tv.len tb.tv.cap,.int .i64 tl.tv.k,.int .i64 tl.tv.N,.string tl.tv.s,.slice tl.tv.a tl.tv.len tl.tv.cap,.int .i64 tr.tv.k,.int .i64 tr.tv.N,.string tr.tv.s,.slice tr.tv.a tr.tv.len tr.tv.cap] 24)=Y:=⟨_,rfl⟩;obtain⟨b5,hb5⟩:∃k,W4.heap.size=k:=⟨_,rfl⟩;have g:Below W4.heap.size W4 Y1:=by rw[←hY1];exact(Below.refl _ W4).alloc (Nat.le_refl _) _
 have n5:Y1.heap[b5]?=some (.cells #[.int .i64 tb.tv.k,.int .i64 tb.tv.N,.string tb.tv.s,.slice tb.tv.a tb.tv.len tb.tv.cap,.int .i64 tl.tv.k,.int .i64 tl.tv.N,.string tl.tv.s,.slice tl.tv.a tl.tv.len tl.tv.cap,.int .i64 tr.tv.k,.int .i64 tr.tv.N,.string tr.tv.s,.slice tr.tv.a tr.tv.len tr.tv.cap] 24 (0,0)):=by rw[←hY1,←hb5];exact World.alloc_heap_new _ _
 obtain⟨c0,c1,c2,c3,d0,d1,d2,d3,e0,e1,e2,e3⟩:=(uh HI).cells;replace HI:=hide ((uh HI).below g);have hgY:=(uh HI).g
 have HV:=hide (gVars_row [tb,tl,tr] (some ⟨b5,0,none⟩) 3 3 Y1 rfl (by omega) (fun u hu=>okLT_of (by simp at hu;rcases hu with rfl | rfl | rfl <;> assumption)) (by omega) (.inr ⟨b5,0,rfl,(Array.getElem?_eq_some_iff.1 n5).1,fun j u hu=>by
  match j,hu with
  | 0,hu=>(simp at hu;subst hu;exact⟨⟨cell_of n5 rfl,cell_of n5 rfl,cell_of n5 rfl,cell_of n5 rfl⟩,(hTb.below hgY).mono hgY.size⟩)
  | 1,hu=>(simp at hu;subst hu;exact⟨⟨cell_of n5 rfl,cell_of n5 rfl,cell_of n5 rfl,cell_of n5 rfl⟩,(hTl.below hgY).mono hgY.size⟩)
  | 2,hu=>(simp at hu;subst hu;exact⟨⟨cell_of n5 rfl,cell_of n5 rfl,cell_of n5 rfl,cell_of n5 rfl⟩,(hTr.below hgY).mono hgY.size⟩)
  | j+3,hu=>simp at hu⟩))
 have hvl:=varsC_len [] ([tb,tl,tr].flatMap code);rw[List.length_nil,Nat.zero_add] at hvl
 have hvb:∀N∈varsC [] ([tb,tl,tr].flatMap code),0≤N∧N≤2251799813685248:=fun N hN=>by
  obtain⟨u,hu,huN⟩:=var_of_row hN;have huo:okT u=true:=by simp at hu;rcases hu with rfl | rfl | rfl <;> assumption
  have:=ok_num huo huN;omega
 obtain⟨vs0,hvs0⟩:∃l,varsC [] ([tb,tl,tr].flatMap code)=l:=⟨_,rfl⟩;rw[hvs0] at HV hvl hvb hn2;clear g n5 hgY hvs0;simp only[TV.val];go_enter Tryd.func10,Tryd.ntmps10
 go_upto_region 1 with fail
 try rw[hW4]
 try rw[uh H2,uh H3,uh H4]
 go_wp2_with fail
 try rw[hb5]
 try rw[hY1]
 refine(uh HV).mono ?_;rintro e Z1 ⟨v,rfl,g,hv⟩;obtain⟨va,vc,rfl,hN⟩:=hv.isN (by omega);have HBH:=hide (rbehind_any _ va _ vc Z1 hN hvb);rw[←hn2] at HBH;replace HI:=hide ((uh HI).below g);clear g hv hN HV hY1 hb5 hvl hvb hW4;clear c0 c1 c2 c3 d0 d1 d2 d3 e0 e1 e2 e3;clear Y1;go_wp2_with fail
 refine(uh HBH).mono ?_;rintro e Z2 ⟨rfl,g⟩;replace HI:=hide ((uh HI).below g);clear g HBH hn2
 have HBT:Hid (Calls Tryd.prog 24 #[.agg #[.int .i64 tb.tv.k,.int .i64 tb.tv.N,.string tb.tv.s,.slice tb.tv.a tb.tv.len tb.tv.cap],.agg #[.int .i64 tl.tv.k,.int .i64 tl.tv.N,.string tl.tv.s,.slice tl.tv.a tl.tv.len tl.tv.cap],.agg #[.int .i64 tr.tv.k,.int .i64 tr.tv.N,.string tr.tv.s,.slice tr.tv.a tr.tv.len tr.tv.cap],.int .i64 n0] Z2 fun e U'=> ∃(y:TV) (m:Int),e=.returned (.tuple #[y.val,.int .i64 m,.int .i64 0])∧Below Z2.heap.size Z2 U'∧BtwP (n+1+3*n+4) W.heap.size (cntT tb) 0 (btwC tb (code tl) (code tr) n0) Z2.heap.size y m U'):=hide (by
  have hg:=(uh HI).g;have:=rbtw_any mm n tb (n+1) W.heap.size tl.tv tr.tv (code tl) (code tr) n0 Z2 (by omega) hg.size (hTb.below hg) okb (by omega) ((((holdsS_of hTl hTl.blk).below hg)).mono (by omega) (fun _ h=>h)) ((((holdsS_of hTr hTr.blk).below hg)).mono (by omega) (fun _ h=>h)) (by omega) (by omega) (by omega) ((hg.cell hm0).trans hm) (Nat.lt_of_lt_of_le hm0 hg.size);rw[her] at this;exact this)
 obtain⟨c0,c1,c2,c3,d0,d1,d2,d3,e0,e1,e2,e3⟩:=(uh HI).cells;go_wp2_with fail
 refine(uh HBT).mono ?_;rintro e X1 ⟨y,m,rfl,g,hP⟩;have hz2:=(uh HI).o.2.2.2.2;have HP:=hide hP;clear hP HBT;clear c0 c1 c2 c3 d0 d1 d2 d3 e0 e1 e2 e3;obtain⟨Y,hY⟩:∃Y,X1.alloc (.cells #[.int .i64 0,.int .i64 0,.string ⟨#[]⟩,.slice none 0 0] 24)=Y:=⟨_,rfl⟩;obtain⟨gb,hgb⟩:∃k,X1.heap.size=k:=⟨_,rfl⟩;have bY:BoxT Y gb noTerm:=by rw[←hY,←hgb];exact BoxT.new X1 noTerm
 have gY:Below X1.heap.size X1 Y:=by rw[←hY];exact(Below.refl _ X1).alloc (Nat.le_refl _) _
 obtain⟨Z,hZ⟩:∃Z,set4 Y gb 0 y=Z:=⟨_,rfl⟩;have gZ:Below X1.heap.size X1 Z:=by rw[←hZ];exact set4_below gY (by omega) 0 y
 have bZ:BoxT Z gb y:=by rw[←hZ];exact set4_box bY y
 obtain⟨r0,r1,r2,r3⟩:=bY.frz;have v0:=bY.c0;have v1:=bY.c1;have v2:=bY.c2;have v3:=bY.c3;unfold set4 at hZ;simp only[Nat.zero_add] at hZ;have gs:=g.size;have hgz:zb<gb:=by omega
 replace HI:=hide (((uh HI).below g).below gZ);have HGB:=hide bZ;have HGX:=hide gZ;clear bY gY gZ bZ g;simp only[TV.val];go_upto_region 3 with fail
 try rw[hgb]
 try rw[hY]
 try rw[hZ]
 clear hY hZ r0 r1 r2 r3 v0 v1 v2 v3;obtain⟨c,hcc⟩:∃c,(btwC tb (code tl) (code tr) n0)=c:=⟨_,rfl⟩;have hwl:=hTb.wl;have hce:=cnt_ext (f:=n0) hwl okb (s:=code tl) (r:=code tr) her (fun N hN=>var_free (ts:=[tb,tl,tr]) hn0 (u:=tb) (by simp) hN) (fun N hN=>var_free (ts:=[tb,tl,tr]) hn0 (u:=tl) (by simp) hN) (fun N hN=>var_free (ts:=[tb,tl,tr]) hn0 (u:=tr) (by simp) hN);have hok:c.all okN=true:=by rw[←hcc];exact btw_okN tb hwl okb her n0 (okN_of (by rw[←okT_m];exact okl)) (okN_of (by rw[←okT_m];exact okr))
 have hlen:c.length≤4398046511104:=by
  have:=btw_len tb hwl okb her (code tl) (code tr) n0 hpl hpr;rw[hcc] at this;refine Nat.le_trans this (Nat.le_trans (Nat.mul_le_mul_left _ (show(code tl).length+(code tr).length+9≤1048585 by omega)) ?_);omega
 have hvar:∀N,IsVarOf c N→N<1125899906842624:=fun N hN=>by
  rw[←hcc] at hN
  rcases(btw_vars tb hwl okb _ _ _ N).1 hN with h | h | h | h
  ·have:=var_free (ts:=[tb,tl,tr]) hn0 (u:=tb) (by simp) h;omega
  ·have:=var_free (ts:=[tb,tl,tr]) hn0 (u:=tl) (by simp) h;omega
  ·have:=var_free (ts:=[tb,tl,tr]) hn0 (u:=tr) (by simp) h;omega
  ·omega
 have hfe:=filter_ext n0 c [];rw[hcc] at hce
 have hy:HoldsS (n+1+3*n+4) (Mix W.heap.size (zb+1)) Z y.val c:=by
  have h1:=((uh HP).2.2 rfl).2;rw[hcc] at h1;exact(h1.mono (S':=Mix W.heap.size (zb+1)) (Nat.le_refl _) (fun k hk=>by unfold Mix at hk⊢;omega)).below (uh HGX)
 have HCC:=hide hcc;clear HP HGX hcc;obtain⟨ty,y1,y2,y3,y4⟩:=hy (n+1+3*n+4) (Nat.le_refl _) (by omega);have HTY:=hide (And.intro y2 (And.intro y3 y4));have hyv:y=ty.tv:=tv_inj y1;subst hyv;clear hy y1 y2 y3 y4;obtain⟨Y2,hY2⟩:∃Y,Z.alloc (.cells #[.int .i64 ty.tv.k,.int .i64 ty.tv.N,.string ty.tv.s,.slice ty.tv.a ty.tv.len ty.tv.cap] 24)=Y:=⟨_,rfl⟩;obtain⟨b6,hb6⟩:∃k,Z.heap.size=k:=⟨_,rfl⟩;have g:Below Z.heap.size Z Y2:=by rw[←hY2];exact(Below.refl _ Z).alloc (Nat.le_refl _) _
 have b2:BoxT Y2 b6 ty.tv:=by rw[←hY2,←hb6];exact BoxT.new Z ty.tv
 have HV:=hide (gVars_one ty b6 0 1 Y2 (((uh HTY).1.below g).mono g.size) ⟨b2.c0,b2.c1,b2.c2,b2.c3⟩ (by rw[okLT_code,(uh HTY).2.2];exact hok) (by rw[(uh HTY).2.2];exact hlen));rw[(uh HTY).2.2] at HV;obtain⟨k0,k1,k2,k3⟩:Z.cell? ⟨gb,0,none⟩=_∧Z.cell? ⟨gb,1,none⟩=_∧Z.cell? ⟨gb,2,none⟩=_∧Z.cell? ⟨gb,3,none⟩=_:=⟨(uh HGB).c0,(uh HGB).c1,(uh HGB).c2,(uh HGB).c3⟩;have HL0:=hide g;clear b2;go_wp2_with fail
 try rw[hb6]
 try rw[hY2]
 refine(uh HV).mono ?_;rintro e Z3 ⟨v,rfl,g3,hv⟩;have l:=(uh HL0).trans (g3.mono g.size);clear k0 k1 k2 k3 HV hY2 hb6 g3 g HL0;obtain⟨vs,hvs⟩:∃vs,varsC [] c=vs:=⟨_,rfl⟩;have hvl:=varsC_len [] c;rw[hvs] at hv hvl;have hfe':vs.filter (fun M=>decide (n0≤M))=extV n0 [] c:=by rw[←hvs];exact hfe
 have hvle:vs.length≤4398046511104:=by simp at hvl;omega
 obtain⟨va,vc,rfl,hN⟩:=hv.isN (by omega);replace HI:=hide ((uh HI).below l);replace HTY:=hide (And.intro ((uh HTY).1.below l) (uh HTY).2);replace HGB:=hide ((uh HGB).below l (uh HGB).lt);have hZl:=l.size;have hgz2:=(uh HGB).lt;have HNV:=hide hN;clear hv hN hvl hfe l hvs;obtain⟨base,hbase⟩:∃k,Z3.heap.size=k:=⟨_,rfl⟩;have hbz:zb+1≤base∧gb<base∧base≤Z3.heap.size:=by omega
 go_wp2_with fail
 go_loopw [12,14] (fun lv i wr=> ∃j:Nat,j≤vs.length∧i=.int .i64 j∧Hid (OwnN base wr lv ((vs.take j).filter (fun M=>decide (n0≤M))))∧Hid (Below base Z3 wr)) (fun _ i _=>vs.length-(intOf i).toNat)
 case atStart=>exact⟨0,Nat.zero_le _,rfl,hide (OwnN.nil _ _),hide (Below.refl _ _)⟩
 case round=>
  obtain⟨j,hj,rfl,HO,HB⟩:=hrel
  by_cases hlt:j<vs.length
  ·obtain⟨M,b,off,hM,rfl,c0⟩:=num_at (uh HNV) hlt
   have hbl:b<base:=by
    rcases(uh HNV).2.2 with h | ⟨b',off',h,hb',_⟩
    ·rw[h] at hlt;simp at hlt
    ·simp at h;omega
   have c0':=((uh HB).cell (p:=⟨b,off+j,none⟩) hbl).trans c0;have hft:=filter_take (n0:=n0) hM;have hfl:((vs.take j).filter (fun M=>decide (n0≤M))).length≤4398046511104:=by have:=List.length_filter_le (fun M=>decide (n0≤M)) (vs.take j);have:=List.length_take_le j vs;omega
   have hj1:(j:Int)<vs.length:=by omega
   clear c0 hM
   by_cases hge:n0≤M
   ·rw[if_pos hge] at hft
    obtain⟨v',X,r1,r2,r3⟩:=(uh HO).push M hfl (by have:=(uh HB).size;omega);have hbX:Below base Z3 X:=((uh HB).alloc (by have:=(uh HB).size;omega) (.cells #[.int .i64 M] 2)).grown r3 (by have:=(uh HB).size;simp;omega) (fun k e=>((uh HO).lt e).1);have HO2:=hide r2;rw[←hft] at HO2;have HB2:=hide hbX;clear r2 r3 hbX hft hfl;go_wp2_with (at_builtin;go_must (refine wpList_append_run _ rfl _ _ _ _ rfl r1 ?_))
    exact⟨⟨j+1,by omega,by go_num,HO2,HB2⟩,by simp[intOf];omega⟩
   ·rw[if_neg hge,List.append_nil] at hft
    have HO2:=HO;rw[←hft] at HO2;clear hft hfl;go_wp2_with fail
    exact⟨⟨j+1,by omega,by go_num,HO2,HB⟩,by simp[intOf];omega⟩
  ·have hte:vs.take j=vs:=List.take_of_length_le (by omega)
   rw[hte,hfe'] at HO;have hj2:¬(j:Int)<vs.length:=by omega
   obtain⟨la,lc,rfl,hN⟩:=(uh HO).isN (by omega);have HNL:=hide hN;have hbw:=uh HB;have hws:=hbw.size;replace HI:=hide ((uh HI).keep (hbw.mono (by omega)));replace HTY:=hide (And.intro ((uh HTY).1.below (hbw.mono (by omega))) (uh HTY).2);replace HGB:=hide ((uh HGB).below hbw (by omega));obtain⟨ls,hls⟩:∃ls,extV n0 [] c=ls:=⟨_,rfl⟩;rw[hls] at HNL HO hce⊢;have hlb2:(ls.length:Int)≤4194304:=by omega
   have HLS:=hide hls;clear hbw hte hfe' hls HB hN;have hL2:¬(1099511627777:Int)<n0+(ls.length:Int):=by omega
   clear hL hce;have hsw:=gswap_any ls la ls.length lc 1125899906842624 (by omega) (by omega) (n+1+3*n+4) ty wr (uh HNL) ((uh HTY).1.mono (by omega)) (by rw[okLT_code,(uh HTY).2.2];exact hok);rw[(uh HTY).2.2,swN_ren] at hsw;simp only[TV.val] at hsw;have HSW:=hide hsw;clear hsw;obtain⟨k0,k1,k2,k3⟩:wr.cell? ⟨gb,0,none⟩=_∧wr.cell? ⟨gb,1,none⟩=_∧wr.cell? ⟨gb,2,none⟩=_∧wr.cell? ⟨gb,3,none⟩=_:=⟨(uh HGB).c0,(uh HGB).c1,(uh HGB).c2,(uh HGB).c3⟩;go_wp2_with fail
   refine(uh HSW).mono ?_;rintro e Z4 ⟨x1,rfl,g,hx1⟩;clear k0 k1 k2 k3 HSW;have hgs:=g.size;have hog:∀k,(Value.slice la ls.length lc).ownBlock=some k→base≤k∧k<wr.heap.size:=fun k hk=>(uh HO).lt hk;replace HO:=hide ((uh HO).kept (fun k hk=>g.block k (hog k hk).2));replace HI:=hide ((uh HI).below g);replace HGB:=hide ((uh HGB).below g (uh HGB).lt);clear g HTY HNL;obtain⟨Z5,hZ5⟩:∃Z,set4 Z4 gb 0 x1=Z:=⟨_,rfl⟩;have oZ:∀k,k≠gb→Z5.heap[k]?=Z4.heap[k]?:=fun k hk=>by rw[←hZ5];exact set4_other _ _ _ _ hk
   have sZ:Z5.heap.size=Z4.heap.size:=by rw[←hZ5,set4_size]
   have g:Below (zb+1) Z4 Z5:=by rw[←hZ5];exact set4_below (Below.refl _ _) (by omega) 0 x1
   have bZ5:BoxT Z5 gb x1:=by rw[←hZ5];exact set4_box (uh HGB) x1
   have hx5:=HoldsS.fromS hx1 (fun k hS _=>oZ k (by unfold Mix at hS;omega)) (by rw[sZ];exact Nat.le_refl _);obtain⟨f0,f1,f2,f3⟩:=(uh HGB).frz;have p0:=(uh HGB).c0;have p1:=(uh HGB).c1;have p2:=(uh HGB).c2;have p3:=(uh HGB).c3;replace HI:=hide ((uh HI).keep g);replace HO:=hide ((uh HO).kept (fun k hk=>oZ k (by have:=hog k hk;omega)));unfold set4 at hZ5;simp only[Nat.zero_add] at hZ5;obtain⟨t5,y1,y2,y3,y4⟩:=hx5 ((n+1+3*n+4)+1) (Nat.le_refl _) (by omega);have hyv:x1=t5.tv:=tv_inj y1;have HT5:=hide (And.intro y2 (And.intro y3 y4));have HB5:=hide bZ5;clear g hx1 hx5 y1 y2 y3 y4 bZ5 HGB oZ;subst hyv;go_upto_region 15 with fail
   try rw[hZ5]
   clear hZ5 f0 f1 f2 f3 p0 p1 p2 p3;go_wp2_with fail
   obtain⟨wo,rfl⟩:∃wo,wo=wr:=⟨wr,rfl⟩
   go_loopw [15] (fun i w2=> ∃j:Nat,j≤ls.length∧i=.int .i64 j∧Hid (∃ms:List Int,OwnN base w2 (.slice la ls.length lc) ms∧ms.length=ls.length∧∀i:Nat,i<j→ms[i]?=some (1125899906842624+(i:Int)))∧Hid (Only (.slice la ls.length lc) Z5 w2)) (fun i _=>ls.length-(intOf i).toNat)
   case atStart=>exact⟨0,Nat.zero_le _,rfl,hide ⟨ls,uh HO,rfl,fun i hi=>by omega⟩,hide (Only.refl _ _)⟩
   case round=>
    obtain⟨j,hj,rfl,HM,HOnly⟩:=hrel
    by_cases hlt:j<ls.length
    ·obtain⟨ms,hm1,hm2,hm3⟩:=uh HM
     obtain⟨g5,rfl⟩:∃g5,la=some ⟨g5,0,none⟩:=hm1.addr (by omega);rw[←hm2] at hm1;obtain⟨hp1,⟨v5,hp2⟩,hp3⟩:=hm1.put (j:=j) (by omega) (1125899906842624+(j:Int));have hon:=(uh HOnly).setCell (g:=g5) rfl j (.int .i64 (1125899906842624+(j:Int)))
     have HM2:Hid (∃ms:List Int,OwnN base (wr.setCell ⟨g5,j,none⟩ (.int .i64 (1125899906842624+(j:Int)))) (.slice (some ⟨g5,0,none⟩) ls.length lc) ms∧ms.length=ls.length∧∀i:Nat,i<j+1→ms[i]?=some (1125899906842624+(i:Int))):=hide ⟨ms.set j (1125899906842624+(j:Int)),by rw[List.length_set,hm2] at hp1;exact hp1,by rw[List.length_set];exact hm2,fun i hi=>by
      by_cases hij:i=j
      ·subst hij;rw[List.getElem?_set_self (by omega)]
      ·rw[List.getElem?_set_ne (by omega)];exact hm3 i (by omega)⟩
     have HON:=hide hon;have hj1:(j:Int)<ls.length:=by omega
     have hjb:(j:Int)≤4194304:=by omega
     clear hp1 hm1 hm3 hon HM HOnly;go_wp2_with fail
     exact⟨⟨j+1,by omega,by go_num,HM2,HON⟩,by simp[intOf];omega⟩
    ·obtain⟨ms,hm1,hm2,hm3⟩:=uh HM
     have hms:ms=(List.range ls.length).map fun i:Nat=>(1125899906842624:Int)+(i:Int):=by
      refine List.ext_getElem? fun i=>?_
      by_cases hi:i<ls.length
      ·rw[hm3 i (by omega)];simp[hi]
      ·rw[List.getElem?_eq_none (by omega),List.getElem?_eq_none (by simp;omega)]
     have hj2:¬(j:Int)<ls.length:=by omega
     have hon:=uh HOnly;obtain⟨la',lc',hle,hNm⟩:=hm1.isN (by omega);have hla:la'=la:=by rw[hm2] at hle;simp at hle;exact hle.1.symm
     subst hla;rw[hm2] at hNm;have hsz:=hon.size;have hsame:∀k,k<base∨wo.heap.size≤k→wr.heap[k]?=Z5.heap[k]?:=fun k hk=>hon.other k (fun e=>by have:=hog k e;omega);have hb2:Below base Z5 wr:=⟨hon.os,hon.tape,hon.output,by omega,fun k hk=>hsame k (.inl hk)⟩
     have hT2:IsT wr.heap.size wr t5:=by
      have h1:=(uh HT5).1.fromS (B:=wr) (S:=Mix 0 wo.heap.size) (fun k hk=>hsame k (by unfold Mix at hk;omega)) (uh HT5).2.1;rw[←hsz] at h1;exact h1
     have hs2:=gswap_any ms la' ls.length lc n0 (by omega) (by omega) ((n+1+3*n+4)+1) t5 wr hNm hT2 (by rw[okLT_code,(uh HT5).2.2];exact ren_okN _ hok);have hts:=two_swaps (f0:=n0) (a:=1125899906842624) (c:=c) hvar;rw[uh HLS,←hms] at hts;rw[(uh HT5).2.2,swN_ren,hts] at hs2;simp only[TV.val] at hs2;have HS2:=hide hs2;replace HI:=hide ((uh HI).keep (hb2.mono (by omega)));have hB5:=(uh HB5).below hb2 (by omega);have k0:=hB5.c0;have k1:=hB5.c1;have k2:=hB5.c2;have k3:=hB5.c3;clear hs2 hts hms hm1 hm3 hNm hon hb2 hT2 HM HOnly hB5 hle hok hvar;go_wp2_with fail
     skip;refine(uh HS2).mono ?_;rintro e Z9 ⟨x9,rfl,g,hx9⟩;have ho9:=(uh HI).o;replace HI:=hide ((uh HI).below g);obtain⟨⟨f0,f1,f2,f3⟩,p0,p1,p2,p3⟩:=(uh HI).zero;obtain⟨lF,bF,-⟩:=(uh HI).fin x9;have hfin:=(HoldsS.fromS hx9 (B:=set4 Z9 zb 0 x9) (fun k hS' _=>set4_other Z9 zb 0 x9 (by unfold Mix at hS';omega)) (by rw[set4_size];exact Nat.le_refl _)).mono (S':=fun _=>True) (Nat.le_refl _) (fun _ _=>trivial);rw[←uh HLS,←uh HCC] at hfin;have HF:=hide (And.intro lF hfin);have z0:=bF.c0;have z1:=bF.c1;have z2:=bF.c2;have z3:=bF.c3;clear lF bF hfin hx9 g k0 k1 k2 k3;go_wp2_with fail
     exact bodyPost_ret (v:=.tuple #[x9.val,.int .i64 0]) (by
      have e:(((Z9.setCell ⟨zb,0,none⟩ (.int .i64 x9.k)).setCell ⟨zb,1,none⟩ (.int .i64 x9.N)).setCell ⟨zb,2,none⟩ (.string x9.s)).setCell ⟨zb,3,none⟩ (.slice x9.a x9.len x9.cap)=set4 Z9 zb 0 x9:=rfl;rw[e];simp[results,Tryd.results10,go_sem,TV.val,z0,z1,z2,z3]) rfl ⟨x9,rfl,(uh HF).2,(uh HF).1⟩
theorem no_S(D:Nat)(hD:1≤D)(W:World):HoldsS D (fun _=>True) W noTerm.val noC:=(no_holds D 0 hD W).holdsS.mono (Nat.le_refl _) (fun _ _=>trivial)
theorem rtrans_any{n:Nat}(t:Tm (n+2))(W:World)(hT:IsT W.heap.size W t)(ok:okT t=true)(hcl:(code t).length≤1048576)(hn:n≤34359738368){mm:Int}(hm:W.cell? ⟨splitLay_ren.g 1,0,none⟩=some (.int .i64 mm))(hm0:splitLay_ren.g 1<W.heap.size):
  Calls Tryd.prog 8 #[t.tv.val] W fun e V'=> ∃y:TV,e=.returned (.tuple #[y.val,.int .i64 (trE t)])∧(∃n0,(∀N,IsVarOf (code t) N→N<n0)∧HoldsS (3*n+10) (fun _=>True) V' y.val (trC t n0))∧Below W.heap.size W V':=by
 have hlt:∀N,IsVarOf (code t) N→N<behC (varsC [] (code t)):=fun N hN=>beh_lt _ N ((steps_mem (code t) [] N).2 (.inr hN));have hC:trE t≠0→∀n0,trC t n0=noC:=fun h n0=>by unfold trC;rw[if_neg h]
 have bad:∀(E:Int),trE t=E→E≠0→∀(e:Ending) (V':World),e=.returned (.tuple #[noTerm.val,.int .i64 E])∧Below W.heap.size W V'→∃y:TV,e=.returned (.tuple #[y.val,.int .i64 (trE t)])∧(∃n0,(∀N,IsVarOf (code t) N→N<n0)∧HoldsS (3*n+10) (fun _=>True) V' y.val (trC t n0))∧Below W.heap.size W V':=fun E hE hE0 e V' h=>
  ⟨noTerm,by rw[hE];exact h.1,⟨_,hlt,by rw[hC (by rw[hE];exact hE0)];exact no_S _ (by omega) V'⟩,h.2⟩
 cases hx:isB t.tv ruleL 2 with
 | false=>
  have e:trE t=1:=by unfold trE;rw[if_pos ok,if_neg (by rw[hx];simp)]
  exact(rtr_not t.tv W hx).mono fun e' V' h=>bad 1 e (by decide) e' V' h
 | true=>
  obtain⟨x,kids⟩:=t;have hl:x.len=2:=by have:=isB_len hx;simp only[Tm.tv] at this;omega
  obtain⟨h,b,rfl⟩:=two_kids hT.wl hl;have hkk:=(ok_kids ok).2;have eK:trE (n:=n+1) ((x,[h,b]):TV×List (Tm (n+1)))=if headE h.tv=0 then berr b else headE h.tv:=by unfold trE;rw[if_pos ok,if_pos hx];rfl
  have hhok:=ok_kids (x:=h.tv) (kids:=h.kids) (show okT (n:=n+1) h=true from hkk h (by simp));have hl50:h.tv.len≤50:=by rcases wm_cases hhok.1 with⟨_,_,_,_,h⟩ | ⟨_,h⟩ | ⟨_,_,_,h⟩ <;> omega
  by_cases hk:h.tv.k=3∨h.tv.k=4
  ·have hE:headE h.tv=if 50<h.tv.len+2 then 9 else if resB h.tv.s.toList (h.tv.len+2)=true then 7 else 0:=by unfold headE;rw[if_pos hk,ext_order]
   by_cases h50:50<h.tv.len+2
   ·rw[if_pos h50] at hE
    rw[hE,if_neg (by decide)] at eK;exact(rtr_large x h b W hT hx hk hl50 (by omega)).mono fun e' V' q=>bad 9 eK (by decide) e' V' q
   ·rw[if_neg h50] at hE
    cases hres:resB h.tv.s.toList ((h.tv.len:Int)+2) with
    | true=>
     rw[if_pos hres] at hE;rw[hE,if_neg (by decide)] at eK;exact(rtr_clause x h b W hT hx hk hl50 (by omega) hm hm0 hres).mono fun e' V' q=>bad 7 eK (by decide) e' V' q
    | false=>
     rw[if_neg (by rw[hres];simp)] at hE;rw[hE,if_pos rfl] at eK
     by_cases hb:berr b=0
     ·refine(rtr_yes x h b W hT hx hk hl50 (by omega) hm hm0 hres ok (by omega) hn rfl hb).mono fun e' V' q=>?_
      obtain⟨y,e1,e2,e3⟩:=q;refine⟨y,by rw[eK,hb];exact e1,⟨_,hlt,?_⟩,e3⟩;unfold trC;rw[if_pos (by rw[eK];exact hb)];exact e2.mono (by omega) (fun _ h=>h)
     ·exact(rtr_body x h b W hT hx hk hl50 (by omega) hm hm0 hres ok (by omega) hn rfl rfl (by simp[hb])).mono fun e' V' q=>bad (berr b) eK hb e' V' q
  ·have hE:headE h.tv=7:=by unfold headE;rw[if_neg hk]
   rw[hE,if_neg (by decide)] at eK;have k3:¬h.tv.k=3:=fun e=>hk (.inl e);have k4:¬h.tv.k=4:=fun e=>hk (.inr e);exact(rtr_kind x h b W hT hx (by simp[k3]) (by simp[k4])).mono fun e' V' q=>bad 7 eK (by decide) e' V' q
theorem rphr_any{n:Nat}(tb tl tr:Tm n)(W:World)(hTb:IsT W.heap.size W tb)(hTl:IsT W.heap.size W tl)(hTr:IsT W.heap.size W tr)(okb:okT tb=true)(okl:okT tl=true)(okr:okT tr=true)(hcl:([tb,tl,tr].flatMap code).length≤1048576)(hn:n≤34359738368){mm:Int}(hm:W.cell? ⟨splitLay_ren.g 1,0,none⟩=some (.int .i64 mm))(hm0:splitLay_ren.g 1<W.heap.size):
  Calls Tryd.prog 10 #[tb.tv.val,tl.tv.val,tr.tv.val] W fun e V'=> ∃y:TV,e=.returned (.tuple #[y.val,.int .i64 (phrE tb tl tr)])∧HoldsS (4*n+7) (fun _=>True) V' y.val (phrC tb tl tr)∧Below W.heap.size W V':=by
 have ok:okT tb=true∧okT tl=true∧okT tr=true:=⟨okb,okl,okr⟩
 have bad:∀(E:Int),phrE tb tl tr=E→E≠0→∀(e:Ending) (V':World),e=.returned (.tuple #[noTerm.val,.int .i64 E])∧Below W.heap.size W V'→∃y:TV,e=.returned (.tuple #[y.val,.int .i64 (phrE tb tl tr)])∧HoldsS (4*n+7) (fun _=>True) V' y.val (phrC tb tl tr)∧Below W.heap.size W V':=fun E hE hE0 e V' h=>
  ⟨noTerm,by rw[hE];exact h.1,by unfold phrC;rw[hE,if_neg hE0];exact no_S _ (by omega) V',h.2⟩
 by_cases he:berr tb=0
 ·by_cases hL:1099511627777<freeC [tb,tl,tr]+cntT tb
  ·have e:phrE tb tl tr=9:=by unfold phrE;rw[if_pos ok,if_pos he,if_pos hL]
   exact(rphr_large tb tl tr W hTb hTl hTr okb okl okr hcl hn hm hm0 rfl he hL).mono fun e' V' h=>bad 9 e (by decide) e' V' h
  ·have e:phrE tb tl tr=0:=by unfold phrE;rw[if_pos ok,if_pos he,if_neg hL]
   refine(rphr_yes tb tl tr W hTb hTl hTr okb okl okr hcl hn hm hm0 rfl he (by omega)).mono fun e' V' h=>?_;obtain⟨y,e1,e2,e3⟩:=h;refine⟨y,by rw[e];exact e1,?_,e3⟩;unfold phrC;rw[e,if_pos rfl];exact e2.mono (by omega) (fun _ h=>h)
 ·have e:phrE tb tl tr=berr tb:=by unfold phrE;rw[if_pos ok,if_neg he]
  exact(rphr_err tb tl tr W hTb hTl hTr okb okl okr hcl hn hm hm0 rfl rfl (by simp[he])).mono fun e' V' h=>bad (berr tb) e he e' V' h
end Go.Proofs.YtjbdkbaacjfecaaDoor
