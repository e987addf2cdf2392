import Derived.Test.YtjbdkbaacjfecaaDoorGsW
import Derived.Test.YtjbdkbaacjfecaaDoorGsUs
namespace Go.Proofs.YtjbdkbaacjfecaaDoor
set_option maxHeartbeats 8000000
set_option maxRecDepth 100000
open Go.RowKit Go.Shelf Go.Maps
theorem BwI.keep{W V V':World}{tb sb rb zb:Nat}{x xs xr:TV}(h:BwI W tb sb rb zb x xs xr (.slice none 0 0) [] V)(hb:Below (zb+1) V V'):BwI W tb sb rb zb x xs xr (.slice none 0 0) [] V':=
 have s:=h.o
 ⟨h.g.trans (hb.mono (by omega)),by have:=hb.size;omega,h.bt.below hb (by omega),h.bs.below hb (by omega),h.br.below hb (by omega),h.bz.below hb (by omega),⟨fun r hr=>by simp at hr,by simp,.inl ⟨rfl,rfl⟩⟩⟩
theorem OwnN.push{base:Nat}{W:World}{v:Value}{ns:List Int}(h:OwnN base W v ns)(N:Int)(hl:ns.length≤4398046511104)(hb:base≤W.heap.size):
  ∃v' X,(Builtin.append_ #[47,47] 47 #[v,.slice (some ⟨W.heap.size,0,none⟩) 1 1]).run Tryd.prog (W.alloc (.cells #[.int .i64 N] 2))=.ok v' X∧OwnN base X v' (ns++[N])∧(W.alloc (.cells #[.int .i64 N] 2)).grownBy X v.ownBlock:=by
 obtain⟨i0,hi,hz0,hz1,hz2⟩:=info_parts Tryd.infoN;have hA:Below W.heap.size W (W.alloc (.cells #[.int .i64 N] 2)):=(Below.refl _ W).alloc (Nat.le_refl _) _;have h':OwnN base (W.alloc (.cells #[.int .i64 N] 2)) v ns:=h.kept (fun g hg=>hA.block g (h.lt hg).2);obtain⟨v',X,r1,r2,r3,_⟩:=run_append_own (P:=Tryd.prog) (W.alloc (.cells #[.int .i64 N] 2)) base 47 47 2 i0 _ 1 8 Tryd.underlying47 hi hz0 hz1 hz2 rfl (by omega) v _ _ h' ⟨W.heap.size,0,none⟩ 1 1 [.int .i64 N] rfl one_new one_one (by unfold maxLen;omega) (by omega) (by have:=hA.size;omega);refine⟨v',X,r1,?_,r3⟩;unfold OwnN;rw[List.length_append,show i64s (ns++[N])=i64s ns++[.int .i64 N] by simp[i64s]];exact r2
theorem OwnN.put{base g cap:Nat}{W:World}{ns:List Int}(h:OwnN base W (.slice (some ⟨g,0,none⟩) ns.length cap) ns){j:Nat}(hj:j<ns.length)(M:Int):
  OwnN base (W.setCell ⟨g,j,none⟩ (.int .i64 M)) (.slice (some ⟨g,0,none⟩) (ns.set j M).length cap) (ns.set j M)∧(∃v,W.cell? ⟨g,j,none⟩=some v)∧W.frozen? ⟨g,j,none⟩=false:=by
 rcases h.2 with⟨h0,h1⟩ | ⟨g',cap',cur,h0,h1,h2,h3,h4,h5,h6⟩
 ·cases h0
 simp only[Value.slice.injEq,Option.some.injEq,Addr.mk.injEq,and_true,true_and] at h0;obtain⟨rfl,rfl⟩:=h0;obtain⟨hlt,hk⟩:=Array.getElem?_eq_some_iff.1 h2;have hjs:j<cur.size:=by omega
 refine⟨⟨by simp[i64s],.inr ⟨g,cap,cur.setIfInBounds j (.int .i64 M),rfl,h1,?_,by simpa using h3,h4,by simpa using h5,?_⟩⟩,⟨cur[j],by simp[World.cell?,h2,hjs]⟩,by simp[World.frozen?,h2]⟩
 ·show(W.heap.modify g _)[g]?=_
  rw[Array.getElem?_eq_getElem (by rw[Array.size_modify];exact hlt),Array.getElem_modify_self,hk];rfl
 ·rw[Array.toList_setIfInBounds,List.length_set,List.take_set,h6]
  simp[i64s]
/-- Of what was there only a row's own block may have been turned. -/
structure Only (v:Value) (w W:World):Prop where
 os:W.os=w.os
 tape:W.tape=w.tape
 output:W.output=w.output
 size:W.heap.size=w.heap.size
 other:∀k,v.ownBlock≠some k→W.heap[k]?=w.heap[k]?
theorem Only.refl(v:Value)(w:World):Only v w w:=⟨rfl,rfl,rfl,rfl,fun _ _=>rfl⟩
theorem Only.setCell{v:Value}{w W:World}{g:Nat}(h:Only v w W)(hg:v.ownBlock=some g)(o:Nat)(u:Value):Only v w (W.setCell ⟨g,o,none⟩ u):=
 ⟨h.os,h.tape,h.output,by simpa using h.size,fun k hk=>(Below.heap_setCell _ _ _ _ (fun e=>hk (by rw[hg,e]))).trans (h.other k hk)⟩
theorem OwnN.addr{base len lc:Nat}{W:World}{la:Option Addr}{ns:List Int}(h:OwnN base W (.slice la len lc) ns)(hl:0<ns.length):∃g,la=some ⟨g,0,none⟩:=by
 rcases h.2 with⟨_,h1⟩ | ⟨g,cap,cur,h0,_⟩
 ·omega
 ·simp only[Value.slice.injEq] at h0
  exact⟨g,h0.1⟩
theorem filter_take{vs:List Int}{j:Nat}{N n0:Int}(h:vs[j]?=some N):(vs.take (j+1)).filter (fun M=>decide (n0≤M))=(vs.take j).filter (fun M=>decide (n0≤M))++if n0≤N then[N] else[]:=by
 rw[List.take_add_one,h,List.filter_append]
 congr 1
 by_cases hN:n0≤N <;> simp[hN]
theorem swN_ren(f:Int)(ms:List Int)(c:List Nd):c.flatMap (subN (swN f ms))=renC (swapR ms f) c:=rfl
theorem ren_okN(σ:Int→Int){c:List Nd}(h:c.all okN=true):(renC σ c).all okN=true:=by
 rw[List.all_eq_true] at h⊢;intro y hy;unfold renC at hy;obtain⟨x,hx,hy⟩:=List.mem_flatMap.1 hy;unfold subN at hy
 by_cases hk:x.1=1
 ·rw[if_pos hk] at hy
  simp at hy;subst hy;simp[okN,varNd]
 ·rw[if_neg hk] at hy
  simp at hy;subst hy;exact h y hx
theorem var_of_row{n:Nat}{ts:List (Tm n)}{N:Int}(h:N∈varsC [] (ts.flatMap code)):∃u∈ts,N∈varsC [] (code u):=by
 rcases(steps_mem (ts.flatMap code) [] N).1 h with h | h
 ·cases h
 ·obtain⟨x,hx,h1,h2⟩:=h
  obtain⟨u,hu,hxu⟩:=List.mem_flatMap.1 hx;exact⟨u,hu,(steps_mem (code u) [] N).2 (.inr ⟨x,hxu,h1,h2⟩)⟩
theorem var_free{n:Nat}{ts:List (Tm n)}{n0:Int}(h:freeC ts=n0){u:Tm n}(hu:u∈ts){N:Int}(hN:IsVarOf (code u) N):N<n0:=by
 have:=(free_iff ts n0).1 (by omega);obtain⟨x,hx,h1,h2⟩:=hN;have:=this.2 N ⟨x,List.mem_flatMap.2 ⟨u,hu,hx⟩,h1,h2⟩;omega
theorem rphr_err{n:Nat}(tb tl tr:Tm n)(W:World)(hTb:IsT W.heap.size W tb)(hTl:IsT W.heap.size W tl)(hTr:IsT W.heap.size W tr)(okb:okT tb=true)(okl:okT tl=true)(okr:okT tr=true)(hcl:([tb,tl,tr].flatMap code).length≤1048576)(hn:n≤34359738368){mm:Int}(hm:W.cell? ⟨splitLay_ren.g 1,0,none⟩=some (.int .i64 mm))(hm0:splitLay_ren.g 1<W.heap.size){n0:Int}(hn0:freeC [tb,tl,tr]=n0){er:Int}(her:berr tb=er)(hne:(er != 0)=true):
  Calls Tryd.prog 10 #[tb.tv.val,tl.tv.val,tr.tv.val] W fun e V'=>e=.returned (.tuple #[noTerm.val,.int .i64 er])∧Below W.heap.size W V':=by
 have hlb:(code tb).length+((code tl).length+(code tr).length)≤1048576:=by simpa using hcl
 have hpb:=code_pos tb;have hpl:=code_pos tl;have hpr:=code_pos tr;have hcb:=cnt_le tb hTb.wl;have hn1:=free_le (ts:=[tb,tl,tr]) (fun u hu=>by simp at hu;rcases hu with rfl | rfl | rfl <;> assumption);have hn2:=free_beh [tb,tl,tr];rw[hn0] at hn1 hn2;obtain⟨W4,sb,rb,zb,hW4,h2,h3,h4,hS⟩:=btw_boxes W tb.tv tl.tv tr.tv;have HI:=hide (hS.new W4 (.slice none 0 0) [] (Below.refl _ _) ⟨fun r hr=>by simp at hr,by simp,.inl ⟨rfl,rfl⟩⟩);have H2:=hide h2;have H3:=hide h3;have H4:=hide h4;clear h2 h3 h4 hS;obtain⟨Y1,hY1⟩:∃Y,W4.alloc (.cells #[.int .i64 tb.tv.k,.int .i64 tb.tv.N,.string tb.tv.s,.slice tb.tv.a tb.tv.len tb.tv.cap,.int .i64 tl.tv.k,.int .i64 tl.tv.N,.string tl.tv.s,.slice tl.tv.a tl.tv.len tl.tv.cap,.int .i64 tr.tv.k,.int .i64 tr.tv.N,.string tr.tv.s,.slice tr.tv.a tr.tv.len tr.tv.cap] 24)=Y:=⟨_,rfl⟩;obtain⟨b5,hb5⟩:∃k,W4.heap.size=k:=⟨_,rfl⟩;have g:Below W4.heap.size W4 Y1:=by rw[←hY1];exact(Below.refl _ W4).alloc (Nat.le_refl _) _
 have n5:Y1.heap[b5]?=some (.cells #[.int .i64 tb.tv.k,.int .i64 tb.tv.N,.string tb.tv.s,.slice tb.tv.a tb.tv.len tb.tv.cap,.int .i64 tl.tv.k,.int .i64 tl.tv.N,.string tl.tv.s,.slice tl.tv.a tl.tv.len tl.tv.cap,.int .i64 tr.tv.k,.int .i64 tr.tv.N,.string tr.tv.s,.slice tr.tv.a tr.tv.len tr.tv.cap] 24 (0,0)):=by rw[←hY1,←hb5];exact World.alloc_heap_new _ _
 obtain⟨c0,c1,c2,c3,d0,d1,d2,d3,e0,e1,e2,e3⟩:=(uh HI).cells;replace HI:=hide ((uh HI).below g);have hgY:=(uh HI).g
 have HV:=hide (gVars_row [tb,tl,tr] (some ⟨b5,0,none⟩) 3 3 Y1 rfl (by omega) (fun u hu=>okLT_of (by simp at hu;rcases hu with rfl | rfl | rfl <;> assumption)) (by omega) (.inr ⟨b5,0,rfl,(Array.getElem?_eq_some_iff.1 n5).1,fun j u hu=>by
  match j,hu with
  | 0,hu=>(simp at hu;subst hu;exact⟨⟨cell_of n5 rfl,cell_of n5 rfl,cell_of n5 rfl,cell_of n5 rfl⟩,(hTb.below hgY).mono hgY.size⟩)
  | 1,hu=>(simp at hu;subst hu;exact⟨⟨cell_of n5 rfl,cell_of n5 rfl,cell_of n5 rfl,cell_of n5 rfl⟩,(hTl.below hgY).mono hgY.size⟩)
  | 2,hu=>(simp at hu;subst hu;exact⟨⟨cell_of n5 rfl,cell_of n5 rfl,cell_of n5 rfl,cell_of n5 rfl⟩,(hTr.below hgY).mono hgY.size⟩)
  | j+3,hu=>simp at hu⟩))
 have hvl:=varsC_len [] ([tb,tl,tr].flatMap code);rw[List.length_nil,Nat.zero_add] at hvl
 have hvb:∀N∈varsC [] ([tb,tl,tr].flatMap code),0≤N∧N≤2251799813685248:=fun N hN=>by
  obtain⟨u,hu,huN⟩:=var_of_row hN;have huo:okT u=true:=by simp at hu;rcases hu with rfl | rfl | rfl <;> assumption
  have:=ok_num huo huN;omega
 obtain⟨vs0,hvs0⟩:∃l,varsC [] ([tb,tl,tr].flatMap code)=l:=⟨_,rfl⟩;rw[hvs0] at HV hvl hvb hn2;clear g n5 hgY hvs0;simp only[TV.val];go_enter Tryd.func10,Tryd.ntmps10
 go_upto_region 1 with fail
 try rw[hW4]
 try rw[uh H2,uh H3,uh H4]
 go_wp2_with fail
 try rw[hb5]
 try rw[hY1]
 refine(uh HV).mono ?_;rintro e Z1 ⟨v,rfl,g,hv⟩;obtain⟨va,vc,rfl,hN⟩:=hv.isN (by omega);have HBH:=hide (rbehind_any _ va _ vc Z1 hN hvb);rw[←hn2] at HBH;replace HI:=hide ((uh HI).below g);clear g hv hN HV hY1 hb5 hvl hvb hW4;clear c0 c1 c2 c3 d0 d1 d2 d3 e0 e1 e2 e3;clear Y1;go_wp2_with fail
 refine(uh HBH).mono ?_;rintro e Z2 ⟨rfl,g⟩;replace HI:=hide ((uh HI).below g);clear g HBH hn2
 have HBT:Hid (Calls Tryd.prog 24 #[.agg #[.int .i64 tb.tv.k,.int .i64 tb.tv.N,.string tb.tv.s,.slice tb.tv.a tb.tv.len tb.tv.cap],.agg #[.int .i64 tl.tv.k,.int .i64 tl.tv.N,.string tl.tv.s,.slice tl.tv.a tl.tv.len tl.tv.cap],.agg #[.int .i64 tr.tv.k,.int .i64 tr.tv.N,.string tr.tv.s,.slice tr.tv.a tr.tv.len tr.tv.cap],.int .i64 n0] Z2 fun e U'=> ∃(y:TV) (m:Int),e=.returned (.tuple #[y.val,.int .i64 m,.int .i64 er])∧Below Z2.heap.size Z2 U'∧BtwP (n+1+3*n+4) W.heap.size (cntT tb) er (btwC tb (code tl) (code tr) n0) Z2.heap.size y m U'):=hide (by
  have hg:=(uh HI).g;have:=rbtw_any mm n tb (n+1) W.heap.size tl.tv tr.tv (code tl) (code tr) n0 Z2 (by omega) hg.size (hTb.below hg) okb (by omega) ((((holdsS_of hTl hTl.blk).below hg)).mono (by omega) (fun _ h=>h)) ((((holdsS_of hTr hTr.blk).below hg)).mono (by omega) (fun _ h=>h)) (by omega) (by omega) (by omega) ((hg.cell hm0).trans hm) (Nat.lt_of_lt_of_le hm0 hg.size);rw[her] at this;exact this)
 obtain⟨c0,c1,c2,c3,d0,d1,d2,d3,e0,e1,e2,e3⟩:=(uh HI).cells;go_wp2_with fail
 refine(uh HBT).mono ?_;rintro e X1 ⟨y,m,rfl,g,hP⟩;have hz2:=(uh HI).o.2.2.2.2;have HP:=hide hP;clear hP HBT;clear c0 c1 c2 c3 d0 d1 d2 d3 e0 e1 e2 e3;obtain⟨Y,hY⟩:∃Y,X1.alloc (.cells #[.int .i64 0,.int .i64 0,.string ⟨#[]⟩,.slice none 0 0] 24)=Y:=⟨_,rfl⟩;obtain⟨gb,hgb⟩:∃k,X1.heap.size=k:=⟨_,rfl⟩;have bY:BoxT Y gb noTerm:=by rw[←hY,←hgb];exact BoxT.new X1 noTerm
 have gY:Below X1.heap.size X1 Y:=by rw[←hY];exact(Below.refl _ X1).alloc (Nat.le_refl _) _
 obtain⟨Z,hZ⟩:∃Z,set4 Y gb 0 y=Z:=⟨_,rfl⟩;have gZ:Below X1.heap.size X1 Z:=by rw[←hZ];exact set4_below gY (by omega) 0 y
 have bZ:BoxT Z gb y:=by rw[←hZ];exact set4_box bY y
 obtain⟨r0,r1,r2,r3⟩:=bY.frz;have v0:=bY.c0;have v1:=bY.c1;have v2:=bY.c2;have v3:=bY.c3;unfold set4 at hZ;simp only[Nat.zero_add] at hZ;have gs:=g.size;have hgz:zb<gb:=by omega
 replace HI:=hide (((uh HI).below g).below gZ);have HGB:=hide bZ;have HGX:=hide gZ;clear bY gY gZ bZ g;simp only[TV.val];go_upto_region 3 with fail
 try rw[hgb]
 try rw[hY]
 try rw[hZ]
 clear hY hZ r0 r1 r2 r3 v0 v1 v2 v3;obtain⟨⟨f0,f1,f2,f3⟩,p0,p1,p2,p3⟩:=(uh HI).zero;obtain⟨lF,bF,-⟩:=(uh HI).fin noTerm;have z0:=bF.c0;have z1:=bF.c1;have z2:=bF.c2;have z3:=bF.c3;have HF:=hide lF;clear lF bF;go_wp2_with fail
 exact bodyPost_ret (v:=.tuple #[noTerm.val,.int .i64 er]) (by
  have e:(((Z.setCell ⟨zb,0,none⟩ (.int .i64 0)).setCell ⟨zb,1,none⟩ (.int .i64 0)).setCell ⟨zb,2,none⟩ (.string ⟨#[]⟩)).setCell ⟨zb,3,none⟩ (.slice none 0 0)=set4 Z zb 0 noTerm:=rfl;rw[e];simp[results,Tryd.results10,go_sem,TV.val,z0,z1,z2,z3]) rfl ⟨rfl,uh HF⟩
set_option maxHeartbeats 8000000
set_option maxRecDepth 100000
theorem rphr_large{n:Nat}(tb tl tr:Tm n)(W:World)(hTb:IsT W.heap.size W tb)(hTl:IsT W.heap.size W tl)(hTr:IsT W.heap.size W tr)(okb:okT tb=true)(okl:okT tl=true)(okr:okT tr=true)(hcl:([tb,tl,tr].flatMap code).length≤1048576)(hn:n≤34359738368){mm:Int}(hm:W.cell? ⟨splitLay_ren.g 1,0,none⟩=some (.int .i64 mm))(hm0:splitLay_ren.g 1<W.heap.size){n0:Int}(hn0:freeC [tb,tl,tr]=n0)(her:berr tb=0)(hL:1099511627777<n0+cntT tb):
  Calls Tryd.prog 10 #[tb.tv.val,tl.tv.val,tr.tv.val] W fun e V'=>e=.returned (.tuple #[noTerm.val,.int .i64 9])∧Below W.heap.size W V':=by
 have hlb:(code tb).length+((code tl).length+(code tr).length)≤1048576:=by simpa using hcl
 have hpb:=code_pos tb;have hpl:=code_pos tl;have hpr:=code_pos tr;have hcb:=cnt_le tb hTb.wl;have hn1:=free_le (ts:=[tb,tl,tr]) (fun u hu=>by simp at hu;rcases hu with rfl | rfl | rfl <;> assumption);have hn2:=free_beh [tb,tl,tr];rw[hn0] at hn1 hn2;obtain⟨W4,sb,rb,zb,hW4,h2,h3,h4,hS⟩:=btw_boxes W tb.tv tl.tv tr.tv;have HI:=hide (hS.new W4 (.slice none 0 0) [] (Below.refl _ _) ⟨fun r hr=>by simp at hr,by simp,.inl ⟨rfl,rfl⟩⟩);have H2:=hide h2;have H3:=hide h3;have H4:=hide h4;clear h2 h3 h4 hS;obtain⟨Y1,hY1⟩:∃Y,W4.alloc (.cells #[.int .i64 tb.tv.k,.int .i64 tb.tv.N,.string tb.tv.s,.slice tb.tv.a tb.tv.len tb.tv.cap,.int .i64 tl.tv.k,.int .i64 tl.tv.N,.string tl.tv.s,.slice tl.tv.a tl.tv.len tl.tv.cap,.int .i64 tr.tv.k,.int .i64 tr.tv.N,.string tr.tv.s,.slice tr.tv.a tr.tv.len tr.tv.cap] 24)=Y:=⟨_,rfl⟩;obtain⟨b5,hb5⟩:∃k,W4.heap.size=k:=⟨_,rfl⟩;have g:Below W4.heap.size W4 Y1:=by rw[←hY1];exact(Below.refl _ W4).alloc (Nat.le_refl _) _
 have n5:Y1.heap[b5]?=some (.cells #[.int .i64 tb.tv.k,.int .i64 tb.tv.N,.string tb.tv.s,.slice tb.tv.a tb.tv.len tb.tv.cap,.int .i64 tl.tv.k,.int .i64 tl.tv.N,.string tl.tv.s,.slice tl.tv.a tl.tv.len tl.tv.cap,.int .i64 tr.tv.k,.int .i64 tr.tv.N,.string tr.tv.s,.slice tr.tv.a tr.tv.len tr.tv.cap] 24 (0,0)):=by rw[←hY1,←hb5];exact World.alloc_heap_new _ _
 obtain⟨c0,c1,c2,c3,d0,d1,d2,d3,e0,e1,e2,e3⟩:=(uh HI).cells;replace HI:=hide ((uh HI).below g);have hgY:=(uh HI).g
 have HV:=hide (gVars_row [tb,tl,tr] (some ⟨b5,0,none⟩) 3 3 Y1 rfl (by omega) (fun u hu=>okLT_of (by simp at hu;rcases hu with rfl | rfl | rfl <;> assumption)) (by omega) (.inr ⟨b5,0,rfl,(Array.getElem?_eq_some_iff.1 n5).1,fun j u hu=>by
  match j,hu with
  | 0,hu=>(simp at hu;subst hu;exact⟨⟨cell_of n5 rfl,cell_of n5 rfl,cell_of n5 rfl,cell_of n5 rfl⟩,(hTb.below hgY).mono hgY.size⟩)
  | 1,hu=>(simp at hu;subst hu;exact⟨⟨cell_of n5 rfl,cell_of n5 rfl,cell_of n5 rfl,cell_of n5 rfl⟩,(hTl.below hgY).mono hgY.size⟩)
  | 2,hu=>(simp at hu;subst hu;exact⟨⟨cell_of n5 rfl,cell_of n5 rfl,cell_of n5 rfl,cell_of n5 rfl⟩,(hTr.below hgY).mono hgY.size⟩)
  | j+3,hu=>simp at hu⟩))
 have hvl:=varsC_len [] ([tb,tl,tr].flatMap code);rw[List.length_nil,Nat.zero_add] at hvl
 have hvb:∀N∈varsC [] ([tb,tl,tr].flatMap code),0≤N∧N≤2251799813685248:=fun N hN=>by
  obtain⟨u,hu,huN⟩:=var_of_row hN;have huo:okT u=true:=by simp at hu;rcases hu with rfl | rfl | rfl <;> assumption
  have:=ok_num huo huN;omega
 obtain⟨vs0,hvs0⟩:∃l,varsC [] ([tb,tl,tr].flatMap code)=l:=⟨_,rfl⟩;rw[hvs0] at HV hvl hvb hn2;clear g n5 hgY hvs0;simp only[TV.val];go_enter Tryd.func10,Tryd.ntmps10
 go_upto_region 1 with fail
 try rw[hW4]
 try rw[uh H2,uh H3,uh H4]
 go_wp2_with fail
 try rw[hb5]
 try rw[hY1]
 refine(uh HV).mono ?_;rintro e Z1 ⟨v,rfl,g,hv⟩;obtain⟨va,vc,rfl,hN⟩:=hv.isN (by omega);have HBH:=hide (rbehind_any _ va _ vc Z1 hN hvb);rw[←hn2] at HBH;replace HI:=hide ((uh HI).below g);clear g hv hN HV hY1 hb5 hvl hvb hW4;clear c0 c1 c2 c3 d0 d1 d2 d3 e0 e1 e2 e3;clear Y1;go_wp2_with fail
 refine(uh HBH).mono ?_;rintro e Z2 ⟨rfl,g⟩;replace HI:=hide ((uh HI).below g);clear g HBH hn2
 have HBT:Hid (Calls Tryd.prog 24 #[.agg #[.int .i64 tb.tv.k,.int .i64 tb.tv.N,.string tb.tv.s,.slice tb.tv.a tb.tv.len tb.tv.cap],.agg #[.int .i64 tl.tv.k,.int .i64 tl.tv.N,.string tl.tv.s,.slice tl.tv.a tl.tv.len tl.tv.cap],.agg #[.int .i64 tr.tv.k,.int .i64 tr.tv.N,.string tr.tv.s,.slice tr.tv.a tr.tv.len tr.tv.cap],.int .i64 n0] Z2 fun e U'=> ∃(y:TV) (m:Int),e=.returned (.tuple #[y.val,.int .i64 m,.int .i64 0])∧Below Z2.heap.size Z2 U'∧BtwP (n+1+3*n+4) W.heap.size (cntT tb) 0 (btwC tb (code tl) (code tr) n0) Z2.heap.size y m U'):=hide (by
  have hg:=(uh HI).g;have:=rbtw_any mm n tb (n+1) W.heap.size tl.tv tr.tv (code tl) (code tr) n0 Z2 (by omega) hg.size (hTb.below hg) okb (by omega) ((((holdsS_of hTl hTl.blk).below hg)).mono (by omega) (fun _ h=>h)) ((((holdsS_of hTr hTr.blk).below hg)).mono (by omega) (fun _ h=>h)) (by omega) (by omega) (by omega) ((hg.cell hm0).trans hm) (Nat.lt_of_lt_of_le hm0 hg.size);rw[her] at this;exact this)
 obtain⟨c0,c1,c2,c3,d0,d1,d2,d3,e0,e1,e2,e3⟩:=(uh HI).cells;go_wp2_with fail
 refine(uh HBT).mono ?_;rintro e X1 ⟨y,m,rfl,g,hP⟩;have hz2:=(uh HI).o.2.2.2.2;have HP:=hide hP;clear hP HBT;clear c0 c1 c2 c3 d0 d1 d2 d3 e0 e1 e2 e3;obtain⟨Y,hY⟩:∃Y,X1.alloc (.cells #[.int .i64 0,.int .i64 0,.string ⟨#[]⟩,.slice none 0 0] 24)=Y:=⟨_,rfl⟩;obtain⟨gb,hgb⟩:∃k,X1.heap.size=k:=⟨_,rfl⟩;have bY:BoxT Y gb noTerm:=by rw[←hY,←hgb];exact BoxT.new X1 noTerm
 have gY:Below X1.heap.size X1 Y:=by rw[←hY];exact(Below.refl _ X1).alloc (Nat.le_refl _) _
 obtain⟨Z,hZ⟩:∃Z,set4 Y gb 0 y=Z:=⟨_,rfl⟩;have gZ:Below X1.heap.size X1 Z:=by rw[←hZ];exact set4_below gY (by omega) 0 y
 have bZ:BoxT Z gb y:=by rw[←hZ];exact set4_box bY y
 obtain⟨r0,r1,r2,r3⟩:=bY.frz;have v0:=bY.c0;have v1:=bY.c1;have v2:=bY.c2;have v3:=bY.c3;unfold set4 at hZ;simp only[Nat.zero_add] at hZ;have gs:=g.size;have hgz:zb<gb:=by omega
 replace HI:=hide (((uh HI).below g).below gZ);have HGB:=hide bZ;have HGX:=hide gZ;clear bY gY gZ bZ g;simp only[TV.val];go_upto_region 3 with fail
 try rw[hgb]
 try rw[hY]
 try rw[hZ]
 clear hY hZ r0 r1 r2 r3 v0 v1 v2 v3;obtain⟨c,hcc⟩:∃c,(btwC tb (code tl) (code tr) n0)=c:=⟨_,rfl⟩;have hwl:=hTb.wl;have hce:=cnt_ext (f:=n0) hwl okb (s:=code tl) (r:=code tr) her (fun N hN=>var_free (ts:=[tb,tl,tr]) hn0 (u:=tb) (by simp) hN) (fun N hN=>var_free (ts:=[tb,tl,tr]) hn0 (u:=tl) (by simp) hN) (fun N hN=>var_free (ts:=[tb,tl,tr]) hn0 (u:=tr) (by simp) hN);have hok:c.all okN=true:=by rw[←hcc];exact btw_okN tb hwl okb her n0 (okN_of (by rw[←okT_m];exact okl)) (okN_of (by rw[←okT_m];exact okr))
 have hlen:c.length≤4398046511104:=by
  have:=btw_len tb hwl okb her (code tl) (code tr) n0 hpl hpr;rw[hcc] at this;refine Nat.le_trans this (Nat.le_trans (Nat.mul_le_mul_left _ (show(code tl).length+(code tr).length+9≤1048585 by omega)) ?_);omega
 have hvar:∀N,IsVarOf c N→N<1125899906842624:=fun N hN=>by
  rw[←hcc] at hN
  rcases(btw_vars tb hwl okb _ _ _ N).1 hN with h | h | h | h
  ·have:=var_free (ts:=[tb,tl,tr]) hn0 (u:=tb) (by simp) h;omega
  ·have:=var_free (ts:=[tb,tl,tr]) hn0 (u:=tl) (by simp) h;omega
  ·have:=var_free (ts:=[tb,tl,tr]) hn0 (u:=tr) (by simp) h;omega
  ·omega
 have hfe:=filter_ext n0 c [];rw[hcc] at hce
 have hy:HoldsS (n+1+3*n+4) (Mix W.heap.size (zb+1)) Z y.val c:=by
  have h1:=((uh HP).2.2 rfl).2;rw[hcc] at h1;exact(h1.mono (S':=Mix W.heap.size (zb+1)) (Nat.le_refl _) (fun k hk=>by unfold Mix at hk⊢;omega)).below (uh HGX)
 have HCC:=hide hcc;clear HP HGX hcc;obtain⟨ty,y1,y2,y3,y4⟩:=hy (n+1+3*n+4) (Nat.le_refl _) (by omega);have HTY:=hide (And.intro y2 (And.intro y3 y4));have hyv:y=ty.tv:=tv_inj y1;subst hyv;clear hy y1 y2 y3 y4;obtain⟨Y2,hY2⟩:∃Y,Z.alloc (.cells #[.int .i64 ty.tv.k,.int .i64 ty.tv.N,.string ty.tv.s,.slice ty.tv.a ty.tv.len ty.tv.cap] 24)=Y:=⟨_,rfl⟩;obtain⟨b6,hb6⟩:∃k,Z.heap.size=k:=⟨_,rfl⟩;have g:Below Z.heap.size Z Y2:=by rw[←hY2];exact(Below.refl _ Z).alloc (Nat.le_refl _) _
 have b2:BoxT Y2 b6 ty.tv:=by rw[←hY2,←hb6];exact BoxT.new Z ty.tv
 have HV:=hide (gVars_one ty b6 0 1 Y2 (((uh HTY).1.below g).mono g.size) ⟨b2.c0,b2.c1,b2.c2,b2.c3⟩ (by rw[okLT_code,(uh HTY).2.2];exact hok) (by rw[(uh HTY).2.2];exact hlen));rw[(uh HTY).2.2] at HV;obtain⟨k0,k1,k2,k3⟩:Z.cell? ⟨gb,0,none⟩=_∧Z.cell? ⟨gb,1,none⟩=_∧Z.cell? ⟨gb,2,none⟩=_∧Z.cell? ⟨gb,3,none⟩=_:=⟨(uh HGB).c0,(uh HGB).c1,(uh HGB).c2,(uh HGB).c3⟩;have HL0:=hide g;clear b2;go_wp2_with fail
 try rw[hb6]
 try rw[hY2]
 refine(uh HV).mono ?_;rintro e Z3 ⟨v,rfl,g3,hv⟩;have l:=(uh HL0).trans (g3.mono g.size);clear k0 k1 k2 k3 HV hY2 hb6 g3 g HL0;obtain⟨vs,hvs⟩:∃vs,varsC [] c=vs:=⟨_,rfl⟩;have hvl:=varsC_len [] c;rw[hvs] at hv hvl;have hfe':vs.filter (fun M=>decide (n0≤M))=extV n0 [] c:=by rw[←hvs];exact hfe
 have hvle:vs.length≤4398046511104:=by simp at hvl;omega
 obtain⟨va,vc,rfl,hN⟩:=hv.isN (by omega);replace HI:=hide ((uh HI).below l);replace HTY:=hide (And.intro ((uh HTY).1.below l) (uh HTY).2);replace HGB:=hide ((uh HGB).below l (uh HGB).lt);have hZl:=l.size;have hgz2:=(uh HGB).lt;have HNV:=hide hN;clear hv hN hvl hfe l hvs;obtain⟨base,hbase⟩:∃k,Z3.heap.size=k:=⟨_,rfl⟩;have hbz:zb+1≤base∧gb<base∧base≤Z3.heap.size:=by omega
 go_wp2_with fail
 go_loopw [12,14] (fun lv i wr=> ∃j:Nat,j≤vs.length∧i=.int .i64 j∧Hid (OwnN base wr lv ((vs.take j).filter (fun M=>decide (n0≤M))))∧Hid (Below base Z3 wr)) (fun _ i _=>vs.length-(intOf i).toNat)
 case atStart=>exact⟨0,Nat.zero_le _,rfl,hide (OwnN.nil _ _),hide (Below.refl _ _)⟩
 case round=>
  obtain⟨j,hj,rfl,HO,HB⟩:=hrel
  by_cases hlt:j<vs.length
  ·obtain⟨M,b,off,hM,rfl,c0⟩:=num_at (uh HNV) hlt
   have hbl:b<base:=by
    rcases(uh HNV).2.2 with h | ⟨b',off',h,hb',_⟩
    ·rw[h] at hlt;simp at hlt
    ·simp at h;omega
   have c0':=((uh HB).cell (p:=⟨b,off+j,none⟩) hbl).trans c0;have hft:=filter_take (n0:=n0) hM;have hfl:((vs.take j).filter (fun M=>decide (n0≤M))).length≤4398046511104:=by have:=List.length_filter_le (fun M=>decide (n0≤M)) (vs.take j);have:=List.length_take_le j vs;omega
   have hj1:(j:Int)<vs.length:=by omega
   clear c0 hM
   by_cases hge:n0≤M
   ·rw[if_pos hge] at hft
    obtain⟨v',X,r1,r2,r3⟩:=(uh HO).push M hfl (by have:=(uh HB).size;omega);have hbX:Below base Z3 X:=((uh HB).alloc (by have:=(uh HB).size;omega) (.cells #[.int .i64 M] 2)).grown r3 (by have:=(uh HB).size;simp;omega) (fun k e=>((uh HO).lt e).1);have HO2:=hide r2;rw[←hft] at HO2;have HB2:=hide hbX;clear r2 r3 hbX hft hfl;go_wp2_with (at_builtin;go_must (refine wpList_append_run _ rfl _ _ _ _ rfl r1 ?_))
    exact⟨⟨j+1,by omega,by go_num,HO2,HB2⟩,by simp[intOf];omega⟩
   ·rw[if_neg hge,List.append_nil] at hft
    have HO2:=HO;rw[←hft] at HO2;clear hft hfl;go_wp2_with fail
    exact⟨⟨j+1,by omega,by go_num,HO2,HB⟩,by simp[intOf];omega⟩
  ·have hte:vs.take j=vs:=List.take_of_length_le (by omega)
   rw[hte,hfe'] at HO;have hj2:¬(j:Int)<vs.length:=by omega
   obtain⟨la,lc,rfl,hN⟩:=(uh HO).isN (by omega);have HNL:=hide hN;have hbw:=uh HB;have hws:=hbw.size;replace HI:=hide ((uh HI).keep (hbw.mono (by omega)));replace HTY:=hide (And.intro ((uh HTY).1.below (hbw.mono (by omega))) (uh HTY).2);replace HGB:=hide ((uh HGB).below hbw (by omega));obtain⟨ls,hls⟩:∃ls,extV n0 [] c=ls:=⟨_,rfl⟩;rw[hls] at HNL HO hce⊢;have hlb2:(ls.length:Int)≤4194304:=by omega
   have HLS:=hide hls;clear hbw hte hfe' hls HB hN;have hL2:(1099511627777:Int)<n0+(ls.length:Int):=by omega
   clear hL;obtain⟨⟨f0,f1,f2,f3⟩,p0,p1,p2,p3⟩:=(uh HI).zero;obtain⟨lF,bF,-⟩:=(uh HI).fin noTerm;have z0:=bF.c0;have z1:=bF.c1;have z2:=bF.c2;have z3:=bF.c3;have HF:=hide lF;clear lF bF;go_wp2_with fail
   exact bodyPost_ret (v:=.tuple #[noTerm.val,.int .i64 9]) (by
    have e:(((wr.setCell ⟨zb,0,none⟩ (.int .i64 0)).setCell ⟨zb,1,none⟩ (.int .i64 0)).setCell ⟨zb,2,none⟩ (.string ⟨#[]⟩)).setCell ⟨zb,3,none⟩ (.slice none 0 0)=set4 wr zb 0 noTerm:=rfl;rw[e];simp[results,Tryd.results10,go_sem,TV.val,z0,z1,z2,z3]) rfl ⟨rfl,uh HF⟩
end Go.Proofs.YtjbdkbaacjfecaaDoor
