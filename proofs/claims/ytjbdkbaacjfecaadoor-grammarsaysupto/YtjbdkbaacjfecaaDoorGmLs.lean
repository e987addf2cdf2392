import Derived.Test.YtjbdkbaacjfecaaDoorTks
import Derived.Test.YtjbdkbaacjfecaaDoorGmK
import Derived.Test.YtjbdkbaacjfecaaDoorGmFs
import Derived.Test.YtjbdkbaacjfecaaDoorOs
namespace Go.Proofs.YtjbdkbaacjfecaaDoor
set_option maxHeartbeats 8000000
set_option maxRecDepth 100000
open Go.RowKit Go.Shelf
theorem cell_of{W:World}{k j:Nat}{arr:Array Value}{t:TypeId}{v:Value}(h:W.heap[k]?=some (.cells arr t (0,0)))(hj:arr[j]?=some v):W.cell? ⟨k,j,none⟩=some v:=by simp[World.cell?,h,hj]
theorem both_any{B wb Bk off pf1 pt1 pf2 pt2:Nat}{V:World}{nx:Int}{lf pl1 pl2:Value}{S:List Task}{x y1 y2 a b:TV}(hw:WrB V wb nx lf)(hS:StkK B V lf S)(hl:S.length+2≤1099511627776)(hB:B≤V.heap.size)(hwB:B≤wb)(hBk:Bk<B)
  (hxa:x.a=some ⟨Bk,off,none⟩) (hxl:x.len=2) (ha:cellsAt V Bk off a) (hb:cellsAt V Bk (off+4) b):
  Calls Tryd.prog 55 #[.pointer (some ⟨wb,0,none⟩),x.val,.agg #[.int .i64 y1.k,.int .i64 y1.N,.string y1.s,.slice y1.a y1.len y1.cap,.pointer (some ⟨pf1,0,none⟩),.pointer (some ⟨pt1,0,none⟩),pl1],.agg #[.int .i64 y2.k,.int .i64 y2.N,.string y2.s,.slice y2.a y2.len y2.cap,.pointer (some ⟨pf2,0,none⟩),.pointer (some ⟨pt2,0,none⟩),pl2]] V fun e V'=> ∃R lf',e=.returned (compV x.s (some ⟨R,0,none⟩) 2 2).val∧V.heap.size≤R∧Row4 V' R 2∧WrB V' wb nx lf'∧StkK B V' lf' (S++[⟨b,pf2,pt2,⟨R,4,none⟩⟩]++[⟨a,pf1,pt1,⟨R,0,none⟩⟩])∧FrG B (fun k=>k=wb) V V'∧GrB (fun k=>k=wb∨lf.ownBlock=some k) V.heap.size V V':=by
 obtain⟨W4,hW4⟩:∃W4,(((V.alloc (.cells #[.int .i64 x.k,.int .i64 x.N,.string x.s,.slice x.a x.len x.cap] 24)).alloc (.cells #[.int .i64 y1.k,.int .i64 y1.N,.string y1.s,.slice y1.a y1.len y1.cap,.pointer (some ⟨pf1,0,none⟩),.pointer (some ⟨pt1,0,none⟩),pl1] 65)).alloc (.cells #[.int .i64 y2.k,.int .i64 y2.N,.string y2.s,.slice y2.a y2.len y2.cap,.pointer (some ⟨pf2,0,none⟩),.pointer (some ⟨pt2,0,none⟩),pl2] 65)).alloc (.cells #[.int .i64 0,.int .i64 0,.string ⟨#[]⟩,.slice none 0 0] 24)=W4:=⟨_,rfl⟩;have hs4:W4.heap.size=V.heap.size+4:=by rw[←hW4];simp
 have g4:Below V.heap.size V W4:=by rw[←hW4];exact((((Below.refl _ V).alloc (Nat.le_refl _) _).alloc (by simp) _).alloc (by simp;omega) _).alloc (by simp;omega) _
 have b0:W4.heap[V.heap.size]?=some (.cells #[.int .i64 x.k,.int .i64 x.N,.string x.s,.slice x.a x.len x.cap] 24 (0,0)):=by rw[←hW4];exact(((BoxT.new V x).alloc _).alloc _).alloc _
 have b1:W4.heap[V.heap.size+1]?=some (.cells #[.int .i64 y1.k,.int .i64 y1.N,.string y1.s,.slice y1.a y1.len y1.cap,.pointer (some ⟨pf1,0,none⟩),.pointer (some ⟨pt1,0,none⟩),pl1] 65 (0,0)):=by
  rw[←hW4];have h0:=World.alloc_heap_new (V.alloc (.cells #[.int .i64 x.k,.int .i64 x.N,.string x.s,.slice x.a x.len x.cap] 24)) (.cells #[.int .i64 y1.k,.int .i64 y1.N,.string y1.s,.slice y1.a y1.len y1.cap,.pointer (some ⟨pf1,0,none⟩),.pointer (some ⟨pt1,0,none⟩),pl1] 65);rw[World.size_alloc] at h0;refine(Below.heap_alloc _ _ _ (by simp)).trans ((Below.heap_alloc _ _ _ (by simp)).trans h0)
 have b2:W4.heap[V.heap.size+1+1]?=some (.cells #[.int .i64 y2.k,.int .i64 y2.N,.string y2.s,.slice y2.a y2.len y2.cap,.pointer (some ⟨pf2,0,none⟩),.pointer (some ⟨pt2,0,none⟩),pl2] 65 (0,0)):=by
  rw[←hW4];have h0:=World.alloc_heap_new ((V.alloc (.cells #[.int .i64 x.k,.int .i64 x.N,.string x.s,.slice x.a x.len x.cap] 24)).alloc (.cells #[.int .i64 y1.k,.int .i64 y1.N,.string y1.s,.slice y1.a y1.len y1.cap,.pointer (some ⟨pf1,0,none⟩),.pointer (some ⟨pt1,0,none⟩),pl1] 65)) (.cells #[.int .i64 y2.k,.int .i64 y2.N,.string y2.s,.slice y2.a y2.len y2.cap,.pointer (some ⟨pf2,0,none⟩),.pointer (some ⟨pt2,0,none⟩),pl2] 65);rw[World.size_alloc,World.size_alloc] at h0;exact(Below.heap_alloc _ _ _ (by simp)).trans h0
 have b3:W4.heap[V.heap.size+1+1+1]?=some (.cells #[.int .i64 0,.int .i64 0,.string ⟨#[]⟩,.slice none 0 0] 24 (0,0)):=by
  rw[←hW4];have h0:=World.alloc_heap_new (((V.alloc (.cells #[.int .i64 x.k,.int .i64 x.N,.string x.s,.slice x.a x.len x.cap] 24)).alloc (.cells #[.int .i64 y1.k,.int .i64 y1.N,.string y1.s,.slice y1.a y1.len y1.cap,.pointer (some ⟨pf1,0,none⟩),.pointer (some ⟨pt1,0,none⟩),pl1] 65)).alloc (.cells #[.int .i64 y2.k,.int .i64 y2.N,.string y2.s,.slice y2.a y2.len y2.cap,.pointer (some ⟨pf2,0,none⟩),.pointer (some ⟨pt2,0,none⟩),pl2] 65)) (.cells #[.int .i64 0,.int .i64 0,.string ⟨#[]⟩,.slice none 0 0] 24);rw[World.size_alloc,World.size_alloc,World.size_alloc] at h0;exact h0
 obtain⟨R,hR⟩:∃R,W4.heap.size=R:=⟨_,rfl⟩;have hm:=make_terms 2 (by omega) W4;obtain⟨W5,hW5⟩:∃W5,W4.alloc (.cells (madeCells #[.int .i64 0,.int .i64 0,.string ⟨#[]⟩,.slice none 0 0] (2*4)) 24)=W5:=⟨_,rfl⟩;rw[hR,hW5] at hm;have hm2:(Instr.makeSlice 22 (.int .i64 2) (.int .i64 2)).run Tryd.prog W4=.ok (.slice (some ⟨R,0,none⟩) 2 2) W5:=hm;clear hm;have g5:Below W4.heap.size W4 W5:=by rw[←hW5];exact(Below.refl _ W4).alloc (Nat.le_refl _) _
 have hs5:W5.heap.size=R+1:=by rw[←hW5,←hR];simp
 have bR:Row4 W5 R 2:=⟨_,by rw[←hW5,←hR];exact World.alloc_heap_new W4 _,by simp[madeCells]⟩;have hown:∀g,lf.ownBlock=some g→B≤g∧g<V.heap.size:=fun g hg=>⟨(StkW.lt hS hg).1,(StkW.lt hS hg).2.1⟩;have hwl:=hw.lt
 have hcell2:∀U:World,(∀k,k<W5.heap.size→(V.heap.size≤k∨k<B)→U.heap[k]?=W5.heap[k]?)→((U.cell? ⟨V.heap.size,3,none⟩=some (.slice (some ⟨Bk,off,none⟩) 2 x.cap)∧U.cell? ⟨Bk,off+4,none⟩=some (.int .i64 b.k)∧U.cell? ⟨Bk,off+4+1,none⟩=some (.int .i64 b.N)∧U.cell? ⟨Bk,off+4+2,none⟩=some (.string b.s)∧U.cell? ⟨Bk,off+4+3,none⟩=some (.slice b.a b.len b.cap)∧U.cell? ⟨V.heap.size+1+1,4,none⟩=some (.pointer (some ⟨pf2,0,none⟩))∧U.cell? ⟨V.heap.size+1+1,5,none⟩=some (.pointer (some ⟨pt2,0,none⟩)))∧(U.cell? ⟨V.heap.size,3,none⟩=some (.slice (some ⟨Bk,off,none⟩) 2 x.cap)∧U.cell? ⟨Bk,off,none⟩=some (.int .i64 a.k)∧U.cell? ⟨Bk,off+1,none⟩=some (.int .i64 a.N)∧U.cell? ⟨Bk,off+2,none⟩=some (.string a.s)∧U.cell? ⟨Bk,off+3,none⟩=some (.slice a.a a.len a.cap)∧U.cell? ⟨V.heap.size+1,4,none⟩=some (.pointer (some ⟨pf1,0,none⟩))∧U.cell? ⟨V.heap.size+1,5,none⟩=some (.pointer (some ⟨pt1,0,none⟩))))∧U.cell? ⟨V.heap.size,2,none⟩=some (.string x.s)∧BoxT U (V.heap.size+1+1+1) noTerm∧Row4 U R 2:=fun U hU=>by
  have e0:=((hU V.heap.size (by omega) (.inl (Nat.le_refl _))).trans (g5.block _ (by omega))).trans b0;have e1:=((hU (V.heap.size+1) (by omega) (.inl (by omega))).trans (g5.block _ (by omega))).trans b1;have e2:=((hU (V.heap.size+1+1) (by omega) (.inl (by omega))).trans (g5.block _ (by omega))).trans b2;have e3:=((hU (V.heap.size+1+1+1) (by omega) (.inl (by omega))).trans (g5.block _ (by omega))).trans b3;have eB:U.heap[Bk]?=V.heap[Bk]?:=(hU Bk (by omega) (.inr hBk)).trans ((g5.block _ (by omega)).trans (g4.block _ (by omega)));have ca:=ha.kept eB;have cb:=hb.kept eB;rw[hxa,hxl] at e0;exact⟨⟨⟨cell_of e0 rfl,cb.1,cb.2.1,cb.2.2.1,cb.2.2.2,cell_of e2 rfl,cell_of e2 rfl⟩,cell_of e0 rfl,ca.1,ca.2.1,ca.2.2.1,ca.2.2.2,cell_of e1 rfl,cell_of e1 rfl⟩,cell_of e0 rfl,e3,bR.kept (hU R (by omega) (.inl (by omega)))⟩
 obtain⟨D1,hD1⟩:∃D1,W5.drew=D1:=⟨_,rfl⟩;have hDB1:Below W5.heap.size W5 D1:=by rw[←hD1];exact(Below.refl _ W5).drew
 have hDs1:D1.heap.size=W5.heap.size:=by rw[←hD1];rfl
 have g45:Below V.heap.size V W5:=g4.trans (g5.mono (by omega));have gD1:Below V.heap.size V D1:=g45.trans (hDB1.mono (by omega));have w1:=hw.kept (gD1.block wb hwl);have s1:StkK B D1 lf S:=hS.below gD1;have kD1:=(hcell2 D1 (fun k hk _=>hDB1.block k hk)).1.1;have L1:=hide (leave_any (⟨b,pf2,pt2,⟨R,4,none⟩⟩:Task) w1 s1 (by omega) (by omega))
 have HK1:Hid (∀V1,(∃lf1,WrB V1 wb nx lf1∧StkK B V1 lf1 (S++[⟨b,pf2,pt2,⟨R,4,none⟩⟩])∧FrG B (fun k=>k=wb) D1 V1∧GrB (fun k=>k=wb∨lf.ownBlock=some k) D1.heap.size D1 V1∧(lf1.ownBlock=lf.ownBlock∨∃g,lf1.ownBlock=some g∧D1.heap.size≤g))→∀k,k<W5.heap.size→(V.heap.size≤k∨k<B)→V1.heap[k]?=W5.heap[k]?):=hide fun V1 h k hk hc=>by
  obtain⟨lf1,_,_,_,h4,_⟩:=h;refine(h4.block k (by omega) (fun e=>?_)).trans (hDB1.block k hk)
  rcases e with e | e
  ·omega
  ·have:=hown k e;omega
 have HC:=hide hcell2;have HO:=hide hown;have HG:=hide (And.intro gD1 (And.intro g45 (And.intro hDB1 hDs1)));have hRl:V.heap.size+4≤R∧R≤V.heap.size+4:=by omega
 have hs5l:R+1≤W5.heap.size∧W5.heap.size≤R+1:=by omega
 have c0:=b0;have d3:=cell_of (j:=3) ((g5.block V.heap.size (by omega)).trans b0) rfl;clear b0 b1 b2 b3 hcell2 hown gD1 g45 hDB1 hDs1 g4 g5 bR ha hb w1 s1 hs4 hR hs5 hW5 c0 hw hS hxa hxl;simp only[TV.val];go_enter Tryd.func55,Tryd.ntmps55
 go_wp2_with fail
 try rw[hW4]
 go_wp2_with fail
 refine wp_region_noPanic ?_;refine wp_region_held_drew (S:=fun w'=>w'.cell? ⟨V.heap.size,3,none⟩=some (.slice (some ⟨Bk,off,none⟩) 2 x.cap)∧w'.cell? ⟨Bk,off+4,none⟩=some (.int .i64 b.k)∧w'.cell? ⟨Bk,off+4+1,none⟩=some (.int .i64 b.N)∧w'.cell? ⟨Bk,off+4+2,none⟩=some (.string b.s)∧w'.cell? ⟨Bk,off+4+3,none⟩=some (.slice b.a b.len b.cap)∧w'.cell? ⟨V.heap.size+1+1,4,none⟩=some (.pointer (some ⟨pf2,0,none⟩))∧w'.cell? ⟨V.heap.size+1+1,5,none⟩=some (.pointer (some ⟨pt2,0,none⟩))) (by kernel_rfl) ?_ (fun hHeld=>?_)
 ·rw[hD1];exact kD1
 rw[hD1] at hHeld⊢;clear hD1;refine tk 0 rfl hHeld ?_;refine tk 1 rfl hHeld ?_;refine tk 2 rfl hHeld ?_;refine tk 3 rfl hHeld ?_;refine tk 4 rfl hHeld ?_;refine tk 5 rfl hHeld ?_;refine tk 6 rfl hHeld ?_;refine tk 7 rfl hHeld ?_;refine tk 8 rfl hHeld ?_;refine tk 9 rfl hHeld ?_;refine tk 10 rfl hHeld ?_;refine tk 11 rfl hHeld ?_;refine rd 12 rfl fun K hK=>?_;have hHold:=hHeld;clear hHeld;go_simp;refine(uh L1).mono ?_;rintro e V1 ⟨rfl,h1⟩;have H1:=hide h1;have kk:=((uh HC) V1 ((uh HK1) V1 h1)).1.1;clear h1;go_wp2_with fail
 refine hK.out _ _ ?_ (fun hHeld=>?_)
 ·((try dsimp only);exact kk)
 clear kk;clear hK K hHold;try simp only[pu]
 refine wpAnyH_done (by kernel_rfl) ?_ _;refine NoPanic.normal ?_;clear hHeld;go_wp2_with fail
 obtain⟨lf1,wV1,sV1,fV1,gV1,oV1⟩:=uh H1;have kp1:=(uh HK1) V1 (uh H1);obtain⟨D2,hD2⟩:∃D2,V1.drew=D2:=⟨_,rfl⟩;have hDB2:Below V1.heap.size V1 D2:=by rw[←hD2];exact(Below.refl _ V1).drew
 have hDs2:D2.heap.size=V1.heap.size:=by rw[←hD2];rfl
 have hsV1:W5.heap.size≤V1.heap.size:=by have:=gV1.size;have:=(uh HG).2.2.2;omega
 have kpD:∀k,k<W5.heap.size→(V.heap.size≤k∨k<B)→D2.heap[k]?=W5.heap[k]?:=fun k hk hc=>(hDB2.block k (by omega)).trans (kp1 k hk hc);have kD2:=((uh HC) D2 kpD).1.2;have L2:=hide (leave_any (⟨a,pf1,pt1,⟨R,0,none⟩⟩:Task) (wV1.kept (hDB2.block wb wV1.lt)) (sV1.below hDB2) (by simp only[List.length_append,List.length_cons,List.length_nil];omega) (by omega))
 have HK2:Hid (∀V2,(∃lf2,WrB V2 wb nx lf2∧StkK B V2 lf2 (S++[⟨b,pf2,pt2,⟨R,4,none⟩⟩]++[⟨a,pf1,pt1,⟨R,0,none⟩⟩])∧FrG B (fun k=>k=wb) D2 V2∧GrB (fun k=>k=wb∨lf1.ownBlock=some k) D2.heap.size D2 V2∧(lf2.ownBlock=lf1.ownBlock∨∃g,lf2.ownBlock=some g∧D2.heap.size≤g))→(∀k,k<W5.heap.size→(V.heap.size≤k∨k<B)→V2.heap[k]?=W5.heap[k]?)∧W5.heap.size≤V2.heap.size∧FrG B (fun k=>k=wb) V V2∧GrB (fun k=>k=wb∨lf.ownBlock=some k) V.heap.size V V2∧∀lf2:Value,(lf2.ownBlock=lf1.ownBlock∨∃g,lf2.ownBlock=some g∧D2.heap.size≤g)→∀g,lf2.ownBlock=some g→g≠V.heap.size+1+1+1):=hide fun V2 h=>by
  obtain⟨lf2,_,_,h3,h4,_⟩:=h
  have hno:∀g,lf1.ownBlock=some g→g<V.heap.size∨W5.heap.size≤g:=fun g hg=>by
   rcases oV1 with e | ⟨g',e,e'⟩
   ·exact .inl ((uh HO) g (e.symm.trans hg)).2
   ·rw[e] at hg
    have:g'=g:=by simpa using hg
    have:=(uh HG).2.2.2;exact .inr (by omega)
  have hnB:∀g,lf1.ownBlock=some g→B≤g:=fun g hg=>(StkW.lt sV1 hg).1;refine⟨fun k hk hc=>(h4.block k (by omega) (fun e=>?_)).trans (kpD k hk hc),by have:=h4.size;omega,((FrG.of_below (uh HG).1).trans fV1).trans ((FrG.of_below hDB2).trans h3),?_,fun lf2 h5 g hg e=>?_⟩
  ·rcases e with e | e
   ·omega
   ·have:=hno k e;have:=hnB k e;omega
  ·have gg:=(GrB.of_below (X:=fun k=>k=wb∨lf.ownBlock=some k) (uh HG).1).trans (gV1.mono (uh HG).1.size)
   have gg2:=gg.trans (GrB.of_below (hDB2.mono gg.size));refine⟨h4.os.trans gg2.os,h4.tape.trans gg2.tape,h4.output.trans gg2.output,Nat.le_trans gg2.size h4.size,fun k hk hx=>(h4.block k (by have:=gg2.size;omega) (fun e=>?_)).trans (gg2.block k hk hx)⟩
   rcases e with e | e
   ·exact hx (.inl e)
   ·rcases oV1 with o | ⟨g',o,o'⟩
    ·exact hx (.inr (o.symm.trans e))
    ·rw[o] at e
     have:g'=k:=by simpa using e
     have:=(uh HG).1.size;omega
  ·rcases h5 with h5 | ⟨g',h5,h6⟩
   ·have:=hno g (h5.symm.trans hg);omega
   ·rw[h5] at hg
    have:g'=g:=by simpa using hg
    omega
 clear wV1 sV1 fV1 gV1 oV1 kp1 kpD hDB2 hDs2 hsV1 HK1 H1 HO d3;refine wp_region_noPanic ?_;refine wp_region_held_drew (S:=fun w'=>w'.cell? ⟨V.heap.size,3,none⟩=some (.slice (some ⟨Bk,off,none⟩) 2 x.cap)∧w'.cell? ⟨Bk,off,none⟩=some (.int .i64 a.k)∧w'.cell? ⟨Bk,off+1,none⟩=some (.int .i64 a.N)∧w'.cell? ⟨Bk,off+2,none⟩=some (.string a.s)∧w'.cell? ⟨Bk,off+3,none⟩=some (.slice a.a a.len a.cap)∧w'.cell? ⟨V.heap.size+1,4,none⟩=some (.pointer (some ⟨pf1,0,none⟩))∧w'.cell? ⟨V.heap.size+1,5,none⟩=some (.pointer (some ⟨pt1,0,none⟩))) (by kernel_rfl) ?_ (fun hHeld=>?_)
 ·rw[hD2];exact kD2
 rw[hD2] at hHeld⊢;clear hD2;refine tk 0 rfl hHeld ?_;refine tk 1 rfl hHeld ?_;refine tk 2 rfl hHeld ?_;refine tk 3 rfl hHeld ?_;refine tk 4 rfl hHeld ?_;refine tk 5 rfl hHeld ?_;refine tk 6 rfl hHeld ?_;refine tk 7 rfl hHeld ?_;refine tk 8 rfl hHeld ?_;refine tk 9 rfl hHeld ?_;refine tk 10 rfl hHeld ?_;refine tk 11 rfl hHeld ?_;refine rd 12 rfl fun K hK=>?_;have hHold:=hHeld;clear hHeld;go_simp;refine(uh L2).mono ?_;rintro e V2 ⟨rfl,h1⟩;have H2:=hide h1;have kk:=((uh HC) V2 ((uh HK2) V2 h1).1).1.2;clear h1;go_wp2_with fail
 refine hK.out _ _ ?_ (fun hHeld=>?_)
 ·((try dsimp only);exact kk)
 clear kk;clear hK K hHold;try simp only[pu]
 refine wpAnyH_done (by kernel_rfl) ?_ _;refine NoPanic.normal ?_;clear hHeld;obtain⟨kp2,hs2,fr2,gr2,ow2⟩:=(uh HK2) V2 (uh H2);obtain⟨lf2,wV2,sV2,_,_,oV2⟩:=uh H2;obtain⟨_,n2,br,rR⟩:=(uh HC) V2 kp2;have HP:Hid (Calls Tryd.prog 16 #[.string x.s,.slice (some ⟨R,0,none⟩) 2 2] V2 fun e W'=>e=.returned (compV x.s (some ⟨R,0,none⟩) 2 2).val∧Below V2.heap.size V2 W'):=hide (gcomp_any _ _ _ _ V2)
 have HE:Hid (∀X2,Below V2.heap.size V2 X2→BoxT X2 (V.heap.size+1+1+1) noTerm∧Row4 (set4 X2 (V.heap.size+1+1+1) 0 (compV x.s (some ⟨R,0,none⟩) 2 2)) R 2∧WrB (set4 X2 (V.heap.size+1+1+1) 0 (compV x.s (some ⟨R,0,none⟩) 2 2)) wb nx lf2∧StkK B (set4 X2 (V.heap.size+1+1+1) 0 (compV x.s (some ⟨R,0,none⟩) 2 2)) lf2 (S++[⟨b,pf2,pt2,⟨R,4,none⟩⟩]++[⟨a,pf1,pt1,⟨R,0,none⟩⟩])∧FrG B (fun k=>k=wb) V (set4 X2 (V.heap.size+1+1+1) 0 (compV x.s (some ⟨R,0,none⟩) 2 2))∧GrB (fun k=>k=wb∨lf.ownBlock=some k) V.heap.size V (set4 X2 (V.heap.size+1+1+1) 0 (compV x.s (some ⟨R,0,none⟩) 2 2))):=hide fun X2 h2=>by
  have o:=fun k (hk:k≠V.heap.size+1+1+1)=>set4_other X2 (V.heap.size+1+1+1) 0 (compV x.s (some ⟨R,0,none⟩) 2 2) hk;refine⟨br.below h2 br.lt,(rR.kept (h2.block R rR.lt)).kept (o R (by omega)),(wV2.kept (h2.block wb wV2.lt)).kept (o wb (by omega)),(sV2.below h2).frame (fun g hg=>o g (ow2 lf2 oV2 g hg)),?_,(gr2.trans (GrB.of_below (h2.mono gr2.size))).set4 (b:=V.heap.size+1+1+1) (by omega) _ _⟩;have f:=fr2.trans (FrG.of_below h2);exact⟨f.os,f.tape,f.output,by rw[set4_size];exact f.size,fun k hk hx hc=>(o k (by omega)).trans (f.block k hk hx hc)⟩
 clear kp2 fr2 gr2 ow2 wV2 sV2 oV2 rR br HC HK2 H2 HG;go_wp2_with fail
 refine(uh HP).mono ?_;rintro e X2 ⟨rfl,h2⟩;obtain⟨bX,hF⟩:=(uh HE) X2 h2;have HF:=hide hF;obtain⟨k0,k1,k2,k3⟩:=bX.frz;have c0:=bX.c0;have c1:=bX.c1;have c2:=bX.c2;have c3:=bX.c3;have b6:=set4_box bX (compV x.s (some ⟨R,0,none⟩) 2 2);have z0:=b6.c0;have z1:=b6.c1;have z2:=b6.c2;have z3:=b6.c3;clear HP HE hF bX b6 h2 n2;simp only[TV.val,compV];go_wp2_with fail
 exact bodyPost_ret (v:=(compV x.s (some ⟨R,0,none⟩) 2 2).val) (by
  have e:(((X2.setCell ⟨V.heap.size+1+1+1,0,none⟩ (.int .i64 4)).setCell ⟨V.heap.size+1+1+1,1,none⟩ (.int .i64 0)).setCell ⟨V.heap.size+1+1+1,2,none⟩ (.string x.s)).setCell ⟨V.heap.size+1+1+1,3,none⟩ (.slice (some ⟨R,0,none⟩) 2 2)=set4 X2 (V.heap.size+1+1+1) 0 (compV x.s (some ⟨R,0,none⟩) 2 2):=rfl;rw[e];simp[results,Tryd.results55,go_sem,TV.val,z0,z1,z2,z3]) rfl ⟨R,lf2,rfl,by omega,uh HF⟩
theorem not_var(x:Nd)(c:List Nd)(N:Int)(h:x.1≠1):IsVarOf (x::c) N↔IsVarOf c N:=by
 rw[isVar_cons];exact⟨fun e=>e.elim (fun e=>absurd e.1 h) id,.inr⟩
theorem var_one(v N:Int):IsVarOf [varNd v] N↔N=v:=by
 rw[isVar_cons];constructor
 ·rintro(⟨_,h⟩ | ⟨y,hy,_⟩)
  ·exact h.symm
  ·cases hy
 ·rintro rfl
  exact .inl ⟨rfl,rfl⟩
theorem eq_vars(s r:List Nd)(N:Int):IsVarOf (eqC s r) N↔IsVarOf s N∨IsVarOf r N:=by
 unfold eqC;rw[not_var _ _ _ (by simp),isVar_append]
theorem code_vars{n:Nat}{x:TV}{kids:List (Tm n)}(h:x.k≠1)(N:Int):IsVarOf (code (n:=n+1) ((x,kids):TV×List (Tm n))) N↔IsVarOf (kids.flatMap code) N:=by
 rw[code_succ,not_var _ _ _ (nd_one h)]
theorem end_vars:∀{n:Nat} (t:Tm n),Wl t→∀(r:List Nd) (N:Int),(IsVarOf (endC t r) N→IsVarOf (code t) N∨IsVarOf r N)∧(listT t=true→IsVarOf r N→IsVarOf (endC t r) N):=by
 intro n
 induction n with
 | zero=>intro t;exact Empty.elim t
 | succ n ih=>
  intro t hw r N;obtain⟨x,kids⟩:=t;rw[endC_succ,listT_succ];cases hx:isB x [46] 2 with
  | false=>exact⟨fun h=>.inr (by simpa using h),fun _ h=>by simpa using h⟩
  | true=>
   have k1:=isB_kind hx;obtain⟨a,b,rfl⟩:=two_kids hw (by have:=isB_len hx;omega);have hwk:∀z∈[a,b],Wl z:=hw.2;obtain⟨i1,i2⟩:=ih b (hwk b (by simp)) r N;simp only[if_true];rw[code_vars k1,not_var _ _ _ (nd_one k1),isVar_append];simp only[List.flatMap_cons,List.flatMap_nil,List.append_nil];rw[isVar_append];refine⟨?_,fun hl h=>.inr (i2 hl h)⟩;rintro(h | h)
   ·exact .inl (.inl h)
   ·exact(i1 h).elim (fun h=>.inl (.inr h)) .inr
theorem body_has{n:Nat}{u:Tm n}{c:List Nd}(hw:Wl u)(h:bodyC u=some c)(N:Int):IsVarOf c N↔IsVarOf (code u) N:=by
 have e:=body_vars u hw h [];have h1:=steps_mem c [] N;have h2:=steps_mem (code u) [] N;rw[e] at h1;simp only[List.not_mem_nil,false_or] at h1 h2;exact h1.symm.trans h2
theorem curl_vars{n:Nat}{kids:List (Tm n)}(hw:∀u∈kids,Wl u)(s r:List Nd)(N:Int):(IsVarOf (curlC kids s r) N→IsVarOf (kids.flatMap code) N∨IsVarOf s N∨IsVarOf r N)∧(IsVarOf s N∨IsVarOf r N→IsVarOf (curlC kids s r) N):=by
 cases kids with
 | nil=>exact⟨fun h=>.inr ((eq_vars s r N).1 h),fun h=>(eq_vars s r N).2 h⟩
 | cons u l=>
  show(IsVarOf ((4,0,[44],2)::((bodyC u).getD []++eqC s r)) N→_)∧(_→IsVarOf ((4,0,[44],2)::((bodyC u).getD []++eqC s r)) N)
  rw[not_var _ _ _ (by simp),isVar_append,eq_vars,List.flatMap_cons,isVar_append];refine⟨?_,.inr⟩;rintro(h | h)
  ·cases hb:bodyC u with
   | none=>rw[hb] at h;obtain⟨y,hy,_⟩:=h;cases hy
   | some c=>
    rw[hb] at h;exact .inl (.inl ((body_has (hw u (by simp)) hb N).1 h))
  ·exact .inr h
theorem btw_vars:∀{n:Nat} (t:Tm n),Wl t→okT t=true→∀(s r:List Nd) (f N:Int),
  (IsVarOf (btwC t s r f) N→IsVarOf (code t) N∨IsVarOf s N∨IsVarOf r N∨(f≤N∧N<f+cntT t))∧
  (berr t=0→IsVarOf s N∨IsVarOf r N∨(f≤N∧N<f+cntT t)→IsVarOf (btwC t s r f) N):=by
 intro n
 induction n with
 | zero=>intro t;exact Empty.elim t
 | succ n ih=>
  intro t hw ok s r f N;have hev:=end_vars t hw r N;obtain⟨x,kids⟩:=t;have hk:=ok_kids ok;rw[btwC_succ,cntT_succ,berr_succ]
  by_cases f1:formB x=1
  ·have k1:=form_one.1 f1
   obtain rfl:=var_kids hw ok k1;rw[if_pos f1,f1,not_var _ _ _ (by simp)]
   show(IsVarOf ([varNd x.N]++(s++r)) N→_)∧(_→_→IsVarOf ([varNd x.N]++(s++r)) N)
   rw[isVar_append,isVar_append,var_one];simp only[show¬((1:Int)=2∨(1:Int)=4) by omega,show¬((1:Int)=3) by omega,if_false];refine⟨?_,fun _=>?_⟩
   ·rintro(rfl | h | h)
    ·exact .inl ⟨x.nd,by rw[code_succ];simp,k1,rfl⟩
    ·exact .inr (.inl h)
    ·exact .inr (.inr (.inl h))
   ·rintro(h | h | ⟨h1,h2⟩)
    ·exact .inr (.inl h)
    ·exact .inr (.inr h)
    ·omega
  ·have k1:x.k≠1:=fun h=>f1 (form_one.2 h)
   rw[if_neg f1,code_vars k1]
   by_cases f2:formB x=2
   ·obtain⟨a,b,rfl⟩:=two_kids hw (form_two f2)
    have hwk:∀z∈[a,b],Wl z:=hw.2;rw[if_pos f2,if_pos (.inl f2),if_pos (.inl f2)];obtain⟨i1,i2⟩:=ih a (hwk a (by simp)) (hk.2 a (by simp)) s [varNd f] (f+1) N;obtain⟨j1,j2⟩:=ih b (hwk b (by simp)) (hk.2 b (by simp)) [varNd f] r (f+1+cntT a) N;rw[var_one] at i1 i2 j1 j2
    show(IsVarOf ((4,0,x.s.toList,2)::(btwC a s [varNd f] (f+1)++btwC b [varNd f] r (f+1+cntT a))) N→_)∧(_→_→IsVarOf ((4,0,x.s.toList,2)::(btwC a s [varNd f] (f+1)++btwC b [varNd f] r (f+1+cntT a))) N)
    rw[not_var _ _ _ (by simp),isVar_append];simp only[List.flatMap_cons,List.flatMap_nil,List.append_nil,List.map_cons,List.map_nil,List.sum_cons,List.sum_nil];rw[isVar_append];refine⟨?_,fun he=>?_⟩
    ·rintro(h | h)
     ·rcases i1 h with h | h | h | h
      ·exact .inl (.inl h)
      ·exact .inr (.inl h)
      ·exact .inr (.inr (.inr (by omega)))
      ·exact .inr (.inr (.inr (by omega)))
     ·rcases j1 h with h | h | h | h
      ·exact .inl (.inr h)
      ·exact .inr (.inr (.inr (by omega)))
      ·exact .inr (.inr (.inl h))
      ·exact .inr (.inr (.inr (by omega)))
    ·have ea:berr a=0∧berr b=0:=by
      rw[first_two] at he
      by_cases h:berr a=0
      ·rw[if_pos h] at he;exact⟨h,he⟩
      ·rw[if_neg h] at he;exact absurd he h
     rintro(h | h | ⟨h1,h2⟩)
     ·exact .inl (i2 ea.1 (.inl h))
     ·exact .inr (j2 ea.2 (.inr (.inl h)))
     ·by_cases e1:N=f
      ·exact .inl (i2 ea.1 (.inr (.inl e1)))
      ·by_cases e2:N<f+1+cntT a
       ·exact .inl (i2 ea.1 (.inr (.inr ⟨by omega,e2⟩)))
       ·exact .inr (j2 ea.2 (.inr (.inr ⟨by omega,by omega⟩)))
   ·by_cases f3:formB x=3
    ·obtain⟨a,b,rfl⟩:=two_kids hw (form_three f3)
     have hwk:∀z∈[a,b],Wl z:=hw.2;rw[if_neg f2,if_pos f3,if_neg (show¬(formB x=2∨formB x=4) by omega),if_pos f3,if_pos (show formB x=2∨formB x=3∨formB x=4 from .inr (.inl f3))];obtain⟨i1,i2⟩:=ih a (hwk a (by simp)) (hk.2 a (by simp)) s r f N;obtain⟨j1,j2⟩:=ih b (hwk b (by simp)) (hk.2 b (by simp)) s r (f+cntT a) N
     show(IsVarOf ((4,0,x.s.toList,2)::(btwC a s r f++btwC b s r (f+cntT a))) N→_)∧(_→_→IsVarOf ((4,0,x.s.toList,2)::(btwC a s r f++btwC b s r (f+cntT a))) N)
     rw[not_var _ _ _ (by simp),isVar_append];simp only[List.flatMap_cons,List.flatMap_nil,List.append_nil,List.map_cons,List.map_nil,List.sum_cons,List.sum_nil];rw[isVar_append];refine⟨?_,fun he=>?_⟩
     ·rintro(h | h)
      ·rcases i1 h with h | h | h | h
       ·exact .inl (.inl h)
       ·exact .inr (.inl h)
       ·exact .inr (.inr (.inl h))
       ·exact .inr (.inr (.inr (by omega)))
      ·rcases j1 h with h | h | h | h
       ·exact .inl (.inr h)
       ·exact .inr (.inl h)
       ·exact .inr (.inr (.inl h))
       ·exact .inr (.inr (.inr (by omega)))
     ·have ea:berr a=0∧berr b=0:=by
       rw[first_two] at he
       by_cases h:berr a=0
       ·rw[if_pos h] at he;exact⟨h,he⟩
       ·rw[if_neg h] at he;exact absurd he h
      rintro(h | h | ⟨h1,h2⟩)
      ·exact .inl (i2 ea.1 (.inl h))
      ·exact .inl (i2 ea.1 (.inr (.inl h)))
      ·by_cases e2:N<f+cntT a
       ·exact .inl (i2 ea.1 (.inr (.inr ⟨by omega,e2⟩)))
       ·exact .inr (j2 ea.2 (.inr (.inr ⟨by omega,by omega⟩)))
    ·by_cases f4:formB x=4
     ·obtain⟨a,rfl⟩:=one_kid hw (form_four f4)
      have hwk:∀z∈[a],Wl z:=hw.2;rw[if_neg f2,if_neg f3,if_pos f4,if_pos (show formB x=2∨formB x=4 from .inr f4),if_pos (show formB x=2∨formB x=3∨formB x=4 from .inr (.inr f4))];obtain⟨i1,i2⟩:=ih a (hwk a (by simp)) (hk.2 a (by simp)) s [varNd f] (f+1) N;rw[var_one] at i1 i2
      show(IsVarOf ((4,0,[44],2)::((4,0,x.s.toList,1)::(btwC a s [varNd f] (f+1)++eqC s r))) N→_)∧(_→_→IsVarOf ((4,0,[44],2)::((4,0,x.s.toList,1)::(btwC a s [varNd f] (f+1)++eqC s r))) N)
      rw[not_var _ _ _ (by simp),not_var _ _ _ (by simp),isVar_append,eq_vars];simp only[List.flatMap_cons,List.flatMap_nil,List.append_nil,List.map_cons,List.map_nil,List.sum_cons,List.sum_nil];refine⟨?_,fun he=>?_⟩
      ·rintro(h | h | h)
       ·rcases i1 h with h | h | h | h
        ·exact .inl h
        ·exact .inr (.inl h)
        ·exact .inr (.inr (.inr (by omega)))
        ·exact .inr (.inr (.inr (by omega)))
       ·exact .inr (.inl h)
       ·exact .inr (.inr (.inl h))
      ·rw[first_one] at he
       rintro(h | h | ⟨h1,h2⟩)
       ·exact .inr (.inl h)
       ·exact .inr (.inr h)
       ·by_cases e1:N=f
        ·exact .inl (i2 he (.inr (.inl e1)))
        ·exact .inl (i2 he (.inr (.inr ⟨by omega,by omega⟩)))
     ·rw[if_neg f2,if_neg f3,if_neg f4,if_neg (show¬(formB x=2∨formB x=4) by omega),if_neg f3,if_neg (show¬(formB x=2∨formB x=3∨formB x=4) by omega),partE_succ]
      by_cases f5:formB x=5
      ·rw[if_pos f5,if_neg (show¬formB x=0 by omega),if_pos f5,not_var _ _ _ (by simp),isVar_append]
       rw[code_vars k1] at hev;refine⟨?_,fun he=>?_⟩
       ·rintro(h | h)
        ·exact .inr (.inl h)
        ·exact(hev.1 h).elim .inl (fun h=>.inr (.inr (.inl h)))
       ·have hl:listT (n:=n+1) ((x,kids):TV×List (Tm n))=true:=by
         cases hq:listT (n:=n+1) ((x,kids):TV×List (Tm n)) with
         | true=>rfl
         | false=>rw[hq] at he;simp at he
        rintro(h | h | ⟨h1,h2⟩)
        ·exact .inl h
        ·exact .inr (hev.2 hl h)
        ·omega
      ·rw[if_neg f5]
       by_cases f6:formB x=6
       ·obtain⟨c1,c2⟩:=curl_vars (fun u hu=>hw.2 u hu) s r N (kids:=kids)
        rw[if_pos f6];refine⟨fun h=>?_,fun _ h=>?_⟩
        ·rcases c1 h with h | h | h
         ·exact .inl h
         ·exact .inr (.inl h)
         ·exact .inr (.inr (.inl h))
        ·rcases h with h | h | ⟨h1,h2⟩
         ·exact c2 (.inl h)
         ·exact c2 (.inr h)
         ·omega
       ·rw[if_neg f6]
        by_cases f7:formB x=7
        ·rw[if_pos f7,not_var _ _ _ (by simp),not_var _ _ _ (by simp),eq_vars]
         refine⟨fun h=>h.elim (fun h=>.inr (.inl h)) (fun h=>.inr (.inr (.inl h))),fun _ h=>?_⟩
         rcases h with h | h | ⟨h1,h2⟩
         ·exact .inl h
         ·exact .inr h
         ·omega
        ·rw[if_neg f7,not_var _ _ _ (by simp),isVar_append,isVar_append]
         refine⟨fun h=>?_,fun _ h=>?_⟩
         ·rcases h with h | h | h
          ·exact .inl h
          ·exact .inr (.inl h)
          ·exact .inr (.inr (.inl h))
         ·rcases h with h | h | ⟨h1,h2⟩
          ·exact .inr (.inl h)
          ·exact .inr (.inr h)
          ·omega
theorem extV_nodup(f0:Int):∀(c:List Nd) (vs:List Int),vs.Nodup→(extV f0 vs c).Nodup
 | [],_,h=>h
 | x::c,vs,h=>by
  rw[extV_cons];refine extV_nodup f0 c _ ?_
  by_cases h1:x.1=1
  ·rw[if_pos h1]
   unfold stpG
   by_cases h2:f0≤x.2.1
   ·rw[if_pos h2]
    unfold stpN
    by_cases h3:x.2.1∈vs
    ·rw[if_pos h3];exact h
    ·rw[if_neg h3,List.nodup_append]
     exact⟨h,by simp,fun a ha b hb e=>h3 (by simp at hb;subst hb;subst e;exact ha)⟩
   ·rw[if_neg h2];exact h
  ·rw[if_neg h1];exact h
theorem nodup_len:∀(c:Nat) (l:List Int) (f:Int),l.Nodup→(∀N,N∈l↔f≤N∧N<f+c)→l.length=c
 | 0,l,f,_,h=>by
  cases l with
  | nil=>rfl
  | cons a l=>have:=(h a).1 (by simp);omega
 | c+1,l,f,hn,h=>by
  have hm:f+c∈l:=(h _).2 ⟨by omega,by omega⟩
  have h1:=nodup_len c (l.erase (f+c)) f (hn.erase _) (fun N=>by
   rw[hn.mem_erase_iff,h N];constructor
   ·rintro⟨h1,h2,h3⟩;omega
   ·rintro⟨h1,h2⟩;omega)
  rw[List.length_erase_of_mem hm] at h1;have:0<l.length:=List.length_pos_of_mem hm;omega
theorem cnt_ext{n:Nat}{t:Tm n}(hw:Wl t)(ok:okT t=true){s r:List Nd}{f:Int}(he:berr t=0)(ht:∀N,IsVarOf (code t) N→N<f)(hs:∀N,IsVarOf s N→N<f)(hr:∀N,IsVarOf r N→N<f):(extV f [] (btwC t s r f)).length=cntT t:=by
 refine nodup_len _ _ f (extV_nodup f _ [] List.nodup_nil) (fun N=>?_);rw[extV_mem];obtain⟨b1,b2⟩:=btw_vars t hw ok s r f N;constructor
 ·rintro(h | ⟨h,h'⟩)
  ·cases h
  ·rcases b1 h with h | h | h | h
   ·have:=ht N h;omega
   ·have:=hs N h;omega
   ·have:=hr N h;omega
   ·exact h
 ·intro h
  exact .inr ⟨b2 he (.inr (.inr h)),h.1⟩
theorem filter_ext(f0:Int):∀(c:List Nd) (vs:List Int),(stepsN stpN vs c).filter (fun N=>decide (f0≤N))=extV f0 (vs.filter fun N=>decide (f0≤N)) c
 | [],_=>rfl
 | x::c,vs=>by
  have e:stepsN stpN vs (x::c)=stepsN stpN (if x.1=1 then stpN vs x.2.1 else vs) c:=rfl;rw[e,filter_ext f0 c,extV_cons]
  congr 1
  by_cases h1:x.1=1
  ·rw[if_pos h1,if_pos h1]
   unfold stpG stpN
   by_cases h3:x.2.1∈vs
   ·rw[if_pos h3]
    by_cases h2:f0≤x.2.1
    ·rw[if_pos h2,if_pos (List.mem_filter.2 ⟨h3,by simpa using h2⟩)]
    ·rw[if_neg h2]
   ·rw[if_neg h3,List.filter_append]
    by_cases h2:f0≤x.2.1
    ·rw[if_pos h2,if_neg (fun h=>h3 (List.mem_filter.1 h).1)]
     simp[h2]
    ·rw[if_neg h2]
     simp[h2]
  ·rw[if_neg h1,if_neg h1]
/-- What hornref.Swap makes of a variable. -/
def swapR(l:List Int)(n:Int)(N:Int):Int:=if N∈l then n+(l.idxOf N:Nat) else N
theorem renC_comp(f g:Int→Int)(c:List Nd):renC g (renC f c)=renC (fun N=>g (f N)) c:=by
 unfold renC;rw[List.flatMap_assoc];refine flatMap_same c fun x _=>?_;unfold subN
 by_cases h:x.1=1
 ·rw[if_pos h,if_pos h]
  simp[varNd]
 ·rw[if_neg h,if_neg h]
  simp[h]
theorem idx_range(k m:Nat)(a:Int)(h:k<m):((List.range m).map fun i:Nat=>a+(i:Int)).idxOf (a+(k:Int))=k:=by
 have hn:((List.range m).map fun i:Nat=>a+(i:Int)).Nodup:=by
  rw[List.Nodup,List.pairwise_map];exact List.Pairwise.imp (fun h e=>h (by omega)) List.nodup_range
 have hk:((List.range m).map fun i:Nat=>a+(i:Int))[k]?=some (a+(k:Int)):=by simp[h]
 obtain⟨hlt,hke⟩:=List.getElem?_eq_some_iff.1 hk;rw[←hke];exact hn.idxOf_getElem k hlt
theorem two_swaps{f0 a:Int}{c:List Nd}(hlt:∀N,IsVarOf c N→N<a):
  renC (swapR ((List.range (extV f0 [] c).length).map fun i:Nat=>a+(i:Int)) f0) (renC (swapR (extV f0 [] c) a) c)=renC (newR f0 (extV f0 [] c)) c:=by
 rw[renC_comp];unfold renC;refine sub_congr_on fun N hN=>?_;have hm:=extV_mem f0 c [] N;simp only[List.not_mem_nil,false_or] at hm
 show[varNd (swapR ((List.range (extV f0 [] c).length).map fun i:Nat=>a+(i:Int)) f0 (swapR (extV f0 [] c) a N))]=[varNd (newR f0 (extV f0 [] c) N)]
 by_cases h2:f0≤N
 ·have hin:N∈extV f0 [] c:=hm.2 ⟨hN,h2⟩
  have hi:=List.idxOf_lt_length_of_mem hin;have e1:swapR (extV f0 [] c) a N=a+((extV f0 [] c).idxOf N:Nat):=if_pos hin;have e2:newR f0 (extV f0 [] c) N=f0+((extV f0 [] c).idxOf N:Nat):=if_pos h2;rw[e1,e2];unfold swapR
  rw[if_pos (by
   rw[List.mem_map];exact⟨_,by simpa using hi,rfl⟩),idx_range _ _ _ hi]
 ·have hno:N∉extV f0 [] c:=fun h=>h2 (hm.1 h).2
  have e1:swapR (extV f0 [] c) a N=N:=if_neg hno;have e2:newR f0 (extV f0 [] c) N=N:=if_neg h2;rw[e1,e2];unfold swapR
  rw[if_neg (fun h=>by
   rw[List.mem_map] at h;obtain⟨i,_,hi⟩:=h;have:=hlt N hN;omega)]
theorem idx_inj{l:List Int}{a b:Int}(ha:a∈l)(h:l.idxOf a=l.idxOf b):a=b:=by
 have h1:=List.idxOf_lt_length_of_mem ha;have e1:=List.getElem_idxOf (xs:=l) (x:=a) h1;have h2:l.idxOf b<l.length:=by omega
 have e2:=List.getElem_idxOf (xs:=l) (x:=b) h2;rw[←e1,←e2];simp only[h]
theorem newR_inj{f0:Int}{vs:List Int}{a b:Int}(ha:f0≤a→a∈vs)(h:newR f0 vs a=newR f0 vs b):a=b:=by
 unfold newR at h
 by_cases h1:f0≤a
 ·rw[if_pos h1] at h
  by_cases h2:f0≤b
  ·rw[if_pos h2] at h
   exact idx_inj (ha h1) (by omega)
  ·rw[if_neg h2] at h;omega
 ·rw[if_neg h1] at h
  by_cases h2:f0≤b
  ·rw[if_pos h2] at h;omega
  ·rw[if_neg h2] at h;exact h
theorem trans_code{n m:Nat}{u:Tm n}{t:Tm m}(hu:Wl u)(oku:okT u=true)(ht:Wl t){σ:Int→Int}{k n0:Int}{h:List Nd}(hcode:code t=renC σ (code u))
  (hlt:∀N,IsVarOf (code u) N∨IsVarOf h N→N<n0) (hσ:∀N,IsVarOf (code u) N∨IsVarOf h N→σ N<k) (hinj:∀a b,IsVarOf (code u) a∨IsVarOf h a→IsVarOf (code u) b∨IsVarOf h b→σ a=σ b→a=b):
  canon 0 (renC σ h++([varNd k]++[varNd (k+1)])++renC (newR (k+2) (extV (k+2) [] (btwC t [varNd k] [varNd (k+1)] (k+2)))) (btwC t [varNd k] [varNd (k+1)] (k+2)))=
  canon 0 (h++([varNd n0]++[varNd (n0+1)])++btwC u [varNd n0] [varNd (n0+1)] (n0+2)):=by
 obtain⟨σ',hσ'⟩:∃σ':Int→Int,σ'=fun N=>if N<n0 then σ N else N-n0+k:=⟨_,rfl⟩
 have s1:∀N,N<n0→σ' N=σ N:=fun N hN=>by rw[hσ'];exact if_pos hN
 have s2:∀N,n0≤N→σ' N=N-n0+k:=fun N hN=>by rw[hσ'];exact if_neg (by omega)
 have hc':code t=renC σ' (code u):=by
  rw[hcode];exact sub_congr_on fun N hN=>by rw[s1 N (hlt N (.inl hN))]
 obtain⟨q1,_,q3⟩:=btw_ren σ' u hu oku t ht hc';have hg:=q3 [varNd n0] [varNd (n0+1)] (n0+2) (k+2) (fun i _=>by rw[s2 _ (by omega)];omega);rw[ren_var,ren_var,s2 n0 (by omega),s2 (n0+1) (by omega),show n0-n0+k=k by omega,show n0+1-n0+k=k+1 by omega] at hg;obtain⟨gp,hgp⟩:∃gp,btwC t [varNd k] [varNd (k+1)] (k+2)=gp:=⟨_,rfl⟩;obtain⟨g,hgg⟩:∃g,btwC u [varNd n0] [varNd (n0+1)] (n0+2)=g:=⟨_,rfl⟩;have hv:=fun N=>(btw_vars u hu oku [varNd n0] [varNd (n0+1)] (n0+2) N).1;rw[hgp,hgg] at hg;rw[hgg] at hv;rw[hgp,hgg];obtain⟨vs,hvs⟩:∃vs,extV (k+2) [] gp=vs:=⟨_,rfl⟩;have hcm:Come (k+2) vs gp:=by rw[←hvs];exact come_ext _ _ _
 rw[hvs];have low:∀N,N<k+2→newR (k+2) vs N=N:=fun N hN=>if_neg (by omega)
 have e1:renC (fun N=>newR (k+2) vs (σ' N)) h=renC σ h:=sub_congr_on fun N hN=>by
  have h1:=hlt N (.inr hN);have h2:=hσ N (.inr hN)
  show[varNd (newR (k+2) vs (σ' N))]=[varNd (σ N)]
  rw[s1 N h1,low _ (by omega)]
 have e2:renC (fun N=>newR (k+2) vs (σ' N)) g=renC (newR (k+2) vs) gp:=by rw[hg,renC_comp]
 have e3:renC (fun N=>newR (k+2) vs (σ' N)) (h++([varNd n0]++[varNd (n0+1)])++g)=renC σ h++([varNd k]++[varNd (k+1)])++renC (newR (k+2) vs) gp:=by
  rw[renC_append,renC_append,renC_append,e1,e2,ren_var,ren_var,s2 n0 (by omega),s2 (n0+1) (by omega),low _ (by omega),low _ (by omega),show n0-n0+k=k by omega,show n0+1-n0+k=k+1 by omega]
 rw[←e3];refine canon_ren ?_ 0
 have hcase:∀N,IsVarOf (h++([varNd n0]++[varNd (n0+1)])++g) N→(IsVarOf (code u) N∨IsVarOf h N)∨n0≤N:=fun N hN=>by
  rw[isVar_append,isVar_append,isVar_append,var_one,var_one] at hN
  rcases hN with(hN | hN | hN) | hN
  ·exact .inl (.inr hN)
  ·exact .inr (by omega)
  ·exact .inr (by omega)
  ·rcases hv N hN with h1 | h1 | h1 | h1
   ·exact .inl (.inl h1)
   ·rw[var_one] at h1;exact .inr (by omega)
   ·rw[var_one] at h1;exact .inr (by omega)
   ·exact .inr (by omega)
 have hin:∀N,IsVarOf (h++([varNd n0]++[varNd (n0+1)])++g) N→k+2≤σ' N→σ' N∈vs:=fun N hN h2=>by
  rcases hcase N hN with h1 | h1
  ·have:=hσ N h1;rw[s1 N (hlt N h1)] at h2;omega
  ·rw[s2 N h1] at h2
   rw[isVar_append,isVar_append,isVar_append,var_one,var_one] at hN
   rcases hN with(hN | hN | hN) | hN
   ·have:=hlt N (.inr hN);omega
   ·omega
   ·omega
   ·refine hcm _ ?_ (by rw[s2 N h1];exact h2)
    rw[hg];obtain⟨y,hy,hy1,hy2⟩:=hN;refine⟨varNd (σ' N),?_,rfl,rfl⟩;unfold renC;rw[List.mem_flatMap];exact⟨y,hy,by unfold subN;rw[if_pos hy1,hy2];simp⟩
 intro a b ha hb e;have e':=newR_inj (hin a ha) e
 rcases hcase a ha with h1 | h1
 ·rcases hcase b hb with h2 | h2
  ·rw[s1 a (hlt a h1),s1 b (hlt b h2)] at e'
   exact hinj a b h1 h2 e'
  ·have:=hσ a h1
   rw[s1 a (hlt a h1),s2 b h2] at e';omega
 ·rcases hcase b hb with h2 | h2
  ·have:=hσ b h2
   rw[s2 a h1,s1 b (hlt b h2)] at e';omega
  ·rw[s2 a h1,s2 b h2] at e'
   omega
end Go.Proofs.YtjbdkbaacjfecaaDoor
