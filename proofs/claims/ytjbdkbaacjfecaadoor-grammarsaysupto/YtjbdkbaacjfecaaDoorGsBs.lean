import Derived.Test.YtjbdkbaacjfecaaDoorGsA
import Derived.Test.YtjbdkbaacjfecaaDoorTks
namespace Go.Proofs.YtjbdkbaacjfecaaDoor
set_option maxHeartbeats 4000000
set_option maxRecDepth 100000
open Go.RowKit Go.Shelf
theorem pair_any{Bk off oc D ns Ma Mb own:Nat}{k0 N0:Int}{s0:ByteArray}{a b xs xn xm xr:TV}{f1 ea eb:Int}{ca cb:List Nd}{W:World}(hs0:s0.size≤9223372036854775807)(hBk:Bk<W.heap.size)(hns:ns≤W.heap.size)(hf: -1152921504606846976≤f1∧f1≤576460752303423488)(ho:own≤1)(hMa:Ma≤4398046511104)(hMb:Mb≤4398046511104)
  (hca:cellsAt W Bk off a) (hcb:cellsAt W Bk (off+4) b)
  (HA0:∀U,Below W.heap.size W U→Calls Tryd.prog 24 #[a.val,xs.val,xn.val,.int .i64 (f1+own)] U fun e U'=> ∃(y:TV) (m:Int),e=.returned (.tuple #[y.val,.int .i64 m,.int .i64 ea])∧Below U.heap.size U U'∧BtwP D ns Ma ea ca U.heap.size y m U')
  (HB0:ea=0→∀U,Below W.heap.size W U→Calls Tryd.prog 24 #[b.val,xm.val,xr.val,.int .i64 (f1+own+Ma)] U fun e U'=> ∃(y:TV) (m:Int),e=.returned (.tuple #[y.val,.int .i64 m,.int .i64 eb])∧Below U.heap.size U U'∧BtwP D ns Mb eb cb U.heap.size y m U'):
  Calls Tryd.prog 41 #[(⟨k0,N0,s0,some ⟨Bk,off,none⟩,2,oc⟩:TV).val,xs.val,xn.val,xm.val,xr.val,.int .i64 f1,.int .i64 own] W fun e U=> ∃(y:TV) (m:Int),e=.returned (.tuple #[y.val,.int .i64 m,.int .i64 (if ea≠0 then ea else eb)])∧Below W.heap.size W U∧BtwP (D+1) ns (own+Ma+Mb) (if ea≠0 then ea else eb) ((4,0,s0.toList,2)::(ca++cb)) W.heap.size y m U:=by
 have HA:=hide HA0;have HB:=hide HB0;have HC:=hide (And.intro hca hcb);clear HA0 HB0 hca hcb;go_enter Tryd.func41,Tryd.ntmps41
 simp only[TV.val];go_wp2_with fail
 obtain⟨W1,hW1⟩:∃V,W.alloc (.cells #[.int .i64 k0,.int .i64 N0,.string s0,.slice (some ⟨Bk,off,none⟩) 2 oc] 24)=V:=⟨_,rfl⟩;rw[hW1];have g1:Below W.heap.size W W1:=by rw[←hW1];exact(Below.refl _ W).alloc (Nat.le_refl _) _
 have z1:W1.heap.size=W.heap.size+1:=by rw[←hW1];simp
 have b1:BoxT W1 W.heap.size (⟨k0,N0,s0,some ⟨Bk,off,none⟩,2,oc⟩:TV):=by rw[←hW1];exact BoxT.new W (⟨k0,N0,s0,some ⟨Bk,off,none⟩,2,oc⟩:TV)
 clear hW1;obtain⟨W2,hW2⟩:∃V,W1.alloc (.cells #[.int .i64 xs.k,.int .i64 xs.N,.string xs.s,.slice xs.a xs.len xs.cap] 24)=V:=⟨_,rfl⟩;rw[hW2];have g2:Below W1.heap.size W1 W2:=by rw[←hW2];exact(Below.refl _ W1).alloc (Nat.le_refl _) _
 have z2:W2.heap.size=W1.heap.size+1:=by rw[←hW2];simp
 have b2:BoxT W2 W1.heap.size xs:=by rw[←hW2];exact BoxT.new W1 xs
 clear hW2;obtain⟨W3,hW3⟩:∃V,W2.alloc (.cells #[.int .i64 xn.k,.int .i64 xn.N,.string xn.s,.slice xn.a xn.len xn.cap] 24)=V:=⟨_,rfl⟩;rw[hW3];have g3:Below W2.heap.size W2 W3:=by rw[←hW3];exact(Below.refl _ W2).alloc (Nat.le_refl _) _
 have z3:W3.heap.size=W2.heap.size+1:=by rw[←hW3];simp
 have b3:BoxT W3 W2.heap.size xn:=by rw[←hW3];exact BoxT.new W2 xn
 clear hW3;obtain⟨W4,hW4⟩:∃V,W3.alloc (.cells #[.int .i64 xm.k,.int .i64 xm.N,.string xm.s,.slice xm.a xm.len xm.cap] 24)=V:=⟨_,rfl⟩;rw[hW4];have g4:Below W3.heap.size W3 W4:=by rw[←hW4];exact(Below.refl _ W3).alloc (Nat.le_refl _) _
 have z4:W4.heap.size=W3.heap.size+1:=by rw[←hW4];simp
 have b4:BoxT W4 W3.heap.size xm:=by rw[←hW4];exact BoxT.new W3 xm
 clear hW4;obtain⟨W5,hW5⟩:∃V,W4.alloc (.cells #[.int .i64 xr.k,.int .i64 xr.N,.string xr.s,.slice xr.a xr.len xr.cap] 24)=V:=⟨_,rfl⟩;rw[hW5];have g5:Below W4.heap.size W4 W5:=by rw[←hW5];exact(Below.refl _ W4).alloc (Nat.le_refl _) _
 have z5:W5.heap.size=W4.heap.size+1:=by rw[←hW5];simp
 have b5:BoxT W5 W4.heap.size xr:=by rw[←hW5];exact BoxT.new W4 xr
 clear hW5;obtain⟨W6,hW6⟩:∃V,W5.alloc (.cells #[.int .i64 0,.int .i64 0,.string ⟨#[]⟩,.slice none 0 0] 24)=V:=⟨_,rfl⟩;rw[hW6];have g6:Below W5.heap.size W5 W6:=by rw[←hW6];exact(Below.refl _ W5).alloc (Nat.le_refl _) _
 have z6:W6.heap.size=W5.heap.size+1:=by rw[←hW6];simp
 have b6:BoxT W6 W5.heap.size noTerm:=by rw[←hW6];exact BoxT.new W5 noTerm
 clear hW6;obtain⟨p2,hp2⟩:∃p,W.heap.size+1=p:=⟨_,rfl⟩;rw[hp2];obtain⟨p3,hp3⟩:∃p,p2+1=p:=⟨_,rfl⟩;rw[hp3];obtain⟨p4,hp4⟩:∃p,p3+1=p:=⟨_,rfl⟩;rw[hp4];obtain⟨p5,hp5⟩:∃p,p4+1=p:=⟨_,rfl⟩;rw[hp5];obtain⟨p6,hp6⟩:∃p,p5+1=p:=⟨_,rfl⟩;rw[hp6];have e1:W1.heap.size=p2:=by omega
 have e2:W2.heap.size=p3:=by omega
 have e3:W3.heap.size=p4:=by omega
 have e4:W4.heap.size=p5:=by omega
 have e5:W5.heap.size=p6:=by omega
 rw[e1] at b2;rw[e2] at b3;rw[e3] at b4;rw[e4] at b5;rw[e5] at b6;have L6:Below W6.heap.size W6 W6:=Below.refl _ _;have L5:Below W5.heap.size W5 W6:=(g6.trans (L6.mono (by omega)));have L4:Below W4.heap.size W4 W6:=(g5.trans (L5.mono (by omega)));have L3:Below W3.heap.size W3 W6:=(g4.trans (L4.mono (by omega)));have L2:Below W2.heap.size W2 W6:=(g3.trans (L3.mono (by omega)));have L1:Below W1.heap.size W1 W6:=(g2.trans (L2.mono (by omega)));have L0:Below W.heap.size W W6:=g1.trans (L1.mono (by omega));have B1:BoxT W6 W.heap.size _:=b1.below L1 (by omega);have B2:BoxT W6 p2 _:=b2.below L2 (by omega);have B3:BoxT W6 p3 _:=b3.below L3 (by omega);have B4:BoxT W6 p4 _:=b4.below L4 (by omega);have B5:BoxT W6 p5 _:=b5.below L5 (by omega);have B6:BoxT W6 p6 _:=b6.below L6 (by omega);have hz:W.heap.size+6≤W6.heap.size∧W6.heap.size≤W.heap.size+6∧W.heap.size<p2∧p2<p3∧p3<p4∧p4<p5∧p5<p6∧p6<W6.heap.size:=by omega
 obtain⟨hca,hcb⟩:=uh HC;have ka:=hca.kept (L0.block Bk hBk);have kb:=hcb.kept (L0.block Bk hBk);clear g1 z1 b1 g2 z2 b2 g3 z3 b3 g4 z4 b4 g5 z5 b5 g6 z6 b6 L1 L2 L3 L4 L5 L6 e1 hp2 e2 hp3 e3 hp4 e4 hp5 e5 hp6;clear W1 W2 W3 W4 W5;refine wp_pair1 (tb:=W.heap.size) (Bk:=Bk) (off:=off) (oc:=oc) (sb:=p2) (nb:=p3) (a:=a) (xs:=xs) (xn:=xn) (f1:=f1) (f2:=(own:Int)) (D:=D) (ns:=ns) (M:=Ma) (er:=ea) (c:=ca) (by omega) (by omega) (by omega) (by omega) (by omega) (by omega) (by omega) ⟨B1.c3,ka.1,ka.2.1,ka.2.2.1,ka.2.2.2,B2.c0,B2.c1,B2.c2,B2.c3,B3.c0,B3.c1,B3.c2,B3.c3⟩ (fun U hU=>(uh HA) U (L0.trans (hU.mono (by omega)))) ?_;intro V bx y m u20 u21 u22 u23 u24 u25 u26 u27 u28 u29 u30 u31 u32 u33 u34 u35 hV hbx bV hP;have hVs:=hV.size;have C1:=B1.below hV (by omega);have C2:=B2.below hV (by omega);have C3:=B3.below hV (by omega);have C4:=B4.below hV (by omega);have C5:=B5.below hV (by omega);have C6:=B6.below hV (by omega);have kb2:=kb.kept (hV.block Bk (by omega));clear ka kb hca hcb HC B1 B2 B3 B4 B5 B6 HA
 by_cases he:ea=0
 ·have HB1:=hide ((uh HB) he)
  clear HB;subst he;obtain⟨m0,m1,hm⟩:=hP;obtain⟨rfl,hHa⟩:=hm rfl;clear hm m0 m1;have HHa:=hide hHa;clear hHa;go_wp2_with fail
  refine wp_pair4 (tb:=W.heap.size) (Bk:=Bk) (off:=off) (oc:=oc) (sb:=p4) (nb:=p5) (a:=b) (xs:=xm) (xn:=xr) (f1:=f1) (f2:=(own:Int)) (f3:=(Ma:Int)) (D:=D) (ns:=ns) (M:=Mb) (er:=eb) (c:=cb) (by omega) (by omega) (by omega) (by omega) (by omega) (by omega) (by omega) (by omega) ⟨C1.c3,kb2.1,kb2.2.1,kb2.2.2.1,kb2.2.2.2,C4.c0,C4.c1,C4.c2,C4.c3,C5.c0,C5.c1,C5.c2,C5.c3⟩ (fun U hU=>(uh HB1) U (L0.trans ((hV.trans (hU.mono (by omega))).mono (by omega)))) ?_;intro V2 b2 y2 m2 q40 q41 q42 q43 q44 q45 q46 q47 q48 q49 q50 q51 q52 q53 q54 q55 hV2 hb2 bV2 hP2;have hV2s:=hV2.size;have E1:=C1.below hV2 (by omega);have E6:=C6.below hV2 (by omega);have E7:=bV.below hV2 bV.lt;obtain⟨V3,hV3⟩:∃V3,V2.alloc (.cells #[.int .i64 y.k,.int .i64 y.N,.string y.s,.slice y.a y.len y.cap,.int .i64 y2.k,.int .i64 y2.N,.string y2.s,.slice y2.a y2.len y2.cap] 24)=V3:=⟨_,rfl⟩;have g3:Below V2.heap.size V2 V3:=by rw[←hV3];exact(Below.refl _ V2).alloc (Nat.le_refl _) _
  have z3:V3.heap.size=V2.heap.size+1:=by rw[←hV3];simp
  have r3:V3.heap[V2.heap.size]?=some (.cells #[.int .i64 y.k,.int .i64 y.N,.string y.s,.slice y.a y.len y.cap,.int .i64 y2.k,.int .i64 y2.N,.string y2.s,.slice y2.a y2.len y2.cap] 24 (0,0)):=by rw[←hV3];exact World.alloc_heap_new V2 _
  have f2':V2.cell? ⟨W.heap.size,2,none⟩=some (.string s0):=E1.c2;have y0':=E7.c0;have y1':=E7.c1;have y2':=E7.c2;have y3':=E7.c3;have x0':=bV2.c0;have x1':=bV2.c1;have x2':=bV2.c2;have x3':=bV2.c3;have HS:=hide (And.intro L0 (And.intro hV (And.intro hV2 (And.intro g3 (And.intro E6 (And.intro r3 hP2))))));have hl:V2.heap.size<V3.heap.size∧V3.heap.size≤V2.heap.size+1:=by omega
  clear z3 L0 hV hV2 g3 E6 r3 hP2 E1 E7 bV bV2 C1 C2 C3 C4 C5 C6 kb2 HB1;go_wp2_with fail
  try rw[hV3]
  clear hV3 f2' y0' x0' y1' x1' y2' x2' y3' x3';try go_wp2_with fail
  refine(rcompound_any s0 (some ⟨V2.heap.size,0,none⟩) 2 2 V3).mono ?_;rintro e V4 ⟨rfl,h4⟩;have h4s:=h4.size;obtain⟨L0,hV,hV2,g3,E6,r3,hP2⟩:=uh HS;have F6:=(E6.below g3 (by omega)).below h4 (by omega);have bZ:BoxT (set4 V4 p6 0 (compV s0 (some ⟨V2.heap.size,0,none⟩) 2 2)) p6 (compV s0 (some ⟨V2.heap.size,0,none⟩) 2 2):=set4_box F6 _;have oZ:∀k,k≠p6→(set4 V4 p6 0 (compV s0 (some ⟨V2.heap.size,0,none⟩) 2 2)).heap[k]?=V4.heap[k]?:=fun k hk=>set4_other _ _ _ _ hk;have sZ:(set4 V4 p6 0 (compV s0 (some ⟨V2.heap.size,0,none⟩) 2 2)).heap.size=V4.heap.size:=set4_size _ _ _ _;have lZ:Below W.heap.size W (set4 V4 p6 0 (compV s0 (some ⟨V2.heap.size,0,none⟩) 2 2)):=set4_below (((L0.trans (hV.mono (by omega))).trans ((hV2.mono (by omega)).trans (g3.mono (by omega)))).trans (h4.mono (by omega))) (by omega) 0 _;obtain⟨m0,m1,hm⟩:=hP2;have HF:Hid (Below W.heap.size W (set4 V4 p6 0 (compV s0 (some ⟨V2.heap.size,0,none⟩) 2 2))∧BtwP (D+1) ns (own+Ma+Mb) eb ((4,0,s0.toList,2)::(ca++cb)) W.heap.size (compV s0 (some ⟨V2.heap.size,0,none⟩) 2 2) ((own:Int)+Ma+m2) (set4 V4 p6 0 (compV s0 (some ⟨V2.heap.size,0,none⟩) 2 2))):=hide ⟨lZ,by omega,by omega,fun e=>⟨by have:=(hm e).1;omega,?hold⟩⟩
  case hold=>
   have h2:=(hm e).2;have hA:HoldsS D (Mix ns W.heap.size) (set4 V4 p6 0 (compV s0 (some ⟨V2.heap.size,0,none⟩) 2 2)) y.val ca:=(HoldsS.fromS ((((uh HHa).below hV2).below g3).below h4) (fun k hS hk=>oZ k (by unfold Mix at hS;omega)) (by omega)).mono (Nat.le_refl _) (fun k hS=>by unfold Mix at hS⊢;omega);have hB:HoldsS D (Mix ns W.heap.size) (set4 V4 p6 0 (compV s0 (some ⟨V2.heap.size,0,none⟩) 2 2)) y2.val cb:=(HoldsS.fromS ((h2.below g3).below h4) (fun k hS hk=>oZ k (by unfold Mix at hS;omega)) (by omega)).mono (Nat.le_refl _) (fun k hS=>by unfold Mix at hS⊢;omega);exact holdsS_two hA hB (b:=V2.heap.size) (.inr (by omega)) ((oZ _ (by omega)).trans ((h4.block _ (by omega)).trans r3)) s0 hs0
  have z0:=bZ.c0;have z1:=bZ.c1;have z2:=bZ.c2;have z3:=bZ.c3;obtain⟨r0,r1,r2,r3'⟩:=F6.frz;have s0':=F6.c0;have s1':=F6.c1;have s2':=F6.c2;have s3':=F6.c3;have HW1:Hid (IntKind.i64.wrap ((own:Int)+Ma)=(own:Int)+Ma):=hide (by simp[IntKind.wrap,IntKind.bits,IntKind.signed];omega);have HW2:Hid (IntKind.i64.wrap ((own:Int)+Ma+m2)=(own:Int)+Ma+m2):=hide (by simp[IntKind.wrap,IntKind.bits,IntKind.signed];omega);clear bZ oZ sZ lZ L0 hV hV2 g3 E6 r3 hm F6 HS h4;simp only[TV.val,compV];go_wp2_with fail
  try rw[uh HW1]
  try rw[uh HW2]
  exact bodyPost_ret (v:=.tuple #[(compV s0 (some ⟨V2.heap.size,0,none⟩) 2 2).val,.int .i64 ((own:Int)+Ma+m2),.int .i64 eb]) (by
   have e:(((V4.setCell ⟨p6,0,none⟩ (.int .i64 4)).setCell ⟨p6,1,none⟩ (.int .i64 0)).setCell ⟨p6,2,none⟩ (.string s0)).setCell ⟨p6,3,none⟩ (.slice (some ⟨V2.heap.size,0,none⟩) 2 2)=set4 V4 p6 0 (compV s0 (some ⟨V2.heap.size,0,none⟩) 2 2):=rfl;rw[e];simp[results,Tryd.results41,go_sem,TV.val,z0,z1,z2,z3]) rfl ⟨(compV s0 (some ⟨V2.heap.size,0,none⟩) 2 2),_,rfl,(uh HF).1,(uh HF).2⟩
 ·have d0:=C1.c0
  have d1:=C1.c1;have d2:=C1.c2;have d3:=C1.c3;obtain⟨r0,r1,r2,r3⟩:=C6.frz;have s0':=C6.c0;have s1':=C6.c1;have s2':=C6.c2;have s3':=C6.c3;have hL:Below W.heap.size W V:=L0.trans (hV.mono (by omega));have bZ:BoxT (set4 V p6 0 (⟨k0,N0,s0,some ⟨Bk,off,none⟩,2,oc⟩:TV)) p6 (⟨k0,N0,s0,some ⟨Bk,off,none⟩,2,oc⟩:TV):=set4_box C6 _;have z0:=bZ.c0;have z1:=bZ.c1;have z2:=bZ.c2;have z3:=bZ.c3;have HF:Hid (Below W.heap.size W (set4 V p6 0 (⟨k0,N0,s0,some ⟨Bk,off,none⟩,2,oc⟩:TV))∧BtwP (D+1) ns (own+Ma+Mb) ea ((4,0,s0.toList,2)::(ca++cb)) W.heap.size (⟨k0,N0,s0,some ⟨Bk,off,none⟩,2,oc⟩:TV) 0 (set4 V p6 0 (⟨k0,N0,s0,some ⟨Bk,off,none⟩,2,oc⟩:TV))):=hide ⟨set4_below hL (by omega) 0 _,Int.le_refl _,by omega,fun e=>absurd e he⟩;clear C1 C2 C3 C4 C5 kb2 bV L0 hV C6 hL bZ;go_wp2_with fail
  exact bodyPost_ret (v:=.tuple #[(⟨k0,N0,s0,some ⟨Bk,off,none⟩,2,oc⟩:TV).val,.int .i64 0,.int .i64 ea]) (by
   have e:(((V.setCell ⟨p6,0,none⟩ (.int .i64 k0)).setCell ⟨p6,1,none⟩ (.int .i64 N0)).setCell ⟨p6,2,none⟩ (.string s0)).setCell ⟨p6,3,none⟩ (.slice (some ⟨Bk,off,none⟩) 2 oc)=set4 V p6 0 (⟨k0,N0,s0,some ⟨Bk,off,none⟩,2,oc⟩:TV):=rfl;rw[e];simp[results,Tryd.results41,go_sem,TV.val,z0,z1,z2,z3]) rfl ⟨(⟨k0,N0,s0,some ⟨Bk,off,none⟩,2,oc⟩:TV),_,rfl,(uh HF).1,(uh HF).2⟩
set_option maxHeartbeats 4000000
set_option maxRecDepth 100000
open Go.Maps
theorem app_args{ns n B:Nat}{x:TV}{kids:List (Tm n)}{U:World}(hT:IsT (n:=n+1) ns U ((x,kids):TV×List (Tm n)))(hl:kids.length≤2199023255552)(hB:B≤U.heap.size):
  ∃v X,(Builtin.append_ #[22,22] 22 #[.slice none 0 0,.slice x.a x.len x.cap]).run Tryd.prog U=.ok v X∧StkT B X v (kids.map Tm.tv)∧U.grownBy X none:=by
 obtain⟨i0,hi,hz0,hz1,hz2⟩:=info_parts Tryd.infoT4;have hlen:x.len=kids.length:=hT.1;have h0:StkT B U (.slice none 0 0) ([]:List TV):=⟨fun r hr=>by simp at hr,by simp,.inl ⟨rfl,rfl⟩⟩
 have key:∀(ad:Addr),(∀j u,(kids.map (fun k=>trow k.tv)).flatten[j]?=some u→U.cell? (ad.add j)=some u)→∃v X,(Builtin.append_ #[22,22] 22 #[.slice none 0 0,.slice (some ad) x.len x.cap]).run Tryd.prog U=.ok v X∧StkT B X v (kids.map Tm.tv)∧U.grownBy X none:=fun ad hc=>by
  obtain⟨v',X,r1,r2,r3,_⟩:=run_append_own (P:=Tryd.prog) U B 22 22 24 i0 _ 4 56 Tryd.underlying22 hi hz0 hz1 hz2 rfl (by omega) (.slice none 0 0) _ _ h0.2 ad x.len x.cap (kids.map (fun k=>trow k.tv)).flatten (by
   rw[flat_len (w:=4) (fun r hr=>by obtain⟨k,_,rfl⟩:=List.mem_map.1 hr;rfl)];simp[hlen]) hc (fun u hu=>by
   obtain⟨r,hr,hu⟩:=List.mem_flatten.1 hu;obtain⟨k,_,rfl⟩:=List.mem_map.1 hr;exact trow_ok k.tv u hu) (by unfold maxLen;simp;omega) (by simp;omega) hB
  refine⟨v',X,r1,⟨fun r hr=>?_,?_⟩,r3⟩
  ·obtain⟨y,_,rfl⟩:=List.mem_map.1 hr
   rfl
  ·have e:((kids.map Tm.tv).map trow)=kids.map (fun k=>trow k.tv):=by simp
   rw[e,List.length_map];simpa[hlen] using r2
 rcases hT.2.2.2 with hk | ⟨Bk,off,ha,_,hcs⟩
 ·have hk':kids=[]:=hk
  subst hk';have hl0:x.len=0:=hlen;cases ha:x.a with
  | none=>
   refine⟨.slice none 0 0,U,?_,h0,⟨rfl,rfl,rfl,Nat.le_refl _,fun _ _ _=>rfl⟩⟩;rw[hl0];simp[Builtin.append_,run_underlying Tryd.underlying22,sizeOf,typeInfo,hi,Builtin.lenOf,Builtin.firstCells]
  | some ad=>exact key ad (fun j u hu=>by simp at hu)
 ·have ha':x.a=some ⟨Bk,off,none⟩:=ha
  rw[ha'];refine key ⟨Bk,off,none⟩ (fun j u hu=>?_)
  have hrow:∀(ks:List (Tm n)) (o:Nat),(∀i k,ks[i]?=some k→cellsAt U Bk (o+i*4) k.tv)→∀j u,(ks.map (fun k=>trow k.tv)).flatten[j]?=some u→U.cell? ⟨Bk,o+j,none⟩=some u:=by
   intro ks
   induction ks with
   | nil=>intro o _ j u hu;simp at hu
   | cons k ks ih=>
    intro o hc j u hu;obtain⟨q0,q1,q2,q3⟩:=hc 0 k rfl;rw[Nat.zero_mul,Nat.add_zero] at q0 q1 q2 q3;rw[List.map_cons,List.flatten_cons] at hu
    match j,hu with
    | 0,hu=>simp[trow] at hu;rw[←hu];exact q0
    | 1,hu=>simp[trow] at hu;rw[←hu];exact q1
    | 2,hu=>simp[trow] at hu;rw[←hu];exact q2
    | 3,hu=>simp[trow] at hu;rw[←hu];exact q3
    | j+4,hu=>
     rw[List.getElem?_append_right (by simp[trow])] at hu;have:=ih (o+4) (fun i k hi=>by have:=hc (i+1) k (by simpa using hi);rw[show o+(i+1)*4=o+4+i*4 by omega] at this;exact this) j u (by simpa[trow] using hu);rw[show o+(j+4)=o+4+j by omega];exact this
  have:=hrow kids off (fun i k hk=>(hcs i k hk).1) j u hu;cases j with
  | zero=>simpa[Addr.add] using this
  | succ j=>simpa[Addr.add] using this
theorem StkT.lay2{B:Nat}{U:World}(y z:TV)(hB:B≤U.heap.size):StkT B (U.alloc (.cells #[.int .i64 y.k,.int .i64 y.N,.string y.s,.slice y.a y.len y.cap,.int .i64 z.k,.int .i64 z.N,.string z.s,.slice z.a z.len z.cap] 24)) (.slice (some ⟨U.heap.size,0,none⟩) 2 2) [y,z]:=by
 refine⟨fun r hr=>by simp at hr;rcases hr with rfl | rfl <;> rfl,by simp[trow],.inr ⟨U.heap.size,2,#[.int .i64 y.k,.int .i64 y.N,.string y.s,.slice y.a y.len y.cap,.int .i64 z.k,.int .i64 z.N,.string z.s,.slice z.a z.len z.cap],rfl,hB,World.alloc_heap_new U _,Nat.le_refl _,by unfold maxLen;omega,?_,?_⟩⟩ <;> simp[trow]
/-- What holds within Between: the boxes of its three terms, of its answer, the row of Args with two more. -/
structure BwI (W:World) (tb sb rb zb:Nat) (x xs xr:TV) (vm:Value) (ES:List TV) (V:World):Prop where
 g:Below W.heap.size W V
 o:W.heap.size≤tb∧tb<sb∧sb<rb∧rb<zb∧zb<V.heap.size
 bt:BoxT V tb x
 bs:BoxT V sb xs
 br:BoxT V rb xr
 bz:BoxT V zb noTerm
 row:StkT (zb+1) V vm ES
section
variable {W V V':World} {tb sb rb zb:Nat} {x xs xr:TV} {vm:Value} {ES:List TV}
theorem BwI.below(h:BwI W tb sb rb zb x xs xr vm ES V)(hb:Below V.heap.size V V'):BwI W tb sb rb zb x xs xr vm ES V':=
 have s:=h.o
 ⟨h.g.trans (hb.mono h.g.size),by have:=hb.size;omega,h.bt.below hb (by omega),h.bs.below hb (by omega),h.br.below hb (by omega),h.bz.below hb (by omega),StkW.below h.row hb⟩
theorem BwI.cells(h:BwI W tb sb rb zb x xs xr vm ES V):V.cell? ⟨tb,0,none⟩=some (.int .i64 x.k)∧V.cell? ⟨tb,1,none⟩=some (.int .i64 x.N)∧V.cell? ⟨tb,2,none⟩=some (.string x.s)∧V.cell? ⟨tb,3,none⟩=some (.slice x.a x.len x.cap)∧V.cell? ⟨sb,0,none⟩=some (.int .i64 xs.k)∧V.cell? ⟨sb,1,none⟩=some (.int .i64 xs.N)∧V.cell? ⟨sb,2,none⟩=some (.string xs.s)∧V.cell? ⟨sb,3,none⟩=some (.slice xs.a xs.len xs.cap)∧V.cell? ⟨rb,0,none⟩=some (.int .i64 xr.k)∧V.cell? ⟨rb,1,none⟩=some (.int .i64 xr.N)∧V.cell? ⟨rb,2,none⟩=some (.string xr.s)∧V.cell? ⟨rb,3,none⟩=some (.slice xr.a xr.len xr.cap):=
 ⟨h.bt.c0,h.bt.c1,h.bt.c2,h.bt.c3,h.bs.c0,h.bs.c1,h.bs.c2,h.bs.c3,h.br.c0,h.br.c1,h.br.c2,h.br.c3⟩
theorem BwI.zero(h:BwI W tb sb rb zb x xs xr vm ES V):(V.frozen? ⟨zb,0,none⟩=false∧V.frozen? ⟨zb,1,none⟩=false∧V.frozen? ⟨zb,2,none⟩=false∧V.frozen? ⟨zb,3,none⟩=false)∧V.cell? ⟨zb,0,none⟩=some (.int .i64 0)∧V.cell? ⟨zb,1,none⟩=some (.int .i64 0)∧V.cell? ⟨zb,2,none⟩=some (.string ⟨#[]⟩)∧V.cell? ⟨zb,3,none⟩=some (.slice none 0 0):=
 ⟨h.bz.frz,h.bz.c0,h.bz.c1,h.bz.c2,h.bz.c3⟩
theorem BwI.fin(h:BwI W tb sb rb zb x xs xr vm ES V)(y:TV):Below W.heap.size W (set4 V zb 0 y)∧BoxT (set4 V zb 0 y) zb y∧∀{D ns:Nat} {c:List Nd},ns≤W.heap.size→HoldsS D (Mix ns (zb+1)) V y.val c→HoldsS D (Mix ns W.heap.size) (set4 V zb 0 y) y.val c:=
 ⟨set4_below h.g (by have:=h.o;omega) 0 y,set4_box h.bz y,fun hns hh=>(HoldsS.fromS hh (fun k hS _=>set4_other V zb 0 y (by have:=h.o;unfold Mix at hS;omega)) (by rw[set4_size];exact Nat.le_refl _)).mono (Nat.le_refl _) (fun k hS=>by have:=h.o;unfold Mix at hS⊢;omega)⟩
end
/-- Between's boxes, just laid. -/
structure BwS (W:World) (x xs xr:TV) (sb rb zb:Nat) (W4:World):Prop where
 g:Below W.heap.size W W4
 lt:W.heap.size<W4.heap.size∧sb<W4.heap.size∧rb<W4.heap.size
 hc:W4.cell? ⟨W.heap.size,3,none⟩=some (.slice x.a x.len x.cap)∧W4.cell? ⟨sb,0,none⟩=some (.int .i64 xs.k)∧W4.cell? ⟨sb,1,none⟩=some (.int .i64 xs.N)∧W4.cell? ⟨sb,2,none⟩=some (.string xs.s)∧W4.cell? ⟨sb,3,none⟩=some (.slice xs.a xs.len xs.cap)∧W4.cell? ⟨rb,0,none⟩=some (.int .i64 xr.k)∧W4.cell? ⟨rb,1,none⟩=some (.int .i64 xr.N)∧W4.cell? ⟨rb,2,none⟩=some (.string xr.s)∧W4.cell? ⟨rb,3,none⟩=some (.slice xr.a xr.len xr.cap)
 new:∀X vm ES,Below W4.heap.size W4 X→StkT W4.heap.size X vm ES→BwI W W.heap.size sb rb zb x xs xr vm ES X
theorem BwI.is{W V:World}{tb sb rb zb:Nat}{x xs xr:TV}{vm:Value}{ES:List TV}{s:ByteArray}{l:List UInt8}{m:Int}{b:Bool}(h:BwI W tb sb rb zb x xs xr vm ES V)(hq:isB x l m=b)(hl:s.toList=l):
  Calls Tryd.prog 20 #[.agg #[.int .i64 x.k,.int .i64 x.N,.string x.s,.slice x.a x.len x.cap],.string s,.int .i64 m] V fun e V'=>e=.returned (.bool b)∧BwI W tb sb rb zb x xs xr vm ES V'∧V'.cell? ⟨tb,0,none⟩=some (.int .i64 x.k)∧V'.cell? ⟨tb,1,none⟩=some (.int .i64 x.N)∧V'.cell? ⟨tb,2,none⟩=some (.string x.s)∧V'.cell? ⟨tb,3,none⟩=some (.slice x.a x.len x.cap):=
 (ris_any x s m V).mono fun e V' r=>by
  have h':=h.below r.2;rw[hl,hq] at r;exact⟨r.1,h',h'.bt.c0,h'.bt.c1,h'.bt.c2,h'.bt.c3⟩
theorem wp_btw1{n ns sb rb zb:Nat}{x xs xr:TV}{kids:List (Tm n)}{W W0:World}{v0 v1 v2 v3 v7 v8 v9 v10 v11 v12 v13 v14 v15 v16 v17 v18 v19 v20 v21 v22 v23 v24 v25 v26 v27 v28 v29 v30 v31 v32 v33 v34 v35 v36 v37 v38 v39 v40 v41 v42 v43 v44 v45 v46 v47 v48 v49 v50 v51 v52 v53 v54 v55 v56 v57 v58 v59 v60 v61 v62 v63 v64 v65 v66 v67 v68 v69 v70 v71 v72 v73 v74 v75 v76 v77 v78 v79 v80 v81 v82 v83 v84 v85 v86 v87 v88 v89 v90 v91 v92 v93 v94 v95 v96 v97 v98 v99 v100 v101 v102 v103 v104 v105 v106 v107 v108 v109 v110 v111 v112 v113 v114 v115 v116 v117 v118 v119 v120 v121 v122 v123 v124 v125 v126 v127 v128 v129 v130 v131 v132 v133 v134 v135 v136 v137 v138 v139 v140 v141 v142 v143 v144 v145 v146 v147 v148 v149 v150 v151 v152 v153 v154 v155 v156 v157 v158 v159 v160 v161 v162 v163 v164 v165 v166 v167 v168 v169 v170 v171 v172 v173 v174 v175 v176 v177 v178 v179 v180 v181 v182 v183 v184 v185 v186 v187 v188 v189 v190 v191:Value}{d:List Deferred}{Q:Exit→Act→World→Prop}(hT:IsT (n:=n+1) ns W ((x,kids):TV×List (Tm n)))(hns:ns≤W.heap.size)(hl0:kids.length≤1099511627776)(hS:BwS W x xs xr sb rb zb W0)
  (hQ:∀(X:World) (vm u19 u20 u21 u22 u23 u24 u25:Value),BwI W W.heap.size sb rb zb x xs xr vm (kids.map Tm.tv++[xs,xr]) X→Q .normal ⟨#[v0,v1,v2,v3,.pointer (some ⟨W.heap.size,0,none⟩),.pointer (some ⟨sb,0,none⟩),.pointer (some ⟨rb,0,none⟩),v7,v8,v9,v10,vm,v12,v13,v14,v15,v16,v17,v18,u19,u20,u21,u22,u23,u24,u25,v26,v27,v28,v29,v30,v31,v32,v33,v34,v35,v36,v37,v38,v39,v40,v41,v42,v43,v44,v45,v46,v47,v48,v49,v50,v51,v52,v53,v54,v55,v56,v57,v58,v59,v60,v61,v62,v63,v64,v65,v66,v67,v68,v69,v70,v71,v72,v73,v74,v75,v76,v77,v78,v79,v80,v81,v82,v83,v84,v85,v86,v87,v88,v89,v90,v91,v92,v93,v94,v95,v96,v97,v98,v99,v100,v101,v102,v103,v104,v105,v106,v107,v108,v109,v110,v111,v112,v113,v114,v115,v116,v117,v118,v119,v120,v121,v122,v123,v124,v125,v126,v127,v128,v129,v130,v131,v132,v133,v134,v135,v136,v137,v138,v139,v140,v141,v142,v143,v144,v145,v146,v147,v148,v149,v150,v151,v152,v153,v154,v155,v156,v157,v158,v159,v160,v161,v162,v163,v164,v165,v166,v167,v168,v169,v170,v171,v172,v173,v174,v175,v176,v177,v178,v179,v180,v181,v182,v183,v184,v185,v186,v187,v188,v189,v190,v191],d⟩ X):
  (Code.region 1 #[{dst:=some 19,op:=Op.fieldAddr 24 (Operand.tmp 4) 3,type:=0,pos:= "grammar.go:7",after:=#[],guard:=none},{dst:=some 20,op:=Op.load 22 (Operand.tmp 19),type:=22,pos:= "grammar.go:7",after:=#[{on:=0,ground:=Ground.data}],guard:=none},{dst:=some 21,op:=Op.call {callee:=Callee.builtin Builtin.append,args:=#[Operand.const (Value.slice none 0 0),Operand.tmp 20],argTypes:=#[22,22]},type:=22,pos:= "grammar.go:7",after:=#[{on:=1,ground:=Ground.data}],guard:=none},{dst:=some 22,op:=Op.load 24 (Operand.tmp 5),type:=24,pos:= "grammar.go:7",after:=#[],guard:=none},{dst:=some 23,op:=Op.load 24 (Operand.tmp 6),type:=24,pos:= "grammar.go:7",after:=#[],guard:=none},{dst:=some 24,op:=Op.buildSlice 22 2 #[(0,Operand.tmp 22),(1,Operand.tmp 23)],type:=22,pos:= "grammar.go:7",after:=#[{on:=3,ground:=Ground.data},{on:=4,ground:=Ground.data}],guard:=none},{dst:=some 25,op:=Op.call {callee:=Callee.builtin Builtin.append,args:=#[Operand.tmp 21,Operand.tmp 24],argTypes:=#[22,22]},type:=22,pos:= "grammar.go:7",after:=#[{on:=2,ground:=Ground.data},{on:=5,ground:=Ground.data},{on:=2,ground:=Ground.chain}],guard:=none},{dst:=some 11,op:=Op.assign (Operand.tmp 25),type:=22,pos:= "grammar.go:7",after:=#[{on:=6,ground:=Ground.data},{on:=6,ground:=Ground.chain},{on:=0,ground:=Ground.phase},{on:=1,ground:=Ground.phase},{on:=2,ground:=Ground.phase},{on:=3,ground:=Ground.phase},{on:=4,ground:=Ground.phase},{on:=5,ground:=Ground.phase},{on:=6,ground:=Ground.phase}],guard:=none}] true).wp Tryd.prog Q ⟨#[v0,v1,v2,v3,.pointer (some ⟨W.heap.size,0,none⟩),.pointer (some ⟨sb,0,none⟩),.pointer (some ⟨rb,0,none⟩),v7,v8,v9,v10,v11,v12,v13,v14,v15,v16,v17,v18,v19,v20,v21,v22,v23,v24,v25,v26,v27,v28,v29,v30,v31,v32,v33,v34,v35,v36,v37,v38,v39,v40,v41,v42,v43,v44,v45,v46,v47,v48,v49,v50,v51,v52,v53,v54,v55,v56,v57,v58,v59,v60,v61,v62,v63,v64,v65,v66,v67,v68,v69,v70,v71,v72,v73,v74,v75,v76,v77,v78,v79,v80,v81,v82,v83,v84,v85,v86,v87,v88,v89,v90,v91,v92,v93,v94,v95,v96,v97,v98,v99,v100,v101,v102,v103,v104,v105,v106,v107,v108,v109,v110,v111,v112,v113,v114,v115,v116,v117,v118,v119,v120,v121,v122,v123,v124,v125,v126,v127,v128,v129,v130,v131,v132,v133,v134,v135,v136,v137,v138,v139,v140,v141,v142,v143,v144,v145,v146,v147,v148,v149,v150,v151,v152,v153,v154,v155,v156,v157,v158,v159,v160,v161,v162,v163,v164,v165,v166,v167,v168,v169,v170,v171,v172,v173,v174,v175,v176,v177,v178,v179,v180,v181,v182,v183,v184,v185,v186,v187,v188,v189,v190,v191],d⟩ W0:=by
 have htb:=hS.lt.1;have hsb:=hS.lt.2.1;have hrb:=hS.lt.2.2;have hc:=hS.hc;have hl:kids.length≤1099511627776:=hl0;have HA0:=fun U (hU:Below W0.heap.size W0 U)=>app_args (B:=W0.heap.size) ((hT.below (hS.g.mono hns)).below (hU.mono (Nat.le_trans hns hS.g.size))) (by omega) hU.size;obtain⟨D1,hD1⟩:∃D1,W0.drew=D1:=⟨_,rfl⟩;have hDB:Below W0.heap.size W0 D1:=by rw[←hD1];exact(Below.refl _ W0).drew
 have hDs:D1.heap.size=W0.heap.size:=by rw[←hD1];rfl
 have hDl:W0.heap.size≤D1.heap.size∧D1.heap.size≤W0.heap.size:=by omega
 have KEEP:Hid (∀U:World,(∀k,k<W0.heap.size→U.heap[k]?=W0.heap[k]?)→(U.cell? ⟨W.heap.size,3,none⟩=some (.slice x.a x.len x.cap)∧U.cell? ⟨sb,0,none⟩=some (.int .i64 xs.k)∧U.cell? ⟨sb,1,none⟩=some (.int .i64 xs.N)∧U.cell? ⟨sb,2,none⟩=some (.string xs.s)∧U.cell? ⟨sb,3,none⟩=some (.slice xs.a xs.len xs.cap)∧U.cell? ⟨rb,0,none⟩=some (.int .i64 xr.k)∧U.cell? ⟨rb,1,none⟩=some (.int .i64 xr.N)∧U.cell? ⟨rb,2,none⟩=some (.string xr.s)∧U.cell? ⟨rb,3,none⟩=some (.slice xr.a xr.len xr.cap))):=hide fun U hU=>by
  have e1:∀j,U.cell? ⟨W.heap.size,j,none⟩=W0.cell? ⟨W.heap.size,j,none⟩:=fun j=>World.cell?_of_block (hU W.heap.size htb);have e2:∀j,U.cell? ⟨sb,j,none⟩=W0.cell? ⟨sb,j,none⟩:=fun j=>World.cell?_of_block (hU sb hsb);have e3:∀j,U.cell? ⟨rb,j,none⟩=W0.cell? ⟨rb,j,none⟩:=fun j=>World.cell?_of_block (hU rb hrb);obtain⟨c0,c1,c2,c3,c4,c5,c6,c7,c8⟩:=hc;exact⟨(e1 _).trans c0,(e2 _).trans c1,(e2 _).trans c2,(e2 _).trans c3,(e2 _).trans c4,(e3 _).trans c5,(e3 _).trans c6,(e3 _).trans c7,(e3 _).trans c8⟩
 have kD:=(uh KEEP) D1 (fun k hk=>hDB.block k hk);have HA:=hide HA0;have HQ:=hide hQ;clear hc HA0 hDs hQ hl0;refine wp_region_noPanic ?_;refine wp_region_held_drew (S:=fun w'=>w'.cell? ⟨W.heap.size,3,none⟩=some (.slice x.a x.len x.cap)∧w'.cell? ⟨sb,0,none⟩=some (.int .i64 xs.k)∧w'.cell? ⟨sb,1,none⟩=some (.int .i64 xs.N)∧w'.cell? ⟨sb,2,none⟩=some (.string xs.s)∧w'.cell? ⟨sb,3,none⟩=some (.slice xs.a xs.len xs.cap)∧w'.cell? ⟨rb,0,none⟩=some (.int .i64 xr.k)∧w'.cell? ⟨rb,1,none⟩=some (.int .i64 xr.N)∧w'.cell? ⟨rb,2,none⟩=some (.string xr.s)∧w'.cell? ⟨rb,3,none⟩=some (.slice xr.a xr.len xr.cap)) (by kernel_rfl) ?_ (fun hHeld=>?_)
 ·(try rw[hD1]);exact kD
 rw[hD1] at hHeld⊢;clear hD1 kD;refine tk 0 rfl hHeld ?_;refine tk 1 rfl hHeld ?_;refine tk 3 rfl hHeld ?_;refine tk 4 rfl hHeld ?_;refine wpAnyH_ready (rs:=[2,5]) (by kernel_rfl) (by simp) ?_;refine rc 2 rfl (fun K hK=>?_) ?_
 ·have hHold:=hHeld
  clear hHeld;obtain⟨v1,X1,r1,s1,q1⟩:=(uh HA) D1 hDB;have lo1:Below W0.heap.size W0 X1:=hDB.grown q1 hDB.size (fun k e=>by cases e);rw[if_pos (by rfl)];refine wp_append_row _ _ _ rfl rfl rfl r1 ?_;refine hK.out _ _ ?_ (fun hHeld=>?_)
  ·((try dsimp only);exact(uh KEEP) _ (fun k hk=>lo1.block k hk))
  clear hK K hHold;try simp only[pu]
  obtain⟨X2,hX2⟩:∃X2,X1.alloc (.cells #[.int .i64 xs.k,.int .i64 xs.N,.string xs.s,.slice xs.a xs.len xs.cap,.int .i64 xr.k,.int .i64 xr.N,.string xr.s,.slice xr.a xr.len xr.cap] 24)=X2:=⟨_,rfl⟩;have g2:Below X1.heap.size X1 X2:=by rw[←hX2];exact(Below.refl _ X1).alloc (Nat.le_refl _) _
  have lo2:Below W0.heap.size W0 X2:=lo1.trans (g2.mono lo1.size);have hrow:StkT W0.heap.size X2 (.slice (some ⟨X1.heap.size,0,none⟩) 2 2) [xs,xr]:=by rw[←hX2];exact StkT.lay2 xs xr lo1.size
  have lz:=lo2.size;replace s1:=StkW.below s1 g2;replace s1:StkT W0.heap.size X2 v1 (kids.map Tm.tv):=s1;refine rd 5 rfl fun K hK=>?_;have hHold:=hHeld;clear hHeld;go_simp;try rw[hX2]
  refine hK.out _ _ ?_ (fun hHeld=>?_)
  ·((try dsimp only);exact(uh KEEP) _ (fun k hk=>lo2.block k hk))
  clear hK K hHold;try simp only[pu]
  obtain⟨vm,X3,r3,s3,q3⟩:=s1.app hrow (by simp;omega) (by omega);have hX3:Below W0.heap.size W0 X3:=lo2.grown q3 lo2.size (fun k e=>(StkW.lt s1 e).1);refine rd 6 rfl fun K hK=>?_;have hHold:=hHeld;clear hHeld;rw[if_pos (by rfl)];refine wp_append_row _ _ _ rfl rfl rfl r3 ?_;refine hK.out _ _ ?_ (fun hHeld=>?_)
  ·((try dsimp only);exact(uh KEEP) _ (fun k hk=>hX3.block k hk))
  clear hK K hHold;try simp only[pu]
  refine tk 7 rfl hHeld ?_;refine wpAnyH_done (by kernel_rfl) ?_ _;exact NoPanic.normal ((uh HQ) X3 vm _ _ _ _ _ _ _ (hS.new X3 vm _ hX3 s3))
 refine rc 5 rfl (fun K hK=>?_) AllReadyH.nil;obtain⟨X0,hX0⟩:∃X0,D1.alloc (.cells #[.int .i64 xs.k,.int .i64 xs.N,.string xs.s,.slice xs.a xs.len xs.cap,.int .i64 xr.k,.int .i64 xr.N,.string xr.s,.slice xr.a xr.len xr.cap] 24)=X0:=⟨_,rfl⟩;have g0:Below D1.heap.size D1 X0:=by rw[←hX0];exact(Below.refl _ D1).alloc (Nat.le_refl _) _
 have lo0:Below W0.heap.size W0 X0:=hDB.trans (g0.mono (by omega));have hrow0:StkT W0.heap.size X0 (.slice (some ⟨D1.heap.size,0,none⟩) 2 2) [xs,xr]:=by rw[←hX0];exact StkT.lay2 xs xr hDB.size
 have hHold:=hHeld;clear hHeld;go_simp;try rw[hX0]
 refine hK.out _ _ ?_ (fun hHeld=>?_)
 ·((try dsimp only);exact(uh KEEP) _ (fun k hk=>lo0.block k hk))
 clear hK K hHold;try simp only[pu]
 obtain⟨v1,X1,r1,s1,q1⟩:=(uh HA) X0 lo0;have g1:Below X0.heap.size X0 X1:=(Below.refl _ X0).grown q1 (Nat.le_refl _) (fun k e=>by cases e);have lo2:Below W0.heap.size W0 X1:=lo0.trans (g1.mono lo0.size);have lz:=lo2.size;have hrow:StkT W0.heap.size X1 (.slice (some ⟨D1.heap.size,0,none⟩) 2 2) [xs,xr]:=StkW.below hrow0 g1;refine rd 2 rfl fun K hK=>?_;have hHold:=hHeld;clear hHeld;rw[if_pos (by rfl)];refine wp_append_row _ _ _ rfl rfl rfl r1 ?_;refine hK.out _ _ ?_ (fun hHeld=>?_)
 ·((try dsimp only);exact(uh KEEP) _ (fun k hk=>lo2.block k hk))
 clear hK K hHold;try simp only[pu]
 obtain⟨vm,X3,r3,s3,q3⟩:=s1.app hrow (by simp;omega) (by omega);have hX3:Below W0.heap.size W0 X3:=lo2.grown q3 lo2.size (fun k e=>(StkW.lt s1 e).1);refine rd 6 rfl fun K hK=>?_;have hHold:=hHeld;clear hHeld;rw[if_pos (by rfl)];refine wp_append_row _ _ _ rfl rfl rfl r3 ?_;refine hK.out _ _ ?_ (fun hHeld=>?_)
 ·((try dsimp only);exact(uh KEEP) _ (fun k hk=>hX3.block k hk))
 clear hK K hHold;try simp only[pu]
 refine tk 7 rfl hHeld ?_;refine wpAnyH_done (by kernel_rfl) ?_ _;exact NoPanic.normal ((uh HQ) X3 vm _ _ _ _ _ _ _ (hS.new X3 vm _ hX3 s3))
end Go.Proofs.YtjbdkbaacjfecaaDoor
