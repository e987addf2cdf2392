import Derived.Test.YtjbdkbaacjfecaaDoorGsZs
import Derived.Test.YtjbdkbaacjfecaaDoorCards
import Derived.Test.YtjbdkbaacjfecaaDoorTie
import Derived.Test.YtjbdkbaacjfecaaDoorOs
import Derived.ProofKit
import Derived.OpenShut
import Derived.JoinedCond
import Derived.Deep.DeepHandedRow
import Derived.Lib.LaidTab
import Derived.Shelf.Vars
namespace Go.Proofs.YtjbdkbaacjfecaaDoor
set_option maxHeartbeats 16000000
set_option maxRecDepth 100000
open Go.RowKit Go.Shelf
theorem same_two{D D':Nat}{S S':Nat→Prop}{W:World}{v v':Value}{c:List Nd}(h:HoldsS D S W v c)(h':HoldsS D' S' W v' c)(hD:D+D'≤2199023255552):
  Calls Tryd.prog 9 #[v,v'] W fun e W'=>e=.returned (.bool true)∧Below W.heap.size W W':=by
 obtain⟨t,rfl,hT,-,hc⟩:=h (D+D') (by omega) hD;obtain⟨t',rfl,hT',-,hc'⟩:=h' (D+D') (by omega) hD;have hs:=same_any _ t t' W hT hT';rw[sameT_code hT.wl hT'.wl,hc,hc'] at hs;simpa using hs
theorem none_two{D:Nat}{S:Nat→Prop}{W:World}{y:TV}(h:HoldsS D S W y.val noC)(hD:D+1≤2199023255552)(w:World):Calls Tryd.prog 7 #[y.val] w fun e W'=>e=.returned (.bool true)∧Below w.heap.size w W':=
 none_ans (h.mono (S':=Mix 0 0) (Nat.le_refl _) (fun b _=>.inr (Nat.zero_le b))) w hD
/-- The law's four boxes. -/
structure LwI (W:World) (a0 a1 a2 a3:Nat) (x0 x1 x2 x3:TV) (V:World):Prop where
 g:Below W.heap.size W V
 o:a0<V.heap.size∧a1<V.heap.size∧a2<V.heap.size∧a3<V.heap.size
 b0:BoxT V a0 x0
 b1:BoxT V a1 x1
 b2:BoxT V a2 x2
 b3:BoxT V a3 x3
theorem LwI.below{W V V':World}{a0 a1 a2 a3:Nat}{x0 x1 x2 x3:TV}(i:LwI W a0 a1 a2 a3 x0 x1 x2 x3 V)(hb:Below V.heap.size V V'):LwI W a0 a1 a2 a3 x0 x1 x2 x3 V':=
 have s:=i.o
 ⟨i.g.trans (hb.mono i.g.size),by have:=hb.size;omega,i.b0.below hb s.1,i.b1.below hb s.2.1,i.b2.below hb s.2.2.1,i.b3.below hb s.2.2.2⟩
theorem LwI.cells{W V:World}{a0 a1 a2 a3:Nat}{x0 x1 x2 x3:TV}(i:LwI W a0 a1 a2 a3 x0 x1 x2 x3 V):V.cell? ⟨a0,0,none⟩=some (.int .i64 x0.k)∧V.cell? ⟨a0,1,none⟩=some (.int .i64 x0.N)∧V.cell? ⟨a0,2,none⟩=some (.string x0.s)∧V.cell? ⟨a0,3,none⟩=some (.slice x0.a x0.len x0.cap)∧V.cell? ⟨a1,0,none⟩=some (.int .i64 x1.k)∧V.cell? ⟨a1,1,none⟩=some (.int .i64 x1.N)∧V.cell? ⟨a1,2,none⟩=some (.string x1.s)∧V.cell? ⟨a1,3,none⟩=some (.slice x1.a x1.len x1.cap)∧V.cell? ⟨a2,0,none⟩=some (.int .i64 x2.k)∧V.cell? ⟨a2,1,none⟩=some (.int .i64 x2.N)∧V.cell? ⟨a2,2,none⟩=some (.string x2.s)∧V.cell? ⟨a2,3,none⟩=some (.slice x2.a x2.len x2.cap)∧V.cell? ⟨a3,0,none⟩=some (.int .i64 x3.k)∧V.cell? ⟨a3,1,none⟩=some (.int .i64 x3.N)∧V.cell? ⟨a3,2,none⟩=some (.string x3.s)∧V.cell? ⟨a3,3,none⟩=some (.slice x3.a x3.len x3.cap):=⟨i.b0.c0,i.b0.c1,i.b0.c2,i.b0.c3,i.b1.c0,i.b1.c1,i.b1.c2,i.b1.c3,i.b2.c0,i.b2.c1,i.b2.c2,i.b2.c3,i.b3.c0,i.b3.c1,i.b3.c2,i.b3.c3⟩
theorem law_boxes(W:World)(x0 x1 x2 x3:TV):∃W4 a1 a2 a3,(((W.alloc (.cells #[.int .i64 x0.k,.int .i64 x0.N,.string x0.s,.slice x0.a x0.len x0.cap] 24)).alloc (.cells #[.int .i64 x1.k,.int .i64 x1.N,.string x1.s,.slice x1.a x1.len x1.cap] 24)).alloc (.cells #[.int .i64 x2.k,.int .i64 x2.N,.string x2.s,.slice x2.a x2.len x2.cap] 24)).alloc (.cells #[.int .i64 x3.k,.int .i64 x3.N,.string x3.s,.slice x3.a x3.len x3.cap] 24)=W4∧W.heap.size+1=a1∧a1+1=a2∧a2+1=a3∧LwI W W.heap.size a1 a2 a3 x0 x1 x2 x3 W4:=by
 refine⟨_,_,_,_,rfl,rfl,rfl,rfl,⟨?_,by simp;omega,?_,?_,?_,?_⟩⟩
 ·exact((((Below.refl _ W).alloc (Nat.le_refl _) _).alloc (by simp) _).alloc (by simp;omega) _).alloc (by simp;omega) _
 ·exact(((BoxT.new W x0).alloc (.cells #[.int .i64 x1.k,.int .i64 x1.N,.string x1.s,.slice x1.a x1.len x1.cap] 24)).alloc (.cells #[.int .i64 x2.k,.int .i64 x2.N,.string x2.s,.slice x2.a x2.len x2.cap] 24)).alloc (.cells #[.int .i64 x3.k,.int .i64 x3.N,.string x3.s,.slice x3.a x3.len x3.cap] 24)
 ·have h:=((BoxT.new (W.alloc (.cells #[.int .i64 x0.k,.int .i64 x0.N,.string x0.s,.slice x0.a x0.len x0.cap] 24)) x1).alloc (.cells #[.int .i64 x2.k,.int .i64 x2.N,.string x2.s,.slice x2.a x2.len x2.cap] 24)).alloc (.cells #[.int .i64 x3.k,.int .i64 x3.N,.string x3.s,.slice x3.a x3.len x3.cap] 24)
  simp only[World.size_alloc] at h;exact h
 ·have h:=(BoxT.new ((W.alloc (.cells #[.int .i64 x0.k,.int .i64 x0.N,.string x0.s,.slice x0.a x0.len x0.cap] 24)).alloc (.cells #[.int .i64 x1.k,.int .i64 x1.N,.string x1.s,.slice x1.a x1.len x1.cap] 24)) x2).alloc (.cells #[.int .i64 x3.k,.int .i64 x3.N,.string x3.s,.slice x3.a x3.len x3.cap] 24)
  simp only[World.size_alloc] at h;exact h
 ·have h:=BoxT.new (((W.alloc (.cells #[.int .i64 x0.k,.int .i64 x0.N,.string x0.s,.slice x0.a x0.len x0.cap] 24)).alloc (.cells #[.int .i64 x1.k,.int .i64 x1.N,.string x1.s,.slice x1.a x1.len x1.cap] 24)).alloc (.cells #[.int .i64 x2.k,.int .i64 x2.N,.string x2.s,.slice x2.a x2.len x2.cap] 24)) x3
  simp only[World.size_alloc] at h;exact h
theorem gram_law{n:Nat}(t tb tl tr:Tm (n+2))(W:World)(hT:IsT W.heap.size W t)(hTb:IsT W.heap.size W tb)(hTl:IsT W.heap.size W tl)(hTr:IsT W.heap.size W tr)(pl:(parts t).length+(parts tb).length+(parts tl).length+(parts tr).length≤1048576)(hn:n≤1073741824){mm:Int}(hm:W.cell? ⟨splitLay_ren.g 1,0,none⟩=some (.int .i64 mm))(hm0:splitLay_ren.g 1<W.heap.size):
  Calls Tryd.prog 3 #[t.tv.val,tb.tv.val,tl.tv.val,tr.tv.val] W fun e W'=>e=.returned (.bool true)∧Below W.heap.size W W':=by
 have hlt:(code t).length=(parts t).length:=by unfold code;rw[List.length_map]
 have hlb:(code tb).length=(parts tb).length:=by unfold code;rw[List.length_map]
 have hll:(code tl).length=(parts tl).length:=by unfold code;rw[List.length_map]
 have hlr:(code tr).length=(parts tr).length:=by unfold code;rw[List.length_map]
 obtain⟨W4,a1,a2,a3,hW4,h1,h2,h3,hI⟩:=law_boxes W t.tv tb.tv tl.tv tr.tv;have HI:=hide hI;have H1:=hide h1;have H2:=hide h2;have H3:=hide h3;have hc:=trans_any t W4 ((hT.below hI.g).mono hI.g.size) (by omega) (by omega);obtain⟨te,hte⟩:∃te,trE t=te:=⟨_,rfl⟩;rw[hte] at hc;simp only[TV.val] at hc;have HC:=hide hc;clear hI h1 h2 h3 hc;simp only[TV.val];obtain⟨c0,c1,c2,c3,d0,d1,d2,d3,e0,e1,e2,e3,f0,f1,f2,f3⟩:=(uh HI).cells;go_enter Tryd.func3,Tryd.ntmps3
 go_upto_region 1 with fail
 try rw[hW4]
 try rw[uh H1,uh H2,uh H3]
 clear hW4;go_wp2_with fail
 refine(uh HC).mono ?_;rintro e V1 ⟨y1,rfl,hy1,g⟩;replace hy1:∀n0,(∀N,IsVarOf (code t) N→N<n0)→HoldsG anyP (3*n+32) W4.heap.size V1 y1.val (trC t n0):=hy1;have HY1:=hide (fun n0 h=>hy1 n0 h);clear hy1 HC;replace HI:=hide ((uh HI).below g);clear g;clear c0 c1 c2 c3 d0 d1 d2 d3 e0 e1 e2 e3 f0 f1 f2 f3;obtain⟨Y,hY⟩:∃Y,V1.alloc (.cells #[.int .i64 0,.int .i64 0,.string ⟨#[]⟩,.slice none 0 0] 24)=Y:=⟨_,rfl⟩;obtain⟨cb,hbcb⟩:∃k,V1.heap.size=k:=⟨_,rfl⟩;have bY:BoxT Y cb noTerm:=by rw[←hY,←hbcb];exact BoxT.new V1 noTerm
 have gY:Below V1.heap.size V1 Y:=by rw[←hY];exact(Below.refl _ V1).alloc (Nat.le_refl _) _
 obtain⟨Z1,hZ⟩:∃Z,set4 Y cb 0 y1=Z:=⟨_,rfl⟩;have g:Below V1.heap.size V1 Z1:=by rw[←hZ];exact set4_below gY (by omega) 0 y1
 have HBcb:=hide (show BoxT Z1 cb y1 by rw[←hZ];exact set4_box bY y1);obtain⟨r0,r1,r2,r3⟩:=bY.frz;have v0:=bY.c0;have v1:=bY.c1;have v2:=bY.c2;have v3:=bY.c3;unfold set4 at hZ;simp only[Nat.zero_add] at hZ;replace HI:=hide ((uh HI).below g);clear bY gY;go_upto_region 2 with fail
 try rw[hbcb]
 try rw[hY]
 try rw[hZ]
 clear hbcb hY hZ r0 r1 r2 r3 v0 v1 v2 v3;replace HY1:=hide (fun n0 h=>((uh HY1) n0 h).below g);have hc:=phrase_any tb tl tr Z1 ((hTb.below (uh HI).g).mono (uh HI).g.size) ((hTl.below (uh HI).g).mono (uh HI).g.size) ((hTr.below (uh HI).g).mono (uh HI).g.size) (by omega) (by omega) (by omega) (by omega);obtain⟨pe,hpe⟩:∃pe,phrE tb tl tr=pe:=⟨_,rfl⟩;rw[hpe] at hc;simp only[TV.val] at hc;have HC:=hide hc;clear hc g;obtain⟨c0,c1,c2,c3,d0,d1,d2,d3,e0,e1,e2,e3,f0,f1,f2,f3⟩:=(uh HI).cells;go_wp2_with fail
 refine(uh HC).mono ?_;rintro e V2 ⟨y2,rfl,hy2,g⟩;replace hy2:HoldsG anyP (4*(n+2)+12) Z1.heap.size V2 y2.val (phrC tb tl tr):=hy2;replace HY1:=hide (fun n0 h=>((uh HY1) n0 h).below g);have HY2:=hide hy2;clear hy2 HC;replace HI:=hide ((uh HI).below g);replace HBcb:=hide ((uh HBcb).below g (uh HBcb).lt);clear g;clear c0 c1 c2 c3 d0 d1 d2 d3 e0 e1 e2 e3 f0 f1 f2 f3;obtain⟨Y,hY⟩:∃Y,V2.alloc (.cells #[.int .i64 0,.int .i64 0,.string ⟨#[]⟩,.slice none 0 0] 24)=Y:=⟨_,rfl⟩;obtain⟨gb,hbgb⟩:∃k,V2.heap.size=k:=⟨_,rfl⟩;have bY:BoxT Y gb noTerm:=by rw[←hY,←hbgb];exact BoxT.new V2 noTerm
 have gY:Below V2.heap.size V2 Y:=by rw[←hY];exact(Below.refl _ V2).alloc (Nat.le_refl _) _
 obtain⟨Z2,hZ⟩:∃Z,set4 Y gb 0 y2=Z:=⟨_,rfl⟩;have g:Below V2.heap.size V2 Z2:=by rw[←hZ];exact set4_below gY (by omega) 0 y2
 have HBgb:=hide (show BoxT Z2 gb y2 by rw[←hZ];exact set4_box bY y2);obtain⟨r0,r1,r2,r3⟩:=bY.frz;have v0:=bY.c0;have v1:=bY.c1;have v2:=bY.c2;have v3:=bY.c3;unfold set4 at hZ;simp only[Nat.zero_add] at hZ;replace HI:=hide ((uh HI).below g);replace HBcb:=hide ((uh HBcb).below g (uh HBcb).lt);clear bY gY;go_upto_region 3 with fail
 try rw[hbgb]
 try rw[hY]
 try rw[hZ]
 clear hbgb hY hZ r0 r1 r2 r3 v0 v1 v2 v3;replace HY1:=hide (fun n0 h=>((uh HY1) n0 h).below g);replace HY2:=hide ((uh HY2).below g);clear g;have HF:=hide (formed_any (n+2) t Z2 ((hT.below (uh HI).g).mono (uh HI).g.size));simp only[TV.val] at HF;obtain⟨c0,c1,c2,c3,d0,d1,d2,d3,e0,e1,e2,e3,f0,f1,f2,f3⟩:=(uh HI).cells;go_wp2_with fail
 refine(uh HF).mono ?_;rintro e Z3 ⟨rfl,g⟩;replace HI:=hide ((uh HI).below g);replace HBcb:=hide ((uh HBcb).below g (uh HBcb).lt);replace HBgb:=hide ((uh HBgb).below g (uh HBgb).lt);replace HY1:=hide (fun n0 h=>((uh HY1) n0 h).below g);replace HY2:=hide ((uh HY2).below g);clear g HF;clear c0 c1 c2 c3 d0 d1 d2 d3 e0 e1 e2 e3 f0 f1 f2 f3
 go_upto_if 31 with fail
 go_cut [13,14] from 29 (fun _ _ wc=>Hid (Below Z3.heap.size Z3 wc))
 case first=>
  cases ok:okT t with
  | false=>
   have e:te=2:=by rw[←hte];unfold trE;rw[if_neg (by rw[ok];simp)]
   have hno:∀n0,trC t n0=noC:=fun n0=>by unfold trC;rw[hte,e,if_neg (by decide)]
   have hN:=none_two (y:=y1) (by have:=(uh HY1) (behC (varsC [] (code t))) (fun N hN=>beh_lt _ N ((steps_mem (code t) [] N).2 (.inr hN)));rw[hno] at this;exact this) (by omega) Z3;simp only[TV.val] at hN;have HN:=hide hN;obtain⟨k0,k1,k2,k3⟩:Z3.cell? ⟨cb,0,none⟩=_∧Z3.cell? ⟨cb,1,none⟩=_∧Z3.cell? ⟨cb,2,none⟩=_∧Z3.cell? ⟨cb,3,none⟩=_:=⟨(uh HBcb).c0,(uh HBcb).c1,(uh HBcb).c2,(uh HBcb).c3⟩;clear hN hno hte;subst e;go_wp2_with fail
   refine(uh HN).mono ?_;rintro e Z4 ⟨rfl,g⟩;have HG:=hide g;clear g k0 k1 k2 k3 HN;go_wp2_with fail
   all_goals go_meet
   all_goals exact HG
  | true=>
   have hc:=rtrans_any t Z3 ((hT.below (uh HI).g).mono (uh HI).g.size) ok (by omega) (by omega) (((uh HI).g.cell hm0).trans hm) (Nat.lt_of_lt_of_le hm0 (uh HI).g.size);rw[hte] at hc;simp only[TV.val] at hc;have HC:=hide hc;clear hc;obtain⟨c0,c1,c2,c3,d0,d1,d2,d3,e0,e1,e2,e3,f0,f1,f2,f3⟩:=(uh HI).cells;go_wp2_with fail
   refine(uh HC).mono ?_;rintro e V4 ⟨y3,rfl,hy3,g⟩;replace hy3:∃n0,(∀N,IsVarOf (code t) N→N<n0)∧HoldsS (3*n+10) (fun _=>True) V4 y3.val (trC t n0):=hy3;obtain⟨n0,hn0,hy3⟩:=hy3;have hy1:=((uh HY1) n0 hn0).below g;have HY3:=hide (And.intro hy1 hy3);have HG:=hide g;clear hy1 hy3 HC;replace HI:=hide ((uh HI).below g);replace HBcb:=hide ((uh HBcb).below g (uh HBcb).lt);clear g;clear c0 c1 c2 c3 d0 d1 d2 d3 e0 e1 e2 e3 f0 f1 f2 f3;obtain⟨Y,hY⟩:∃Y,V4.alloc (.cells #[.int .i64 0,.int .i64 0,.string ⟨#[]⟩,.slice none 0 0] 24)=Y:=⟨_,rfl⟩;obtain⟨db,hbdb⟩:∃k,V4.heap.size=k:=⟨_,rfl⟩;have bY:BoxT Y db noTerm:=by rw[←hY,←hbdb];exact BoxT.new V4 noTerm
   have gY:Below V4.heap.size V4 Y:=by rw[←hY];exact(Below.refl _ V4).alloc (Nat.le_refl _) _
   obtain⟨Z5,hZ⟩:∃Z,set4 Y db 0 y3=Z:=⟨_,rfl⟩;have g:Below V4.heap.size V4 Z5:=by rw[←hZ];exact set4_below gY (by omega) 0 y3
   have HBdb:=hide (show BoxT Z5 db y3 by rw[←hZ];exact set4_box bY y3);obtain⟨r0,r1,r2,r3⟩:=bY.frz;have v0:=bY.c0;have v1:=bY.c1;have v2:=bY.c2;have v3:=bY.c3;unfold set4 at hZ;simp only[Nat.zero_add] at hZ;replace HI:=hide ((uh HI).below g);replace HBcb:=hide ((uh HBcb).below g (uh HBcb).lt);clear bY gY;go_upto_region 7 with fail
   try rw[hbdb]
   try rw[hY]
   try rw[hZ]
   clear hbdb hY hZ r0 r1 r2 r3 v0 v1 v2 v3;have HG2:=hide ((uh HG).trans (g.mono (uh HG).size));have hS:=same_two ((uh HY3).1.below g) ((uh HY3).2.below g) (by omega);simp only[TV.val] at hS;have HS:=hide hS;obtain⟨k0,k1,k2,k3⟩:Z5.cell? ⟨cb,0,none⟩=_∧Z5.cell? ⟨cb,1,none⟩=_∧Z5.cell? ⟨cb,2,none⟩=_∧Z5.cell? ⟨cb,3,none⟩=_:=⟨(uh HBcb).c0,(uh HBcb).c1,(uh HBcb).c2,(uh HBcb).c3⟩;obtain⟨j0,j1,j2,j3⟩:Z5.cell? ⟨db,0,none⟩=_∧Z5.cell? ⟨db,1,none⟩=_∧Z5.cell? ⟨db,2,none⟩=_∧Z5.cell? ⟨db,3,none⟩=_:=⟨(uh HBdb).c0,(uh HBdb).c1,(uh HBdb).c2,(uh HBdb).c3⟩;clear hS g HG;go_wp2_with fail
   refine(uh HS).mono ?_;rintro e Z6 ⟨rfl,g⟩;have HG3:=hide ((uh HG2).trans (g.mono (uh HG2).size));clear g HG2 k0 k1 k2 k3 j0 j1 j2 j3 HS;go_wp2_with fail
   all_goals go_meet
   all_goals exact HG3
 case rest=>
  have g:=uh hcut;replace HI:=hide ((uh HI).below g);replace HBgb:=hide ((uh HBgb).below g (uh HBgb).lt);replace HY2:=hide ((uh HY2).below g);clear g hcut HBcb HY1;clear hte;cases kb:okT tb with
  | false=>
   have hF:=formed_any (n+2) tb _ ((hTb.below (uh HI).g).mono (uh HI).g.size);rw[kb] at hF;simp only[TV.val] at hF;have HF:=hide hF;clear hF;obtain⟨c0,c1,c2,c3,d0,d1,d2,d3,e0,e1,e2,e3,f0,f1,f2,f3⟩:=(uh HI).cells;go_wp2_with fail
   refine(uh HF).mono ?_;rintro e Y1 ⟨rfl,g⟩;replace HI:=hide ((uh HI).below g);replace HBgb:=hide ((uh HBgb).below g (uh HBgb).lt);replace HY2:=hide ((uh HY2).below g);clear g HF c0 c1 c2 c3 d0 d1 d2 d3 e0 e1 e2 e3 f0 f1 f2 f3;have e:pe=2:=by rw[←hpe];unfold phrE;rw[if_neg (by simp[kb])]
   have hno:phrC tb tl tr=noC:=by unfold phrC;rw[hpe,e,if_neg (by decide)]
   have hN:=none_two (y:=y2) (by have:=uh HY2;rw[hno] at this;exact this) (by omega) Y1;simp only[TV.val] at hN;have HN:=hide hN;obtain⟨k0,k1,k2,k3⟩:Y1.cell? ⟨gb,0,none⟩=_∧Y1.cell? ⟨gb,1,none⟩=_∧Y1.cell? ⟨gb,2,none⟩=_∧Y1.cell? ⟨gb,3,none⟩=_:=⟨(uh HBgb).c0,(uh HBgb).c1,(uh HBgb).c2,(uh HBgb).c3⟩;clear hN hno hpe;subst e;go_wp2_with fail
   refine(uh HN).mono ?_;rintro e Z9 ⟨rfl,g⟩;have HE:=hide ((uh HI).g.trans (g.mono (uh HI).g.size));clear g k0 k1 k2 k3 HN;go_wp2_with fail
   exact bodyPost_ret (v:=.bool true) (by simp[results,Tryd.results3,go_sem]) rfl ⟨rfl,uh HE⟩
  | true=>
   have hF:=formed_any (n+2) tb _ ((hTb.below (uh HI).g).mono (uh HI).g.size);rw[kb] at hF;simp only[TV.val] at hF;have HF:=hide hF;clear hF;obtain⟨c0,c1,c2,c3,d0,d1,d2,d3,e0,e1,e2,e3,f0,f1,f2,f3⟩:=(uh HI).cells;go_wp2_with fail
   refine(uh HF).mono ?_;rintro e Y1 ⟨rfl,g⟩;replace HI:=hide ((uh HI).below g);replace HBgb:=hide ((uh HBgb).below g (uh HBgb).lt);replace HY2:=hide ((uh HY2).below g);clear g HF c0 c1 c2 c3 d0 d1 d2 d3 e0 e1 e2 e3 f0 f1 f2 f3;cases kl:okT tl with
   | false=>
    have hF:=formed_any (n+2) tl _ ((hTl.below (uh HI).g).mono (uh HI).g.size);rw[kl] at hF;simp only[TV.val] at hF;have HF:=hide hF;clear hF;obtain⟨c0,c1,c2,c3,d0,d1,d2,d3,e0,e1,e2,e3,f0,f1,f2,f3⟩:=(uh HI).cells;go_wp2_with fail
    refine(uh HF).mono ?_;rintro e Y2 ⟨rfl,g⟩;replace HI:=hide ((uh HI).below g);replace HBgb:=hide ((uh HBgb).below g (uh HBgb).lt);replace HY2:=hide ((uh HY2).below g);clear g HF c0 c1 c2 c3 d0 d1 d2 d3 e0 e1 e2 e3 f0 f1 f2 f3;have e:pe=2:=by rw[←hpe];unfold phrE;rw[if_neg (by simp[kl])]
    have hno:phrC tb tl tr=noC:=by unfold phrC;rw[hpe,e,if_neg (by decide)]
    have hN:=none_two (y:=y2) (by have:=uh HY2;rw[hno] at this;exact this) (by omega) Y2;simp only[TV.val] at hN;have HN:=hide hN;obtain⟨k0,k1,k2,k3⟩:Y2.cell? ⟨gb,0,none⟩=_∧Y2.cell? ⟨gb,1,none⟩=_∧Y2.cell? ⟨gb,2,none⟩=_∧Y2.cell? ⟨gb,3,none⟩=_:=⟨(uh HBgb).c0,(uh HBgb).c1,(uh HBgb).c2,(uh HBgb).c3⟩;clear hN hno hpe;subst e;go_wp2_with fail
    refine(uh HN).mono ?_;rintro e Z9 ⟨rfl,g⟩;have HE:=hide ((uh HI).g.trans (g.mono (uh HI).g.size));clear g k0 k1 k2 k3 HN;go_wp2_with fail
    exact bodyPost_ret (v:=.bool true) (by simp[results,Tryd.results3,go_sem]) rfl ⟨rfl,uh HE⟩
   | true=>
    have hF:=formed_any (n+2) tl _ ((hTl.below (uh HI).g).mono (uh HI).g.size);rw[kl] at hF;simp only[TV.val] at hF;have HF:=hide hF;clear hF;obtain⟨c0,c1,c2,c3,d0,d1,d2,d3,e0,e1,e2,e3,f0,f1,f2,f3⟩:=(uh HI).cells;go_wp2_with fail
    refine(uh HF).mono ?_;rintro e Y2 ⟨rfl,g⟩;replace HI:=hide ((uh HI).below g);replace HBgb:=hide ((uh HBgb).below g (uh HBgb).lt);replace HY2:=hide ((uh HY2).below g);clear g HF c0 c1 c2 c3 d0 d1 d2 d3 e0 e1 e2 e3 f0 f1 f2 f3;cases kr:okT tr with
    | false=>
     have hF:=formed_any (n+2) tr _ ((hTr.below (uh HI).g).mono (uh HI).g.size);rw[kr] at hF;simp only[TV.val] at hF;have HF:=hide hF;clear hF;obtain⟨c0,c1,c2,c3,d0,d1,d2,d3,e0,e1,e2,e3,f0,f1,f2,f3⟩:=(uh HI).cells;go_wp2_with fail
     refine(uh HF).mono ?_;rintro e Y3 ⟨rfl,g⟩;replace HI:=hide ((uh HI).below g);replace HBgb:=hide ((uh HBgb).below g (uh HBgb).lt);replace HY2:=hide ((uh HY2).below g);clear g HF c0 c1 c2 c3 d0 d1 d2 d3 e0 e1 e2 e3 f0 f1 f2 f3;have e:pe=2:=by rw[←hpe];unfold phrE;rw[if_neg (by simp[kr])]
     have hno:phrC tb tl tr=noC:=by unfold phrC;rw[hpe,e,if_neg (by decide)]
     have hN:=none_two (y:=y2) (by have:=uh HY2;rw[hno] at this;exact this) (by omega) Y3;simp only[TV.val] at hN;have HN:=hide hN;obtain⟨k0,k1,k2,k3⟩:Y3.cell? ⟨gb,0,none⟩=_∧Y3.cell? ⟨gb,1,none⟩=_∧Y3.cell? ⟨gb,2,none⟩=_∧Y3.cell? ⟨gb,3,none⟩=_:=⟨(uh HBgb).c0,(uh HBgb).c1,(uh HBgb).c2,(uh HBgb).c3⟩;clear hN hno hpe;subst e;go_wp2_with fail
     refine(uh HN).mono ?_;rintro e Z9 ⟨rfl,g⟩;have HE:=hide ((uh HI).g.trans (g.mono (uh HI).g.size));clear g k0 k1 k2 k3 HN;go_wp2_with fail
     exact bodyPost_ret (v:=.bool true) (by simp[results,Tryd.results3,go_sem]) rfl ⟨rfl,uh HE⟩
    | true=>
     have hF:=formed_any (n+2) tr _ ((hTr.below (uh HI).g).mono (uh HI).g.size);rw[kr] at hF;simp only[TV.val] at hF;have HF:=hide hF;clear hF;obtain⟨c0,c1,c2,c3,d0,d1,d2,d3,e0,e1,e2,e3,f0,f1,f2,f3⟩:=(uh HI).cells;go_wp2_with fail
     refine(uh HF).mono ?_;rintro e Y3 ⟨rfl,g⟩;replace HI:=hide ((uh HI).below g);replace HBgb:=hide ((uh HBgb).below g (uh HBgb).lt);replace HY2:=hide ((uh HY2).below g);clear g HF c0 c1 c2 c3 d0 d1 d2 d3 e0 e1 e2 e3 f0 f1 f2 f3;have hc:=rphr_any tb tl tr Y3 ((hTb.below (uh HI).g).mono (uh HI).g.size) ((hTl.below (uh HI).g).mono (uh HI).g.size) ((hTr.below (uh HI).g).mono (uh HI).g.size) kb kl kr (by simp only[List.flatMap_cons,List.flatMap_nil,List.append_nil,List.length_append];omega) (by omega) (((uh HI).g.cell hm0).trans hm) (Nat.lt_of_lt_of_le hm0 (uh HI).g.size);rw[hpe] at hc;simp only[TV.val] at hc;have HC:=hide hc;clear hc;obtain⟨c0,c1,c2,c3,d0,d1,d2,d3,e0,e1,e2,e3,f0,f1,f2,f3⟩:=(uh HI).cells;go_wp2_with fail
     refine(uh HC).mono ?_;rintro e V5 ⟨y4,rfl,hy4,g⟩;replace hy4:HoldsS (4*(n+2)+7) (fun _=>True) V5 y4.val (phrC tb tl tr):=hy4;have HY4:=hide (And.intro ((uh HY2).below g) hy4);clear hy4 HC HY2;replace HI:=hide ((uh HI).below g);replace HBgb:=hide ((uh HBgb).below g (uh HBgb).lt);clear g;clear c0 c1 c2 c3 d0 d1 d2 d3 e0 e1 e2 e3 f0 f1 f2 f3;obtain⟨Y,hY⟩:∃Y,V5.alloc (.cells #[.int .i64 0,.int .i64 0,.string ⟨#[]⟩,.slice none 0 0] 24)=Y:=⟨_,rfl⟩;obtain⟨hb,hbhb⟩:∃k,V5.heap.size=k:=⟨_,rfl⟩;have bY:BoxT Y hb noTerm:=by rw[←hY,←hbhb];exact BoxT.new V5 noTerm
     have gY:Below V5.heap.size V5 Y:=by rw[←hY];exact(Below.refl _ V5).alloc (Nat.le_refl _) _
     obtain⟨Z7,hZ⟩:∃Z,set4 Y hb 0 y4=Z:=⟨_,rfl⟩;have g:Below V5.heap.size V5 Z7:=by rw[←hZ];exact set4_below gY (by omega) 0 y4
     have HBhb:=hide (show BoxT Z7 hb y4 by rw[←hZ];exact set4_box bY y4);obtain⟨r0,r1,r2,r3⟩:=bY.frz;have v0:=bY.c0;have v1:=bY.c1;have v2:=bY.c2;have v3:=bY.c3;unfold set4 at hZ;simp only[Nat.zero_add] at hZ;replace HI:=hide ((uh HI).below g);replace HBgb:=hide ((uh HBgb).below g (uh HBgb).lt);clear bY gY;go_upto_region 12 with fail
     try rw[hbhb]
     try rw[hY]
     try rw[hZ]
     clear hbhb hY hZ r0 r1 r2 r3 v0 v1 v2 v3;have hS:=same_two ((uh HY4).1.below g) ((uh HY4).2.below g) (by omega);simp only[TV.val] at hS;have HS:=hide hS;obtain⟨k0,k1,k2,k3⟩:Z7.cell? ⟨gb,0,none⟩=_∧Z7.cell? ⟨gb,1,none⟩=_∧Z7.cell? ⟨gb,2,none⟩=_∧Z7.cell? ⟨gb,3,none⟩=_:=⟨(uh HBgb).c0,(uh HBgb).c1,(uh HBgb).c2,(uh HBgb).c3⟩;obtain⟨j0,j1,j2,j3⟩:Z7.cell? ⟨hb,0,none⟩=_∧Z7.cell? ⟨hb,1,none⟩=_∧Z7.cell? ⟨hb,2,none⟩=_∧Z7.cell? ⟨hb,3,none⟩=_:=⟨(uh HBhb).c0,(uh HBhb).c1,(uh HBhb).c2,(uh HBhb).c3⟩;clear hS g HY4;go_wp2_with fail
     refine(uh HS).mono ?_;rintro e Z9 ⟨rfl,g⟩;have HE:=hide ((uh HI).g.trans (g.mono (uh HI).g.size));clear g k0 k1 k2 k3 j0 j1 j2 j3 HS;go_wp2_with fail
     exact bodyPost_ret (v:=.bool true) (by simp[results,Tryd.results3,go_sem]) rfl ⟨rfl,uh HE⟩
/- Proved here: hornlaw.GrammarSays returns true at any four terms that can be read as data and are together of bulk at most 1048576, and leaves them, and all else that lay, as they were; the tables of unicode/utf8 hold what the program's text lays. -/
set_option maxRecDepth 100000
open Go.ChangeShapes Go.WideShapes Go.ChangeAt Go.Joins
theorem gram_own:ownKnob Tryd.prog.godebug=none:=by kernel_rfl
theorem gram_laidOut:laidOutB Tryd.prog=true:=by kernel_rfl
theorem gram_max{W:World}(h:W.ShapedOpen Tryd.prog):∃m,W.cell? ⟨splitLay_ren.g 1,0,none⟩=some (.int .i64 m):=
 cell_of_shapedOpen_int (zero:=#[.int .i64 0]) (t:=3) h (of_decide_eq_true (by kernel_rfl)) (by kernel_rfl) rfl (by kernel_rfl) (by kernel_rfl) Tryd.underlying3
theorem gram_bulk{H:Type}{d0 d1 d2 d3:DataW H}(hk:Rows.uptoSmall H ([d0,d1,d2,d3]++[])=true):Rows.uptoBulk d0+Rows.uptoBulk d1+Rows.uptoBulk d2+Rows.uptoBulk d3≤1048576:=by
 have h:Rows.uptoBulkAll [d0,d1,d2,d3]≤1048576:=of_decide_eq_true hk;simp only[Rows.uptoBulkAll] at h;omega
theorem gram_contract(H:Type)(enc:TypeId×Value→H)(W:World)(base:Nat)(args:Array Value)(ds gs:List (DataW H))(before:List MemPlace)
  (hval:∀(j:Nat) t v,Tryd.f3.params[j]?=some t→args[j]?=some v→Value.okWide Tryd.prog W .any base t v)
  (hW:DataW.Whole enc Tryd.prog Tryd.f3.params.toList Rows.grammarSaysSpec.vars false W args.toList ds gs before) (hk:Rows.uptoSmall H (ds++gs)=true) (hS:W.ShapedOpen Tryd.prog):
  Calls Tryd.prog 3 args W fun e W'=> ∃v,e=.returned v∧Rows.grammarSaysSpec.post enc Tryd.prog Tryd.f3 false true false false W args v W':=by
 have hW':=hW;obtain⟨p,q,hA0,hV,rfl,hfz,hnd⟩:=hW;have hA:DataW.TrodAll enc Tryd.prog W 0 (fun _=>true) true Tryd.f3.params.toList args.toList ds p:=hA0;rw[Tryd.params3] at hA hval;obtain⟨v0,v1,v2,v3,d0,d1,d2,d3,p0,p1,p2,p3,rfl,rfl,rfl,h0,h1,h2,h3⟩:=trodAll_four hA;obtain⟨rfl,rfl⟩:=trodVars_none hV;have hb:=gram_bulk hk;obtain⟨nn,hnn⟩:∃nn,nn=1048576:=⟨_,rfl⟩;obtain⟨ta,ea,ha,la,-⟩:=open_arg_nums (hval 0 24 v0 rfl rfl) h0 (nn+2) (by omega) (by omega);obtain⟨tb,eb,hb0,lb,-⟩:=open_arg_nums (hval 1 24 v1 rfl rfl) h1 (nn+2) (by omega) (by omega);obtain⟨tl,ec,hc0,lc,-⟩:=open_arg_nums (hval 2 24 v2 rfl rfl) h2 (nn+2) (by omega) (by omega);obtain⟨tr,ed,hd0,ld,-⟩:=open_arg_nums (hval 3 24 v3 rfl rfl) h3 (nn+2) (by omega) (by omega);have lt0:∀x∈p0,x.block<W.heap.size:=by obtain⟨m,hm⟩:=h0;exact DataW.trod_lt m _ _ _ hm
 have lt1:∀x∈p1,x.block<W.heap.size:=by obtain⟨m,hm⟩:=h1;exact DataW.trod_lt m _ _ _ hm
 have lt2:∀x∈p2,x.block<W.heap.size:=by obtain⟨m,hm⟩:=h2;exact DataW.trod_lt m _ _ _ hm
 have lt3:∀x∈p3,x.block<W.heap.size:=by obtain⟨m,hm⟩:=h3;exact DataW.trod_lt m _ _ _ hm
 obtain⟨m,hm⟩:=gram_max hS;have pa:(code ta).length=(parts ta).length:=by unfold code;rw[List.length_map]
 have pb:(code tb).length=(parts tb).length:=by unfold code;rw[List.length_map]
 have pc:(code tl).length=(parts tl).length:=by unfold code;rw[List.length_map]
 have pd:(code tr).length=(parts tr).length:=by unfold code;rw[List.length_map]
 have hwalk:Calls Tryd.prog 3 #[v0,v1,v2,v3] W fun e W'=>e=.returned (.bool true)∧Below W.heap.size W W':=by
  rw[ea,eb,ec,ed];exact gram_law ta tb tl tr W ha hb0 hc0 hd0 (by omega) (by omega) hm (cell_lt hm)
 clear hA0;refine hwalk.mono fun e W' ⟨he,bel⟩=>?_;subst he;exact⟨_,rfl,_,_,_,[],_,[],hW',trodAll_mk1 (shut_bool Tryd.underlying4 _),(trodAll_mk4 (Below.trod gram_laidOut (by kernel_rfl) (of_decide_eq_true (by kernel_rfl)) h0 bel lt0) (Below.trod gram_laidOut (by kernel_rfl) (of_decide_eq_true (by kernel_rfl)) h1 bel lt1) (Below.trod gram_laidOut (by kernel_rfl) (of_decide_eq_true (by kernel_rfl)) h2 bel lt2) (Below.trod gram_laidOut (by kernel_rfl) (of_decide_eq_true (by kernel_rfl)) h3 bel lt3)),rfl,bel.frame _,fun h=>by cases h⟩
/-- A block of cells, with others in it. -/
def layCells(cs:Array Value):Obj→Obj
 | .cells _ t frozen=>.cells cs t frozen
 | o=>o
def acceptCells:Array Value:=([128,191,160,191,128,159,144,191,128,143]++List.replicate 22 0:List Int).toArray.map (Value.int .u8)
def layTabs(h:Array Obj):Array Obj:=(h.modify 1 (layCells (Pinned.utf8FirstZ.map fun n:Nat=>Value.int .u8 (n:Int)).toArray)).modify 2 (layCells acceptCells)
def gramArgs:Array Value:=#[.agg #[.int .i64 0,.int .i64 0,.string ⟨#[]⟩,.slice none 0 0],.agg #[.int .i64 0,.int .i64 0,.string ⟨#[]⟩,.slice none 0 0],.agg #[.int .i64 0,.int .i64 0,.string ⟨#[]⟩,.slice none 0 0],.agg #[.int .i64 0,.int .i64 0,.string ⟨#[]⟩,.slice none 0 0]]
/-- A world for the witness: the settled one, the two tables holding what their initialisers lay. -/
noncomputable def gramWorld (os:Os):World:=
 {World.holding Tryd.prog os ⟨#[],#[],[]⟩ with heap:=layTabs (World.holding Tryd.prog os ⟨#[],#[],[]⟩).heap}
theorem gram_met(os:Os):laidMet Tryd.prog Rows.grammarSaysUptoRow.laid ((gramWorld os).forCall (fun _ _=>0) ⟨#[],gramArgs,[]⟩).memory:=
 laidMet_of_run' 8 (by kernel_rfl) (by kernel_rfl)
theorem gram_reads(os:Os){H:Type}(enc:TypeId×Value→H):∃places,DataW.whole enc Tryd.prog ((gramWorld os).forCall (fun _ _=>0) ⟨#[],gramArgs,[]⟩).memory Tryd.f3.params.toList Rows.grammarSaysSpec.vars false gramArgs.toList 8=some ([.agg [.lit (.int .i64 0),.lit (.int .i64 0),.lit (.string []),.nil],.agg [.lit (.int .i64 0),.lit (.int .i64 0),.lit (.string []),.nil],.agg [.lit (.int .i64 0),.lit (.int .i64 0),.lit (.string []),.nil],.agg [.lit (.int .i64 0),.lit (.int .i64 0),.lit (.string []),.nil]],[],places):=
 ⟨[],by kernel_rfl⟩
theorem gram_lifted(os:Os)(started:os.Started)(H:Type)(enc:TypeId×Value→H)(F:Stop.Interp):
  ReturnsInHanded {} Tryd.checked os 3 .any ((Rows.OpenSpec.upto Rows.grammarSaysSpec).preRow enc Tryd.prog Tryd.f3 Rows.grammarSaysUptoRow.domain false Rows.grammarSaysUptoRow.laid) (((Rows.OpenSpec.upto Rows.grammarSaysSpec).at F).post enc Tryd.prog Tryd.f3 false true false false):=by
 obtain⟨places,hx⟩:=gram_reads os enc
 refine returnsInHanded_of_row (C:=Tryd.checked) (s:=Rows.OpenSpec.upto Rows.grammarSaysSpec) gram_own started (by kernel_rfl) Tryd.func3
  (witness_row_at (enc:=enc) (C:=Tryd.checked) false (gramWorld os) gramArgs rfl (by kernel_rfl) (by kernel_rfl) (by kernel_rfl)
   (OpenSpec.preRow_of_cond 8 hx (by kernel_rfl) (fun k hk=>by cases hk;kernel_rfl) (by kernel_rfl) (gram_met os))) ?_
 intro W base args ds gs before hval hW _ hcond _ _ hS _;exact gram_contract H enc W base args ds gs before hval hW (hcond _ rfl) hS
theorem gram_said:Rows.GrammarSaysUptoSaid:=
 OpenClaim.holds_of_cond 3 Tryd.f3 rfl rfl rfl rfl rfl rfl rfl ⟨rfl,rfl,rfl,rfl,rfl⟩ rfl rfl rfl rfl rfl (by kernel_rfl) Tryd.func3 (by kernel_rfl)
  (of_decide_eq_true (by kernel_rfl)) (by unfold Func.isWrapper;first | (rw[if_pos (by decide +kernel)];kernel_rfl) | (rw[if_neg (by decide +kernel)];exact⟨rfl,rfl⟩))
  (fun os started H enc _ F=>by rw[OpenClaim.pre_eq_preRow];exact gram_lifted os started H enc F)
theorem gram_plain(f:FuncId)(fn:Func)(hf:Tryd.pinned.checked.prog.funcNamed "hornbook/hornlaw.GrammarSays" =some f)(hfn:Tryd.pinned.checked.prog.funcs[f]?=some fn):
  false=Tryd.pinned.checked.prog.looks []∧∀(j:Nat) t,fn.params[j]?=some t→Tryd.pinned.checked.prog.wantsStandIn t=false:=by
 obtain rfl:f=3:=Option.some.inj ((show Tryd.prog.funcNamed "hornbook/hornlaw.GrammarSays" =some 3 by kernel_rfl).symm.trans hf) |>.symm
 obtain rfl:fn=Tryd.f3:=(Option.some.inj (Tryd.func3.symm.trans hfn)).symm;refine⟨by kernel_rfl,fun j t ht=>?_⟩;rw[Tryd.params3] at ht;have hm:t=24:=by simpa using Array.mem_of_getElem? ht
 subst hm;exact(show Tryd.prog.wantsStandIn 24=false by kernel_rfl)
theorem grammarSays_holds:Rows.GrammarSaysUptoCardSaid:=
 Claim7.holds_tied_plain_at .later [] _ _ _ _ gram_said (fun _ h=>by cases h) (by kernel_rfl) (fun _ h=>by cases h) grammarSaysUpto_row_tie rfl ⟨rfl,rfl⟩ (by kernel_rfl) rfl gram_plain (by kernel_rfl)
end Go.Proofs.YtjbdkbaacjfecaaDoor
