import Derived.Test.YtjbdkbaacjfecaaDoorGqQs
import Derived.Test.YtjbdkbaacjfecaaDoorTks
namespace Go.Proofs.YtjbdkbaacjfecaaDoor
set_option maxHeartbeats 8000000
set_option maxRecDepth 100000
open Go.RowKit Go.Shelf
/-- What Phrase answers: its error, and its goal. -/
def phrE{n:Nat}(tb tl tr:Tm n):Int:=if okT tb=true∧okT tl=true∧okT tr=true then(if berr tb=0 then(if 1099511627777<freeC [tb,tl,tr]+cntT tb then 9 else 0) else berr tb) else 2
def phrC{n:Nat}(tb tl tr:Tm n):List Nd:=if phrE tb tl tr=0 then renC (newR (freeC [tb,tl,tr]) (extV (freeC [tb,tl,tr]) [] (btwC tb (code tl) (code tr) (freeC [tb,tl,tr])))) (btwC tb (code tl) (code tr) (freeC [tb,tl,tr])) else noC
theorem box_three(V:World)(x y z:TV):∃W4 W5,(((V.alloc (.cells #[.int .i64 x.k,.int .i64 x.N,.string x.s,.slice x.a x.len x.cap] 24)).alloc (.cells #[.int .i64 y.k,.int .i64 y.N,.string y.s,.slice y.a y.len y.cap] 24)).alloc (.cells #[.int .i64 z.k,.int .i64 z.N,.string z.s,.slice z.a z.len z.cap] 24)).alloc (.cells #[.int .i64 0,.int .i64 0,.string ⟨#[]⟩,.slice none 0 0] 24)=W4∧W4.alloc (.cells #[.int .i64 x.k,.int .i64 x.N,.string x.s,.slice x.a x.len x.cap,.int .i64 y.k,.int .i64 y.N,.string y.s,.slice y.a y.len y.cap,.int .i64 z.k,.int .i64 z.N,.string z.s,.slice z.a z.len z.cap] 24)=W5∧Below V.heap.size V W4∧W4.heap.size=V.heap.size+1+1+1+1∧BoxT W4 V.heap.size x∧BoxT W4 (V.heap.size+1) y∧BoxT W4 (V.heap.size+1+1) z∧BoxT W4 (V.heap.size+1+1+1) noTerm∧Below W4.heap.size W4 W5∧W5.heap.size=V.heap.size+5∧cellsAt W5 (V.heap.size+1+1+1+1) 0 x∧cellsAt W5 (V.heap.size+1+1+1+1) 4 y∧cellsAt W5 (V.heap.size+1+1+1+1) 8 z:=by
 obtain⟨W4,hW4⟩:∃W4,(((V.alloc (.cells #[.int .i64 x.k,.int .i64 x.N,.string x.s,.slice x.a x.len x.cap] 24)).alloc (.cells #[.int .i64 y.k,.int .i64 y.N,.string y.s,.slice y.a y.len y.cap] 24)).alloc (.cells #[.int .i64 z.k,.int .i64 z.N,.string z.s,.slice z.a z.len z.cap] 24)).alloc (.cells #[.int .i64 0,.int .i64 0,.string ⟨#[]⟩,.slice none 0 0] 24)=W4:=⟨_,rfl⟩;have hs4:W4.heap.size=V.heap.size+1+1+1+1:=by rw[←hW4];simp
 have hn:=World.alloc_heap_new W4 (.cells #[.int .i64 x.k,.int .i64 x.N,.string x.s,.slice x.a x.len x.cap,.int .i64 y.k,.int .i64 y.N,.string y.s,.slice y.a y.len y.cap,.int .i64 z.k,.int .i64 z.N,.string z.s,.slice z.a z.len z.cap] 24);rw[hs4] at hn;refine⟨W4,_,hW4,rfl,?_,hs4,?_,?_,?_,?_,(Below.refl _ W4).alloc (Nat.le_refl _) _,by simp[hs4],⟨cell_of hn rfl,cell_of hn rfl,cell_of hn rfl,cell_of hn rfl⟩,⟨cell_of hn rfl,cell_of hn rfl,cell_of hn rfl,cell_of hn rfl⟩,⟨cell_of hn rfl,cell_of hn rfl,cell_of hn rfl,cell_of hn rfl⟩⟩
 ·rw[←hW4];exact((((Below.refl _ V).alloc (Nat.le_refl _) _).alloc (by simp) _).alloc (by simp;omega) _).alloc (by simp;omega) _
 ·rw[←hW4];exact(((BoxT.new V x).alloc _).alloc _).alloc _
 ·rw[←hW4]
  have h0:=BoxT.new (V.alloc (.cells #[.int .i64 x.k,.int .i64 x.N,.string x.s,.slice x.a x.len x.cap] 24)) y;rw[World.size_alloc] at h0;exact(h0.alloc _).alloc _
 ·rw[←hW4]
  have h0:=BoxT.new ((V.alloc (.cells #[.int .i64 x.k,.int .i64 x.N,.string x.s,.slice x.a x.len x.cap] 24)).alloc (.cells #[.int .i64 y.k,.int .i64 y.N,.string y.s,.slice y.a y.len y.cap] 24)) z;rw[World.size_alloc,World.size_alloc] at h0;exact h0.alloc _
 ·rw[←hW4]
  have h0:=BoxT.new (((V.alloc (.cells #[.int .i64 x.k,.int .i64 x.N,.string x.s,.slice x.a x.len x.cap] 24)).alloc (.cells #[.int .i64 y.k,.int .i64 y.N,.string y.s,.slice y.a y.len y.cap] 24)).alloc (.cells #[.int .i64 z.k,.int .i64 z.N,.string z.s,.slice z.a z.len z.cap] 24)) noTerm;rw[World.size_alloc,World.size_alloc,World.size_alloc] at h0;exact h0
theorem phrase_bad{n:Nat}(tb tl tr:Tm n)(V:World)(hb:IsT V.heap.size V tb)(hl:IsT V.heap.size V tl)(hr:IsT V.heap.size V tr)(pb:(parts tb).length≤4194304)(pl:(parts tl).length≤4194304)(pr:(parts tr).length≤4194304)(_hn:n≤274877906944)(hbad:∃u∈[tb,tl,tr],okT u=false):
  Calls Tryd.prog 5 #[tb.tv.val,tl.tv.val,tr.tv.val] V fun e V'=>e=.returned (.tuple #[noTerm.val,.int .i64 2])∧Below V.heap.size V V':=by
 obtain⟨W4,W5,hW4,hW5,g4,hs4,b0,b1,b2,b3,g5,hs5,x0,x1,x2⟩:=box_three V tb.tv tl.tv tr.tv;have g45:Below V.heap.size V W5:=g4.trans (g5.mono (by omega))
 have hts:[tb,tl,tr]=[]∨∃b off,(some ⟨V.heap.size+1+1+1+1,0,none⟩:Option Addr)=some ⟨b,off,none⟩∧b<W5.heap.size∧∀j u,[tb,tl,tr][j]?=some u→cellsAt W5 b (off+j*4) u.tv∧IsT W5.heap.size W5 u:=.inr ⟨_,0,rfl,by omega,fun j u hu=>by
  match j,hu with
  | 0,hu=>simp at hu;subst hu;exact⟨by simpa using x0,(hb.below g45).mono g45.size⟩
  | 1,hu=>simp at hu;subst hu;exact⟨by simpa using x1,(hl.below g45).mono g45.size⟩
  | 2,hu=>simp at hu;subst hu;exact⟨by simpa using x2,(hr.below g45).mono g45.size⟩
  | j+3,hu=>simp at hu⟩
 have hps:∀u∈[tb,tl,tr],(parts u).length≤4194304:=fun u hu=>by
  simp at hu
  rcases hu with rfl | rfl | rfl <;> assumption
 have HFF:=hide (free_bad [tb,tl,tr] (some ⟨V.heap.size+1+1+1+1,0,none⟩) 3 3 W5 rfl (by omega) hbad hps hts);clear hbad;have c0:=b0.c0;have c1:=b0.c1;have c2:=b0.c2;have c3:=b0.c3;have d0:=b1.c0;have d1:=b1.c1;have d2:=b1.c2;have d3:=b1.c3;have e0:=b2.c0;have e1:=b2.c1;have e2:=b2.c2;have e3:=b2.c3;have HBX:=hide (And.intro g4 (And.intro g5 (And.intro b0 (And.intro b1 (And.intro b2 b3)))));clear hts hps x0 x1 x2 g45 g4 g5 b0 b1 b2 b3 hb hl hr pb pl pr;simp only[TV.val];go_enter Tryd.func5,Tryd.ntmps5
 go_wp2_with fail
 try rw[hW4]
 go_wp2_with fail
 try rw[hW5]
 go_wp2_with fail
 clear hW4 hW5 c0 c1 c2 c3 d0 d1 d2 d3 e0 e1 e2 e3;refine(uh HFF).mono ?_;rintro e U ⟨rfl,hU⟩;obtain⟨g4,g5,b0,b1,b2,b3⟩:=uh HBX;have hU4:Below W4.heap.size W4 U:=g5.trans (hU.mono g5.size);have hVU:Below V.heap.size V U:=g4.trans (hU4.mono g4.size);have hUs:=hU.size;have u0:=b0.below hU4 (by omega);have u1:=b1.below hU4 (by omega);have u2:=b2.below hU4 (by omega);have u3:=b3.below hU4 (by omega);clear b0 b1 b2 b3 g4 g5 hU hU4 HBX HFF;obtain⟨f0',f1',f2',f3'⟩:=u3.frz;have m0:=u3.c0;have m1:=u3.c1;have m2:=u3.c2;have m3:=u3.c3;have b6:=set4_box u3 noTerm;have z0:=b6.c0;have z1:=b6.c1;have z2:=b6.c2;have z3:=b6.c3;have HF:=hide (set4_below hVU (show V.heap.size≤V.heap.size+1+1+1 by omega) 0 noTerm);clear u0 u1 u2 u3 hVU b6;go_wp2_with fail
 exact bodyPost_ret (v:=.tuple #[noTerm.val,.int .i64 2]) (by simp[results,Tryd.results5,go_sem,TV.val,noTerm,m0,m1,m2,m3]) rfl ⟨rfl,uh HF⟩
theorem phrase_err{n:Nat}(tb tl tr:Tm n)(V:World)(hb:IsT V.heap.size V tb)(hl:IsT V.heap.size V tl)(hr:IsT V.heap.size V tr)(pb:(parts tb).length≤4194304)(pl:(parts tl).length≤4194304)(pr:(parts tr).length≤4194304)(hn:n≤274877906944)(ok:∀u∈[tb,tl,tr],okT u=true)(he:berr tb≠0):
  Calls Tryd.prog 5 #[tb.tv.val,tl.tv.val,tr.tv.val] V fun e V'=>e=.returned (.tuple #[noTerm.val,.int .i64 (berr tb)])∧Below V.heap.size V V':=by
 obtain⟨W4,W5,hW4,hW5,g4,hs4,b0,b1,b2,b3,g5,hs5,x0,x1,x2⟩:=box_three V tb.tv tl.tv tr.tv;have g45:Below V.heap.size V W5:=g4.trans (g5.mono (by omega))
 have hts:[tb,tl,tr]=[]∨∃b off,(some ⟨V.heap.size+1+1+1+1,0,none⟩:Option Addr)=some ⟨b,off,none⟩∧b<W5.heap.size∧∀j u,[tb,tl,tr][j]?=some u→cellsAt W5 b (off+j*4) u.tv∧IsT W5.heap.size W5 u:=.inr ⟨_,0,rfl,by omega,fun j u hu=>by
  match j,hu with
  | 0,hu=>simp at hu;subst hu;exact⟨by simpa using x0,(hb.below g45).mono g45.size⟩
  | 1,hu=>simp at hu;subst hu;exact⟨by simpa using x1,(hl.below g45).mono g45.size⟩
  | 2,hu=>simp at hu;subst hu;exact⟨by simpa using x2,(hr.below g45).mono g45.size⟩
  | j+3,hu=>simp at hu⟩
 have hps:∀u∈[tb,tl,tr],(parts u).length≤4194304:=fun u hu=>by
  simp at hu
  rcases hu with rfl | rfl | rfl <;> assumption
 have HFF:=hide (free_ok [tb,tl,tr] (some ⟨V.heap.size+1+1+1+1,0,none⟩) 3 3 W5 rfl (by omega) ok hps hts);have okb:=ok tb (by simp);have hfl:=free_le ok;have hcnt:cntT tb≤4194304:=by have h1:=cnt_le tb hb.wl;have h2:(code tb).length=(parts tb).length:=(by unfold code;rw[List.length_map]);omega
 have HCB:Hid (∀U,Below V.heap.size V U→Calls Tryd.prog 14 #[.agg #[.int .i64 tb.tv.k,.int .i64 tb.tv.N,.string tb.tv.s,.slice tb.tv.a tb.tv.len tb.tv.cap]] U fun e W'=>e=.returned (.tuple #[.int .i64 (if berr tb=0 then cntT tb else 0),.int .i64 (berr tb)])∧Below U.heap.size U W'):=hide fun U hU=>gcheck_any tb U ((hb.below hU).mono hU.size) okb hn (by omega);clear ok okb hcnt;have c0:=b0.c0;have c1:=b0.c1;have c2:=b0.c2;have c3:=b0.c3;have d0:=b1.c0;have d1:=b1.c1;have d2:=b1.c2;have d3:=b1.c3;have e0:=b2.c0;have e1:=b2.c1;have e2:=b2.c2;have e3:=b2.c3;have HBX:=hide (And.intro g4 (And.intro g5 (And.intro b0 (And.intro b1 (And.intro b2 b3)))));clear hts hps x0 x1 x2 g45 g4 g5 b0 b1 b2 b3 hb hl hr pb pl pr;simp only[TV.val];go_enter Tryd.func5,Tryd.ntmps5
 go_wp2_with fail
 try rw[hW4]
 go_wp2_with fail
 try rw[hW5]
 go_wp2_with fail
 clear hW4 hW5 c0 c1 c2 c3 d0 d1 d2 d3 e0 e1 e2 e3;refine(uh HFF).mono ?_;rintro e U ⟨rfl,hU⟩;obtain⟨g4,g5,b0,b1,b2,b3⟩:=uh HBX;have hU4:Below W4.heap.size W4 U:=g5.trans (hU.mono g5.size);have hVU:Below V.heap.size V U:=g4.trans (hU4.mono g4.size);have hUs:=hU.size;have u0:=b0.below hU4 (by omega);have u1:=b1.below hU4 (by omega);have u2:=b2.below hU4 (by omega);have u3:=b3.below hU4 (by omega);clear b0 b1 b2 b3 g4 g5 hU hU4 HBX HFF;have v0:=u0.c0;have v1:=u0.c1;have v2:=u0.c2;have v3:=u0.c3;have HCU:=hide ((uh HCB) U hVU);have HUU:=hide (And.intro hVU (And.intro u0 (And.intro u1 (And.intro u2 u3))));clear u0 u1 u2 u3 hVU HCB;go_wp2_with fail
 refine(uh HCU).mono ?_;rintro e U2 ⟨rfl,h2⟩;obtain⟨hVU,u0,u1,u2,u3⟩:=uh HUU;have hV2:Below V.heap.size V U2:=hVU.trans (h2.mono hVU.size);have p0:=u0.below h2 u0.lt;have p1:=u1.below h2 u1.lt;have p2:=u2.below h2 u2.lt;have p3:=u3.below h2 u3.lt;have hU2s:=h2.size;have hp3l:=p3.lt;clear u0 u1 u2 u3 hVU HUU HCU h2 v0 v1 v2 v3;rw[if_neg he];have he':(berr tb == 0)=false:=by simpa using he
 obtain⟨f0',f1',f2',f3'⟩:=p3.frz;have m0:=p3.c0;have m1:=p3.c1;have m2:=p3.c2;have m3:=p3.c3;have b6:=set4_box p3 noTerm;have z0:=b6.c0;have z1:=b6.c1;have z2:=b6.c2;have z3:=b6.c3;have HF:=hide (set4_below hV2 (show V.heap.size≤V.heap.size+1+1+1 by omega) 0 noTerm);clear p0 p1 p2 p3 hV2 b6 he;go_wp2_with fail
 exact bodyPost_ret (v:=.tuple #[noTerm.val,.int .i64 (berr tb)]) (by simp[results,Tryd.results5,go_sem,TV.val,noTerm,m0,m1,m2,m3]) rfl ⟨rfl,uh HF⟩
theorem phrase_large{n:Nat}(tb tl tr:Tm n)(V:World)(hb:IsT V.heap.size V tb)(hl:IsT V.heap.size V tl)(hr:IsT V.heap.size V tr)(pb:(parts tb).length≤4194304)(pl:(parts tl).length≤4194304)(pr:(parts tr).length≤4194304)(hn:n≤274877906944)(ok:∀u∈[tb,tl,tr],okT u=true)(he:berr tb=0)(hL:1099511627777<freeC [tb,tl,tr]+cntT tb):
  Calls Tryd.prog 5 #[tb.tv.val,tl.tv.val,tr.tv.val] V fun e V'=>e=.returned (.tuple #[noTerm.val,.int .i64 9])∧Below V.heap.size V V':=by
 obtain⟨W4,W5,hW4,hW5,g4,hs4,b0,b1,b2,b3,g5,hs5,x0,x1,x2⟩:=box_three V tb.tv tl.tv tr.tv;have g45:Below V.heap.size V W5:=g4.trans (g5.mono (by omega))
 have hts:[tb,tl,tr]=[]∨∃b off,(some ⟨V.heap.size+1+1+1+1,0,none⟩:Option Addr)=some ⟨b,off,none⟩∧b<W5.heap.size∧∀j u,[tb,tl,tr][j]?=some u→cellsAt W5 b (off+j*4) u.tv∧IsT W5.heap.size W5 u:=.inr ⟨_,0,rfl,by omega,fun j u hu=>by
  match j,hu with
  | 0,hu=>simp at hu;subst hu;exact⟨by simpa using x0,(hb.below g45).mono g45.size⟩
  | 1,hu=>simp at hu;subst hu;exact⟨by simpa using x1,(hl.below g45).mono g45.size⟩
  | 2,hu=>simp at hu;subst hu;exact⟨by simpa using x2,(hr.below g45).mono g45.size⟩
  | j+3,hu=>simp at hu⟩
 have hps:∀u∈[tb,tl,tr],(parts u).length≤4194304:=fun u hu=>by
  simp at hu
  rcases hu with rfl | rfl | rfl <;> assumption
 have HFF:=hide (free_ok [tb,tl,tr] (some ⟨V.heap.size+1+1+1+1,0,none⟩) 3 3 W5 rfl (by omega) ok hps hts);have okb:=ok tb (by simp);have hfl:=free_le ok;have hcnt:cntT tb≤4194304:=by have h1:=cnt_le tb hb.wl;have h2:(code tb).length=(parts tb).length:=(by unfold code;rw[List.length_map]);omega
 have HCB:Hid (∀U,Below V.heap.size V U→Calls Tryd.prog 14 #[.agg #[.int .i64 tb.tv.k,.int .i64 tb.tv.N,.string tb.tv.s,.slice tb.tv.a tb.tv.len tb.tv.cap]] U fun e W'=>e=.returned (.tuple #[.int .i64 (if berr tb=0 then cntT tb else 0),.int .i64 (berr tb)])∧Below U.heap.size U W'):=hide fun U hU=>gcheck_any tb U ((hb.below hU).mono hU.size) okb hn (by omega);clear ok okb;have c0:=b0.c0;have c1:=b0.c1;have c2:=b0.c2;have c3:=b0.c3;have d0:=b1.c0;have d1:=b1.c1;have d2:=b1.c2;have d3:=b1.c3;have e0:=b2.c0;have e1:=b2.c1;have e2:=b2.c2;have e3:=b2.c3;have HBX:=hide (And.intro g4 (And.intro g5 (And.intro b0 (And.intro b1 (And.intro b2 b3)))));clear hts hps x0 x1 x2 g45 g4 g5 b0 b1 b2 b3 hb hl hr pb pl pr;simp only[TV.val];go_enter Tryd.func5,Tryd.ntmps5
 go_wp2_with fail
 try rw[hW4]
 go_wp2_with fail
 try rw[hW5]
 go_wp2_with fail
 clear hW4 hW5 c0 c1 c2 c3 d0 d1 d2 d3 e0 e1 e2 e3;refine(uh HFF).mono ?_;rintro e U ⟨rfl,hU⟩;obtain⟨g4,g5,b0,b1,b2,b3⟩:=uh HBX;have hU4:Below W4.heap.size W4 U:=g5.trans (hU.mono g5.size);have hVU:Below V.heap.size V U:=g4.trans (hU4.mono g4.size);have hUs:=hU.size;have u0:=b0.below hU4 (by omega);have u1:=b1.below hU4 (by omega);have u2:=b2.below hU4 (by omega);have u3:=b3.below hU4 (by omega);clear b0 b1 b2 b3 g4 g5 hU hU4 HBX HFF;have v0:=u0.c0;have v1:=u0.c1;have v2:=u0.c2;have v3:=u0.c3;have HCU:=hide ((uh HCB) U hVU);have HUU:=hide (And.intro hVU (And.intro u0 (And.intro u1 (And.intro u2 u3))));clear u0 u1 u2 u3 hVU HCB;go_wp2_with fail
 refine(uh HCU).mono ?_;rintro e U2 ⟨rfl,h2⟩;obtain⟨hVU,u0,u1,u2,u3⟩:=uh HUU;have hV2:Below V.heap.size V U2:=hVU.trans (h2.mono hVU.size);have p0:=u0.below h2 u0.lt;have p1:=u1.below h2 u1.lt;have p2:=u2.below h2 u2.lt;have p3:=u3.below h2 u3.lt;have hU2s:=h2.size;have hp3l:=p3.lt;clear u0 u1 u2 u3 hVU HUU HCU h2 v0 v1 v2 v3;rw[he,if_pos rfl];generalize freeC [tb,tl,tr]=fr at *;generalize cntT tb=cn at *;obtain⟨f0',f1',f2',f3'⟩:=p3.frz;have m0:=p3.c0;have m1:=p3.c1;have m2:=p3.c2;have m3:=p3.c3;have b6:=set4_box p3 noTerm;have z0:=b6.c0;have z1:=b6.c1;have z2:=b6.c2;have z3:=b6.c3;have HF:=hide (set4_below hV2 (show V.heap.size≤V.heap.size+1+1+1 by omega) 0 noTerm);clear p0 p1 p2 p3 hV2 b6 he;have hLL:1099511627776<fr+(cn:Int)-1:=by omega
 go_wp2_with fail
 exact bodyPost_ret (v:=.tuple #[noTerm.val,.int .i64 9]) (by simp[results,Tryd.results5,go_sem,TV.val,noTerm,m0,m1,m2,m3]) rfl ⟨rfl,uh HF⟩
theorem phrase_yes{n:Nat}(tb tl tr:Tm n)(V:World)(hb:IsT V.heap.size V tb)(hl:IsT V.heap.size V tl)(hr:IsT V.heap.size V tr)(pb:(parts tb).length≤4194304)(pl:(parts tl).length≤4194304)(pr:(parts tr).length≤4194304)(hn:n≤274877906944)(ok:∀u∈[tb,tl,tr],okT u=true)(he:berr tb=0)(hL:freeC [tb,tl,tr]+cntT tb≤1099511627777):
  Calls Tryd.prog 5 #[tb.tv.val,tl.tv.val,tr.tv.val] V fun e V'=> ∃y:TV,e=.returned (.tuple #[y.val,.int .i64 0])∧HoldsG anyP (4*n+12) V.heap.size V' y.val (renC (newR (freeC [tb,tl,tr]) (extV (freeC [tb,tl,tr]) [] (btwC tb (code tl) (code tr) (freeC [tb,tl,tr])))) (btwC tb (code tl) (code tr) (freeC [tb,tl,tr])))∧Below V.heap.size V V':=by
 obtain⟨W4,W5,hW4,hW5,g4,hs4,b0,b1,b2,b3,g5,hs5,x0,x1,x2⟩:=box_three V tb.tv tl.tv tr.tv;have g45:Below V.heap.size V W5:=g4.trans (g5.mono (by omega))
 have hts:[tb,tl,tr]=[]∨∃b off,(some ⟨V.heap.size+1+1+1+1,0,none⟩:Option Addr)=some ⟨b,off,none⟩∧b<W5.heap.size∧∀j u,[tb,tl,tr][j]?=some u→cellsAt W5 b (off+j*4) u.tv∧IsT W5.heap.size W5 u:=.inr ⟨_,0,rfl,by omega,fun j u hu=>by
  match j,hu with
  | 0,hu=>simp at hu;subst hu;exact⟨by simpa using x0,(hb.below g45).mono g45.size⟩
  | 1,hu=>simp at hu;subst hu;exact⟨by simpa using x1,(hl.below g45).mono g45.size⟩
  | 2,hu=>simp at hu;subst hu;exact⟨by simpa using x2,(hr.below g45).mono g45.size⟩
  | j+3,hu=>simp at hu⟩
 have hps:∀u∈[tb,tl,tr],(parts u).length≤4194304:=fun u hu=>by
  simp at hu
  rcases hu with rfl | rfl | rfl <;> assumption
 have HFF:=hide (free_ok [tb,tl,tr] (some ⟨V.heap.size+1+1+1+1,0,none⟩) 3 3 W5 rfl (by omega) ok hps hts);have okb:=ok tb (by simp);have hfl:=free_le ok;have hcnt:cntT tb≤4194304:=by have h1:=cnt_le tb hb.wl;have h2:(code tb).length=(parts tb).length:=(by unfold code;rw[List.length_map]);omega
 have HCB:Hid (∀U,Below V.heap.size V U→Calls Tryd.prog 14 #[.agg #[.int .i64 tb.tv.k,.int .i64 tb.tv.N,.string tb.tv.s,.slice tb.tv.a tb.tv.len tb.tv.cap]] U fun e W'=>e=.returned (.tuple #[.int .i64 (if berr tb=0 then cntT tb else 0),.int .i64 (berr tb)])∧Below U.heap.size U W'):=hide fun U hU=>gcheck_any tb U ((hb.below hU).mono hU.size) okb hn (by omega)
 have HGO:Hid (∀X,Below V.heap.size V X→∀wb,V.heap.size≤wb→WrB X wb (freeC [tb,tl,tr]) (.slice none 0 0)→Calls Tryd.prog 18 #[.pointer (some ⟨wb,0,none⟩),.agg #[.int .i64 tb.tv.k,.int .i64 tb.tv.N,.string tb.tv.s,.slice tb.tv.a tb.tv.len tb.tv.cap],.agg #[.int .i64 tl.tv.k,.int .i64 tl.tv.N,.string tl.tv.s,.slice tl.tv.a tl.tv.len tl.tv.cap],.agg #[.int .i64 tr.tv.k,.int .i64 tr.tv.N,.string tr.tv.s,.slice tr.tv.a tr.tv.len tr.tv.cap]] X fun e V'=> ∃y:TV,e=.returned y.val∧HoldsG anyP (4*n+12) X.heap.size V' y.val (renC (newR (freeC [tb,tl,tr]) (extV (freeC [tb,tl,tr]) [] (btwC tb (code tl) (code tr) (freeC [tb,tl,tr])))) (btwC tb (code tl) (code tr) (freeC [tb,tl,tr])))∧FrG wb (fun k=>k=wb) X V'):=hide fun X hX wb hwb hwr=>by
  have hv:∀N,IsVarOf ([tb,tl,tr].flatMap code) N→N<freeC [tb,tl,tr]:=fun N hN=>by have:=((free_iff [tb,tl,tr] (freeC [tb,tl,tr])).1 (Int.le_refl _)).2 N hN;omega
  have hsub:∀u∈[tb,tl,tr],∀N,IsVarOf (code u) N→N<freeC [tb,tl,tr]:=fun u hu N hN=>hv N (by obtain⟨y,hy,e⟩:=hN;exact⟨y,List.mem_flatMap.2 ⟨u,hu,hy⟩,e⟩)
  have hn1:1≤n:=by
   cases n with
   | zero=>exact Empty.elim tb
   | succ n=>omega
  have hlS:HoldsS n (· <wb) X tl.tv.val (code tl):=holdsS_of ((hl.below hX).mono hX.size) (hl.blk.mono (fun k hk=>by have:k<V.heap.size:=hk;show k<wb;omega));have hrS:HoldsS n (· <wb) X tr.tv.val (code tr):=holdsS_of ((hr.below hX).mono hX.size) (hr.blk.mono (fun k hk=>by have:k<V.heap.size:=hk;show k<wb;omega));have hg:=goal_any (D:=n) (wb:=wb) tb tl.tv tr.tv X ((hb.below hX).mono hwb) okb he (hsub tb (by simp)) hlS (by rw[←okT_m];exact ok tl (by simp)) (hsub tl (by simp)) hrS (by rw[←okT_m];exact ok tr (by simp)) (hsub tr (by simp)) hwr hfl.1 hL hn1 hn (by omega);rw[show 3*n+n+12=4*n+12 by omega] at hg;exact hg
 clear ok okb;have c0:=b0.c0;have c1:=b0.c1;have c2:=b0.c2;have c3:=b0.c3;have d0:=b1.c0;have d1:=b1.c1;have d2:=b1.c2;have d3:=b1.c3;have e0:=b2.c0;have e1:=b2.c1;have e2:=b2.c2;have e3:=b2.c3;have HBX:=hide (And.intro g4 (And.intro g5 (And.intro b0 (And.intro b1 (And.intro b2 b3)))));clear hts hps x0 x1 x2 g45 g4 g5 b0 b1 b2 b3 hb hl hr pb pl pr;simp only[TV.val];go_enter Tryd.func5,Tryd.ntmps5
 go_wp2_with fail
 try rw[hW4]
 go_wp2_with fail
 try rw[hW5]
 go_wp2_with fail
 clear hW4 hW5 c0 c1 c2 c3 d0 d1 d2 d3 e0 e1 e2 e3;refine(uh HFF).mono ?_;rintro e U ⟨rfl,hU⟩;obtain⟨g4,g5,b0,b1,b2,b3⟩:=uh HBX;have hU4:Below W4.heap.size W4 U:=g5.trans (hU.mono g5.size);have hVU:Below V.heap.size V U:=g4.trans (hU4.mono g4.size);have hUs:=hU.size;have u0:=b0.below hU4 (by omega);have u1:=b1.below hU4 (by omega);have u2:=b2.below hU4 (by omega);have u3:=b3.below hU4 (by omega);clear b0 b1 b2 b3 g4 g5 hU hU4 HBX HFF;have v0:=u0.c0;have v1:=u0.c1;have v2:=u0.c2;have v3:=u0.c3;have HCU:=hide ((uh HCB) U hVU);have HUU:=hide (And.intro hVU (And.intro u0 (And.intro u1 (And.intro u2 u3))));clear u0 u1 u2 u3 hVU HCB;go_wp2_with fail
 refine(uh HCU).mono ?_;rintro e U2 ⟨rfl,h2⟩;obtain⟨hVU,u0,u1,u2,u3⟩:=uh HUU;have hV2:Below V.heap.size V U2:=hVU.trans (h2.mono hVU.size);have p0:=u0.below h2 u0.lt;have p1:=u1.below h2 u1.lt;have p2:=u2.below h2 u2.lt;have p3:=u3.below h2 u3.lt;have hU2s:=h2.size;have hp3l:=p3.lt;clear u0 u1 u2 u3 hVU HUU HCU h2 v0 v1 v2 v3;rw[he,if_pos rfl];clear he
 have HFR:Hid (∀X V' wb y,Below V.heap.size V X→V.heap.size+4≤wb→wb<X.heap.size→BoxT X (V.heap.size+1+1+1) noTerm→HoldsG anyP (4*n+12) X.heap.size V' y.val (renC (newR (freeC [tb,tl,tr]) (extV (freeC [tb,tl,tr]) [] (btwC tb (code tl) (code tr) (freeC [tb,tl,tr])))) (btwC tb (code tl) (code tr) (freeC [tb,tl,tr])))→FrG wb (fun k=>k=wb) X V'→BoxT V' (V.heap.size+1+1+1) noTerm∧HoldsG anyP (4*n+12) V.heap.size (set4 V' (V.heap.size+1+1+1) 0 y) y.val (renC (newR (freeC [tb,tl,tr]) (extV (freeC [tb,tl,tr]) [] (btwC tb (code tl) (code tr) (freeC [tb,tl,tr])))) (btwC tb (code tl) (code tr) (freeC [tb,tl,tr])))∧Below V.heap.size V (set4 V' (V.heap.size+1+1+1) 0 y)):=hide fun X V' wb y hX hwb hwX bX hG hF=>by
  have hz:=hX.size;refine⟨hF.box bX (by omega),(hG.set4 (by omega) 0 y).mono (Nat.le_refl _) (by omega) (fun _ h=>h),?_⟩;refine set4_below ⟨hF.os.trans hX.os,hF.tape.trans hX.tape,hF.output.trans hX.output,Nat.le_trans hX.size hF.size,fun k hk=>(hF.block k (by omega) (by omega) (.inl (by omega))).trans (hX.block k hk)⟩ (by omega) 0 y
 obtain⟨X,hX⟩:∃X,U2.alloc (.cells #[.int .i64 (freeC [tb,tl,tr]),.slice none 0 0] 41)=X:=⟨_,rfl⟩;have gX:Below U2.heap.size U2 X:=by rw[←hX];exact(Below.refl _ U2).alloc (Nat.le_refl _) _
 have hXs:X.heap.size=U2.heap.size+1:=by rw[←hX];simp
 have wX:WrB X U2.heap.size (freeC [tb,tl,tr]) (.slice none 0 0):=by rw[←hX];exact World.alloc_heap_new U2 _
 have r3:=p3.below gX (by omega);have HGX:=hide ((uh HGO) X (hV2.trans (gX.mono hV2.size)) U2.heap.size (by omega) wX);have HXX:=hide (And.intro (hV2.trans (gX.mono hV2.size)) r3);have i0:=p0.c0;have i1:=p0.c1;have i2:=p0.c2;have i3:=p0.c3;have j0:=p1.c0;have j1:=p1.c1;have j2:=p1.c2;have j3:=p1.c3;have k0:=p2.c0;have k1:=p2.c1;have k2:=p2.c2;have k3:=p2.c3;have q0:V.heap.size<U2.heap.size:=by omega
 have q1:V.heap.size+1<U2.heap.size:=by omega
 have q2:V.heap.size+1+1<U2.heap.size:=by omega
 have hLL:¬1099511627776<freeC [tb,tl,tr]+(cntT tb:Int)-1:=by omega
 have hws:V.heap.size+4≤U2.heap.size∧U2.heap.size<X.heap.size:=by omega
 have HX:=hide hX;clear p0 p1 p2 p3 hV2 gX wX r3 HGO hXs hX;go_wp2_with fail
 rw[uh HX];clear HX;refine(uh HGX).mono ?_;rintro e V' ⟨y,rfl,hG,hF⟩;obtain⟨bx,hfin⟩:=(uh HFR) X V' U2.heap.size y (uh HXX).1 hws.1 hws.2 (uh HXX).2 hG hF;obtain⟨f0',f1',f2',f3'⟩:=bx.frz;have m0:=bx.c0;have m1:=bx.c1;have m2:=bx.c2;have m3:=bx.c3;have b6:=set4_box bx y;have z0:=b6.c0;have z1:=b6.c1;have z2:=b6.c2;have z3:=b6.c3;have HZ:=hide hfin;clear hG hF hfin bx b6 HGX i0 i1 i2 i3 j0 j1 j2 j3 k0 k1 k2 k3;simp only[TV.val];go_wp2_with fail
 exact bodyPost_ret (v:=.tuple #[y.val,.int .i64 0]) (by
  have e:(((V'.setCell ⟨V.heap.size+1+1+1,0,none⟩ (.int .i64 y.k)).setCell ⟨V.heap.size+1+1+1,1,none⟩ (.int .i64 y.N)).setCell ⟨V.heap.size+1+1+1,2,none⟩ (.string y.s)).setCell ⟨V.heap.size+1+1+1,3,none⟩ (.slice y.a y.len y.cap)=set4 V' (V.heap.size+1+1+1) 0 y:=rfl;rw[e];simp[results,Tryd.results5,go_sem,TV.val,z0,z1,z2,z3]) rfl ⟨y,rfl,(uh HZ).1,(uh HZ).2⟩
theorem phrase_any{n:Nat}(tb tl tr:Tm n)(V:World)(hb:IsT V.heap.size V tb)(hl:IsT V.heap.size V tl)(hr:IsT V.heap.size V tr)(pb:(parts tb).length≤4194304)(pl:(parts tl).length≤4194304)(pr:(parts tr).length≤4194304)(hn:n≤274877906944):
  Calls Tryd.prog 5 #[tb.tv.val,tl.tv.val,tr.tv.val] V fun e V'=> ∃y:TV,e=.returned (.tuple #[y.val,.int .i64 (phrE tb tl tr)])∧HoldsG anyP (4*n+12) V.heap.size V' y.val (phrC tb tl tr)∧Below V.heap.size V V':=by
 have hno:∀W:World,HoldsG anyP (4*n+12) V.heap.size W noTerm.val noC:=fun W=>(no_holds _ _ (by omega) W).holdsG (fun _ _=>trivial)
 by_cases ok:okT tb=true∧okT tl=true∧okT tr=true
 ·have ok':∀u∈[tb,tl,tr],okT u=true:=fun u hu=>by
   simp at hu
   rcases hu with rfl | rfl | rfl
   ·exact ok.1
   ·exact ok.2.1
   ·exact ok.2.2
  by_cases he:berr tb=0
  ·by_cases hL:1099511627777<freeC [tb,tl,tr]+cntT tb
   ·have e:phrE tb tl tr=9:=by unfold phrE;rw[if_pos ok,if_pos he,if_pos hL]
    have ec:phrC tb tl tr=noC:=by unfold phrC;rw[e,if_neg (by decide)]
    rw[e,ec];exact(phrase_large tb tl tr V hb hl hr pb pl pr hn ok' he hL).mono fun e V' h=>⟨noTerm,h.1,hno V',h.2⟩
   ·have e:phrE tb tl tr=0:=by unfold phrE;rw[if_pos ok,if_pos he,if_neg hL]
    have ec:phrC tb tl tr=(renC (newR (freeC [tb,tl,tr]) (extV (freeC [tb,tl,tr]) [] (btwC tb (code tl) (code tr) (freeC [tb,tl,tr])))) (btwC tb (code tl) (code tr) (freeC [tb,tl,tr]))):=by unfold phrC;rw[e,if_pos rfl]
    rw[e,ec];exact phrase_yes tb tl tr V hb hl hr pb pl pr hn ok' he (by omega)
  ·have e:phrE tb tl tr=berr tb:=by unfold phrE;rw[if_pos ok,if_neg he]
   have ec:phrC tb tl tr=noC:=by unfold phrC;rw[e,if_neg he]
   rw[e,ec];exact(phrase_err tb tl tr V hb hl hr pb pl pr hn ok' he).mono fun e V' h=>⟨noTerm,h.1,hno V',h.2⟩
 ·have e:phrE tb tl tr=2:=by unfold phrE;rw[if_neg ok]
  have ec:phrC tb tl tr=noC:=by unfold phrC;rw[e,if_neg (by decide)]
  rw[e,ec];refine(phrase_bad tb tl tr V hb hl hr pb pl pr hn ?_).mono fun e V' h=>⟨noTerm,h.1,hno V',h.2⟩
  by_cases o1:okT tb=false
  ·exact⟨tb,by simp,o1⟩
  ·by_cases o2:okT tl=false
   ·exact⟨tl,by simp,o2⟩
   ·by_cases o3:okT tr=false
    ·exact⟨tr,by simp,o3⟩
    ·exact absurd ⟨by simpa using o1,by simpa using o2,by simpa using o3⟩ ok
set_option maxHeartbeats 4000000
set_option maxRecDepth 100000
theorem wp_trans6{ob Bk off oc:Nat}{h b:TV}{v0 v1 v2 v3 v5 v6 v7 v8 v9 v10 v11 v12 v13 v14 v15 v16 v17 v18 v19 v20 v21 v22 v23 v24 v25 v26 v27 v28 v29 v30 v31 v32 v33 v34 v35 v36 v37 v38 v39 v40 v41 v42 v43 v44 v45 v46 v47 v48 v49 v50 v51 v52 v53 v54 v55 v56 v57 v58 v59 v60 v61 v62 v63 v64 v65 v66 v67 v68 v69 v70 v71 v72 v73 v74 v75 v76 v77 v78:Value}{d:List Deferred}{W0:World}{Q:Exit→Act→World→Prop}(hob:ob<W0.heap.size)(hBk:Bk<W0.heap.size)
  (hc:W0.cell? ⟨ob,3,none⟩=some (.slice (some ⟨Bk,off,none⟩) 2 oc)∧W0.cell? ⟨Bk,off,none⟩=some (.int .i64 h.k)∧W0.cell? ⟨Bk,off+1,none⟩=some (.int .i64 h.N)∧W0.cell? ⟨Bk,off+2,none⟩=some (.string h.s)∧W0.cell? ⟨Bk,off+3,none⟩=some (.slice h.a h.len h.cap)∧W0.cell? ⟨Bk,off+4,none⟩=some (.int .i64 b.k)∧W0.cell? ⟨Bk,off+4+1,none⟩=some (.int .i64 b.N)∧W0.cell? ⟨Bk,off+4+2,none⟩=some (.string b.s)∧W0.cell? ⟨Bk,off+4+3,none⟩=some (.slice b.a b.len b.cap))
  (hQ:∀(W:World) (b1 b2:Nat) (u30 u31 u32 u33 u34 u35 u36 u37:Value),Below W0.heap.size W0 W→W0.heap.size≤b1→W0.heap.size≤b2→b1≠b2→BoxT W b1 h→BoxT W b2 b→Q .normal ⟨#[v0,v1,v2,v3,.pointer (some ⟨ob,0,none⟩),v5,v6,.pointer (some ⟨b1,0,none⟩),.pointer (some ⟨b2,0,none⟩),v9,v10,v11,v12,v13,v14,v15,v16,v17,v18,v19,v20,v21,v22,v23,v24,v25,v26,v27,v28,v29,u30,u31,u32,u33,u34,u35,u36,u37,v38,v39,v40,v41,v42,v43,v44,v45,v46,v47,v48,v49,v50,v51,v52,v53,v54,v55,v56,v57,v58,v59,v60,v61,v62,v63,v64,v65,v66,v67,v68,v69,v70,v71,v72,v73,v74,v75,v76,v77,v78],d⟩ W):
  (Code.region 6 #[{dst:=some 30,op:=Op.fieldAddr 24 (Operand.tmp 4) 3,type:=0,pos:= "grammar.go:18",after:=#[],guard:=none},{dst:=some 31,op:=Op.load 22 (Operand.tmp 30),type:=22,pos:= "grammar.go:18",after:=#[{on:=0,ground:=Ground.data}],guard:=none},{dst:=some 32,op:=Op.indexAddr 22 (Operand.tmp 31) (Operand.const (Value.int IntKind.i64 0)),type:=0,pos:= "grammar.go:18",after:=#[{on:=1,ground:=Ground.data}],guard:=none},{dst:=some 33,op:=Op.load 24 (Operand.tmp 32),type:=24,pos:= "grammar.go:18",after:=#[{on:=2,ground:=Ground.data}],guard:=none},{dst:=some 34,op:=Op.fieldAddr 24 (Operand.tmp 4) 3,type:=0,pos:= "grammar.go:18",after:=#[{on:=10,ground:=Ground.gcOnly Departure.lateStores}],guard:=none},{dst:=some 35,op:=Op.load 22 (Operand.tmp 34),type:=22,pos:= "grammar.go:18",after:=#[{on:=4,ground:=Ground.data},{on:=10,ground:=Ground.gcOnly Departure.lateStores}],guard:=none},{dst:=some 36,op:=Op.indexAddr 22 (Operand.tmp 35) (Operand.const (Value.int IntKind.i64 1)),type:=0,pos:= "grammar.go:18",after:=#[{on:=5,ground:=Ground.data},{on:=10,ground:=Ground.gcOnly Departure.lateStores}],guard:=none},{dst:=some 37,op:=Op.load 24 (Operand.tmp 36),type:=24,pos:= "grammar.go:18",after:=#[{on:=6,ground:=Ground.data},{on:=10,ground:=Ground.gcOnly Departure.lateStores}],guard:=none},{dst:=some 7,op:=Op.alloc 24,type:=0,pos:= "grammar.go:18",after:=#[],guard:=none},{dst:=some 8,op:=Op.alloc 24,type:=0,pos:= "grammar.go:18",after:=#[],guard:=none},{dst:=none,op:=Op.store 24 (Operand.tmp 7) (Operand.tmp 33),type:=0,pos:= "grammar.go:18",after:=#[{on:=8,ground:=Ground.data},{on:=3,ground:=Ground.data},{on:=0,ground:=Ground.phase},{on:=1,ground:=Ground.phase},{on:=2,ground:=Ground.phase},{on:=3,ground:=Ground.phase},{on:=4,ground:=Ground.textOnly Departure.lateStores},{on:=5,ground:=Ground.textOnly Departure.lateStores},{on:=6,ground:=Ground.textOnly Departure.lateStores},{on:=7,ground:=Ground.textOnly Departure.lateStores},{on:=8,ground:=Ground.phase},{on:=9,ground:=Ground.phase}],guard:=none},{dst:=none,op:=Op.store 24 (Operand.tmp 8) (Operand.tmp 37),type:=0,pos:= "grammar.go:18",after:=#[{on:=9,ground:=Ground.data},{on:=7,ground:=Ground.data},{on:=10,ground:=Ground.chain},{on:=0,ground:=Ground.phase},{on:=1,ground:=Ground.phase},{on:=2,ground:=Ground.phase},{on:=3,ground:=Ground.phase},{on:=4,ground:=Ground.phase},{on:=5,ground:=Ground.phase},{on:=6,ground:=Ground.phase},{on:=7,ground:=Ground.phase},{on:=8,ground:=Ground.phase},{on:=9,ground:=Ground.phase},{on:=10,ground:=Ground.phase}],guard:=none}] true).wp Tryd.prog Q ⟨#[v0,v1,v2,v3,.pointer (some ⟨ob,0,none⟩),v5,v6,v7,v8,v9,v10,v11,v12,v13,v14,v15,v16,v17,v18,v19,v20,v21,v22,v23,v24,v25,v26,v27,v28,v29,v30,v31,v32,v33,v34,v35,v36,v37,v38,v39,v40,v41,v42,v43,v44,v45,v46,v47,v48,v49,v50,v51,v52,v53,v54,v55,v56,v57,v58,v59,v60,v61,v62,v63,v64,v65,v66,v67,v68,v69,v70,v71,v72,v73,v74,v75,v76,v77,v78],d⟩ W0:=by
 obtain⟨D1,hD1⟩:∃D1,W0.drew=D1:=⟨_,rfl⟩;have hDB:Below W0.heap.size W0 D1:=by rw[←hD1];exact(Below.refl _ W0).drew
 have hDs:D1.heap.size=W0.heap.size:=by rw[←hD1];rfl
 have hA1:Below D1.heap.size D1 (D1.alloc (.cells #[.int .i64 0,.int .i64 0,.string ⟨#[]⟩,.slice none 0 0] 24)):=(Below.refl _ D1).alloc (Nat.le_refl _) _;obtain⟨X2,hX2⟩:∃X2,(D1.alloc (.cells #[.int .i64 0,.int .i64 0,.string ⟨#[]⟩,.slice none 0 0] 24)).alloc (.cells #[.int .i64 0,.int .i64 0,.string ⟨#[]⟩,.slice none 0 0] 24)=X2:=⟨_,rfl⟩;have sX2:X2.heap.size=D1.heap.size+2:=by rw[←hX2];simp
 have z1:BoxT X2 D1.heap.size noTerm:=by rw[←hX2];exact(BoxT.new D1 noTerm).alloc _
 have z2:BoxT X2 (D1.heap.size+1) noTerm:=by
  rw[←hX2];have h0:=BoxT.new (D1.alloc (.cells #[.int .i64 0,.int .i64 0,.string ⟨#[]⟩,.slice none 0 0] 24)) noTerm;rw[World.size_alloc] at h0;exact h0
 have hB2:Below W0.heap.size W0 X2:=by rw[←hX2];exact(hDB.trans (hA1.mono (by omega))).alloc (by simp;omega) _
 have KEEP:Hid (∀U:World,(∀k,k<W0.heap.size→U.heap[k]?=W0.heap[k]?)→(U.cell? ⟨ob,3,none⟩=some (.slice (some ⟨Bk,off,none⟩) 2 oc)∧U.cell? ⟨Bk,off,none⟩=some (.int .i64 h.k)∧U.cell? ⟨Bk,off+1,none⟩=some (.int .i64 h.N)∧U.cell? ⟨Bk,off+2,none⟩=some (.string h.s)∧U.cell? ⟨Bk,off+3,none⟩=some (.slice h.a h.len h.cap)∧U.cell? ⟨Bk,off+4,none⟩=some (.int .i64 b.k)∧U.cell? ⟨Bk,off+4+1,none⟩=some (.int .i64 b.N)∧U.cell? ⟨Bk,off+4+2,none⟩=some (.string b.s)∧U.cell? ⟨Bk,off+4+3,none⟩=some (.slice b.a b.len b.cap))):=hide fun U hU=>by
  have e1:∀j,U.cell? ⟨ob,j,none⟩=W0.cell? ⟨ob,j,none⟩:=fun j=>World.cell?_of_block (hU ob hob);have e2:∀j,U.cell? ⟨Bk,j,none⟩=W0.cell? ⟨Bk,j,none⟩:=fun j=>World.cell?_of_block (hU Bk hBk);obtain⟨c0,c1,c2,c3,c4,c5,c6,c7,c8⟩:=hc;exact⟨(e1 _).trans c0,(e2 _).trans c1,(e2 _).trans c2,(e2 _).trans c3,(e2 _).trans c4,(e2 _).trans c5,(e2 _).trans c6,(e2 _).trans c7,(e2 _).trans c8⟩
 have ka0:∀k,k<W0.heap.size→D1.heap[k]?=W0.heap[k]?:=fun k hk=>hDB.block k hk;have ka1:∀k,k<W0.heap.size→(D1.alloc (.cells #[.int .i64 0,.int .i64 0,.string ⟨#[]⟩,.slice none 0 0] 24)).heap[k]?=W0.heap[k]?:=fun k hk=>(hA1.block k (by omega)).trans (ka0 k hk);have ka2:∀k,k<W0.heap.size→X2.heap[k]?=W0.heap[k]?:=fun k hk=>hB2.block k hk;obtain⟨X3A,hX3A⟩:∃X3,set4 X2 (D1.heap.size) 0 h=X3:=⟨_,rfl⟩;obtain⟨X4A,hX4A⟩:∃X4,set4 X3A (D1.heap.size+1) 0 b=X4:=⟨_,rfl⟩;have o3A:∀k,k≠D1.heap.size→X3A.heap[k]?=X2.heap[k]?:=fun k hk=>by rw[←hX3A];exact set4_other _ _ _ _ hk
 have o4A:∀k,k≠D1.heap.size+1→X4A.heap[k]?=X3A.heap[k]?:=fun k hk=>by rw[←hX4A];exact set4_other _ _ _ _ hk
 have s3A:X3A.heap.size=X2.heap.size:=by rw[←hX3A,set4_size]
 have s4A:X4A.heap.size=X3A.heap.size:=by rw[←hX4A,set4_size]
 have x7A:BoxT X2 (D1.heap.size) noTerm:=by first | exact z1 | exact z2
 have x8A:BoxT X3A (D1.heap.size+1) noTerm:=(o3A _ (by omega)).trans (by first | exact z1 | exact z2);have y7A:BoxT X3A (D1.heap.size) h:=by rw[←hX3A];exact set4_box x7A h
 have y8A:BoxT X4A (D1.heap.size+1) b:=by rw[←hX4A];exact set4_box x8A b
 have ka3A:∀k,k<W0.heap.size→X3A.heap[k]?=W0.heap[k]?:=fun k hk=>(o3A k (by omega)).trans (ka2 k hk);have ka4A:∀k,k<W0.heap.size→X4A.heap[k]?=W0.heap[k]?:=fun k hk=>(o4A k (by omega)).trans (ka3A k hk)
 have HQA:=hide (hQ X4A (D1.heap.size) (D1.heap.size+1) (.pointer (some ⟨ob,3,none⟩)) (.slice (some ⟨Bk,off,none⟩) 2 oc) (.pointer (some ⟨Bk,off,none⟩)) (.agg #[.int .i64 h.k,.int .i64 h.N,.string h.s,.slice h.a h.len h.cap]) (.pointer (some ⟨ob,3,none⟩)) (.slice (some ⟨Bk,off,none⟩) 2 oc) (.pointer (some ⟨Bk,off+4,none⟩)) (.agg #[.int .i64 b.k,.int .i64 b.N,.string b.s,.slice b.a b.len b.cap]) (by
  have h3:Below W0.heap.size W0 X3A:=by rw[←hX3A];exact set4_below hB2 (by omega) 0 h
  rw[←hX4A];exact set4_below h3 (by omega) 0 b) (by omega) (by omega) (by omega) ((o4A _ (by omega)).trans y7A) y8A)
 obtain⟨m0A,m1A,m2A,m3A⟩:=x7A.frz;have i0A:=x7A.c0;have i1A:=x7A.c1;have i2A:=x7A.c2;have i3A:=x7A.c3;obtain⟨p0A,p1A,p2A,p3A⟩:=x8A.frz;have q0A:=x8A.c0;have q1A:=x8A.c1;have q2A:=x8A.c2;have q3A:=x8A.c3;unfold set4 at hX3A hX4A;simp only[Nat.zero_add] at hX3A hX4A;obtain⟨X3B,hX3B⟩:∃X3,set4 X2 (D1.heap.size+1) 0 h=X3:=⟨_,rfl⟩;obtain⟨X4B,hX4B⟩:∃X4,set4 X3B (D1.heap.size) 0 b=X4:=⟨_,rfl⟩;have o3B:∀k,k≠D1.heap.size+1→X3B.heap[k]?=X2.heap[k]?:=fun k hk=>by rw[←hX3B];exact set4_other _ _ _ _ hk
 have o4B:∀k,k≠D1.heap.size→X4B.heap[k]?=X3B.heap[k]?:=fun k hk=>by rw[←hX4B];exact set4_other _ _ _ _ hk
 have s3B:X3B.heap.size=X2.heap.size:=by rw[←hX3B,set4_size]
 have s4B:X4B.heap.size=X3B.heap.size:=by rw[←hX4B,set4_size]
 have x7B:BoxT X2 (D1.heap.size+1) noTerm:=by first | exact z1 | exact z2
 have x8B:BoxT X3B (D1.heap.size) noTerm:=(o3B _ (by omega)).trans (by first | exact z1 | exact z2);have y7B:BoxT X3B (D1.heap.size+1) h:=by rw[←hX3B];exact set4_box x7B h
 have y8B:BoxT X4B (D1.heap.size) b:=by rw[←hX4B];exact set4_box x8B b
 have ka3B:∀k,k<W0.heap.size→X3B.heap[k]?=W0.heap[k]?:=fun k hk=>(o3B k (by omega)).trans (ka2 k hk);have ka4B:∀k,k<W0.heap.size→X4B.heap[k]?=W0.heap[k]?:=fun k hk=>(o4B k (by omega)).trans (ka3B k hk)
 have HQB:=hide (hQ X4B (D1.heap.size+1) (D1.heap.size) (.pointer (some ⟨ob,3,none⟩)) (.slice (some ⟨Bk,off,none⟩) 2 oc) (.pointer (some ⟨Bk,off,none⟩)) (.agg #[.int .i64 h.k,.int .i64 h.N,.string h.s,.slice h.a h.len h.cap]) (.pointer (some ⟨ob,3,none⟩)) (.slice (some ⟨Bk,off,none⟩) 2 oc) (.pointer (some ⟨Bk,off+4,none⟩)) (.agg #[.int .i64 b.k,.int .i64 b.N,.string b.s,.slice b.a b.len b.cap]) (by
  have h3:Below W0.heap.size W0 X3B:=by rw[←hX3B];exact set4_below hB2 (by omega) 0 h
  rw[←hX4B];exact set4_below h3 (by omega) 0 b) (by omega) (by omega) (by omega) ((o4B _ (by omega)).trans y7B) y8B)
 obtain⟨m0B,m1B,m2B,m3B⟩:=x7B.frz;have i0B:=x7B.c0;have i1B:=x7B.c1;have i2B:=x7B.c2;have i3B:=x7B.c3;obtain⟨p0B,p1B,p2B,p3B⟩:=x8B.frz;have q0B:=x8B.c0;have q1B:=x8B.c1;have q2B:=x8B.c2;have q3B:=x8B.c3;unfold set4 at hX3B hX4B;simp only[Nat.zero_add] at hX3B hX4B;have kD:=(uh KEEP) D1 ka0;clear hQ hc hDB hA1 hB2 z1 z2 x7A x8A y7A y8A x7B x8B y7B y8B o3A o4A o3B o4B s3A s4A s3B s4B sX2 hDs;refine wp_region_noPanic ?_;refine wp_region_held_drew (S:=fun w'=>w'.cell? ⟨ob,3,none⟩=some (.slice (some ⟨Bk,off,none⟩) 2 oc)∧w'.cell? ⟨Bk,off,none⟩=some (.int .i64 h.k)∧w'.cell? ⟨Bk,off+1,none⟩=some (.int .i64 h.N)∧w'.cell? ⟨Bk,off+2,none⟩=some (.string h.s)∧w'.cell? ⟨Bk,off+3,none⟩=some (.slice h.a h.len h.cap)∧w'.cell? ⟨Bk,off+4,none⟩=some (.int .i64 b.k)∧w'.cell? ⟨Bk,off+4+1,none⟩=some (.int .i64 b.N)∧w'.cell? ⟨Bk,off+4+2,none⟩=some (.string b.s)∧w'.cell? ⟨Bk,off+4+3,none⟩=some (.slice b.a b.len b.cap)) (by kernel_rfl) ?_ (fun hHeld=>?_)
 ·(try rw[hD1]);exact kD
 rw[hD1] at hHeld⊢;clear hD1;refine tk 0 rfl hHeld ?_;refine tk 1 rfl hHeld ?_;refine tk 2 rfl hHeld ?_;refine tk 3 rfl hHeld ?_;refine tk 4 rfl hHeld ?_;refine tk 5 rfl hHeld ?_;refine tk 6 rfl hHeld ?_;refine tk 7 rfl hHeld ?_;refine wpAnyH_ready (rs:=[8,9]) (by kernel_rfl) (by simp) ?_;refine rc 8 rfl (fun K hK=>?_) ?_
 ·have hHold:=hHeld
  clear hHeld;go_simp;refine hK.out _ _ ?_ (fun hHeld=>?_)
  ·((try dsimp only);exact(uh KEEP) _ ka1)
  clear hK K hHold;try simp only[pu]
  refine rd 9 rfl fun K hK=>?_;have hHold:=hHeld;clear hHeld;go_simp;try rw[hX2]
  refine hK.out _ _ ?_ (fun hHeld=>?_)
  ·((try dsimp only);exact(uh KEEP) _ ka2)
  clear hK K hHold;try simp only[pu]
  refine rd 10 rfl fun K hK=>?_;have hHold:=hHeld;clear hHeld;go_simp;try rw[hX3A]
  refine hK.out _ _ ?_ (fun hHeld=>?_)
  ·((try dsimp only);exact(uh KEEP) _ ka3A)
  clear hK K hHold;try simp only[pu]
  refine rd 11 rfl fun K hK=>?_;have hHold:=hHeld;clear hHeld;go_simp;try rw[hX4A]
  refine hK.out _ _ ?_ (fun hHeld=>?_)
  ·((try dsimp only);exact(uh KEEP) _ ka4A)
  clear hK K hHold;try simp only[pu]
  refine wpAnyH_done (by kernel_rfl) ?_ _;exact NoPanic.normal (uh HQA)
 refine rc 9 rfl (fun K hK=>?_) AllReadyH.nil;have hHold:=hHeld;clear hHeld;go_simp;refine hK.out _ _ ?_ (fun hHeld=>?_)
 ·((try dsimp only);exact(uh KEEP) _ ka1)
 clear hK K hHold;try simp only[pu]
 refine rd 8 rfl fun K hK=>?_;have hHold:=hHeld;clear hHeld;go_simp;try rw[hX2]
 refine hK.out _ _ ?_ (fun hHeld=>?_)
 ·((try dsimp only);exact(uh KEEP) _ ka2)
 clear hK K hHold;try simp only[pu]
 refine rd 10 rfl fun K hK=>?_;have hHold:=hHeld;clear hHeld;go_simp;try rw[hX3B]
 refine hK.out _ _ ?_ (fun hHeld=>?_)
 ·((try dsimp only);exact(uh KEEP) _ ka3B)
 clear hK K hHold;try simp only[pu]
 refine rd 11 rfl fun K hK=>?_;have hHold:=hHeld;clear hHeld;go_simp;try rw[hX4B]
 refine hK.out _ _ ?_ (fun hHeld=>?_)
 ·((try dsimp only);exact(uh KEEP) _ ka4B)
 clear hK K hHold;try simp only[pu]
 refine wpAnyH_done (by kernel_rfl) ?_ _;exact NoPanic.normal (uh HQB)
end Go.Proofs.YtjbdkbaacjfecaaDoor
