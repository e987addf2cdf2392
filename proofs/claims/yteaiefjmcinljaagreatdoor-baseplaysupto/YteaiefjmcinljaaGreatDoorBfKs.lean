import Derived.Test.YteaiefjmcinljaaGreatDoorBfJ
namespace Go.Proofs.YteaiefjmcinljaaGreatDoor
set_option maxHeartbeats 4000000
set_option maxRecDepth 100000
open Go.RowKit Go.Shelf Go.Maps
section
variable {n:Nat} {M O:Nat→Prop} {W W3 W5 w5 W0:World} {lo b rb vx:Nat} {laid:Int} {E:List En} {H:List (Hd n)} {V:List (Vw n)} {u u':Value}
/-- What stands behind a View that is made. -/
def ViewB(W0:World)(lo b rb vx:Nat)(M O:Nat→Prop)(laid:Int)(E:List En)(H:List (Hd n))(V:List (Vw n))(u:Value)(tg:Tm (n+1))(vb:Nat)(W':World):Prop:=
 PlS W0 lo b rb vx (fun k=>M k∨k=vb) O laid E H V u W'∧VOK (fun k=>M k∨k=vb) W' vb (goalN E (code tg)).1 (goalN E (code tg)).2 (-9223372036854775808)∧Seq (goalN E (code tg)).1 (goalN E (code tg)).2 (-9223372036854775808) (thrE E (code tg))∧¬Zs rb vx u V vb∧¬O vb
theorem view_base(hp:PlS W0 lo b rb vx M O laid E H V u W)(hbig:laid≤1048575){tg:Tm (n+1)}(hT:IsT lo W0 tg)(hok:okT tg=true)(hcall:(decide (tg.tv.k=3) || decide (tg.tv.k=4))=true)(hn:numC (code tg)):
  Calls Tryz.prog 34 #[.pointer (some ⟨b,0,none⟩),tg.tv.val] W fun e W'=> ∃vb,e=.returned (.tuple #[.pointer (some ⟨vb,0,none⟩),.int .i64 0])∧Below W.heap.size W W'∧ViewB W0 lo b rb vx M O laid E H V u tg vb W':=by
 obtain⟨me,mf,ce,cf,ge,gf,F,hB,hO,hF⟩:=hp.bs
 refine(view_vok hB hp.mu (by omega) tg (hp.goal hT) hok hcall hn).mono ?_
 rintro e W' ⟨vb,he,hvb,hb,hM,hv⟩
 refine⟨vb,he,hb,hp.more hb (fun _ hk=>.inl hk) (fun k hk=>hk.imp id (fun e=>by rw[e];exact hvb)) hM,hv,goal_seq hB.srt (code tg) (fun e he=>by have:=hB.pls e he;have:=hB.low;omega),fun hz=>?_,fun ho=>?_⟩
 ·have:=(hp.mu vb (hp.zs vb hz).1).1;omega
 ·have:=(hp.mu vb (hp.own ho)).1;omega
theorem view_done{tg:Tm (n+1)}{vb:Nat}(hv:ViewB W0 lo b rb vx M O laid E H V u tg vb W3)(hT:IsT lo W0 tg)(hok:okT tg=true)(hn:numC (code tg)){a:Option Addr}{cap:Nat}(hA:A20 W3 lo vb u (V.flatMap Vw.row) V.length (H.filter (viewB tg)) a cap W5 u' w5):
  ∃(M':Nat→Prop) (v:Vw n),PlS W0 lo b rb vx M' O laid E H (V++[v]) u' (w5.setCell ⟨vx,0,none⟩ u'):=by
 obtain⟨hp,hvk,hsq,hz,hO⟩:=hv
 have h5:=hp.below hA.r.low
 have hk5:=hvk.kept hp.mu (GrB.of_below (X:=fun _=>False) hA.r.low) (fun _ e=>e.elim)
 refine⟨_,⟨vb,a,cap,(goalN E (code tg)).1,(goalN E (code tg)).2,-9223372036854775808,thrE E (code tg),H.filter (viewB tg)⟩,h5.add_view _ ⟨hk5,hsq,hp.same hT hok hn,hA.r.row,fun g off e=>⟨fun hm=>?_,(hA.r.far g off e).2⟩,fun d hd=>hp.hds d (List.mem_filter.1 hd).1,hA.r.cp⟩ hz hO ?_ hA.gr hA.at'⟩
 ·have h1:=(hp.mu g hm).1
  have h2:=(hA.r.far g off e).1
  omega
 ·have h:=hA.own
  rw[List.length_append,List.flatMap_append]
  simpa[Vw.row] using h
end
theorem seen_5{n:Nat}{W0 W:World}{lo b rb vx:Nat}{M O:Nat→Prop}{laid:Int}{E:List En}{H:List (Hd n)}{V:List (Vw n)}{u:Value}(h:PlS W0 lo b rb vx M O laid E H V u W)(th tb:Tm (n+1))(first:Bool)(N:Int)(tg:Tm (n+1))(hS:StOk lo W0 ⟨5,th,tb,first,N,tg⟩)(hbig:laid≤1048575)(hok:okT tg=true)(hcall:tg.tv.k=3∨tg.tv.k=4)(hvl:V.length≤4194304):
  Calls Tryz.prog 18 #[.pointer (some ⟨b,0,none⟩),.pointer (some ⟨rb,0,none⟩),.pointer (some ⟨vx,0,none⟩),.agg #[.int .i64 5,.int .i64 th.tv.k,.int .i64 th.tv.N,.string th.tv.s,.slice th.tv.a th.tv.len th.tv.cap,.int .i64 tb.tv.k,.int .i64 tb.tv.N,.string tb.tv.s,.slice tb.tv.a tb.tv.len tb.tv.cap,.bool first,.int .i64 N,.int .i64 tg.tv.k,.int .i64 tg.tv.N,.string tg.tv.s,.slice tg.tv.a tg.tv.len tg.tv.cap]] W fun e W'=>e=.returned (.bool true)∧∃(M':Nat→Prop) (v:Vw n) (u':Value),PlS W0 lo b rb vx M' O laid E H (V++[v]) u' W':=by
 have hB1:Below W.heap.size W (W.alloc (.cells #[.int .i64 5,.int .i64 th.tv.k,.int .i64 th.tv.N,.string th.tv.s,.slice th.tv.a th.tv.len th.tv.cap,.int .i64 tb.tv.k,.int .i64 tb.tv.N,.string tb.tv.s,.slice tb.tv.a tb.tv.len tb.tv.cap,.bool first,.int .i64 N,.int .i64 tg.tv.k,.int .i64 tg.tv.N,.string tg.tv.s,.slice tg.tv.a tg.tv.len tg.tv.cap] 38)):=(Below.refl _ W).alloc (Nat.le_refl _) _
 have hx1:BoxS (W.alloc (.cells #[.int .i64 5,.int .i64 th.tv.k,.int .i64 th.tv.N,.string th.tv.s,.slice th.tv.a th.tv.len th.tv.cap,.int .i64 tb.tv.k,.int .i64 tb.tv.N,.string tb.tv.s,.slice tb.tv.a tb.tv.len tb.tv.cap,.bool first,.int .i64 N,.int .i64 tg.tv.k,.int .i64 tg.tv.N,.string tg.tv.s,.slice tg.tv.a tg.tv.len tg.tv.cap] 38)) W.heap.size ⟨5,th,tb,first,N,tg⟩:=BoxS.new W ⟨5,th,tb,first,N,tg⟩
 have h1:=h.below hB1
 obtain⟨W1,hW1⟩:∃W1,W.alloc (.cells #[.int .i64 5,.int .i64 th.tv.k,.int .i64 th.tv.N,.string th.tv.s,.slice th.tv.a th.tv.len th.tv.cap,.int .i64 tb.tv.k,.int .i64 tb.tv.N,.string tb.tv.s,.slice tb.tv.a tb.tv.len tb.tv.cap,.bool first,.int .i64 N,.int .i64 tg.tv.k,.int .i64 tg.tv.N,.string tg.tv.s,.slice tg.tv.a tg.tv.len tg.tv.cap] 38)=W1:=⟨_,rfl⟩
 rw[hW1] at hB1 hx1 h1
 have hF:=formed_any (n+1) tg W1 (h1.goal hS.tg)
 rw[hok] at hF
 have hA:∀X,Below W1.heap.size W1 X→Calls Tryz.prog 34 #[.pointer (some ⟨b,0,none⟩),tg.tv.val] X fun e W'=> ∃vb,e=.returned (.tuple #[.pointer (some ⟨vb,0,none⟩),.int .i64 0])∧Below X.heap.size X W'∧ViewB W0 lo b rb vx M O laid E H V u tg vb W':=fun X hX=>view_base (h1.below hX) hbig hS.tg hok (by simpa using hcall) hS.ntg
 have hc1:∀X,Below W1.heap.size W1 X→X.cell? ⟨W.heap.size,0,none⟩=some (.int .i64 5)∧X.cell? ⟨W.heap.size,11,none⟩=some (.int .i64 tg.tv.k)∧X.cell? ⟨W.heap.size,12,none⟩=some (.int .i64 tg.tv.N)∧X.cell? ⟨W.heap.size,13,none⟩=some (.string tg.tv.s)∧X.cell? ⟨W.heap.size,14,none⟩=some (.slice tg.tv.a tg.tv.len tg.tv.cap):=fun X hX=>by
  have hc:=(hx1.kept (hX.block _ hx1.lt)).c
  exact⟨hc.1,hc.2.2.2.2.2⟩
 have hxl:=hx1.lt
 have hdone:=fun(vb:Nat) (W3:World) (hv:ViewB W0 lo b rb vx M O laid E H V u tg vb W3) (a:Option Addr) (cap:Nat) (W5 w5:World) (u':Value) (hA:A20 W3 lo vb u (V.flatMap Vw.row) V.length (H.filter (viewB tg)) a cap W5 u' w5)=>view_done hv hS.tg hok hS.ntg hA
 have hR:=fun(M':Nat→Prop) (X:World) (hp:PlS W0 lo b rb vx M' O laid E H V u X)=>view_ref hp hbig hS.tg
 have HD:=hide hdone
 have HA:=hide hA
 have HR:=hide hR
 have HC:=hide hc1
 have HXL:=hide hxl
 have HVL:=hide hvl
 rw[←hW1] at hF
 have HW:=hide hW1
 have HCALL:=hide hcall
 simp only[TV.val] at hF
 clear h h1 hB1 hx1 hS hbig hW1 hc1 hA hR hok hcall hdone hxl hvl
 go_enter Tryz.func18,Tryz.ntmps18
 go_wp2_with fail
 refine hF.mono ?_
 clear hF
 rw[unhide HW]
 rintro e W2 ⟨rfl,b2⟩
 have hA:=(unhide HA) W2 b2
 simp only[TV.val] at hA
 obtain⟨c0,c1,c2,c3,c4⟩:=(unhide HC) W2 b2
 have HB2:=hide b2
 clear b2
 rcases unhide HCALL with hk | hk
 all_goals
  rw[hk] at c1 hA
  go_wp2_with fail
  refine hA.mono ?_
  clear hA
  rintro e W3 ⟨vb,rfl,b3,hv⟩
  have hB3:=(unhide HB2).trans (b3.mono (unhide HB2).size)
  obtain⟨d0,d1,d2,d3,d4⟩:=(unhide HC) W3 hB3
  have HV:=hide hv
  have HB3:=hide hB3
  have HD4:=hide (And.intro d1 (And.intro d2 (And.intro d3 d4)))
  clear b3 hv hB3 c0 c1 c2 c3 c4 d0 d1 d2 d3 d4
  go_wp2_with fail
  have hp3:=(unhide HV).1
  refine wp_view20' (tg:=tg) (xs:=V.flatMap Vw.row) (k:=V.length) (L:=H.filter (viewB tg)) (lo:=lo) (u:=u) hp3.box.cell hp3.box.lt (Nat.lt_of_lt_of_le (unhide HXL) (unhide HB3).size) (unhide HD4).1 (unhide HD4).2.1 (unhide HD4).2.2.1 (unhide HD4).2.2.2 (fun X hX=>(unhide HR) _ X (hp3.below hX)) hp3.row (unhide HVL) (Nat.le_trans hp3.los hp3.low.size) hp3.box (fun e=>(hp3.ap2 vx e).2 rfl) ?_
  intro x100 x101 x102 x103 x104 x105 x106 x107 x108 x109 x110 x111 x112 a cap W5 w5 u' hA
  obtain⟨M',v,hfin⟩:=(unhide HD) vb W3 (unhide HV) a cap W5 w5 u' hA
  have HF:=hide hfin
  clear hp3 hA hfin
  go_wp2_with fail
  go_ret
  exact⟨rfl,M',v,u',unhide HF⟩
set_option maxHeartbeats 4000000
set_option maxRecDepth 100000
section
variable {n:Nat} {W0:World} {lo b rb vx:Nat}
/-- So many steps were taken. -/
def PlJ(n:Nat)(W0:World)(lo b rb vx:Nat)(laid:Int)(vl:Nat)(W:World):Prop:=
 ∃(M O:Nat→Prop) (laid':Int) (E:List En) (H:List (Hd n)) (V:List (Vw n)) (u:Value),PlS W0 lo b rb vx M O laid' E H V u W∧laid'≤laid+1∧V.length≤vl+1
end
theorem based_4{n:Nat}{W0 W:World}{lo b rb vx:Nat}{M O:Nat→Prop}{laid:Int}{E:List En}{H:List (Hd n)}{V:List (Vw n)}{u:Value}(h:PlS W0 lo b rb vx M O laid E H V u W)(th tb:Tm (n+1))(first:Bool)(N:Int)(tg:Tm (n+1))(hS:StOk lo W0 ⟨4,th,tb,first,N,tg⟩)(hbig:laid≤1048575)(_hvl:V.length≤4194304):
  Calls Tryz.prog 5 #[.pointer (some ⟨b,0,none⟩),.pointer (some ⟨rb,0,none⟩),.pointer (some ⟨vx,0,none⟩),.agg #[.int .i64 4,.int .i64 th.tv.k,.int .i64 th.tv.N,.string th.tv.s,.slice th.tv.a th.tv.len th.tv.cap,.int .i64 tb.tv.k,.int .i64 tb.tv.N,.string tb.tv.s,.slice tb.tv.a tb.tv.len tb.tv.cap,.bool first,.int .i64 N,.int .i64 tg.tv.k,.int .i64 tg.tv.N,.string tg.tv.s,.slice tg.tv.a tg.tv.len tg.tv.cap]] W fun e W'=>e=.returned (.bool true)∧PlJ n W0 lo b rb vx laid V.length W':=by
 have hB1:Below W.heap.size W (W.alloc (.cells #[.int .i64 4,.int .i64 th.tv.k,.int .i64 th.tv.N,.string th.tv.s,.slice th.tv.a th.tv.len th.tv.cap,.int .i64 tb.tv.k,.int .i64 tb.tv.N,.string tb.tv.s,.slice tb.tv.a tb.tv.len tb.tv.cap,.bool first,.int .i64 N,.int .i64 tg.tv.k,.int .i64 tg.tv.N,.string tg.tv.s,.slice tg.tv.a tg.tv.len tg.tv.cap] 38)):=(Below.refl _ W).alloc (Nat.le_refl _) _
 have hx1:BoxS (W.alloc (.cells #[.int .i64 4,.int .i64 th.tv.k,.int .i64 th.tv.N,.string th.tv.s,.slice th.tv.a th.tv.len th.tv.cap,.int .i64 tb.tv.k,.int .i64 tb.tv.N,.string tb.tv.s,.slice tb.tv.a tb.tv.len tb.tv.cap,.bool first,.int .i64 N,.int .i64 tg.tv.k,.int .i64 tg.tv.N,.string tg.tv.s,.slice tg.tv.a tg.tv.len tg.tv.cap] 38)) W.heap.size ⟨4,th,tb,first,N,tg⟩:=BoxS.new W ⟨4,th,tb,first,N,tg⟩
 have h1:=h.below hB1
 obtain⟨W1,hW1⟩:∃W1,W.alloc (.cells #[.int .i64 4,.int .i64 th.tv.k,.int .i64 th.tv.N,.string th.tv.s,.slice th.tv.a th.tv.len th.tv.cap,.int .i64 tb.tv.k,.int .i64 tb.tv.N,.string tb.tv.s,.slice tb.tv.a tb.tv.len tb.tv.cap,.bool first,.int .i64 N,.int .i64 tg.tv.k,.int .i64 tg.tv.N,.string tg.tv.s,.slice tg.tv.a tg.tv.len tg.tv.cap] 38)=W1:=⟨_,rfl⟩
 rw[hW1] at hB1 hx1 h1
 have hA:Calls Tryz.prog 18 #[.pointer (some ⟨b,0,none⟩),.pointer (some ⟨rb,0,none⟩),.pointer (some ⟨vx,0,none⟩),.agg #[.int .i64 4,.int .i64 th.tv.k,.int .i64 th.tv.N,.string th.tv.s,.slice th.tv.a th.tv.len th.tv.cap,.int .i64 tb.tv.k,.int .i64 tb.tv.N,.string tb.tv.s,.slice tb.tv.a tb.tv.len tb.tv.cap,.bool first,.int .i64 N,.int .i64 tg.tv.k,.int .i64 tg.tv.N,.string tg.tv.s,.slice tg.tv.a tg.tv.len tg.tv.cap]] W1 fun e W'=>e=.returned (.bool true)∧PlJ n W0 lo b rb vx laid V.length W':=by
  cases hok:okT tg with
  | false=>exact(seen_4_2 h1 th tb first N tg hS hbig hok).mono fun e W' h=>⟨h.1,M,O,laid,E,H,V,u,h.2,by omega,by omega⟩
  | true=>
   cases hcall:(decide (tg.tv.k=3) || decide (tg.tv.k=4)) with
   | false=>exact(seen_4_7 h1 th tb first N tg hS hbig hok hcall).mono fun e W' h=>⟨h.1,M,O,laid,E,H,V,u,h.2,by omega,by omega⟩
   | true=>exact(seen_4 h1 th tb first N tg hS hbig hok (by simpa using hcall)).mono fun e W' h=>⟨h.1,M,O,laid,E,H,V,u,h.2,by omega,by omega⟩
 have HC:=hide hx1.c
 rw[←hW1] at hA
 have HW:=hide hW1
 clear h h1 hB1 hx1 hS hbig hW1
 go_enter Tryz.func5,Tryz.ntmps5
 go_wp2_with fail
 refine hA.mono ?_
 clear hA
 rintro e W2 ⟨rfl,hp⟩
 have HF:=hide hp
 clear hp
 go_wp2_with fail
 go_ret
 exact⟨rfl,unhide HF⟩
theorem based_5{n:Nat}{W0 W:World}{lo b rb vx:Nat}{M O:Nat→Prop}{laid:Int}{E:List En}{H:List (Hd n)}{V:List (Vw n)}{u:Value}(h:PlS W0 lo b rb vx M O laid E H V u W)(th tb:Tm (n+1))(first:Bool)(N:Int)(tg:Tm (n+1))(hS:StOk lo W0 ⟨5,th,tb,first,N,tg⟩)(hbig:laid≤1048575)(hvl:V.length≤4194304):
  Calls Tryz.prog 5 #[.pointer (some ⟨b,0,none⟩),.pointer (some ⟨rb,0,none⟩),.pointer (some ⟨vx,0,none⟩),.agg #[.int .i64 5,.int .i64 th.tv.k,.int .i64 th.tv.N,.string th.tv.s,.slice th.tv.a th.tv.len th.tv.cap,.int .i64 tb.tv.k,.int .i64 tb.tv.N,.string tb.tv.s,.slice tb.tv.a tb.tv.len tb.tv.cap,.bool first,.int .i64 N,.int .i64 tg.tv.k,.int .i64 tg.tv.N,.string tg.tv.s,.slice tg.tv.a tg.tv.len tg.tv.cap]] W fun e W'=>e=.returned (.bool true)∧PlJ n W0 lo b rb vx laid V.length W':=by
 have hB1:Below W.heap.size W (W.alloc (.cells #[.int .i64 5,.int .i64 th.tv.k,.int .i64 th.tv.N,.string th.tv.s,.slice th.tv.a th.tv.len th.tv.cap,.int .i64 tb.tv.k,.int .i64 tb.tv.N,.string tb.tv.s,.slice tb.tv.a tb.tv.len tb.tv.cap,.bool first,.int .i64 N,.int .i64 tg.tv.k,.int .i64 tg.tv.N,.string tg.tv.s,.slice tg.tv.a tg.tv.len tg.tv.cap] 38)):=(Below.refl _ W).alloc (Nat.le_refl _) _
 have hx1:BoxS (W.alloc (.cells #[.int .i64 5,.int .i64 th.tv.k,.int .i64 th.tv.N,.string th.tv.s,.slice th.tv.a th.tv.len th.tv.cap,.int .i64 tb.tv.k,.int .i64 tb.tv.N,.string tb.tv.s,.slice tb.tv.a tb.tv.len tb.tv.cap,.bool first,.int .i64 N,.int .i64 tg.tv.k,.int .i64 tg.tv.N,.string tg.tv.s,.slice tg.tv.a tg.tv.len tg.tv.cap] 38)) W.heap.size ⟨5,th,tb,first,N,tg⟩:=BoxS.new W ⟨5,th,tb,first,N,tg⟩
 have h1:=h.below hB1
 obtain⟨W1,hW1⟩:∃W1,W.alloc (.cells #[.int .i64 5,.int .i64 th.tv.k,.int .i64 th.tv.N,.string th.tv.s,.slice th.tv.a th.tv.len th.tv.cap,.int .i64 tb.tv.k,.int .i64 tb.tv.N,.string tb.tv.s,.slice tb.tv.a tb.tv.len tb.tv.cap,.bool first,.int .i64 N,.int .i64 tg.tv.k,.int .i64 tg.tv.N,.string tg.tv.s,.slice tg.tv.a tg.tv.len tg.tv.cap] 38)=W1:=⟨_,rfl⟩
 rw[hW1] at hB1 hx1 h1
 have hA:Calls Tryz.prog 18 #[.pointer (some ⟨b,0,none⟩),.pointer (some ⟨rb,0,none⟩),.pointer (some ⟨vx,0,none⟩),.agg #[.int .i64 5,.int .i64 th.tv.k,.int .i64 th.tv.N,.string th.tv.s,.slice th.tv.a th.tv.len th.tv.cap,.int .i64 tb.tv.k,.int .i64 tb.tv.N,.string tb.tv.s,.slice tb.tv.a tb.tv.len tb.tv.cap,.bool first,.int .i64 N,.int .i64 tg.tv.k,.int .i64 tg.tv.N,.string tg.tv.s,.slice tg.tv.a tg.tv.len tg.tv.cap]] W1 fun e W'=>e=.returned (.bool true)∧PlJ n W0 lo b rb vx laid V.length W':=by
  cases hok:okT tg with
  | false=>exact(seen_5_2 h1 th tb first N tg hS hbig hok).mono fun e W' h=>⟨h.1,M,O,laid,E,H,V,u,h.2,by omega,by omega⟩
  | true=>
   cases hcall:(decide (tg.tv.k=3) || decide (tg.tv.k=4)) with
   | false=>exact(seen_5_7 h1 th tb first N tg hS hbig hok hcall).mono fun e W' h=>⟨h.1,M,O,laid,E,H,V,u,h.2,by omega,by omega⟩
   | true=>exact(seen_5 h1 th tb first N tg hS hbig hok (by simpa using hcall) hvl).mono fun e W' h=>by obtain⟨he,M',v,u',hp⟩:=h;exact⟨he,M',O,laid,E,H,V++[v],u',hp,by omega,by simp⟩
 have HC:=hide hx1.c
 rw[←hW1] at hA
 have HW:=hide hW1
 clear h h1 hB1 hx1 hS hbig hW1 hvl
 go_enter Tryz.func5,Tryz.ntmps5
 go_wp2_with fail
 refine hA.mono ?_
 clear hA
 rintro e W2 ⟨rfl,hp⟩
 have HF:=hide hp
 clear hp
 go_wp2_with fail
 go_ret
 exact⟨rfl,unhide HF⟩
theorem based_no{n:Nat}{W0 W:World}{lo b rb vx:Nat}{M O:Nat→Prop}{laid:Int}{E:List En}{H:List (Hd n)}{V:List (Vw n)}{u:Value}(h:PlS W0 lo b rb vx M O laid E H V u W)(kk:Int)(th tb:Tm (n+1))(first:Bool)(N:Int)(tg:Tm (n+1))(hk:∀j:Nat,j≤6→kk≠(j:Int)):
  Calls Tryz.prog 5 #[.pointer (some ⟨b,0,none⟩),.pointer (some ⟨rb,0,none⟩),.pointer (some ⟨vx,0,none⟩),.agg #[.int .i64 kk,.int .i64 th.tv.k,.int .i64 th.tv.N,.string th.tv.s,.slice th.tv.a th.tv.len th.tv.cap,.int .i64 tb.tv.k,.int .i64 tb.tv.N,.string tb.tv.s,.slice tb.tv.a tb.tv.len tb.tv.cap,.bool first,.int .i64 N,.int .i64 tg.tv.k,.int .i64 tg.tv.N,.string tg.tv.s,.slice tg.tv.a tg.tv.len tg.tv.cap]] W fun e W'=>e=.returned (.bool true)∧PlJ n W0 lo b rb vx laid V.length W':=by
 have hB1:Below W.heap.size W (W.alloc (.cells #[.int .i64 kk,.int .i64 th.tv.k,.int .i64 th.tv.N,.string th.tv.s,.slice th.tv.a th.tv.len th.tv.cap,.int .i64 tb.tv.k,.int .i64 tb.tv.N,.string tb.tv.s,.slice tb.tv.a tb.tv.len tb.tv.cap,.bool first,.int .i64 N,.int .i64 tg.tv.k,.int .i64 tg.tv.N,.string tg.tv.s,.slice tg.tv.a tg.tv.len tg.tv.cap] 38)):=(Below.refl _ W).alloc (Nat.le_refl _) _
 have hx1:BoxS (W.alloc (.cells #[.int .i64 kk,.int .i64 th.tv.k,.int .i64 th.tv.N,.string th.tv.s,.slice th.tv.a th.tv.len th.tv.cap,.int .i64 tb.tv.k,.int .i64 tb.tv.N,.string tb.tv.s,.slice tb.tv.a tb.tv.len tb.tv.cap,.bool first,.int .i64 N,.int .i64 tg.tv.k,.int .i64 tg.tv.N,.string tg.tv.s,.slice tg.tv.a tg.tv.len tg.tv.cap] 38)) W.heap.size ⟨kk,th,tb,first,N,tg⟩:=BoxS.new W ⟨kk,th,tb,first,N,tg⟩
 have h1:=h.below hB1
 obtain⟨W1,hW1⟩:∃W1,W.alloc (.cells #[.int .i64 kk,.int .i64 th.tv.k,.int .i64 th.tv.N,.string th.tv.s,.slice th.tv.a th.tv.len th.tv.cap,.int .i64 tb.tv.k,.int .i64 tb.tv.N,.string tb.tv.s,.slice tb.tv.a tb.tv.len tb.tv.cap,.bool first,.int .i64 N,.int .i64 tg.tv.k,.int .i64 tg.tv.N,.string tg.tv.s,.slice tg.tv.a tg.tv.len tg.tv.cap] 38)=W1:=⟨_,rfl⟩
 rw[hW1] at hB1 hx1 h1
 have e0:(kk == 0)=false:=by simpa using hk 0 (by omega)
 have e1:(kk == 1)=false:=by simpa using hk 1 (by omega)
 have e2:(kk == 2)=false:=by simpa using hk 2 (by omega)
 have e3:(kk == 3)=false:=by simpa using hk 3 (by omega)
 have e4:(kk == 4)=false:=by simpa using hk 4 (by omega)
 have e5:(kk == 5)=false:=by simpa using hk 5 (by omega)
 have e6:(kk == 6)=false:=by simpa using hk 6 (by omega)
 have HP:=hide h1
 have HW:=hide hW1
 clear h h1 hB1 hx1 hW1 hk
 go_enter Tryz.func5,Tryz.ntmps5
 go_wp2_with fail
 rw[unhide HW]
 go_ret
 exact⟨rfl,M,O,laid,E,H,V,u,unhide HP,by omega,by omega⟩
section
variable {n:Nat} {M O:Nat→Prop} {W W3 W0:World} {lo b rb vx:Nat} {laid:Int} {E:List En} {H:List (Hd n)} {V:List (Vw n)} {u:Value}
theorem set_mem{V:List (Vw n)}{j:Nat}{v v' x:Vw n}(hj:V[j]?=some v)(hvs:V.Pairwise fun x y=>x.vb≠y.vb)(hx:x∈V.set j v'):x=v'∨(x∈V∧x.vb≠v.vb):=by
 obtain⟨i,hi⟩:=List.getElem?_of_mem hx
 rw[List.getElem?_set] at hi
 split at hi
 ·split at hi
  ·exact .inl (Option.some.inj hi).symm
  ·cases hi
 ·rename_i hne
  refine .inr ⟨List.mem_of_getElem? hi,?_⟩
  obtain⟨hil,hie⟩:=List.getElem?_eq_some_iff.1 hi
  obtain⟨hjl,hje⟩:=List.getElem?_eq_some_iff.1 hj
  have hp:=List.pairwise_iff_getElem.1 hvs
  rcases Nat.lt_or_gt_of_ne hne with hlt | hlt
  ·have:=hp j i hjl hil hlt
   rw[hie,hje] at this
   exact fun e=>this e.symm
  ·have:=hp i j hil hjl hlt
   rw[hie,hje] at this
   exact this
theorem set_vbs{V:List (Vw n)}{j:Nat}{v v':Vw n}(hj:V[j]?=some v)(hvb:v'.vb=v.vb):(V.set j v').map Vw.vb=V.map Vw.vb:=by
 rw[List.map_set]
 apply List.ext_getElem?
 intro i
 rw[List.getElem?_set]
 split
 ·rename_i e
  subst e
  split
  ·rw[List.getElem?_map,hj,hvb];rfl
  ·rename_i hlt;rw[List.getElem?_eq_none (by omega)]
 ·rfl
theorem PlS.next(h:PlS W0 lo b rb vx M O laid E H V u W){j:Nat}{v v':Vw n}(hj:V[j]?=some v)(hvb:v'.vb=v.vb)(g:GrB (fun k=>k=v.vb∨u.ownBlock=some k) W.heap.size W W3)(m3:Mut M W3)(hv':VwOk lo W0 M W3 v')(hrow:W3.ownsRow lo 58 2 u (V.set j v').length ((V.set j v').flatMap Vw.row)):PlS W0 lo b rb vx M O laid E H (V.set j v') u W3:=by
 have hv:=List.mem_of_getElem? hj
 have hY:∀k,(k=v.vb∨u.ownBlock=some k)→M k∧¬O k:=fun k hk=>h.zs k (hk.elim (fun e=>.inr (.inr (.inr ⟨v,hv,e⟩))) (fun e=>.inr (.inr (.inl e))))
 have hback:∀x∈V.set j v',∃y∈V,y.vb=x.vb:=fun x hx=>by
  rcases set_mem hj h.vbs hx with rfl | ⟨hx,_⟩
  ·exact⟨v,hv,hvb.symm⟩
  ·exact⟨x,hx,rfl⟩
 refine⟨low_step h.low h.los h.hi g (fun k hk=>(hY k hk).1),h.hi,h.los,m3,h.bs.step h.mu g hY (fun k hk=>h.own hk) (fun _ hk=>.inl hk),h.rbs.step g (fun k hk=>⟨fun e=>hk.elim (fun e'=>(h.ap3 v hv).1 (by rw[←e',e])) (fun e'=>(h.ap2 k e').1 e),fun e=>e (hY k hk).1⟩) (fun _ hk _=>hk),h.both,h.hds,box_grb h.box g (fun e=>e.elim (fun e'=>(h.ap3 v hv).2.1 e'.symm) (fun e'=>(h.ap2 vx e').2 rfl)),hrow,fun x hx=>?_,?_,fun k hk=>?_,h.ap1,h.ap2,fun x hx=>?_⟩
 ·rcases set_mem hj h.vbs hx with rfl | ⟨hx,hne⟩
  ·exact hv'
  ·exact(h.each x hx).step h.mu g (fun k hk=>⟨(hY k hk).1,fun e=>hk.elim (fun e'=>hne (by rw[←e,e'])) (fun e'=>(h.ap3 x hx).2.2 (by rw[←e];exact e'))⟩) (h.each x hx).ok.mem (fun _ hk=>.inl hk)
 ·have h1:(V.map Vw.vb).Pairwise (· ≠ ·):=List.pairwise_map.2 h.vbs
  rw[←set_vbs hj hvb] at h1
  exact List.pairwise_map.1 h1
 ·rcases hk with hk | hk | hk | ⟨x,hx,rfl⟩
  ·exact h.zs k (.inl hk)
  ·exact h.zs k (.inr (.inl hk))
  ·exact h.zs k (.inr (.inr (.inl hk)))
  ·obtain⟨y,hy,e⟩:=hback x hx
   exact h.zs _ (.inr (.inr (.inr ⟨y,hy,e.symm⟩)))
 ·obtain⟨y,hy,e⟩:=hback x hx
  rw[←e]
  exact h.ap3 y hy
theorem PlS.at(h:PlS W0 lo b rb vx M O laid E H V u W){j:Nat}{v:Vw n}(hj:V[j]?=some v):∃(g cap:Nat) (cur:Array Value),u=.slice (some ⟨g,0,none⟩) V.length cap∧g<W.heap.size∧W.heap[g]?=some (.cells cur 58 (0,0))∧V.length≤cap∧cap≤maxLen∧cur.size=cap*2∧cur.toList.take (V.length*2)=V.flatMap Vw.row:=by
 have hlt:=(List.getElem?_eq_some_iff.1 hj).1
 rcases h.row.2 with⟨_,h0⟩ | ⟨g,cap,cur,e,h1,h2,h3,h4,h5,h6⟩
 ·omega
 ·exact⟨g,cap,cur,e,(Array.getElem?_eq_some_iff.1 h2).1,h2,h3,h4,h5,h6⟩
theorem vrow_at:∀{V:List (Vw n)} {j:Nat} {v:Vw n},V[j]?=some v→(V.flatMap Vw.row)[j*2]?=some (.pointer (some ⟨v.vb,0,none⟩))∧(V.flatMap Vw.row)[j*2+1]?=some (.slice v.a v.L.length v.cap)
 | [],_,_,h=>by simp at h
 | x::V,0,v,h=>by
  simp at h
  subst h
  exact⟨rfl,rfl⟩
 | x::V,j+1,v,h=>by
  obtain⟨h1,h2⟩:=vrow_at (V:=V) (j:=j) (by simpa using h)
  rw[show(x::V).flatMap Vw.row=x.row++V.flatMap Vw.row from rfl]
  have hl:x.row.length=2:=rfl
  refine⟨?_,?_⟩
  ·rw[List.getElem?_append_right (by omega),hl,show(j+1)*2-2=j*2 by omega];exact h1
  ·rw[List.getElem?_append_right (by omega),hl,show(j+1)*2+1-2=j*2+1 by omega];exact h2
theorem vrow_set:∀{V:List (Vw n)} {j:Nat} {v v':Vw n},V[j]?=some v→v'.vb=v.vb→(V.set j v').flatMap Vw.row=(V.flatMap Vw.row).set (j*2+1) (.slice v'.a v'.L.length v'.cap)
 | [],_,_,_,h,_=>by simp at h
 | x::V,0,v,v',h,e=>by
  simp at h
  subst h
  simp[Vw.row,e]
 | x::V,j+1,v,v',h,e=>by
  have h1:=vrow_set (V:=V) (j:=j) (v':=v') (by simpa using h) e
  rw[List.set_cons_succ,show(x::V.set j v').flatMap Vw.row=x.row++(V.set j v').flatMap Vw.row from rfl,h1,show(x::V).flatMap Vw.row=x.row++V.flatMap Vw.row from rfl,List.set_append_right _ _ (by show 2≤(j+1)*2+1;omega)]
  congr 1
  congr 1
  show j*2+1=(j+1)*2+1-2
  omega
theorem PlS.cells(h:PlS W0 lo b rb vx M O laid E H V u W){j:Nat}{v:Vw n}(hj:V[j]?=some v){g cap:Nat}(hu:u=.slice (some ⟨g,0,none⟩) V.length cap):W.cell? ⟨g,j*2,none⟩=some (.pointer (some ⟨v.vb,0,none⟩))∧W.cell? ⟨g,j*2+1,none⟩=some (.slice v.a v.L.length v.cap)∧W.frozen? ⟨g,j*2+1,none⟩=false:=by
 obtain⟨g',cap',cur,e,_,hb,_,_,_,ht⟩:=h.at hj
 rw[hu] at e
 simp at e
 obtain⟨rfl,rfl⟩:=e
 obtain⟨h1,h2⟩:=vrow_at hj
 have hlt:=(List.getElem?_eq_some_iff.1 hj).1
 have key:∀i,i<V.length*2→cur[i]?=(V.flatMap Vw.row)[i]?:=fun i hi=>by
  rw[←ht,List.getElem?_take,if_pos hi,Array.getElem?_toList]
 refine⟨?_,?_,?_⟩
 ·simp only[World.cell?,hb]
  exact(key _ (by omega)).trans h1
 ·simp only[World.cell?,hb]
  exact(key _ (by omega)).trans h2
 ·simp[World.frozen?,hb]
theorem row_set{X:World}{g cap k:Nat}{xs:List Value}(h:X.ownsRow lo 58 2 (.slice (some ⟨g,0,none⟩) k cap) k xs)(i:Nat)(_hi:i<k*2)(val:Value):(X.setCell ⟨g,i,none⟩ val).ownsRow lo 58 2 (.slice (some ⟨g,0,none⟩) k cap) k (xs.set i val):=by
 refine⟨by rw[List.length_set];exact h.1,?_⟩
 rcases h.2 with⟨h1,_⟩ | ⟨g',cap',cur,h1,h2,h3,h4,h5,h6,h7⟩
 ·cases h1
 ·simp at h1
  obtain⟨rfl,rfl⟩:=h1
  refine .inr ⟨g,cap,cur.setIfInBounds i val,rfl,h2,?_,h4,h5,by simpa using h6,?_⟩
  ·obtain⟨hlt,hk⟩:=Array.getElem?_eq_some_iff.1 h3
   show(X.heap.modify g _)[g]?=_
   rw[Array.getElem?_eq_getElem (by rw[Array.size_modify];exact hlt),Array.getElem_modify_self,hk]
   rfl
  ·rw[Array.toList_setIfInBounds,List.take_set,h7]
end
end Go.Proofs.YteaiefjmcinljaaGreatDoor
