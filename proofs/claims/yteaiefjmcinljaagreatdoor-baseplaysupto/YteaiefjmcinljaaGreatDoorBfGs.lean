import Derived.Test.YteaiefjmcinljaaGreatDoorBfEs
namespace Go.Proofs.YteaiefjmcinljaaGreatDoor
set_option maxHeartbeats 4000000
set_option maxRecDepth 100000
open Go.RowKit Go.Shelf Go.Maps
theorem look_err(b:Nat){n:Nat}(tg:Tm (n+1))(W:World)(er:Int)(he':(er != 0)=true)(hv:∀X,Below W.heap.size W X→Calls Tryz.prog 34 #[.pointer (some ⟨b,0,none⟩),tg.tv.val] X fun e W'=>e=.returned (.tuple #[.pointer none,.int .i64 er])∧Below X.heap.size X W'):
  Calls Tryz.prog 32 #[.pointer (some ⟨b,0,none⟩),tg.tv.val] W fun e W'=>e=.returned (.tuple #[.slice none 0 0,.int .i64 er])∧Below W.heap.size W W':=by
 have hb1:Below W.heap.size W (W.alloc (.cells #[.int .i64 tg.tv.k,.int .i64 tg.tv.N,.string tg.tv.s,.slice tg.tv.a tg.tv.len tg.tv.cap] 34)):=(Below.refl _ W).alloc (Nat.le_refl _) _
 have hvw:=hv _ hb1
 simp only[TV.val] at hvw⊢
 clear hv
 go_enter Tryz.func32,Tryz.ntmps32
 go_wp2_with fail
 refine hvw.mono ?_
 clear hvw
 rintro e V1 ⟨rfl,b1⟩
 have HB:=hide (hb1.trans (b1.mono hb1.size))
 clear hb1 b1
 go_wp2_with fail
 exact bodyPost_ret (v:=.tuple #[.slice none 0 0,.int .i64 er]) (by simp[results,Tryz.results32,go_sem]) rfl ⟨rfl,unhide HB⟩
theorem seen_4_2{n:Nat}{W0 W:World}{lo b rb vx:Nat}{M O:Nat→Prop}{laid:Int}{E:List En}{H:List (Hd n)}{V:List (Vw n)}{u:Value}(h:PlS W0 lo b rb vx M O laid E H V u W)(th tb:Tm (n+1))(first:Bool)(N:Int)(tg:Tm (n+1))(hS:StOk lo W0 ⟨4,th,tb,first,N,tg⟩)(_hbig:laid≤1048575)(hok:okT tg=false):
  Calls Tryz.prog 18 #[.pointer (some ⟨b,0,none⟩),.pointer (some ⟨rb,0,none⟩),.pointer (some ⟨vx,0,none⟩),.agg #[.int .i64 4,.int .i64 th.tv.k,.int .i64 th.tv.N,.string th.tv.s,.slice th.tv.a th.tv.len th.tv.cap,.int .i64 tb.tv.k,.int .i64 tb.tv.N,.string tb.tv.s,.slice tb.tv.a tb.tv.len tb.tv.cap,.bool first,.int .i64 N,.int .i64 tg.tv.k,.int .i64 tg.tv.N,.string tg.tv.s,.slice tg.tv.a tg.tv.len tg.tv.cap]] W fun e W'=>e=.returned (.bool true)∧PlS W0 lo b rb vx M O laid E H V u W':=by
 have hB1:Below W.heap.size W (W.alloc (.cells #[.int .i64 4,.int .i64 th.tv.k,.int .i64 th.tv.N,.string th.tv.s,.slice th.tv.a th.tv.len th.tv.cap,.int .i64 tb.tv.k,.int .i64 tb.tv.N,.string tb.tv.s,.slice tb.tv.a tb.tv.len tb.tv.cap,.bool first,.int .i64 N,.int .i64 tg.tv.k,.int .i64 tg.tv.N,.string tg.tv.s,.slice tg.tv.a tg.tv.len tg.tv.cap] 38)):=(Below.refl _ W).alloc (Nat.le_refl _) _
 have hx1:BoxS (W.alloc (.cells #[.int .i64 4,.int .i64 th.tv.k,.int .i64 th.tv.N,.string th.tv.s,.slice th.tv.a th.tv.len th.tv.cap,.int .i64 tb.tv.k,.int .i64 tb.tv.N,.string tb.tv.s,.slice tb.tv.a tb.tv.len tb.tv.cap,.bool first,.int .i64 N,.int .i64 tg.tv.k,.int .i64 tg.tv.N,.string tg.tv.s,.slice tg.tv.a tg.tv.len tg.tv.cap] 38)) W.heap.size ⟨4,th,tb,first,N,tg⟩:=BoxS.new W ⟨4,th,tb,first,N,tg⟩
 have h1:=h.below hB1
 obtain⟨W1,hW1⟩:∃W1,W.alloc (.cells #[.int .i64 4,.int .i64 th.tv.k,.int .i64 th.tv.N,.string th.tv.s,.slice th.tv.a th.tv.len th.tv.cap,.int .i64 tb.tv.k,.int .i64 tb.tv.N,.string tb.tv.s,.slice tb.tv.a tb.tv.len tb.tv.cap,.bool first,.int .i64 N,.int .i64 tg.tv.k,.int .i64 tg.tv.N,.string tg.tv.s,.slice tg.tv.a tg.tv.len tg.tv.cap] 38)=W1:=⟨_,rfl⟩
 rw[hW1] at hB1 hx1 h1
 have hF:=formed_any (n+1) tg W1 ((hS.tg.below h1.low).mono (Nat.le_trans h1.los h1.low.size))
 rw[hok] at hF
 have hV:∀X,Below W1.heap.size W1 X→Calls Tryz.prog 34 #[.pointer (some ⟨b,0,none⟩),tg.tv.val] X fun e W'=>e=.returned (.tuple #[.pointer none,.int .i64 2])∧Below X.heap.size X W':=fun X hX=>view_bad b tg X ((hS.tg.below (h1.below hX).low).mono (Nat.le_trans (h1.below hX).los (h1.below hX).low.size)) hok
 have hL:∀X,Below W1.heap.size W1 X→Calls Tryz.prog 32 #[.pointer (some ⟨b,0,none⟩),tg.tv.val] X fun e W'=>e=.returned (.tuple #[.slice none 0 0,.int .i64 2])∧Below X.heap.size X W':=fun X hX=>look_err b tg X 2 rfl (fun Y hY=>hV Y (hX.trans (hY.mono hX.size)))
 have hc1:∀X,Below W1.heap.size W1 X→X.cell? ⟨W.heap.size,0,none⟩=some (.int .i64 4)∧X.cell? ⟨W.heap.size,11,none⟩=some (.int .i64 tg.tv.k)∧X.cell? ⟨W.heap.size,12,none⟩=some (.int .i64 tg.tv.N)∧X.cell? ⟨W.heap.size,13,none⟩=some (.string tg.tv.s)∧X.cell? ⟨W.heap.size,14,none⟩=some (.slice tg.tv.a tg.tv.len tg.tv.cap):=fun X hX=>by
  have hc:=(hx1.kept (hX.block _ hx1.lt)).c
  exact⟨hc.1,hc.2.2.2.2.2⟩
 have HL:=hide hL
 have HC:=hide hc1
 have HP:=hide h1
 rw[←hW1] at hF
 have HW:=hide hW1
 simp only[TV.val] at hF
 clear h h1 hB1 hx1 hS hW1 hc1 hV hL hok
 go_enter Tryz.func18,Tryz.ntmps18
 go_wp2_with fail
 refine hF.mono ?_
 clear hF
 rw[unhide HW]
 rintro e W2 ⟨rfl,b2⟩
 have hL:=(unhide HL) W2 b2
 simp only[TV.val] at hL
 obtain⟨c0,c1,c2,c3,c4⟩:=(unhide HC) W2 b2
 have HB2:=hide b2
 clear b2
 go_wp2_with fail
 refine hL.mono ?_
 clear hL
 rintro e W3 ⟨rfl,b3⟩
 have HF:=hide ((unhide HP).below ((unhide HB2).trans (b3.mono (unhide HB2).size)))
 clear b3 c0 c1 c2 c3 c4
 go_wp2_with fail
 go_ret
 exact⟨by first | rfl | simp,unhide HF⟩
theorem seen_4_7{n:Nat}{W0 W:World}{lo b rb vx:Nat}{M O:Nat→Prop}{laid:Int}{E:List En}{H:List (Hd n)}{V:List (Vw n)}{u:Value}(h:PlS W0 lo b rb vx M O laid E H V u W)(th tb:Tm (n+1))(first:Bool)(N:Int)(tg:Tm (n+1))(hS:StOk lo W0 ⟨4,th,tb,first,N,tg⟩)(_hbig:laid≤1048575)(hok:okT tg=true)(hcall:(decide (tg.tv.k=3) || decide (tg.tv.k=4))=false):
  Calls Tryz.prog 18 #[.pointer (some ⟨b,0,none⟩),.pointer (some ⟨rb,0,none⟩),.pointer (some ⟨vx,0,none⟩),.agg #[.int .i64 4,.int .i64 th.tv.k,.int .i64 th.tv.N,.string th.tv.s,.slice th.tv.a th.tv.len th.tv.cap,.int .i64 tb.tv.k,.int .i64 tb.tv.N,.string tb.tv.s,.slice tb.tv.a tb.tv.len tb.tv.cap,.bool first,.int .i64 N,.int .i64 tg.tv.k,.int .i64 tg.tv.N,.string tg.tv.s,.slice tg.tv.a tg.tv.len tg.tv.cap]] W fun e W'=>e=.returned (.bool true)∧PlS W0 lo b rb vx M O laid E H V u W':=by
 have hB1:Below W.heap.size W (W.alloc (.cells #[.int .i64 4,.int .i64 th.tv.k,.int .i64 th.tv.N,.string th.tv.s,.slice th.tv.a th.tv.len th.tv.cap,.int .i64 tb.tv.k,.int .i64 tb.tv.N,.string tb.tv.s,.slice tb.tv.a tb.tv.len tb.tv.cap,.bool first,.int .i64 N,.int .i64 tg.tv.k,.int .i64 tg.tv.N,.string tg.tv.s,.slice tg.tv.a tg.tv.len tg.tv.cap] 38)):=(Below.refl _ W).alloc (Nat.le_refl _) _
 have hx1:BoxS (W.alloc (.cells #[.int .i64 4,.int .i64 th.tv.k,.int .i64 th.tv.N,.string th.tv.s,.slice th.tv.a th.tv.len th.tv.cap,.int .i64 tb.tv.k,.int .i64 tb.tv.N,.string tb.tv.s,.slice tb.tv.a tb.tv.len tb.tv.cap,.bool first,.int .i64 N,.int .i64 tg.tv.k,.int .i64 tg.tv.N,.string tg.tv.s,.slice tg.tv.a tg.tv.len tg.tv.cap] 38)) W.heap.size ⟨4,th,tb,first,N,tg⟩:=BoxS.new W ⟨4,th,tb,first,N,tg⟩
 have h1:=h.below hB1
 obtain⟨W1,hW1⟩:∃W1,W.alloc (.cells #[.int .i64 4,.int .i64 th.tv.k,.int .i64 th.tv.N,.string th.tv.s,.slice th.tv.a th.tv.len th.tv.cap,.int .i64 tb.tv.k,.int .i64 tb.tv.N,.string tb.tv.s,.slice tb.tv.a tb.tv.len tb.tv.cap,.bool first,.int .i64 N,.int .i64 tg.tv.k,.int .i64 tg.tv.N,.string tg.tv.s,.slice tg.tv.a tg.tv.len tg.tv.cap] 38)=W1:=⟨_,rfl⟩
 rw[hW1] at hB1 hx1 h1
 have hF:=formed_any (n+1) tg W1 ((hS.tg.below h1.low).mono (Nat.le_trans h1.los h1.low.size))
 rw[hok] at hF
 have hV:∀X,Below W1.heap.size W1 X→Calls Tryz.prog 34 #[.pointer (some ⟨b,0,none⟩),tg.tv.val] X fun e W'=>e=.returned (.tuple #[.pointer none,.int .i64 7])∧Below X.heap.size X W':=fun X hX=>view_none b tg X ((hS.tg.below (h1.below hX).low).mono (Nat.le_trans (h1.below hX).los (h1.below hX).low.size)) hok hcall
 have hL:∀X,Below W1.heap.size W1 X→Calls Tryz.prog 32 #[.pointer (some ⟨b,0,none⟩),tg.tv.val] X fun e W'=>e=.returned (.tuple #[.slice none 0 0,.int .i64 7])∧Below X.heap.size X W':=fun X hX=>look_err b tg X 7 rfl (fun Y hY=>hV Y (hX.trans (hY.mono hX.size)))
 have hc1:∀X,Below W1.heap.size W1 X→X.cell? ⟨W.heap.size,0,none⟩=some (.int .i64 4)∧X.cell? ⟨W.heap.size,11,none⟩=some (.int .i64 tg.tv.k)∧X.cell? ⟨W.heap.size,12,none⟩=some (.int .i64 tg.tv.N)∧X.cell? ⟨W.heap.size,13,none⟩=some (.string tg.tv.s)∧X.cell? ⟨W.heap.size,14,none⟩=some (.slice tg.tv.a tg.tv.len tg.tv.cap):=fun X hX=>by
  have hc:=(hx1.kept (hX.block _ hx1.lt)).c
  exact⟨hc.1,hc.2.2.2.2.2⟩
 have k3:(tg.tv.k == 3)=false:=by simp at hcall;simpa using hcall.1
 have k4:(tg.tv.k == 4)=false:=by simp at hcall;simpa using hcall.2
 have k3':(tg.tv.k != 3)=true:=by simp at hcall;simpa using hcall.1
 have k4':(tg.tv.k != 4)=true:=by simp at hcall;simpa using hcall.2
 have HL:=hide hL
 have HC:=hide hc1
 have HP:=hide h1
 rw[←hW1] at hF
 have HW:=hide hW1
 simp only[TV.val] at hF
 clear h h1 hB1 hx1 hS hW1 hc1 hV hL hok hcall
 go_enter Tryz.func18,Tryz.ntmps18
 go_wp2_with fail
 refine hF.mono ?_
 clear hF
 rw[unhide HW]
 rintro e W2 ⟨rfl,b2⟩
 have hL:=(unhide HL) W2 b2
 simp only[TV.val] at hL
 obtain⟨c0,c1,c2,c3,c4⟩:=(unhide HC) W2 b2
 have HB2:=hide b2
 clear b2
 go_wp2_with fail
 refine hL.mono ?_
 clear hL
 rintro e W3 ⟨rfl,b3⟩
 have HF:=hide ((unhide HP).below ((unhide HB2).trans (b3.mono (unhide HB2).size)))
 clear b3 c0 c1 c2 c3 c4
 go_wp2_with fail
 go_ret
 exact⟨by first | rfl | simp,unhide HF⟩
theorem seen_5_2{n:Nat}{W0 W:World}{lo b rb vx:Nat}{M O:Nat→Prop}{laid:Int}{E:List En}{H:List (Hd n)}{V:List (Vw n)}{u:Value}(h:PlS W0 lo b rb vx M O laid E H V u W)(th tb:Tm (n+1))(first:Bool)(N:Int)(tg:Tm (n+1))(hS:StOk lo W0 ⟨5,th,tb,first,N,tg⟩)(_hbig:laid≤1048575)(hok:okT tg=false):
  Calls Tryz.prog 18 #[.pointer (some ⟨b,0,none⟩),.pointer (some ⟨rb,0,none⟩),.pointer (some ⟨vx,0,none⟩),.agg #[.int .i64 5,.int .i64 th.tv.k,.int .i64 th.tv.N,.string th.tv.s,.slice th.tv.a th.tv.len th.tv.cap,.int .i64 tb.tv.k,.int .i64 tb.tv.N,.string tb.tv.s,.slice tb.tv.a tb.tv.len tb.tv.cap,.bool first,.int .i64 N,.int .i64 tg.tv.k,.int .i64 tg.tv.N,.string tg.tv.s,.slice tg.tv.a tg.tv.len tg.tv.cap]] W fun e W'=>e=.returned (.bool true)∧PlS W0 lo b rb vx M O laid E H V u W':=by
 have hB1:Below W.heap.size W (W.alloc (.cells #[.int .i64 5,.int .i64 th.tv.k,.int .i64 th.tv.N,.string th.tv.s,.slice th.tv.a th.tv.len th.tv.cap,.int .i64 tb.tv.k,.int .i64 tb.tv.N,.string tb.tv.s,.slice tb.tv.a tb.tv.len tb.tv.cap,.bool first,.int .i64 N,.int .i64 tg.tv.k,.int .i64 tg.tv.N,.string tg.tv.s,.slice tg.tv.a tg.tv.len tg.tv.cap] 38)):=(Below.refl _ W).alloc (Nat.le_refl _) _
 have hx1:BoxS (W.alloc (.cells #[.int .i64 5,.int .i64 th.tv.k,.int .i64 th.tv.N,.string th.tv.s,.slice th.tv.a th.tv.len th.tv.cap,.int .i64 tb.tv.k,.int .i64 tb.tv.N,.string tb.tv.s,.slice tb.tv.a tb.tv.len tb.tv.cap,.bool first,.int .i64 N,.int .i64 tg.tv.k,.int .i64 tg.tv.N,.string tg.tv.s,.slice tg.tv.a tg.tv.len tg.tv.cap] 38)) W.heap.size ⟨5,th,tb,first,N,tg⟩:=BoxS.new W ⟨5,th,tb,first,N,tg⟩
 have h1:=h.below hB1
 obtain⟨W1,hW1⟩:∃W1,W.alloc (.cells #[.int .i64 5,.int .i64 th.tv.k,.int .i64 th.tv.N,.string th.tv.s,.slice th.tv.a th.tv.len th.tv.cap,.int .i64 tb.tv.k,.int .i64 tb.tv.N,.string tb.tv.s,.slice tb.tv.a tb.tv.len tb.tv.cap,.bool first,.int .i64 N,.int .i64 tg.tv.k,.int .i64 tg.tv.N,.string tg.tv.s,.slice tg.tv.a tg.tv.len tg.tv.cap] 38)=W1:=⟨_,rfl⟩
 rw[hW1] at hB1 hx1 h1
 have hF:=formed_any (n+1) tg W1 ((hS.tg.below h1.low).mono (Nat.le_trans h1.los h1.low.size))
 rw[hok] at hF
 have hV:∀X,Below W1.heap.size W1 X→Calls Tryz.prog 34 #[.pointer (some ⟨b,0,none⟩),tg.tv.val] X fun e W'=>e=.returned (.tuple #[.pointer none,.int .i64 2])∧Below X.heap.size X W':=fun X hX=>view_bad b tg X ((hS.tg.below (h1.below hX).low).mono (Nat.le_trans (h1.below hX).los (h1.below hX).low.size)) hok
 have hL:∀X,Below W1.heap.size W1 X→Calls Tryz.prog 34 #[.pointer (some ⟨b,0,none⟩),tg.tv.val] X fun e W'=>e=.returned (.tuple #[.pointer none,.int .i64 2])∧Below X.heap.size X W':=fun X hX=>hV X hX
 have hc1:∀X,Below W1.heap.size W1 X→X.cell? ⟨W.heap.size,0,none⟩=some (.int .i64 5)∧X.cell? ⟨W.heap.size,11,none⟩=some (.int .i64 tg.tv.k)∧X.cell? ⟨W.heap.size,12,none⟩=some (.int .i64 tg.tv.N)∧X.cell? ⟨W.heap.size,13,none⟩=some (.string tg.tv.s)∧X.cell? ⟨W.heap.size,14,none⟩=some (.slice tg.tv.a tg.tv.len tg.tv.cap):=fun X hX=>by
  have hc:=(hx1.kept (hX.block _ hx1.lt)).c
  exact⟨hc.1,hc.2.2.2.2.2⟩
 have HL:=hide hL
 have HC:=hide hc1
 have HP:=hide h1
 rw[←hW1] at hF
 have HW:=hide hW1
 simp only[TV.val] at hF
 clear h h1 hB1 hx1 hS hW1 hc1 hV hL hok
 go_enter Tryz.func18,Tryz.ntmps18
 go_wp2_with fail
 refine hF.mono ?_
 clear hF
 rw[unhide HW]
 rintro e W2 ⟨rfl,b2⟩
 have hL:=(unhide HL) W2 b2
 simp only[TV.val] at hL
 obtain⟨c0,c1,c2,c3,c4⟩:=(unhide HC) W2 b2
 have HB2:=hide b2
 clear b2
 go_wp2_with fail
 refine hL.mono ?_
 clear hL
 rintro e W3 ⟨rfl,b3⟩
 have HF:=hide ((unhide HP).below ((unhide HB2).trans (b3.mono (unhide HB2).size)))
 clear b3 c0 c1 c2 c3 c4
 go_wp2_with fail
 go_ret
 exact⟨by first | rfl | simp,unhide HF⟩
theorem seen_5_7{n:Nat}{W0 W:World}{lo b rb vx:Nat}{M O:Nat→Prop}{laid:Int}{E:List En}{H:List (Hd n)}{V:List (Vw n)}{u:Value}(h:PlS W0 lo b rb vx M O laid E H V u W)(th tb:Tm (n+1))(first:Bool)(N:Int)(tg:Tm (n+1))(hS:StOk lo W0 ⟨5,th,tb,first,N,tg⟩)(_hbig:laid≤1048575)(hok:okT tg=true)(hcall:(decide (tg.tv.k=3) || decide (tg.tv.k=4))=false):
  Calls Tryz.prog 18 #[.pointer (some ⟨b,0,none⟩),.pointer (some ⟨rb,0,none⟩),.pointer (some ⟨vx,0,none⟩),.agg #[.int .i64 5,.int .i64 th.tv.k,.int .i64 th.tv.N,.string th.tv.s,.slice th.tv.a th.tv.len th.tv.cap,.int .i64 tb.tv.k,.int .i64 tb.tv.N,.string tb.tv.s,.slice tb.tv.a tb.tv.len tb.tv.cap,.bool first,.int .i64 N,.int .i64 tg.tv.k,.int .i64 tg.tv.N,.string tg.tv.s,.slice tg.tv.a tg.tv.len tg.tv.cap]] W fun e W'=>e=.returned (.bool true)∧PlS W0 lo b rb vx M O laid E H V u W':=by
 have hB1:Below W.heap.size W (W.alloc (.cells #[.int .i64 5,.int .i64 th.tv.k,.int .i64 th.tv.N,.string th.tv.s,.slice th.tv.a th.tv.len th.tv.cap,.int .i64 tb.tv.k,.int .i64 tb.tv.N,.string tb.tv.s,.slice tb.tv.a tb.tv.len tb.tv.cap,.bool first,.int .i64 N,.int .i64 tg.tv.k,.int .i64 tg.tv.N,.string tg.tv.s,.slice tg.tv.a tg.tv.len tg.tv.cap] 38)):=(Below.refl _ W).alloc (Nat.le_refl _) _
 have hx1:BoxS (W.alloc (.cells #[.int .i64 5,.int .i64 th.tv.k,.int .i64 th.tv.N,.string th.tv.s,.slice th.tv.a th.tv.len th.tv.cap,.int .i64 tb.tv.k,.int .i64 tb.tv.N,.string tb.tv.s,.slice tb.tv.a tb.tv.len tb.tv.cap,.bool first,.int .i64 N,.int .i64 tg.tv.k,.int .i64 tg.tv.N,.string tg.tv.s,.slice tg.tv.a tg.tv.len tg.tv.cap] 38)) W.heap.size ⟨5,th,tb,first,N,tg⟩:=BoxS.new W ⟨5,th,tb,first,N,tg⟩
 have h1:=h.below hB1
 obtain⟨W1,hW1⟩:∃W1,W.alloc (.cells #[.int .i64 5,.int .i64 th.tv.k,.int .i64 th.tv.N,.string th.tv.s,.slice th.tv.a th.tv.len th.tv.cap,.int .i64 tb.tv.k,.int .i64 tb.tv.N,.string tb.tv.s,.slice tb.tv.a tb.tv.len tb.tv.cap,.bool first,.int .i64 N,.int .i64 tg.tv.k,.int .i64 tg.tv.N,.string tg.tv.s,.slice tg.tv.a tg.tv.len tg.tv.cap] 38)=W1:=⟨_,rfl⟩
 rw[hW1] at hB1 hx1 h1
 have hF:=formed_any (n+1) tg W1 ((hS.tg.below h1.low).mono (Nat.le_trans h1.los h1.low.size))
 rw[hok] at hF
 have hV:∀X,Below W1.heap.size W1 X→Calls Tryz.prog 34 #[.pointer (some ⟨b,0,none⟩),tg.tv.val] X fun e W'=>e=.returned (.tuple #[.pointer none,.int .i64 7])∧Below X.heap.size X W':=fun X hX=>view_none b tg X ((hS.tg.below (h1.below hX).low).mono (Nat.le_trans (h1.below hX).los (h1.below hX).low.size)) hok hcall
 have hL:∀X,Below W1.heap.size W1 X→Calls Tryz.prog 34 #[.pointer (some ⟨b,0,none⟩),tg.tv.val] X fun e W'=>e=.returned (.tuple #[.pointer none,.int .i64 7])∧Below X.heap.size X W':=fun X hX=>hV X hX
 have hc1:∀X,Below W1.heap.size W1 X→X.cell? ⟨W.heap.size,0,none⟩=some (.int .i64 5)∧X.cell? ⟨W.heap.size,11,none⟩=some (.int .i64 tg.tv.k)∧X.cell? ⟨W.heap.size,12,none⟩=some (.int .i64 tg.tv.N)∧X.cell? ⟨W.heap.size,13,none⟩=some (.string tg.tv.s)∧X.cell? ⟨W.heap.size,14,none⟩=some (.slice tg.tv.a tg.tv.len tg.tv.cap):=fun X hX=>by
  have hc:=(hx1.kept (hX.block _ hx1.lt)).c
  exact⟨hc.1,hc.2.2.2.2.2⟩
 have k3:(tg.tv.k == 3)=false:=by simp at hcall;simpa using hcall.1
 have k4:(tg.tv.k == 4)=false:=by simp at hcall;simpa using hcall.2
 have k3':(tg.tv.k != 3)=true:=by simp at hcall;simpa using hcall.1
 have k4':(tg.tv.k != 4)=true:=by simp at hcall;simpa using hcall.2
 have HL:=hide hL
 have HC:=hide hc1
 have HP:=hide h1
 rw[←hW1] at hF
 have HW:=hide hW1
 simp only[TV.val] at hF
 clear h h1 hB1 hx1 hS hW1 hc1 hV hL hok hcall
 go_enter Tryz.func18,Tryz.ntmps18
 go_wp2_with fail
 refine hF.mono ?_
 clear hF
 rw[unhide HW]
 rintro e W2 ⟨rfl,b2⟩
 have hL:=(unhide HL) W2 b2
 simp only[TV.val] at hL
 obtain⟨c0,c1,c2,c3,c4⟩:=(unhide HC) W2 b2
 have HB2:=hide b2
 clear b2
 go_wp2_with fail
 refine hL.mono ?_
 clear hL
 rintro e W3 ⟨rfl,b3⟩
 have HF:=hide ((unhide HP).below ((unhide HB2).trans (b3.mono (unhide HB2).size)))
 clear b3 c0 c1 c2 c3 c4
 go_wp2_with fail
 go_ret
 exact⟨by first | rfl | simp,unhide HF⟩
set_option maxHeartbeats 4000000
set_option maxRecDepth 100000
section
variable {n:Nat} {M O:Nat→Prop} {W W0:World} {lo b rb vx:Nat} {laid:Int} {E:List En} {H:List (Hd n)} {V:List (Vw n)} {u:Value}
theorem PlS.goal(hp:PlS W0 lo b rb vx M O laid E H V u W){tg:Tm (n+1)}(hT:IsT lo W0 tg):IsT W.heap.size W tg:=(hT.below hp.low).mono (Nat.le_trans hp.los hp.low.size)
theorem PlS.same(hp:PlS W0 lo b rb vx M O laid E H V u W){tg:Tm (n+1)}(hT:IsT lo W0 tg)(hok:okT tg=true)(hn:numC (code tg)):(thrE E (code tg)).map En.say=(H.filter (viewB tg)).map Hd.say:=
 hp.both.view tg hT.wl (first_is tg hT.wl (by rw[←okT_m];exact hok) hn) (fun d hd=>⟨(hp.hds d hd).th.wl,(hp.hds d hd).fst,(hp.hds d hd).kind⟩)
theorem ids_same{L:List En}{K:List (Hd n)}(h:L.map En.say=K.map Hd.say):(L.map fun x=>max x.pl (-x.pl))=K.map Hd.id:=by
 have:=congrArg (List.map fun s:Int×List Nd×List Nd=>max s.1 (-s.1)) h
 rw[List.map_map,List.map_map] at this
 exact this
theorem view_ref(hp:PlS W0 lo b rb vx M O laid E H V u W)(hbig:laid≤1048575){tg:Tm (n+1)}(hT:IsT lo W0 tg):
  Calls Tryz.prog 33 #[.pointer (some ⟨rb,0,none⟩),tg.tv.val] W fun e W'=> ∃v,e=.returned v∧OwnH W.heap.size W' v (H.filter (viewB tg))∧Below W.heap.size W W':=
 rview_any rb _ H tg W hp.rbs (by have:=hp.both.len;omega) (hp.goal hT) (fun d hd=>(hp.held d hd).1)
theorem look_base(hp:PlS W0 lo b rb vx M O laid E H V u W)(hbig:laid≤1048575){tg:Tm (n+1)}(hT:IsT lo W0 tg)(hok:okT tg=true)(hcall:(decide (tg.tv.k=3) || decide (tg.tv.k=4))=true)(hn:numC (code tg)):
  Calls Tryz.prog 32 #[.pointer (some ⟨b,0,none⟩),tg.tv.val] W fun e W'=> ∃v,e=.returned (.tuple #[v,.int .i64 0])∧OwnI W.heap.size W' v ((H.filter (viewB tg)).map Hd.id)∧Below W.heap.size W W':=by
 have hs:=ids_same (hp.same hT hok hn)
 obtain⟨me,mf,ce,cf,ge,gf,F,hB,hO,hF⟩:=hp.bs
 have h:=look_any hB hp.mu (by omega) tg (hp.goal hT) hok hcall hn (by have:=hB.cnt;omega)
 rw[hs] at h
 exact h
end
theorem seen_4{n:Nat}{W0 W:World}{lo b rb vx:Nat}{M O:Nat→Prop}{laid:Int}{E:List En}{H:List (Hd n)}{V:List (Vw n)}{u:Value}(h:PlS W0 lo b rb vx M O laid E H V u W)(th tb:Tm (n+1))(first:Bool)(N:Int)(tg:Tm (n+1))(hS:StOk lo W0 ⟨4,th,tb,first,N,tg⟩)(hbig:laid≤1048575)(hok:okT tg=true)(hcall:tg.tv.k=3∨tg.tv.k=4):
  Calls Tryz.prog 18 #[.pointer (some ⟨b,0,none⟩),.pointer (some ⟨rb,0,none⟩),.pointer (some ⟨vx,0,none⟩),.agg #[.int .i64 4,.int .i64 th.tv.k,.int .i64 th.tv.N,.string th.tv.s,.slice th.tv.a th.tv.len th.tv.cap,.int .i64 tb.tv.k,.int .i64 tb.tv.N,.string tb.tv.s,.slice tb.tv.a tb.tv.len tb.tv.cap,.bool first,.int .i64 N,.int .i64 tg.tv.k,.int .i64 tg.tv.N,.string tg.tv.s,.slice tg.tv.a tg.tv.len tg.tv.cap]] W fun e W'=>e=.returned (.bool true)∧PlS W0 lo b rb vx M O laid E H V u W':=by
 have hB1:Below W.heap.size W (W.alloc (.cells #[.int .i64 4,.int .i64 th.tv.k,.int .i64 th.tv.N,.string th.tv.s,.slice th.tv.a th.tv.len th.tv.cap,.int .i64 tb.tv.k,.int .i64 tb.tv.N,.string tb.tv.s,.slice tb.tv.a tb.tv.len tb.tv.cap,.bool first,.int .i64 N,.int .i64 tg.tv.k,.int .i64 tg.tv.N,.string tg.tv.s,.slice tg.tv.a tg.tv.len tg.tv.cap] 38)):=(Below.refl _ W).alloc (Nat.le_refl _) _
 have hx1:BoxS (W.alloc (.cells #[.int .i64 4,.int .i64 th.tv.k,.int .i64 th.tv.N,.string th.tv.s,.slice th.tv.a th.tv.len th.tv.cap,.int .i64 tb.tv.k,.int .i64 tb.tv.N,.string tb.tv.s,.slice tb.tv.a tb.tv.len tb.tv.cap,.bool first,.int .i64 N,.int .i64 tg.tv.k,.int .i64 tg.tv.N,.string tg.tv.s,.slice tg.tv.a tg.tv.len tg.tv.cap] 38)) W.heap.size ⟨4,th,tb,first,N,tg⟩:=BoxS.new W ⟨4,th,tb,first,N,tg⟩
 have h1:=h.below hB1
 obtain⟨W1,hW1⟩:∃W1,W.alloc (.cells #[.int .i64 4,.int .i64 th.tv.k,.int .i64 th.tv.N,.string th.tv.s,.slice th.tv.a th.tv.len th.tv.cap,.int .i64 tb.tv.k,.int .i64 tb.tv.N,.string tb.tv.s,.slice tb.tv.a tb.tv.len tb.tv.cap,.bool first,.int .i64 N,.int .i64 tg.tv.k,.int .i64 tg.tv.N,.string tg.tv.s,.slice tg.tv.a tg.tv.len tg.tv.cap] 38)=W1:=⟨_,rfl⟩
 rw[hW1] at hB1 hx1 h1
 have hF:=formed_any (n+1) tg W1 (h1.goal hS.tg)
 rw[hok] at hF
 obtain⟨L,hL⟩:∃L,H.filter (viewB tg)=L:=⟨_,rfl⟩
 have hlen:L.length≤1048576:=by rw[←hL];have:=List.length_filter_le (viewB tg) H;have:=h1.both.len;omega
 have hA:∀X,Below W1.heap.size W1 X→Calls Tryz.prog 32 #[.pointer (some ⟨b,0,none⟩),tg.tv.val] X fun e W'=> ∃v,e=.returned (.tuple #[v,.int .i64 0])∧OwnI X.heap.size W' v (L.map Hd.id)∧Below X.heap.size X W':=fun X hX=>by rw[←hL];exact look_base (h1.below hX) hbig hS.tg hok (by simpa using hcall) hS.ntg
 have hR:∀X,Below W1.heap.size W1 X→Calls Tryz.prog 33 #[.pointer (some ⟨rb,0,none⟩),tg.tv.val] X fun e W'=> ∃v,e=.returned v∧OwnH X.heap.size W' v L∧Below X.heap.size X W':=fun X hX=>by rw[←hL];exact view_ref (h1.below hX) hbig hS.tg
 have hc1:∀X,Below W1.heap.size W1 X→X.cell? ⟨W.heap.size,0,none⟩=some (.int .i64 4)∧X.cell? ⟨W.heap.size,11,none⟩=some (.int .i64 tg.tv.k)∧X.cell? ⟨W.heap.size,12,none⟩=some (.int .i64 tg.tv.N)∧X.cell? ⟨W.heap.size,13,none⟩=some (.string tg.tv.s)∧X.cell? ⟨W.heap.size,14,none⟩=some (.slice tg.tv.a tg.tv.len tg.tv.cap):=fun X hX=>by
  have hc:=(hx1.kept (hX.block _ hx1.lt)).c
  exact⟨hc.1,hc.2.2.2.2.2⟩
 obtain⟨i0,hi,hz0,hz1,hz2⟩:=info_parts Tryz.infoI
 have HA:=hide hA
 have HR:=hide hR
 have HC:=hide hc1
 have HP:=hide h1
 rw[←hW1] at hF
 have HW:=hide hW1
 have HCALL:=hide hcall
 simp only[TV.val] at hF
 clear h h1 hB1 hx1 hS hbig hW1 hc1 hA hR hok hL hcall
 go_enter Tryz.func18,Tryz.ntmps18
 go_wp2_with fail
 refine hF.mono ?_
 clear hF
 rw[unhide HW]
 rintro e W2 ⟨rfl,b2⟩
 have hA:=(unhide HA) W2 b2
 simp only[TV.val] at hA
 obtain⟨c0,c1,c2,c3,c4⟩:=(unhide HC) W2 b2
 have HB2:=hide b2
 clear b2
 rcases unhide HCALL with hk | hk
 all_goals
  rw[hk] at c1 hA
  go_wp2_with fail
  refine hA.mono ?_
  clear hA
  rintro e W3 ⟨lv,rfl,ol,b3⟩
  obtain⟨d0,d1,d2,d3,d4⟩:=(unhide HC) W3 ((unhide HB2).trans (b3.mono (unhide HB2).size))
  have hR:=(unhide HR) W3 ((unhide HB2).trans (b3.mono (unhide HB2).size))
  simp only[TV.val] at hR
  rw[hk] at d1 hR
  have HO:=hide ol
  have HB3:=hide ((unhide HB2).trans (b3.mono (unhide HB2).size))
  clear b3 ol c0 c1 c2 c3 c4
  go_wp2_with fail
  refine hR.mono ?_
  clear hR
  rintro e W4 ⟨av,rfl,oh,b4⟩
  obtain⟨aa,acap,rfl,hI,-⟩:=oh.isH
  have hol:OwnI W2.heap.size W4 lv (L.map Hd.id):=owns_below (unhide HO) (fun g hg=>b4.block g (owns_lt (unhide HO) hg).2)
  obtain⟨al,lcap,elv,hN⟩:=OwnI.isN hol (by simp;omega)
  clear hol
  have hll:L.length=L.length:=rfl
  subst elv
  have HB4:=hide ((unhide HB3).trans (b4.mono (unhide HB3).size))
  have HI:=hide hI
  have HN:=hide hN
  obtain⟨len,hle⟩:∃len,L.length=len:=⟨_,rfl⟩
  have HLE:=hide hle
  rw[hle] at HI hlen
  rw[List.length_map,hle] at HN
  rw[List.length_map,hle]
  clear hI hN b4 oh d0 d1 d2 d3 d4 HO hle hll
  go_wp2_with fail
  go_loopw [12,14] (fun m i wr=> ∃j:Nat,j≤len∧i=.int .i64 j∧Hid (Below W4.heap.size W4 wr∧OwnI W4.heap.size wr m ((L.take j).map Hd.id))) (fun _ i _=>len-(intOf i).toNat)
  case atStart=>exact⟨0,Nat.zero_le _,rfl,Below.refl _ _,rfl,.inl ⟨rfl,rfl⟩⟩
  case round=>
   obtain⟨j,hj,rfl,HJ⟩:=hrel
   obtain⟨hbr,hown⟩:=unhide HJ
   by_cases hlt:j<len
   ·obtain⟨d,bb,off,hd,rfl,hbk,x0,-⟩:=hd_at (unhide HI) hbr hlt
    have hj1:(j:Int)<len:=by omega
    have hbw:bb<wr.heap.size:=Nat.lt_of_lt_of_le hbk hbr.size
    have htl:((L.take j).map Hd.id).length=j:=by have:=unhide HLE;simp;omega
    have hown2:(wr.alloc (.cells #[.int .i64 d.id] 3)).ownsRow W4.heap.size 3 1 u12 ((L.take j).map Hd.id).length (i64s ((L.take j).map Hd.id)):=owns_below hown (fun g hg=>Below.heap_alloc _ _ _ (owns_lt hown hg).2)
    have hsz:=hbr.size
    have HD:=hide hd
    have HBR:=hide hbr
    have HOW:=hide hown
    clear hd hbr hown
    go_wp2_with (at_builtin;go_must (refine wpList_append_own_at _ rfl _ _ 40 rfl W4.heap.size 3 i0 _ 1 8 Tryz.underlying40 hi hz0 hz1 hz2 rfl (by decide) u12 ((L.take j).map Hd.id).length (i64s ((L.take j).map Hd.id)) rfl hown2 ⟨wr.heap.size,0,none⟩ 1 1 [.int .i64 d.id] rfl rfl one_newI one_oneI (by unfold maxLen;omega) (by omega) (by simp;omega) ?_;intro v' w1 hown' hgrow hnil hbk'))
    go_roundw
    case rel=>
     refine⟨j+1,by omega,by go_num,?_,?_⟩
     ·exact((unhide HBR).alloc (unhide HBR).size _).grown hgrow (by simp;omega) (fun g hg=>(owns_lt (unhide HOW) hg).1)
     ·have e:(L.take (j+1)).map Hd.id=(L.take j).map Hd.id++[d.id]:=by rw[List.take_add_one,unhide HD];simp
      rw[e]
      unfold OwnI
      simpa[i64s] using hown'
    case measure=>simp[intOf];omega
   ·obtain rfl:j=len:=by omega
    have hj1:¬(j:Int)<j:=by omega
    rw[List.take_of_length_le (by have:=unhide HLE;omega)] at hown
    obtain⟨am,mcap,em,hM⟩:=OwnI.isN hown (by have:=unhide HLE;simp;omega)
    have hnum:=numbers_any _ _ al am j lcap _ mcap wr (by have:=(unhide HN).below hbr;exact this) hM
    rw[decide_eq_true rfl] at hnum
    subst em
    have HB5:=hide ((unhide HB4).trans (hbr.mono (unhide HB4).size))
    rw[List.length_map,unhide HLE] at hnum
    rw[List.length_map,unhide HLE]
    clear hbr hown hM
    go_wp2_with fail
    refine hnum.mono ?_
    rintro e W6 ⟨rfl,b6⟩
    have HF:=hide ((unhide HP).below ((unhide HB5).trans (b6.mono (unhide HB5).size)))
    clear b6 hnum
    go_wp2_with fail
    go_ret
    exact⟨rfl,unhide HF⟩
theorem Tryz.infoV:(Tryz.prog.info? 58).map (fun i=>(i.zero,i.size,i.bytes))=some (some (.agg #[.pointer none,.slice none 0 0]),2,32):=by kernel_rfl
theorem app_view{V:World}(base:Nat)(v:Value)(k:Nat)(xs:List Value)(hown:V.ownsRow base 58 2 v k xs)(B:Nat)(p s:Value)(h0:V.cell? ⟨B,0,none⟩=some p)(h1:V.cell? ⟨B,1,none⟩=some s)(hp:p.oneCell'=true)(hs:s.oneCell'=true)(hk:k≤4194304)(hbase:base≤V.heap.size):
  ∃v' w',(Builtin.append_ #[28,28] 28 #[v,.slice (some ⟨B,0,none⟩) 1 1]).run Tryz.prog V=.ok v' w'∧w'.ownsRow base 58 2 v' (k+1) (xs++[p,s])∧V.grownBy w' v.ownBlock∧(v'.ownBlock=v.ownBlock∨v'.ownBlock=some V.heap.size):=by
 obtain⟨i0,hi,hz0,hz1,hz2⟩:=info_parts Tryz.infoV
 obtain⟨v',w',h1,h2,h3,_,h5⟩:=run_append_own_at (P:=Tryz.prog) (w:=V) base 28 28 58 i0 _ 2 32 Tryz.underlying28 hi hz0 hz1 hz2 rfl (by decide) v k xs hown ⟨B,0,none⟩ 1 1 [p,s] rfl (fun j u hu=>by
  match j,hu with
  | 0,hu=>simp at hu;subst hu;rw[addr_add];exact h0
  | 1,hu=>simp at hu;subst hu;rw[addr_add];exact h1
  | j+2,hu=>simp at hu) (fun u hu=>by simp at hu;rcases hu with rfl | rfl;exact hp;exact hs) (by unfold maxLen;omega) (by omega) hbase
 exact⟨v',w',h1,h2,h3,h5⟩
section
variable {n:Nat} {M M' O:Nat→Prop} {W W' w' W0:World} {lo b rb vx:Nat} {laid:Int} {E:List En} {H:List (Hd n)} {V:List (Vw n)} {u u':Value}
theorem PlS.more(h:PlS W0 lo b rb vx M O laid E H V u W)(hb:Below W.heap.size W W')(h1:∀k,M k→M' k)(h2:∀k,M' k→M k∨W.heap.size≤k)(hM:Mut M' W'):PlS W0 lo b rb vx M' O laid E H V u W':=
 h.based (GrB.of_below hb) h1 h2 (fun _ hk=>.inl hk) hM (h.bs.step h.mu (GrB.of_below (X:=fun _=>False) hb) (fun _ e=>e.elim) (fun k hk=>h1 k (h.own hk)) h2) id h.both h.hds
theorem row_nofix{base k:Nat}{xs:List Value}(h:W.ownsRow base 58 2 u k xs){g:Nat}(hg:u.ownBlock=some g):NoFix W g:=fun c t o hc=>by
 rcases h.2 with⟨rfl,_⟩ | ⟨g',cap,cur,rfl,_,hb,_⟩
 ·simp[Value.ownBlock] at hg
 ·simp[Value.ownBlock] at hg
  subst hg
  rw[hb] at hc
  simp at hc
  rw[←hc.2.1]
  unfold FixK
  decide
theorem box_nofix{T:TypeId}{v:Value}{B:Nat}(h:Boxed W B T v)(hT:¬FixK T):NoFix W B:=fun c t o hc=>by
 rw[show W.heap[B]?=_ from h] at hc
 simp at hc
 rw[←hc.2.1]
 exact hT
theorem PlS.add_view(h:PlS W0 lo b rb vx M O laid E H V u W)(v:Vw n)(hv:VwOk lo W0 M W v)(hz:¬Zs rb vx u V v.vb)(hO:¬O v.vb)(hown:w'.ownsRow lo 58 2 u' (V++[v]).length ((V++[v]).flatMap Vw.row))(hg:W.grownBy w' u.ownBlock)(hat:u'.ownBlock=u.ownBlock∨u'.ownBlock=some W.heap.size):
  PlS W0 lo b rb vx (fun k=>(M k∧u.ownBlock≠some k)∨u'.ownBlock=some k) O laid E H (V++[v]) u' (w'.setCell ⟨vx,0,none⟩ u'):=by
 have hvx:=h.zs vx (.inr (.inl rfl))
 have hrb:=h.zs rb (.inl rfl)
 have hvxl:=(h.mu vx hvx.1).1
 have hrbl:=(h.mu rb hrb.1).1
 have hug:∀g,u.ownBlock=some g→M g∧¬O g:=fun g e=>h.zs g (.inr (.inr (.inl e)))
 have hu'x:∀g,u'.ownBlock=some g→g≠rb∧g≠vx:=fun g e=>by
  rcases hat with e' | e'
  ·exact h.ap2 g (e'▸e)
  ·rw[e'] at e;simp at e;subst e;exact⟨by omega,by omega⟩
 have hu'O:∀g,u'.ownBlock=some g→¬O g:=fun g e ho=>by
  rcases hat with e' | e'
  ·exact(hug g (e'▸e)).2 ho
  ·rw[e'] at e;simp at e;have:=(h.mu g (h.own ho)).1;omega
 have g:GrB (fun k=>u.ownBlock=some k∨k=vx) W.heap.size W (w'.setCell ⟨vx,0,none⟩ u'):=⟨hg.os,hg.tape,hg.output,by simpa using hg.size,fun k hk hn=>(Below.heap_setCell _ _ _ k (fun e=>hn (.inr e))).trans (hg.block k hk (fun e=>hn (.inl e.symm)))⟩
 have hY:∀k,(u.ownBlock=some k∨k=vx)→M k∧¬O k:=fun k hk=>hk.elim (hug k) (fun e=>by rw[e];exact hvx)
 have h2:∀k,((M k∧u.ownBlock≠some k)∨u'.ownBlock=some k)→M k∨W.heap.size≤k:=fun k hk=>by
  rcases hk with hk | hk
  ·exact .inl hk.1
  ·rcases hat with e' | e'
   ·exact .inl (hug k (e'▸hk)).1
   ·rw[e'] at hk;simp at hk;exact .inr (by omega)
 have hlo:lo≤W.heap.size:=Nat.le_trans h.los h.low.size
 have hbx:Boxed w' vx 28 u:=(hg.block vx hvxl (fun e=>(h.ap2 vx e.symm).2 rfl)).trans h.box
 have hbx2:Boxed (w'.setCell ⟨vx,0,none⟩ u') vx 28 u':=hbx.set _
 have hrow:(w'.setCell ⟨vx,0,none⟩ u').ownsRow lo 58 2 u' (V++[v]).length ((V++[v]).flatMap Vw.row):=owns_below hown (fun g' hg'=>Below.heap_setCell _ _ _ g' (hu'x g' hg').2)
 have hvz:v.vb≠rb∧v.vb≠vx∧u.ownBlock≠some v.vb∧∀x∈V,v.vb≠x.vb:=⟨fun e=>hz (.inl e),fun e=>hz (.inr (.inl e)),fun e=>hz (.inr (.inr (.inl e))),fun x hx e=>hz (.inr (.inr (.inr ⟨x,hx,e⟩)))⟩
 have hvl:=(h.mu v.vb hv.ok.mem).1
 refine⟨low_step h.low h.los h.hi g (fun k hk=>(hY k hk).1),fun k hk=>hk.elim (fun e=>h.hi k e.1) (fun e=>(owns_lt hown e).1),h.los,fun k hk=>?_,h.bs.step h.mu g hY (fun k hk=>.inl ⟨h.own hk,fun e=>(hug k e).2 hk⟩) h2,
  h.rbs.step g (fun k hk=>⟨fun e=>hk.elim (fun e'=>(h.ap2 k e').1 e) (fun e'=>h.ap1 (by rw[←e,e'])),fun e=>e (hY k hk).1⟩) (fun k hk hl hm=>(h2 k hm).elim hk (fun e=>absurd hl (by omega))),h.both,h.hds,hbx2,hrow,fun x hx=>?_,?_,fun k hk=>?_,h.ap1,hu'x,fun x hx=>?_⟩
 ·by_cases hu:u'.ownBlock=some k
  ·exact⟨(owns_lt hrow hu).2,row_nofix hrow hu⟩
  ·obtain⟨hm,hnu⟩:=hk.resolve_right hu
   refine⟨Nat.lt_of_lt_of_le (h.mu k hm).1 g.size,?_⟩
   by_cases hkx:k=vx
   ·rw[hkx]
    exact box_nofix hbx2 (by unfold FixK;decide)
   ·intro c t o hc
    exact(h.mu k hm).2 c t o ((g.block k (h.mu k hm).1 (fun e=>e.elim hnu hkx))▸hc)
 ·rcases List.mem_append.1 hx with hx | hx
  ·exact(h.each x hx).step h.mu g (fun k hk=>⟨(hY k hk).1,fun e=>hk.elim (fun e'=>(h.ap3 x hx).2.2 (by rw[←e];exact e')) (fun e'=>(h.ap3 x hx).2.1 (by rw[←e,e']))⟩) (.inl ⟨(h.each x hx).ok.mem,(h.ap3 x hx).2.2⟩) h2
  ·obtain rfl:x=v:=by simpa using hx
   exact hv.step h.mu g (fun k hk=>⟨(hY k hk).1,fun e=>hk.elim (fun e'=>hvz.2.2.1 (by rw[←e];exact e')) (fun e'=>hvz.2.1 (by rw[←e,e']))⟩) (.inl ⟨hv.ok.mem,hvz.2.2.1⟩) h2
 ·rw[List.pairwise_append]
  exact⟨h.vbs,List.pairwise_singleton _ _,fun x hx y hy=>by
   have hyv:y=v:=(by simpa using hy)
   rw[hyv]
   exact fun e=>hvz.2.2.2 x hx e.symm⟩
 ·rcases hk with rfl | rfl | hk | ⟨x,hx,rfl⟩
  ·exact⟨.inl ⟨hrb.1,fun e=>(h.ap2 _ e).1 rfl⟩,hrb.2⟩
  ·exact⟨.inl ⟨hvx.1,fun e=>(h.ap2 _ e).2 rfl⟩,hvx.2⟩
  ·exact⟨.inr hk,hu'O k hk⟩
  ·rcases List.mem_append.1 hx with hx | hx
   ·exact⟨.inl ⟨(h.each x hx).ok.mem,(h.ap3 x hx).2.2⟩,(h.zs x.vb (.inr (.inr (.inr ⟨x,hx,rfl⟩)))).2⟩
   ·obtain rfl:x=v:=by simpa using hx
    exact⟨.inl ⟨hv.ok.mem,hvz.2.2.1⟩,hO⟩
 ·rcases List.mem_append.1 hx with hx | hx
  ·refine⟨(h.ap3 x hx).1,(h.ap3 x hx).2.1,fun e=>?_⟩
   rcases hat with e' | e'
   ·exact(h.ap3 x hx).2.2 (e'▸e)
   ·rw[e'] at e;simp at e;have:=(h.mu x.vb (h.each x hx).ok.mem).1;omega
  ·obtain rfl:x=v:=by simpa using hx
   refine⟨hvz.1,hvz.2.1,fun e=>?_⟩
   rcases hat with e' | e'
   ·exact hvz.2.2.1 (e'▸e)
   ·rw[e'] at e;simp at e;omega
end
end Go.Proofs.YteaiefjmcinljaaGreatDoor
