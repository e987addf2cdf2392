import Derived.Test.YteaiefjmcinljaaGreatDoorBeG
namespace Go.Proofs.YteaiefjmcinljaaGreatDoor
set_option maxHeartbeats 2000000
set_option maxRecDepth 100000
open Go.RowKit Go.Shelf Go.Maps
theorem radd_any{n:Nat}(rb:Nat)(X:Nat→Prop)(H:List (Hd n))(first:Bool)(th tb:Tm (n+1))(m:Int)(w:World)(hr:RB w rb X H)(hlo:∀k,w.heap.size≤k→X k)(hlen:H.length≤1048576)(hTH:IsT w.heap.size w th)(hTB:IsT w.heap.size w tb)(hl:2*((code th).length+(code tb).length+1)≤4194304)(hm:w.cell? ⟨splitLay_ren.g 1,0,none⟩=some (.int .i64 m))(hm0:splitLay_ren.g 1<w.heap.size)(hn38:n≤274877906944:=by omega):
  Calls Tryz.prog 10 #[.pointer (some ⟨rb,0,none⟩),clV th.tv tb.tv,.bool first] w fun e W'=>(e=.returned (.tuple #[.int .i64 (if remE th tb=0 then(H.length:Int)+1 else 0),.int .i64 (remE th tb)])∧RB W' rb X (if remE th tb=0 then addH H first th tb else H))∧GrB (fun k=>k=rb) w.heap.size w W':=by
 obtain⟨a,cap,hb,hH,hnone,hfar⟩:=hr.ex
 have HLO:=hide hlo
 clear hlo
 have hrb:=hb.lt
 have hb1:Below w.heap.size w (w.alloc (.cells #[.int .i64 th.tv.k,.int .i64 th.tv.N,.string th.tv.s,.slice th.tv.a th.tv.len th.tv.cap,.int .i64 tb.tv.k,.int .i64 tb.tv.N,.string tb.tv.s,.slice tb.tv.a tb.tv.len tb.tv.cap] 36)):=(Below.refl _ w).alloc (Nat.le_refl _) _
 have hz1:=BoxC.new w th.tv tb.tv
 have hs1:(w.alloc (.cells #[.int .i64 th.tv.k,.int .i64 th.tv.N,.string th.tv.s,.slice th.tv.a th.tv.len th.tv.cap,.int .i64 tb.tv.k,.int .i64 tb.tv.N,.string tb.tv.s,.slice tb.tv.a tb.tv.len tb.tv.cap] 36)).heap.size=w.heap.size+1:=by simp
 have hpl:=rplain_r th tb m _ ((hTH.below hb1).mono hb1.size) ((hTB.below hb1).mono hb1.size) hl ((hb1.cell (p:=⟨splitLay_ren.g 1,0,none⟩) hm0).trans hm) (Nat.lt_of_lt_of_le hm0 hb1.size)
 rw[plain_err] at hpl
 simp only[clV] at hpl⊢
 have hrem:remE th tb=0∨remE th tb≠0:=Classical.em _
 obtain⟨er,her⟩:∃er,remE th tb=er:=⟨_,rfl⟩
 rw[her] at hpl hrem⊢
 clear her hTH hTB hl hm hm0
 go_enter Tryz.func10,Tryz.ntmps10
 go_wp2_with fail
 obtain⟨W1,hW1⟩:∃W1,w.alloc (.cells #[.int .i64 th.tv.k,.int .i64 th.tv.N,.string th.tv.s,.slice th.tv.a th.tv.len th.tv.cap,.int .i64 tb.tv.k,.int .i64 tb.tv.N,.string tb.tv.s,.slice tb.tv.a tb.tv.len tb.tv.cap] 36)=W1:=⟨_,rfl⟩
 rw[hW1] at hb1 hz1 hs1 hpl⊢
 clear hW1
 refine hpl.mono ?_
 clear hpl
 rintro e W2 ⟨⟨D,x,rfl,-⟩,b2⟩
 have hB2:Below w.heap.size w W2:=hb1.trans (b2.mono hb1.size)
 have hz2:BoxC W2 w.heap.size th.tv tb.tv:=(b2.block _ (by omega)).trans hz1
 have hs2:w.heap.size+1≤W2.heap.size:=by have:=b2.size;omega
 have hb2:=boxed_at' hb hB2
 have hH2:=hH.below hB2
 clear hb1 hz1 hs1 b2 hb hH
 dsimp only[TV.val]
 rcases hrem with h0 | h0
 ·subst h0
  have hb3:Below W2.heap.size W2 (W2.alloc (.cells #[.int .i64 x.k,.int .i64 x.N,.string x.s,.slice x.a x.len x.cap] 34)):=(Below.refl _ W2).alloc (Nat.le_refl _) _
  go_wp2_with fail
  obtain⟨W3,hW3⟩:∃W3,W2.alloc (.cells #[.int .i64 x.k,.int .i64 x.N,.string x.s,.slice x.a x.len x.cap] 34)=W3:=⟨_,rfl⟩
  rw[hW3] at hb3⊢
  clear hW3
  have hB3:Below w.heap.size w W3:=hB2.trans (hb3.mono hB2.size)
  have hz3:BoxC W3 w.heap.size th.tv tb.tv:=(hb3.block _ (by omega)).trans hz2
  have hx3:=boxed_at' hb2 hb3
  have hH3:=hH2.below hb3
  have hs3:w.heap.size+1≤W3.heap.size:=by have:=hb3.size;omega
  have hlt1:w.heap.size<W3.heap.size:=by omega
  have hlt2:rb<W3.heap.size:=by omega
  have r0:=hx3.cell
  obtain⟨⟨z0,z1,z2,z3⟩,z4,z5,z6,z7⟩:=hz3.cs
  have hr2:IntKind.i64.wrap ((H.length:Int)+1)=(H.length:Int)+1:=by simp[IntKind.wrap,IntKind.bits,IntKind.signed];omega
  have HB3:=hide hB3
  have HX:=hide hx3
  have HH:=hide hH3
  have HFAR:=hide hfar
  clear hB2 hz2 hb2 hH2 hfar hr hB3 hz3 hx3 hH3 hb3
  go_region
  have hr3:(H.length:Int)+1=(⟨-((H.length:Int)+1),th,tb,true⟩:Hd n).id:=by simp[Hd.id];omega
  have hr4:(H.length:Int)+1=(⟨(H.length:Int)+1,th,tb,true⟩:Hd n).id:=by simp[Hd.id];omega
  have hb4:Below W3.heap.size W3 (W3.alloc (.cells #[.int .i64 ((H.length:Int)+1),.int .i64 th.tv.k,.int .i64 th.tv.N,.string th.tv.s,.slice th.tv.a th.tv.len th.tv.cap,.int .i64 tb.tv.k,.int .i64 tb.tv.N,.string tb.tv.s,.slice tb.tv.a tb.tv.len tb.tv.cap,.bool true] 63)).drew:=((Below.refl _ W3).alloc (Nat.le_refl _) _).drew
  have hh4:(W3.alloc (.cells #[.int .i64 ((H.length:Int)+1),.int .i64 th.tv.k,.int .i64 th.tv.N,.string th.tv.s,.slice th.tv.a th.tv.len th.tv.cap,.int .i64 tb.tv.k,.int .i64 tb.tv.N,.string tb.tv.s,.slice tb.tv.a tb.tv.len tb.tv.cap,.bool true] 63)).drew.heap[W3.heap.size]?=some (.cells #[.int .i64 ((H.length:Int)+1),.int .i64 th.tv.k,.int .i64 th.tv.N,.string th.tv.s,.slice th.tv.a th.tv.len th.tv.cap,.int .i64 tb.tv.k,.int .i64 tb.tv.N,.string tb.tv.s,.slice tb.tv.a tb.tv.len tb.tv.cap,.bool true] 63 (0,0)):=World.alloc_heap_new W3 _
  obtain⟨W4,hW4⟩:∃W4,(W3.alloc (.cells #[.int .i64 ((H.length:Int)+1),.int .i64 th.tv.k,.int .i64 th.tv.N,.string th.tv.s,.slice th.tv.a th.tv.len th.tv.cap,.int .i64 tb.tv.k,.int .i64 tb.tv.N,.string tb.tv.s,.slice tb.tv.a tb.tv.len tb.tv.cap,.bool true] 63)).drew=W4:=⟨_,rfl⟩
  rw[hW4] at hb4 hh4⊢
  clear hW4
  have hB4:Below w.heap.size w W4:=(unhide HB3).trans (hb4.mono (unhide HB3).size)
  have hx4:=boxed_at' (unhide HX) hb4
  have hH4:=(unhide HH).below hb4
  have hl4:W3.heap.size<W4.heap.size:=(Array.getElem?_eq_some_iff.1 hh4).1
  have hl5:rb<W4.heap.size:=by omega
  have hq1:HdAt W4 W3.heap.size 0 (⟨-((H.length:Int)+1),th,tb,true⟩:Hd n):=HdAt.of fun q u hu=>by
   rw[Nat.zero_add,show W4.cell? ⟨W3.heap.size,q,none⟩=(#[Value.int .i64 ((H.length:Int)+1),.int .i64 th.tv.k,.int .i64 th.tv.N,.string th.tv.s,.slice th.tv.a th.tv.len th.tv.cap,.int .i64 tb.tv.k,.int .i64 tb.tv.N,.string tb.tv.s,.slice tb.tv.a tb.tv.len tb.tv.cap,.bool true]:Array Value)[q]? by simp[World.cell?,hh4],hr3]
   simpa[Hd.row] using hu
  have hq2:HdAt W4 W3.heap.size 0 (⟨(H.length:Int)+1,th,tb,true⟩:Hd n):=HdAt.of fun q u hu=>by
   rw[Nat.zero_add,show W4.cell? ⟨W3.heap.size,q,none⟩=(#[Value.int .i64 ((H.length:Int)+1),.int .i64 th.tv.k,.int .i64 th.tv.N,.string th.tv.s,.slice th.tv.a th.tv.len th.tv.cap,.int .i64 tb.tv.k,.int .i64 tb.tv.N,.string tb.tv.s,.slice tb.tv.a tb.tv.len tb.tv.cap,.bool true]:Array Value)[q]? by simp[World.cell?,hh4]]
   have hu':([.int .i64 (⟨(H.length:Int)+1,th,tb,true⟩:Hd n).id,.int .i64 th.tv.k,.int .i64 th.tv.N,.string th.tv.s,.slice th.tv.a th.tv.len th.tv.cap,.int .i64 tb.tv.k,.int .i64 tb.tv.N,.string tb.tv.s,.slice tb.tv.a tb.tv.len tb.tv.cap,.bool true]:List Value)[q]?=some u:=hu
   rw[←hr4] at hu'
   simpa using hu'
  have hrb3:rb≠W3.heap.size:=by omega
  have finish:Hid (∀(W:World) (v:Value) (HH:List (Hd n)),HH.length=H.length+1→Fin rb W4 HH v W→W.cell? ⟨W3.heap.size,0,none⟩=some (.int .i64 ((H.length:Int)+1))∧RB W rb X HH∧GrB (fun k=>k=rb) w.heap.size w W):=fun W v HH hl hf=>by
   have hg0:W4.cell? ⟨W3.heap.size,0,none⟩=some (.int .i64 ((H.length:Int)+1)):=by simp[World.cell?,hh4]
   refine⟨(World.cell?_of_block (hf.gr.block _ hl4 (fun e=>hrb3 e.symm))).trans hg0,?_,⟨hf.gr.os.trans hB4.os,hf.gr.tape.trans hB4.tape,hf.gr.output.trans hB4.output,Nat.le_trans hB4.size hf.gr.size,fun k hk hn=>(hf.gr.block k (by have:=hB4.size;omega) hn).trans (hB4.block k hk)⟩⟩
   obtain⟨a',cap',e,hI,hfar'⟩:=OwnH.isH (H:=HH) hf.row
   have hbx:=hf.box
   rw[e] at hbx
   refine⟨a',cap',hbx,hI,fun e0=>?_,fun b off e1=>?_⟩
   ·subst e0
    rcases hf.row.2 with⟨_,h2⟩ | ⟨g,cp,cur,h2,_⟩
    ·omega
    ·rw[e] at h2;cases h2
   ·rcases hfar' with h2 | ⟨g,h2,h3,h4⟩
    ·rw[h2] at e1;cases e1
    ·rw[h2] at e1
     simp at e1
     rw[←e1.1]
     exact⟨(unhide HLO) g (by have:=hB4.size;omega),by omega,h4⟩
  clear r0 z0 z1 z2 z3 z4 z5 z6 z7 HX HH HB3 hb4 hh4 hB4 hlt1 hlt2 hr2 hr3 hr4
  cases first with
  | true=>
   go_wp2_with fail
   refine wp_add6' hx4 hH4 hnone hlen hq1 hl4 ?_
   rintro W v u28 u29 u30 u31 u32 u33 u34 u35 u36 u37 hf
   obtain⟨f1,f2,f3⟩:=finish.out W v _ (by simp) hf
   have HF:=hide (And.intro f2 f3)
   clear hf f2 f3 finish
   go_wp2_with fail
   exact bodyPost_ret (v:=.tuple #[.int .i64 ((H.length:Int)+1),.int .i64 0]) (by simp[results,Tryz.results10,go_sem]) rfl ⟨⟨by first | rfl | simp,by simpa[addH] using(unhide HF).1⟩,(unhide HF).2⟩
  | false=>
   go_wp2_with fail
   refine wp_add7' hx4 hH4 hnone hlen hq2 hl4 ?_
   rintro W v u38 u39 u40 u41 u42 u43 u44 u45 u46 u47 u48 hf
   obtain⟨f1,f2,f3⟩:=finish.out W v _ (by simp) hf
   have HF:=hide (And.intro f2 f3)
   clear hf f2 f3 finish
   go_wp2_with fail
   exact bodyPost_ret (v:=.tuple #[.int .i64 ((H.length:Int)+1),.int .i64 0]) (by simp[results,Tryz.results10,go_sem]) rfl ⟨⟨by first | rfl | simp,by simpa[addH] using(unhide HF).1⟩,(unhide HF).2⟩
 ·have h1:(er != 0)=true:=by simpa using h0
  have HF:Hid (GrB (fun k=>k=rb) w.heap.size w (W2.alloc (.cells #[.int .i64 x.k,.int .i64 x.N,.string x.s,.slice x.a x.len x.cap] 34))∧RB (W2.alloc (.cells #[.int .i64 x.k,.int .i64 x.N,.string x.s,.slice x.a x.len x.cap] 34)) rb X H):=by
   have hb3:=hB2.alloc hB2.size (.cells #[.int .i64 x.k,.int .i64 x.N,.string x.s,.slice x.a x.len x.cap] 34)
   exact⟨GrB.of_below hb3,hr.below hb3⟩
  have h0':¬er=0:=h0
  clear hB2 hz2 hb2 hH2 hfar hr h0
  go_wp2_with fail
  exact bodyPost_ret (v:=.tuple #[.int .i64 0,.int .i64 er]) (by simp[results,Tryz.results10,go_sem]) rfl ⟨⟨by first | rfl | rw[if_neg h0'],by first | exact(unhide HF).2 | (rw[if_neg h0'];exact(unhide HF).2)⟩,(unhide HF).1⟩
set_option maxHeartbeats 2000000
set_option maxRecDepth 100000
/-- The key of a predicate, whatever number of Args is asked for. -/
def predI(s:ByteArray)(n:Int):Lit:=.string (keyBytes [.string s.data.toList,.int .i64 n])
theorem pred_keyI(s:ByteArray) n (hs:s.size≤maxLen)(hn: -9223372036854775808≤n∧n≤9223372036854775807):keyOf Tryz.prog 80 (.agg #[.string s,.int .i64 n])=some (predI s n):=by
 have hk:Tryz.prog.keyType 80=true:=by kernel_rfl
 have hc:Tryz.prog.cellsOf 80=2:=by kernel_rfl
 obtain⟨h9,h3,h2⟩:=cells_of
 have hf:Value.formed Tryz.prog 80 (.agg #[.string s,.int .i64 n])=true:=by simp[Value.formed,Tryz.underlying80,hc]
 obtain⟨m,hm⟩:∃m,Tryz.prog.types.size=m+1:=⟨Tryz.prog.types.size-1,by have:0<Tryz.prog.types.size:=of_decide_eq_true (by kernel_rfl);omega⟩
 unfold keyOf
 rw[Tryz.underlying80]
 simp only[hk,hf,Bool.and_self,if_true,hm]
 unfold Program.keyLits
 simp only[Tryz.underlying80]
 have l1:=lits_str m s hs
 have l2:=(lits_int m n (by omega) (by omega)).1
 rw[if_pos ⟨by rw[hc];rfl,by decide +kernel⟩]
 simp only[List.mapM_cons,List.mapM_nil,h9,h3,Value.cells,List.drop_zero,List.drop_succ_cons,List.take_succ_cons,List.take_zero]
 rw[l1,l2]
 rfl
theorem known_any(b me mf:Nat)(laid:Int)(cnt:Nat)(g:Lit→Option Addr)(s:ByteArray)(n:Int)(w:World)(hb:BsBlk w b laid me mf)(hm:PM 80 w mf cnt g)(hs:s.size≤maxLen)(hn: -9223372036854775808≤n∧n≤9223372036854775807):
  Calls Tryz.prog 16 #[.pointer (some ⟨b,0,none⟩),.string s,.int .i64 n] w fun e W'=>e=.returned (.bool (g (predI s n)).isSome)∧Below w.heap.size w W':=by
 have hlk:=hm.look Tryz.keyedPred Tryz.underlying44 (Tryz.zeroPtr64 _) (pred_keyI s n hs hn)
 obtain⟨c0,c1,c2,-⟩:=hb.cs
 clear hb hm hs hn c0 c1
 generalize g (predI s n)=r at *
 go_enter Tryz.func16,Tryz.ntmps16
 go_wp2_with fail
 go_ret
 exact⟨rfl,Below.refl _ _⟩
theorem get_absent(b me mf:Nat)(laid id:Int)(ce:Nat)(ge:Lit→Option Addr)(W:World)(hb:BsBlk W b laid me mf)(hme:PM 3 W me ce ge)(hid0: -9223372036854775808≤id)(hid1:id≤9223372036854775807)(hge:ge (.int .i64 id)=none):
  Calls Tryz.prog 13 #[.pointer (some ⟨b,0,none⟩),.int .i64 id] W fun e W'=>e=.returned (.tuple #[clV noTerm noTerm,.int .i64 8])∧Below W.heap.size W W':=by
 have hb1:Below W.heap.size W (W.alloc (.cells #[.int .i64 0,.int .i64 0,.string ⟨#[]⟩,.slice none 0 0,.int .i64 0,.int .i64 0,.string ⟨#[]⟩,.slice none 0 0] 36)):=(Below.refl _ W).alloc (Nat.le_refl _) _
 have hbz:BoxC (W.alloc (.cells #[.int .i64 0,.int .i64 0,.string ⟨#[]⟩,.slice none 0 0,.int .i64 0,.int .i64 0,.string ⟨#[]⟩,.slice none 0 0] 36)) W.heap.size noTerm noTerm:=BoxC.new W noTerm noTerm
 have hki:keyOf Tryz.prog 3 (.int .i64 id)=some (.int .i64 id):=keyOf_int_mk Tryz.underlying3 (by simp[Lit.wf,IntKind.min,IntKind.max,IntKind.signed,IntKind.bits];omega)
 have hlk:=(hme.kept (hb1.block me hme.lt)).look Tryz.keyed3 Tryz.underlying43 (Tryz.zeroPtr61 _) hki
 rw[hge] at hlk
 obtain⟨c0,c1,c2,-⟩:=(show BsBlk (W.alloc (.cells #[.int .i64 0,.int .i64 0,.string ⟨#[]⟩,.slice none 0 0,.int .i64 0,.int .i64 0,.string ⟨#[]⟩,.slice none 0 0] 36)) b laid me mf from(hb1.block b hb.lt).trans hb).cs
 simp only[Option.isSome_none] at hlk
 obtain⟨W1,hW1⟩:∃W1,W.alloc (.cells #[.int .i64 0,.int .i64 0,.string ⟨#[]⟩,.slice none 0 0,.int .i64 0,.int .i64 0,.string ⟨#[]⟩,.slice none 0 0] 36)=W1:=⟨_,rfl⟩
 have HW:=hide hW1
 rw[hW1] at hb1 hbz hlk c0 c1 c2
 obtain⟨⟨z0,z1,z2,z3⟩,z4,z5,z6,z7⟩:=hbz.cs
 obtain⟨y0,y1,y2,y3,y4,y5,y6,y7⟩:=hbz.fs
 simp only[noTerm] at z0 z1 z2 z3 z4 z5 z6 z7
 have hf:Hid (BoxC (set8 W1 W.heap.size noTerm noTerm) W.heap.size noTerm noTerm∧Below W.heap.size W (set8 W1 W.heap.size noTerm noTerm)):=⟨boxC_set8 hbz _ _,set8_below hb1 (Nat.le_refl _) _ _⟩
 clear hb hme hbz hb1 hki hge hid0 hid1
 go_enter Tryz.func13,Tryz.ntmps13
 go_wp2_with fail
 have e8:=set8_nestn W1 W.heap.size noTerm noTerm
 simp only[noTerm] at e8
 rw[e8]
 obtain⟨hf1,hf2⟩:=hf.out
 obtain⟨⟨w0,w1,w2,w3⟩,w4,w5,w6,w7⟩:=hf1.cs
 have HF:=hide hf2
 simp only[noTerm] at w0 w1 w2 w3 w4 w5 w6 w7 HF
 clear hf hf1 hf2 z0 z1 z2 z3 z4 z5 z6 z7 y0 y1 y2 y3 y4 y5 y6 y7 e8 hlk c0 c1 c2 hW1
 generalize set8 W1 W.heap.size _ _=V5 at HF w0 w1 w2 w3 w4 w5 w6 w7⊢
 go_wp2_with fail
 exact bodyPost_ret (v:=.tuple #[clV noTerm noTerm,.int .i64 8]) (by simp[results,Tryz.results13,go_sem,clV,noTerm,w0,w1,w2,w3,w4,w5,w6,w7]) rfl ⟨rfl,HF.out⟩
set_option maxHeartbeats 2000000
set_option maxRecDepth 100000
theorem badd_bad(b:Nat)(first:Bool){n:Nat}(th tb:Tm (n+1))(W:World)(hTH:IsT W.heap.size W th)(hTB:IsT W.heap.size W tb)(hl:2*((code th).length+(code tb).length+1)≤4194304)(hrem:remE th tb≠0)(hn38:n≤274877906944:=by omega):
  Calls Tryz.prog 9 #[.pointer (some ⟨b,0,none⟩),clV th.tv tb.tv,.bool first] W fun e W'=>e=.returned (.tuple #[.int .i64 0,.int .i64 (remE th tb)])∧Below W.heap.size W W':=by
 have hb1:Below W.heap.size W (W.alloc (.cells #[.int .i64 th.tv.k,.int .i64 th.tv.N,.string th.tv.s,.slice th.tv.a th.tv.len th.tv.cap,.int .i64 tb.tv.k,.int .i64 tb.tv.N,.string tb.tv.s,.slice tb.tv.a tb.tv.len tb.tv.cap] 36)):=(Below.refl _ W).alloc (Nat.le_refl _) _
 have hre:=remade_any th tb _ ((hTH.below hb1).mono hb1.size) ((hTB.below hb1).mono hb1.size) hl
 obtain⟨er,her⟩:∃er,remE th tb=er:=⟨_,rfl⟩
 rw[her] at hre hrem⊢
 have hne:(er != 0)=true:=by simpa using hrem
 have HNE:=hide hrem
 simp only[clV] at hre⊢
 clear her hTH hTB hl hrem
 go_enter Tryz.func9,Tryz.ntmps9
 go_wp2_with fail
 refine hre.mono ?_
 clear hre
 rintro e W2 ⟨⟨x,y,rfl,-,hxy⟩,b2⟩
 obtain⟨rfl,rfl⟩:=hxy (unhide HNE)
 have hb2:Below W.heap.size W W2:=hb1.trans (b2.mono hb1.size)
 have hb3:Below W.heap.size W (W2.alloc (.cells #[.int .i64 0,.int .i64 0,.string ⟨#[]⟩,.slice none 0 0,.int .i64 0,.int .i64 0,.string ⟨#[]⟩,.slice none 0 0] 36)):=hb2.alloc hb2.size _
 have HB3:=hide hb3
 clear hb1 b2 hb2 hb3
 simp only[clV,noTerm]
 go_wp2_with fail
 exact bodyPost_ret (v:=.tuple #[.int .i64 0,.int .i64 er]) (by simp[results,Tryz.results9,go_sem]) rfl ⟨rfl,unhide HB3⟩
/-- Where a view stands behind a step. -/
def lastN(last:Int):Option En→Int
 | none=>last
 | some x=>x.pl
theorem step_vok{M:Nat→Prop}{W:World}{vb:Nat}{A1 A2:List En}{last:Int}(h:VOK M W vb A1 A2 last)(hM:Mut M W):
  Calls Tryz.prog 35 #[.pointer (some ⟨vb,0,none⟩)] W fun e W'=>e=.returned (ptrX ((stepN A1 A2 last).map En.at))∧GrB (fun k=>k=vb) W.heap.size W W'∧Mut M W'∧VOK M W' vb A1 A2 (lastN last (stepN A1 A2 last)):=by
 obtain⟨p,q,hv,ht⟩:=h.blk
 have fin:∀(e:Ending) (W':World) (p' q':Option Addr),GrB (fun k=>k=vb) W.heap.size W W'→VwBlk W' vb p' q' (lastN last (stepN A1 A2 last))→(((∃h1,TrL W' p' (A1.map En.at) h1)∧∃h2,TrL W' q' (A2.map En.at) h2)∨(p'=none∧q'=none∧stepN A1 A2 (lastN last (stepN A1 A2 last))=none))→Mut M W'∧VOK M W' vb A1 A2 (lastN last (stepN A1 A2 last)):=fun e W' p' q' g hv' htr=>by
  have hM':Mut M W':=hM.grow g (fun k hk=>by subst hk;exact hv'.nofix)
  have gM:GrB M W.heap.size W W':=⟨g.os,g.tape,g.output,g.size,fun k hk hn=>g.block k hk (fun e=>hn (e▸h.mem))⟩
  exact⟨hM',⟨p',q',hv',htr⟩,h.srt,fun e he=>⟨(h.ents e he).1.kept hM gM,(h.ents e he).2⟩,h.mem⟩
 have hY:∀k,k=vb→M k:=fun k hk=>hk▸h.mem
 rcases ht with⟨⟨h1,t1⟩,h2,t2⟩ | ⟨rfl,rfl,hno⟩
 ·refine(stepL vb p q last W hv t1 t2 h.srt.1 h.srt.2).mono ?_
  rintro e W' ⟨he,g,s1,s2⟩
  rw[stepN_at] at he s1 s2
  refine⟨he,g,?_⟩
  cases hst:stepN A1 A2 last with
  | none=>
   rw[hst] at s2 fin
   exact fin e W' none none g (s2 rfl) (.inr ⟨rfl,rfl,hst⟩)
  | some x=>
   rw[hst] at s1 fin
   exact fin e W' p q g (s1 _ rfl) (.inl ⟨⟨h1,h.trees hM g hY t1 (fun e he=>List.mem_append_left _ he)⟩,h2,h.trees hM g hY t2 (fun e he=>List.mem_append_right _ he)⟩)
 ·refine(stepL vb none none last W hv (TrL.nil _) (TrL.nil _) List.Pairwise.nil List.Pairwise.nil).mono ?_
  rintro e W' ⟨he,g,s1,s2⟩
  rw[hno] at fin⊢
  exact⟨he,g,fin e W' none none g (s2 rfl) (.inr ⟨rfl,rfl,hno⟩)⟩
def slen:Value→Nat
 | .slice _ n _=>n
 | _=>0
theorem OwnI.slen{base:Nat}{W:World}{v:Value}{ns:List Int}(h:OwnI base W v ns):slen v=ns.length:=by
 rcases h.2 with⟨rfl,h0⟩ | ⟨g,cap,cur,rfl,_⟩
 ·exact h0.symm
 ·rfl
/-- The mutable blocks, and a row's own beside them. -/
def MR(M:Nat→Prop)(l:Value)(k:Nat):Prop:=M k∨l.ownBlock=some k
theorem VOK.row{M:Nat→Prop}{W W':World}{vb lo:Nat}{A1 A2:List En}{last:Int}{l l':Value}{ns:List Int}(h:VOK (MR M l) W vb A1 A2 last)(hM:Mut (MR M l) W)(hv:M vb)(hl:∀g,l.ownBlock=some g→lo≤g)(hlo:∀k,M k→k<lo)(hg:W.grownBy W' l.ownBlock)(hn:OwnI lo W' l' ns)(hat:l'.ownBlock=l.ownBlock∨l'.ownBlock=some W.heap.size):
  VOK (MR M l') W' vb A1 A2 last∧Mut (MR M l') W':=by
 have g:GrB (fun k=>l.ownBlock=some k) W.heap.size W W':=⟨hg.os,hg.tape,hg.output,hg.size,fun k hk hn=>hg.block k hk (fun e=>hn e.symm)⟩
 have hvl:∀k,l.ownBlock=some k→k≠vb:=fun k hk e=>by have:=hl k hk;have:=hlo vb hv;omega
 have h1:=h.kept hM g (fun k hk=>⟨.inr hk,hvl k hk⟩)
 have hM':Mut (MR M l') W':=fun k hk=>by
  rcases hk with hk | hk
  ·have h2:=hM k (.inl hk)
   have he:W'.heap[k]?=W.heap[k]?:=hg.block k h2.1 (fun e=>by have:=hl k e.symm;have:=hlo k hk;omega)
   exact⟨Nat.lt_of_lt_of_le h2.1 hg.size,fun c t o hc=>h2.2 c t o (he▸hc)⟩
  ·refine⟨(owns_lt hn hk).2,fun c t o hc ht=>?_⟩
   rcases hn.2 with⟨rfl,_⟩ | ⟨g',cap,cur,rfl,_,hb,_⟩
   ·simp[Value.ownBlock] at hk
   ·simp[Value.ownBlock] at hk
    subst hk
    rw[hb] at hc
    simp at hc
    rw[←hc.2.1] at ht
    revert ht
    unfold FixK
    decide
 refine⟨⟨h1.blk,h1.srt,fun e he=>⟨(h.ents e he).1.step hM g (fun k hk=>.inr hk) fun k hk=>?_,(h1.ents e he).2⟩,.inl hv⟩,hM'⟩
 rcases hk with hk | hk
 ·exact .inl (.inl hk)
 ·rcases hat with h2 | h2
  ·exact .inl (.inr (h2▸hk))
  ·rw[h2] at hk
   simp at hk
   exact .inr (by omega)
theorem mr_nil(M:Nat→Prop)(k:Nat):MR M (.slice none 0 0) k↔M k:=by simp[MR,Value.ownBlock]
theorem VOK.nil{M:Nat→Prop}{W:World}{vb:Nat}{A1 A2:List En}{last:Int}(h:VOK M W vb A1 A2 last):VOK (MR M (.slice none 0 0)) W vb A1 A2 last:=h.more (fun _ hk=>.inl hk) (fun k hk=>.inl ((mr_nil M k).1 hk))
theorem VOK.alloc{M:Nat→Prop}{W:World}{vb:Nat}{A1 A2:List En}{last:Int}(h:VOK M W vb A1 A2 last)(hM:Mut M W)(o:Obj):VOK M (W.alloc o) vb A1 A2 last∧Mut M (W.alloc o):=
 ⟨h.kept hM (GrB.of_below (X:=fun _=>False) ((Below.refl _ W).alloc (Nat.le_refl _) o)) (fun _ hk=>hk.elim),hM.grow (GrB.of_below (X:=fun _=>False) ((Below.refl _ W).alloc (Nat.le_refl _) o)) (fun _ h=>h.elim)⟩
/-- How far a Look has come. -/
def LookAt(M:Nat→Prop)(vb:Nat)(A1 A2 L:List En)(lo:Nat)(W0:World)(l e:Value)(wr:World):Prop:=
 ∃dn:List En,OwnI lo wr l (dn.map fun x=>max x.pl (-x.pl))∧GrB (fun k=>k=vb) W0.heap.size W0 wr∧
  ((e=.pointer none∧dn=L)∨∃(x:En) (rs:List En),e=.pointer (some ⟨x.eb,0,none⟩)∧L=dn++x::rs∧Mut (MR M l) wr∧VOK (MR M l) wr vb A1 A2 x.pl∧x∈A1++A2∧Seq A1 A2 x.pl rs)
theorem look_any{M:Nat→Prop}{W:World}{b me mf:Nat}{laid:Int}{ce cf:Nat}{ge gf:Lit→Option Addr}{F:Lit→Option Fam}{E:List En}(h:BOK M W b me mf laid ce cf ge gf F E)(hM:Mut M W)(hbig:laid<1099511627776){n:Nat}(tg:Tm (n+1))(hT:IsT W.heap.size W tg)(hok:okT tg=true)(hcall:(decide (tg.tv.k=3) || decide (tg.tv.k=4))=true)(hn:numC (code tg))(hle:E.length≤1048576):
  Calls Tryz.prog 32 #[.pointer (some ⟨b,0,none⟩),tg.tv.val] W fun e W'=> ∃v,e=.returned (.tuple #[v,.int .i64 0])∧OwnI W.heap.size W' v ((thrE E (code tg)).map fun x=>max x.pl (-x.pl))∧Below W.heap.size W W':=by
 have hb1:Below W.heap.size W (W.alloc (.cells #[.int .i64 tg.tv.k,.int .i64 tg.tv.N,.string tg.tv.s,.slice tg.tv.a tg.tv.len tg.tv.cap] 34)):=(Below.refl _ W).alloc (Nat.le_refl _) _
 have h1:BOK M (W.alloc (.cells #[.int .i64 tg.tv.k,.int .i64 tg.tv.N,.string tg.tv.s,.slice tg.tv.a tg.tv.len tg.tv.cap] 34)) b me mf laid ce cf ge gf F E:=h.frame hM (GrB.of_below (X:=fun _=>False) hb1) (fun k hk=>hk.elim)
 have hM1:Mut M (W.alloc (.cells #[.int .i64 tg.tv.k,.int .i64 tg.tv.N,.string tg.tv.s,.slice tg.tv.a tg.tv.len tg.tv.cap] 34)):=hM.grow (GrB.of_below (X:=fun _=>False) hb1) (fun _ h=>h.elim)
 have hvw:=view_vok h1 hM1 hbig tg ((hT.below hb1).mono hb1.size) hok hcall hn
 have hseq:=goal_seq h.srt (code tg) (last:= -9223372036854775808) (fun e he=>by have:=h.pls e he;have:=h.low;omega)
 have hL:(thrE E (code tg)).length≤1048576:=Nat.le_trans (List.length_filter_le _ _) hle
 obtain⟨L,hLe⟩:∃L,thrE E (code tg)=L:=⟨_,rfl⟩
 rw[hLe] at hseq hL⊢
 obtain⟨⟨A1,A2⟩,hA⟩:∃A,goalN E (code tg)=A:=⟨_,rfl⟩
 rw[hA] at hvw hseq
 obtain⟨i0,hi,hz0,hz1,hz2⟩:=info_parts Tryz.infoI
 have HSEQ:=hide hseq
 simp only[TV.val] at hvw⊢
 clear h h1 hM hM1 hT hok hcall hn hle hLe hA hseq
 go_enter Tryz.func32,Tryz.ntmps32
 go_wp2_with fail
 refine hvw.mono ?_
 clear hvw
 rintro e V1 ⟨vb,rfl,hvb,b1,hM1,hv1⟩
 have hB1:Below W.heap.size W V1:=hb1.trans (b1.mono hb1.size)
 have hvl:W.heap.size≤vb:=Nat.le_trans hb1.size hvb
 have hst:=step_vok hv1 hM1
 have HB1:=hide hB1
 have HVL:=hide (hM1 vb (.inr rfl)).1
 have HML:Hid (∀k,(M k∨k=vb)→k<V1.heap.size):=fun k hk=>(hM1 k hk).1
 clear hb1 b1 hv1 hM1 hvb hB1
 go_wp2_with fail
 refine hst.mono ?_
 clear hst
 rintro e V2 ⟨rfl,g2,hM2,hv2⟩
 have hstart:LookAt (fun k=>M k∨k=vb) vb A1 A2 L V1.heap.size V1 (.slice none 0 0) (ptrX ((stepN A1 A2 (-9223372036854775808)).map En.at)) V2:=by
  refine⟨[],⟨rfl,.inl ⟨rfl,rfl⟩⟩,g2,?_⟩
  cases L with
  | nil=>
   have h0:stepN A1 A2 (-9223372036854775808)=none:=unhide HSEQ
   rw[h0]
   exact .inl ⟨rfl,rfl⟩
  | cons x rs=>
   obtain⟨h1,h2⟩:stepN A1 A2 (-9223372036854775808)=some x∧Seq A1 A2 x.pl rs:=unhide HSEQ
   rw[h1] at hv2⊢
   exact .inr ⟨x,rs,rfl,rfl,fun k hk=>hM2 k ((mr_nil _ k).1 hk),hv2.nil,(stepN_in h1).1,h2⟩
 have hvlt:vb<V1.heap.size:=HVL.out
 have hMlt:∀k,(M k∨k=vb)→k<V1.heap.size:=HML.out
 have HMLT:=hide hMlt
 generalize ptrX ((stepN A1 A2 (-9223372036854775808)).map En.at)=ev at hstart⊢
 clear g2 hM2 hv2 HSEQ hMlt
 go_wp2_with fail
 go_loopw [8,9] (fun l e wr=>LookAt (fun k=>M k∨k=vb) vb A1 A2 L V1.heap.size V1 l e wr) (fun l e _=>match e with | .pointer (some _)=>L.length+1-slen l | _=>0)
 case atStart=>exact hstart
 case round=>
  obtain⟨dn,how,hgr,hc⟩:=hrel
  rcases hc with⟨rfl,rfl⟩ | ⟨x,rs,rfl,hL',hMr,hvr,hx,hsq⟩
  ·have HF:Hid (OwnI W.heap.size wr u8 (dn.map fun x=>max x.pl (-x.pl))∧Below W.heap.size W wr):=by
    refine⟨?_,(unhide HB1).trans (hgr.below (fun k hk=>by rw[hk];exact hvl) (unhide HB1).size)⟩
    have hs:=(unhide HB1).size
    refine⟨how.1,?_⟩
    rcases how.2 with h2 | ⟨g,cap,cur,h1,h2,h3⟩
    ·exact .inl h2
    ·exact .inr ⟨g,cap,cur,h1,Nat.le_trans hs h2,h3⟩
   clear how hgr hstart
   go_wp2_with fail
   exact bodyPost_ret (v:=.tuple #[u8,.int .i64 0]) (by simp[results,Tryz.results32,go_sem]) rfl ⟨_,rfl,(unhide HF).1,(unhide HF).2⟩
  ·have hens:=hvr.ents x hx
   have hpc:=hens.1.1.cs.1
   have hia:=idAt_any x.pl wr hens.2.1.1 hens.2.1.2
   have hdl:dn.length+1≤L.length:=by rw[hL'];simp
   have hsl:=how.slen
   have hsl2:slen u8=dn.length:=by rw[hsl];simp
   have hown2:(wr.alloc (.cells #[.int .i64 (max x.pl (-x.pl))] 3)).ownsRow V1.heap.size 3 1 u8 (dn.map fun x=>max x.pl (-x.pl)).length (i64s (dn.map fun x=>max x.pl (-x.pl))):=owns_below how (fun g hg=>Below.heap_alloc _ _ _ (owns_lt how hg).2)
   have hln:(dn.map fun x=>max x.pl (-x.pl)).length≤1048576:=by simp;omega
   have HR:=hide (And.intro how (And.intro hgr (And.intro hMr (And.intro hvr (And.intro hL' hsq)))))
   have HSL:=hide hsl2
   clear hens how hgr hMr hvr hL' hsq hsl hsl2 hstart
   go_wp2_with fail
   refine hia.mono ?_
   clear hia
   rintro e W3 ⟨rfl,rfl⟩
   have hsz1:V1.heap.size≤W3.heap.size:=(unhide HR).2.1.size
   go_wp2_with (at_builtin;go_must (refine wpList_append_own_at _ rfl _ _ 40 rfl V1.heap.size 3 i0 _ 1 8 Tryz.underlying40 hi hz0 hz1 hz2 rfl (by decide) u8 (dn.map fun x=>max x.pl (-x.pl)).length (i64s (dn.map fun x=>max x.pl (-x.pl))) rfl hown2 ⟨W3.heap.size,0,none⟩ 1 1 [.int .i64 (max x.pl (-x.pl))] rfl rfl one_newI one_oneI (by unfold maxLen;omega) (by omega) (by simp;omega) ?_;intro v' w1 hown' hgrow hnil hbk))
   obtain⟨how,hgr,hMr,hvr,hL',hsq⟩:=unhide HR
   have hnew:OwnI V1.heap.size w1 v' ((dn++[x]).map fun x=>max x.pl (-x.pl)):=by
    unfold OwnI
    simpa[i64s] using hown'
   have ha:=hvr.alloc hMr (.cells #[.int .i64 (max x.pl (-x.pl))] 3)
   obtain⟨hv1',hm1'⟩:=VOK.row (lo:=V1.heap.size) ha.1 ha.2 (.inr rfl) (fun g hg=>(owns_lt how hg).1) (unhide HMLT) hgrow hnew hbk
   have hst:=step_vok hv1' hm1'
   have hg1:GrB (fun k=>k=vb) V1.heap.size V1 w1:=⟨hgrow.os.trans hgr.os,hgrow.tape.trans hgr.tape,hgrow.output.trans hgr.output,by have:=hgrow.size;simp at this;omega,fun k hk hn=>(hgrow.block k (by simp;omega) (fun e=>by have:=(owns_lt how e.symm).1;omega)).trans ((Below.heap_alloc _ _ _ (by omega)).trans (hgr.block k hk hn))⟩
   have hs1:V1.heap.size≤w1.heap.size:=hg1.size
   have HN:=hide (And.intro hnew (And.intro hg1 (And.intro hL' hsq)))
   clear HR how hgr hMr hvr hL' hsq hnew ha hv1' hm1' hg1 hown' hgrow hnil hbk hown2 hpc
   refine hst.mono ?_
   clear hst
   rintro e V5 ⟨rfl,g5,hM5,hv5⟩
   have hrel':LookAt (fun k=>M k∨k=vb) vb A1 A2 L V1.heap.size V1 v' (ptrX ((stepN A1 A2 x.pl).map En.at)) V5∧((∃a,ptrX ((stepN A1 A2 x.pl).map En.at)=.pointer (some a))→True)∧slen v'=dn.length+1:=by
    obtain⟨hnew,hg1,hL',hsq⟩:=unhide HN
    have how5:OwnI V1.heap.size V5 v' ((dn++[x]).map fun x=>max x.pl (-x.pl)):=owns_below hnew (fun g hg=>g5.block g (owns_lt hnew hg).2 (fun e=>by have:=(owns_lt hnew hg).1;omega))
    have hg5:GrB (fun k=>k=vb) V1.heap.size V1 V5:=hg1.trans (g5.mono hs1)
    refine⟨⟨dn++[x],how5,hg5,?_⟩,fun _=>trivial,by rw[hnew.slen];simp⟩
    cases rs with
    | nil=>
     have h0:stepN A1 A2 x.pl=none:=hsq
     rw[h0]
     exact .inl ⟨rfl,hL'.symm⟩
    | cons y rs=>
     obtain⟨h1,h2⟩:stepN A1 A2 x.pl=some y∧Seq A1 A2 y.pl rs:=hsq
     rw[h1] at hv5⊢
     exact .inr ⟨y,rs,rfl,by rw[hL'];simp,hM5,hv5,(stepN_in h1).1,h2⟩
   generalize ptrX ((stepN A1 A2 x.pl).map En.at)=ev5 at hrel'⊢
   have HREL:=hide hrel'
   clear hrel' g5 hM5 hv5 HN
   go_wp2_with fail
   go_roundw
   case rel=>exact(unhide HREL).1
   case measure=>
    have h1:=(unhide HREL).2.2
    have h2:=unhide HSL
    simp only[h1,h2]
    split <;> omega
end Go.Proofs.YteaiefjmcinljaaGreatDoor
