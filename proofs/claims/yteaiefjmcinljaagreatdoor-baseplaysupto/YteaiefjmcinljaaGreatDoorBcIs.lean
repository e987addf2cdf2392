import Derived.Test.YteaiefjmcinljaaGreatDoorTks
import Derived.Test.YteaiefjmcinljaaGreatDoorBcH
import Derived.Test.YteaiefjmcinljaaGreatDoorNms
import Derived.Test.YteaiefjmcinljaaGreatDoorBaNs
namespace Go.Proofs.YteaiefjmcinljaaGreatDoor
set_option maxHeartbeats 4000000
set_option maxRecDepth 100000
open Go.RowKit Go.Shelf Go.Maps
theorem letThrough_all(fb km:Nat)(all:Option Addr)(W:World)(hf:FmBlk W fb all km):
  Calls Tryz.prog 79 #[.pointer (some ⟨fb,0,none⟩),keyV 0 0 ⟨#[]⟩ 0] W fun e W'=>e=.returned (.agg #[.pointer all,.pointer none])∧Below W.heap.size W W':=by
 have hb2:Below W.heap.size W ((W.alloc (.cells #[.int .i64 0,.int .i64 0,.string ⟨#[]⟩,.int .i64 0] 106)).alloc (.cells #[.pointer none,.pointer none] 117)):=((Below.refl _ W).alloc (Nat.le_refl _) _).alloc (by simp) _
 obtain⟨f0,-⟩:=(show FmBlk ((W.alloc (.cells #[.int .i64 0,.int .i64 0,.string ⟨#[]⟩,.int .i64 0] 106)).alloc (.cells #[.pointer none,.pointer none] 117)) fb all km from(hb2.block fb hf.lt).trans hf).cs
 clear hf hb2
 simp only[keyV]
 go_enter Tryz.func79,Tryz.ntmps79
 go_wp2_with fail
 exact bodyPost_ret (v:=.agg #[.pointer all,.pointer none]) (by simp[results,Tryz.results79,go_sem]) rfl ⟨rfl,((Below.refl _ W).alloc (Nat.le_refl _) _).alloc (by simp) _⟩
/-- A view's three cells. -/
def VwBlk(W:World)(vb:Nat)(p q:Option Addr)(last:Int):Prop:=W.heap[vb]?=some (.cells #[.pointer p,.pointer q,.int .i64 last] 119 (0,0))
theorem VwBlk.lt{W:World}{vb:Nat}{p q:Option Addr}{last:Int}(h:VwBlk W vb p q last):vb<W.heap.size:=(Array.getElem?_eq_some_iff.1 h).1
theorem VwBlk.cs{W:World}{vb:Nat}{p q:Option Addr}{last:Int}(h:VwBlk W vb p q last):(W.cell? ⟨vb,0,none⟩=some (.pointer p)∧W.cell? ⟨vb,1,none⟩=some (.pointer q)∧W.cell? ⟨vb,2,none⟩=some (.int .i64 last))∧W.frozen? ⟨vb,0,none⟩=false∧W.frozen? ⟨vb,1,none⟩=false∧W.frozen? ⟨vb,2,none⟩=false:=by
 have h':W.heap[vb]?=_:=h
 refine⟨⟨?_,?_,?_⟩,?_,?_,?_⟩ <;> simp[World.cell?,World.frozen?,h']
theorem VwBlk.set{W:World}{vb:Nat}{p q:Option Addr}{last:Int}(h:VwBlk W vb p q last):(∀p',VwBlk (W.setCell ⟨vb,0,none⟩ (.pointer p')) vb p' q last)∧(∀q',VwBlk (W.setCell ⟨vb,1,none⟩ (.pointer q')) vb p q' last)∧∀l',VwBlk (W.setCell ⟨vb,2,none⟩ (.int .i64 l')) vb p q l':=by
 have h':W.heap[vb]?=_:=h
 obtain⟨hlt,hk⟩:=Array.getElem?_eq_some_iff.1 h'
 refine⟨fun p'=>?_,fun q'=>?_,fun l'=>?_⟩
 all_goals
  show(W.heap.modify vb _)[vb]?=_
  rw[Array.getElem?_eq_getElem (by rw[Array.size_modify];exact hlt),Array.getElem_modify_self,hk]
  rfl
theorem rules_known(b me mf fb:Nat)(laid:Int)(cf:Nat)(gf:Lit→Option Addr)(p q:Option Addr)(s:ByteArray)(n:Nat)(k N:Int)(ks:ByteArray)(kn:Nat)(W:World)(hb:BsBlk W b laid me mf)(hmf:PM 80 W mf cf gf)(hs:s.size≤maxLen)(hn:n≤9223372036854775807)
  (hltq:∀V,Below W.heap.size W V→Calls Tryz.prog 79 #[.pointer (some ⟨fb,0,none⟩),keyV k N ks kn] V fun e W'=>e=.returned (.agg #[.pointer p,.pointer q])∧Below V.heap.size V W') (hg:gf (predL s n)=some ⟨fb,0,none⟩):
  Calls Tryz.prog 49 #[.pointer (some ⟨b,0,none⟩),.string s,.int .i64 (n:Int),keyV k N ks kn] W fun e W'=> ∃vb r,e=.returned (.tuple #[.pointer (some ⟨vb,0,none⟩),.bool r])∧W.heap.size≤vb∧VwBlk W' vb p q (-9223372036854775808)∧Below W.heap.size W W':=by
 obtain⟨W2,hW2,hb2,hv2,hs2,hk2⟩:∃W2,(W.alloc (.cells #[.int .i64 k,.int .i64 N,.string ks,.int .i64 (kn:Int)] 106)).alloc (.cells #[.pointer none,.pointer none,.int .i64 (-9223372036854775808)] 119)=W2∧Below W.heap.size W W2∧VwBlk W2 (W.heap.size+1) none none (-9223372036854775808)∧W2.heap.size=W.heap.size+2∧W2.heap[W.heap.size]?=some (.cells #[.int .i64 k,.int .i64 N,.string ks,.int .i64 (kn:Int)] 106 (0,0)):=by
  refine⟨_,rfl,((Below.refl _ W).alloc (Nat.le_refl _) _).alloc (by simp) _,?_,by simp,(Below.heap_alloc _ _ _ (by simp)).trans (World.alloc_heap_new W _)⟩
  have h:=World.alloc_heap_new (W.alloc (.cells #[.int .i64 k,.int .i64 N,.string ks,.int .i64 (kn:Int)] 106)) (.cells #[.pointer none,.pointer none,.int .i64 (-9223372036854775808)] 119)
  rw[World.size_alloc] at h
  exact h
 have hlook:(Instr.lookup 44 (.map (some mf)) (.agg #[.string s,.int .i64 (n:Int)]) true).run Tryz.prog W2=.ok (.tuple #[.pointer (some ⟨fb,0,none⟩),.bool true]) W2:=by
  have h:=(hmf.kept (hb2.block mf hmf.lt)).look Tryz.keyedPred Tryz.underlying44 (Tryz.zeroPtr64 _) (pred_key s n hs hn)
  rw[hg] at h
  simp only[Option.isSome_some] at h
  exact h
 have bc:BsBlk W2 b laid me mf:=(hb2.block b hb.lt).trans hb
 obtain⟨_,b1,b2⟩:=bc.cs
 have hlt:=hltq W2 hb2
 clear hltq
 simp only[keyV] at hlt
 have k0:W2.cell? ⟨W.heap.size,0,none⟩=some (.int .i64 k):=by simp[World.cell?,hk2]
 have k1:W2.cell? ⟨W.heap.size,1,none⟩=some (.int .i64 N):=by simp[World.cell?,hk2]
 have k2:W2.cell? ⟨W.heap.size,2,none⟩=some (.string ks):=by simp[World.cell?,hk2]
 have k3:W2.cell? ⟨W.heap.size,3,none⟩=some (.int .i64 (kn:Int)):=by simp[World.cell?,hk2]
 have HV:=hide hv2
 have HB:=hide hb2
 clear hb hmf hs hn hg bc hv2 hb2 hk2
 simp only[keyV]
 go_enter Tryz.func49,Tryz.ntmps49
 go_wp2_with fail
 try rw[hW2]
 clear hW2
 refine hlt.mono ?_
 clear hlt
 rintro e V6 ⟨rfl,g6⟩
 have s6:=g6.size
 have hv6:VwBlk V6 (W.heap.size+1) none none (-9223372036854775808):=(g6.block _ (by omega)).trans (unhide HV)
 obtain⟨⟨v0,v1,v2⟩,f0,f1,f2⟩:=hv6.cs
 have hv7:=((hv6.set.1 p).set).2.1 q
 have HF:Hid (W.heap.size≤W.heap.size+1∧VwBlk ((V6.setCell ⟨W.heap.size+1,0,none⟩ (.pointer p)).setCell ⟨W.heap.size+1,1,none⟩ (.pointer q)) (W.heap.size+1) p q (-9223372036854775808)∧Below W.heap.size W ((V6.setCell ⟨W.heap.size+1,0,none⟩ (.pointer p)).setCell ⟨W.heap.size+1,1,none⟩ (.pointer q))):=⟨by omega,hv7,(((unhide HB).trans (g6.mono (by omega))).setCell (p:=⟨W.heap.size+1,0,none⟩) (by simp) _).setCell (p:=⟨W.heap.size+1,1,none⟩) (by simp) _⟩
 clear hv6 hv7 g6 HV HB
 go_wp2_with fail
 exact bodyPost_ret (v:=.tuple #[.pointer (some ⟨W.heap.size+1,0,none⟩),.bool true]) (by simp[results,Tryz.results49,go_sem]) rfl ⟨_,_,rfl,HF.out.1,HF.out.2.1,HF.out.2.2⟩
theorem rules_unknown(b me mf:Nat)(laid:Int)(cf:Nat)(gf:Lit→Option Addr)(s:ByteArray)(n:Nat)(k N:Int)(ks:ByteArray)(kn:Nat)(W:World)(hb:BsBlk W b laid me mf)(hmf:PM 80 W mf cf gf)(hs:s.size≤maxLen)(hn:n≤9223372036854775807)(hg:gf (predL s n)=none):
  Calls Tryz.prog 49 #[.pointer (some ⟨b,0,none⟩),.string s,.int .i64 (n:Int),keyV k N ks kn] W fun e W'=> ∃vb r,e=.returned (.tuple #[.pointer (some ⟨vb,0,none⟩),.bool r])∧W.heap.size≤vb∧VwBlk W' vb none none (-9223372036854775808)∧Below W.heap.size W W':=by
 obtain⟨W2,hW2,hb2,hv2,hs2,hk2⟩:∃W2,(W.alloc (.cells #[.int .i64 k,.int .i64 N,.string ks,.int .i64 (kn:Int)] 106)).alloc (.cells #[.pointer none,.pointer none,.int .i64 (-9223372036854775808)] 119)=W2∧Below W.heap.size W W2∧VwBlk W2 (W.heap.size+1) none none (-9223372036854775808)∧W2.heap.size=W.heap.size+2∧W2.heap[W.heap.size]?=some (.cells #[.int .i64 k,.int .i64 N,.string ks,.int .i64 (kn:Int)] 106 (0,0)):=by
  refine⟨_,rfl,((Below.refl _ W).alloc (Nat.le_refl _) _).alloc (by simp) _,?_,by simp,(Below.heap_alloc _ _ _ (by simp)).trans (World.alloc_heap_new W _)⟩
  have h:=World.alloc_heap_new (W.alloc (.cells #[.int .i64 k,.int .i64 N,.string ks,.int .i64 (kn:Int)] 106)) (.cells #[.pointer none,.pointer none,.int .i64 (-9223372036854775808)] 119)
  rw[World.size_alloc] at h
  exact h
 have hlook:(Instr.lookup 44 (.map (some mf)) (.agg #[.string s,.int .i64 (n:Int)]) true).run Tryz.prog W2=.ok (.tuple #[.pointer none,.bool false]) W2:=by
  have h:=(hmf.kept (hb2.block mf hmf.lt)).look Tryz.keyedPred Tryz.underlying44 (Tryz.zeroPtr64 _) (pred_key s n hs hn)
  rw[hg] at h
  simp only[Option.isSome_none] at h
  exact h
 have bc:BsBlk W2 b laid me mf:=(hb2.block b hb.lt).trans hb
 obtain⟨_,b1,b2⟩:=bc.cs
 have k0:W2.cell? ⟨W.heap.size,0,none⟩=some (.int .i64 k):=by simp[World.cell?,hk2]
 have k1:W2.cell? ⟨W.heap.size,1,none⟩=some (.int .i64 N):=by simp[World.cell?,hk2]
 have k2:W2.cell? ⟨W.heap.size,2,none⟩=some (.string ks):=by simp[World.cell?,hk2]
 have k3:W2.cell? ⟨W.heap.size,3,none⟩=some (.int .i64 (kn:Int)):=by simp[World.cell?,hk2]
 have HV:=hide hv2
 have HB:=hide hb2
 clear hb hmf hs hn hg bc hv2 hb2 hk2
 simp only[keyV]
 go_enter Tryz.func49,Tryz.ntmps49
 go_wp2_with fail
 try rw[hW2]
 exact bodyPost_ret (v:=.tuple #[.pointer (some ⟨W.heap.size+1,0,none⟩),.bool false]) (by simp[results,Tryz.results49,go_sem]) rfl ⟨_,_,rfl,by omega,unhide HV,unhide HB⟩
theorem view_by(b:Nat)(p q:Option Addr){n:Nat}(tg:Tm (n+1))(W:World)(hT:IsT W.heap.size W tg)(hok:okT tg=true)(hcall:(decide (tg.tv.k=3) || decide (tg.tv.k=4))=true)
  (hru:∀V,Below W.heap.size W V→Calls Tryz.prog 49 #[.pointer (some ⟨b,0,none⟩),.string tg.tv.s,.int .i64 (tg.tv.len:Int),keyOfV tg] V fun e W'=> ∃vb r,e=.returned (.tuple #[.pointer (some ⟨vb,0,none⟩),.bool r])∧V.heap.size≤vb∧VwBlk W' vb p q (-9223372036854775808)∧Below V.heap.size V W'):
  Calls Tryz.prog 34 #[.pointer (some ⟨b,0,none⟩),tg.tv.val] W fun e W'=> ∃vb,e=.returned (.tuple #[.pointer (some ⟨vb,0,none⟩),.int .i64 0])∧W.heap.size≤vb∧VwBlk W' vb p q (-9223372036854775808)∧Below W.heap.size W W':=by
 have hbx:=BoxT.new W tg.tv
 have hb1:Below W.heap.size W (W.alloc (.cells #[.int .i64 tg.tv.k,.int .i64 tg.tv.N,.string tg.tv.s,.slice tg.tv.a tg.tv.len tg.tv.cap] 34)):=(Below.refl _ W).alloc (Nat.le_refl _) _
 have hs1:W.heap.size<(W.alloc (.cells #[.int .i64 tg.tv.k,.int .i64 tg.tv.N,.string tg.tv.s,.slice tg.tv.a tg.tv.len tg.tv.cap] 34)).heap.size:=by simp
 have hck:=check_any tg _ ((hT.below hb1).mono hb1.size)
 rw[chk_yes hok] at hck
 have hca:=isCallable_any tg.tv
 rw[hcall] at hca
 have HKO:Hid (∀V,Below W.heap.size W V→Calls Tryz.prog 42 #[tg.tv.val] V fun e W'=>e=.returned (keyOfV tg)∧Below V.heap.size V W'):=fun V hV=>keyOf_any tg V ((hT.below hV).mono hV.size)
 have HRU:=hide hru
 simp only[TV.val] at hck hca HKO⊢
 unfold keyOfV keyV at HKO HRU
 have HX:=hide (And.intro hbx (And.intro hb1 hs1))
 clear hT hok hcall hbx hb1 hru hs1
 go_enter Tryz.func34,Tryz.ntmps34
 go_wp2_with fail
 refine hck.mono ?_
 clear hck
 rintro e V1 ⟨rfl,g1⟩
 obtain⟨hbx,hb1,hs1⟩:=unhide HX
 have s1:=g1.size
 have bx1:BoxT V1 W.heap.size tg.tv:=hbx.below g1 (by omega)
 have gW1:Below W.heap.size W V1:=hb1.trans (g1.mono (by omega))
 have c0:=bx1.c0
 have c1:=bx1.c1
 have c2:=bx1.c2
 have c3:=bx1.c3
 have H1:=hide (And.intro bx1 gW1)
 clear hbx hb1 bx1 gW1 g1 HX
 go_wp2_with fail
 refine(hca _).mono ?_
 clear hca c0 c1 c2 c3
 rintro e V2 ⟨rfl,g2⟩
 obtain⟨bx1,gW1⟩:=unhide H1
 have s2:=g2.size
 have bx2:BoxT V2 W.heap.size tg.tv:=bx1.below g2 (by omega)
 have gW2:Below W.heap.size W V2:=gW1.trans (g2.mono (by omega))
 have hko:=HKO.out V2.drew gW2.drew
 have KEEP:V2.cell? ⟨W.heap.size,0,none⟩=some (.int .i64 tg.tv.k)∧V2.cell? ⟨W.heap.size,1,none⟩=some (.int .i64 tg.tv.N)∧V2.cell? ⟨W.heap.size,2,none⟩=some (.string tg.tv.s)∧V2.cell? ⟨W.heap.size,3,none⟩=some (.slice tg.tv.a tg.tv.len tg.tv.cap):=⟨bx2.c0,bx2.c1,bx2.c2,bx2.c3⟩
 have B2:=hide bx2
 have G2:=hide gW2
 clear bx1 gW1 bx2 gW2 g2 H1 HKO
 go_wp2_with fail
 refine wp_region_noPanic ?_
 refine wp_region_held_drew (S:=(fun w'=>w'.cell? ⟨W.heap.size,0,none⟩=some (.int .i64 tg.tv.k)∧w'.cell? ⟨W.heap.size,1,none⟩=some (.int .i64 tg.tv.N)∧w'.cell? ⟨W.heap.size,2,none⟩=some (.string tg.tv.s)∧w'.cell? ⟨W.heap.size,3,none⟩=some (.slice tg.tv.a tg.tv.len tg.tv.cap))) (by kernel_rfl) ?_ (fun hHeld=>?_)
 ·exact KEEP
 refine tk 0 rfl hHeld ?_
 refine tk 1 rfl hHeld ?_
 refine tk 2 rfl hHeld ?_
 refine tk 3 rfl hHeld ?_
 refine tk 4 rfl hHeld ?_
 refine tk 5 rfl hHeld ?_
 refine tk 6 rfl hHeld ?_
 refine rd 7 rfl fun K hK=>?_
 have hHold:=hHeld
 clear hHeld
 go_simp
 refine hko.mono ?_
 clear hko
 rintro e V3 ⟨rfl,g3⟩
 replace g3:Below V2.heap.size V2 V3:=(Below.refl _ V2).drew.trans (show Below V2.heap.size V2.drew V3 from g3)
 have bx3:BoxT V3 W.heap.size tg.tv:=(unhide B2).below g3 (by show W.heap.size<V2.heap.size;omega)
 have gW3:Below W.heap.size W V3:=(unhide G2).trans (g3.mono (by omega))
 have s3:V2.heap.size≤V3.heap.size:=g3.size
 have KEEP:V3.cell? ⟨W.heap.size,0,none⟩=some (.int .i64 tg.tv.k)∧V3.cell? ⟨W.heap.size,1,none⟩=some (.int .i64 tg.tv.N)∧V3.cell? ⟨W.heap.size,2,none⟩=some (.string tg.tv.s)∧V3.cell? ⟨W.heap.size,3,none⟩=some (.slice tg.tv.a tg.tv.len tg.tv.cap):=⟨bx3.c0,bx3.c1,bx3.c2,bx3.c3⟩
 have hr:=HRU.out V3 gW3
 have H3:=hide (And.intro bx3 (And.intro gW3 g3))
 clear bx3 gW3 g3 HRU
 go_wp2_with fail
 refine hK.out _ _ ?_ (fun hHeld=>?_)
 ·((try dsimp only);exact KEEP)
 clear hK K hHold
 try simp only[pu]
 refine rd 8 rfl fun K hK=>?_
 have hHold:=hHeld
 clear hHeld
 go_simp
 refine hr.mono ?_
 clear hr
 rintro e V4 ⟨vb,r,rfl,hvb,hvw,g4⟩
 obtain⟨bx3,gW3,g3⟩:=unhide H3
 have bx4:BoxT V4 W.heap.size tg.tv:=bx3.below g4 (by omega)
 have KEEP:V4.cell? ⟨W.heap.size,0,none⟩=some (.int .i64 tg.tv.k)∧V4.cell? ⟨W.heap.size,1,none⟩=some (.int .i64 tg.tv.N)∧V4.cell? ⟨W.heap.size,2,none⟩=some (.string tg.tv.s)∧V4.cell? ⟨W.heap.size,3,none⟩=some (.slice tg.tv.a tg.tv.len tg.tv.cap):=⟨bx4.c0,bx4.c1,bx4.c2,bx4.c3⟩
 have HF:Hid (W.heap.size≤vb∧VwBlk V4 vb p q (-9223372036854775808)∧Below W.heap.size W V4):=⟨by omega,hvw,gW3.trans (g4.mono (by omega))⟩
 clear bx3 gW3 g3 bx4 hvb hvw g4 H3
 go_wp2_with fail
 refine hK.out _ _ ?_ (fun hHeld=>?_)
 ·((try dsimp only);exact KEEP)
 clear hK K hHold
 try simp only[pu]
 refine tk 9 rfl hHeld ?_
 refine tk 10 rfl hHeld ?_
 refine tk 11 rfl hHeld ?_
 refine tk 12 rfl hHeld ?_
 refine tk 13 rfl hHeld ?_
 refine wpAnyH_done (by kernel_rfl) ?_ _
 refine NoPanic.normal ?_
 clear hHeld
 go_wp2_with fail
 exact bodyPost_ret (v:=.tuple #[.pointer (some ⟨vb,0,none⟩),.int .i64 0]) (by simp[results,Tryz.results34,go_sem]) rfl ⟨_,rfl,HF.out.1,HF.out.2.1,HF.out.2.2⟩
/-- What a view's step leaves of it. -/
def StepSays(R:Option Nat)(W W':World)(vb:Nat)(p:Option Addr)(last:Int):Prop:=(∀eb,R=some eb→∀pl,W.cell? ⟨eb,0,none⟩=some (.int .i64 pl)→VwBlk W' vb p none pl)∧(R=none→VwBlk W' vb none none last)
theorem TrIs.below{A B:World}(hb:Below A.heap.size A B):∀{n:Nat} {t:Tr n} {p:Option Addr},TrIs A t p→TrIs B t p:=by
 intro n
 induction n with
 | zero=>intro t p h;exact h
 | succ n ih=>
  intro t p h
  match t,h with
  | none,h=>exact h
  | some (tb,eb,pl,ht,l,r),h=>
   obtain⟨h1,lp,rp,hblk,hc,hl,hr⟩:=h
   have hlt:=(Array.getElem?_eq_some_iff.1 hblk).1
   have hel:eb<A.heap.size:=by
    by_cases hlt':eb<A.heap.size
    ·exact hlt'
    ·have:A.heap[eb]?=none:=Array.getElem?_eq_none (by omega)
     simp[World.cell?,this] at hc
   exact⟨h1,lp,rp,(hb.block tb hlt).trans hblk,(hb.cell (p:=⟨eb,0,none⟩) hel).trans hc,ih hl,ih hr⟩
theorem Tryz.infoI:(Tryz.prog.info? 3).map (fun i=>(i.zero,i.size,i.bytes))=some (some (.int .i64 0),1,8):=by kernel_rfl
theorem one_newI{W:World}{N:Int}:∀j u,([.int .i64 N]:List Value)[j]?=some u→(W.alloc (.cells #[.int .i64 N] 3)).cell? ((⟨W.heap.size,0,none⟩:Addr).add j)=some u:=by
 intro j u hj
 match j,hj with
 | 0,hj=>
  have hb:=World.alloc_heap_new W (.cells #[.int .i64 N] 3)
  simp at hj
  subst hj
  show World.cell? _ ⟨W.heap.size,0,none⟩=_
  simp only[World.cell?]
  rw[hb]
  rfl
 | k+1,hj=>simp at hj
theorem one_oneI{N:Int}:∀u∈([.int .i64 N]:List Value),u.oneCell'=true:=by
 intro u hu
 simp at hu
 subst hu
 rfl
theorem row_slice{W:World}{base sz n:Nat}{e:TypeId}{v:Value}{xs:List Value}(h:W.ownsRow base e sz v n xs):∃a cap,v=.slice a n cap:=by
 obtain⟨_,h⟩:=h
 rcases h with⟨hv,hn⟩ | ⟨_,cap,_,hv,_⟩
 ·exact⟨none,0,by rw[hv,hn]⟩
 ·exact⟨_,cap,hv⟩
/-- A base that has nothing. -/
structure Bs0 (X:Nat→Prop) (W:World) (v:Value) (b me mf:Nat):Prop where
 val:v=.pointer (some ⟨b,0,none⟩)
 blk:BsBlk W b 0 me mf
 ent:PM 3 W me 0 (fun _=>none)
 fam:PM 80 W mf 0 (fun _=>none)
 ne:b≠me∧b≠mf∧me≠mf
 all:∀k,k=b∨k=me∨k=mf→X k
/-- A base that has one clause, of the id 1. -/
structure Bs1 (W:World) (v:Value) (h bd:List Nd) (b me mf fb km q eb:Nat) (pl:Int) (hx bx:TV) (ge gf:Lit→Option Addr) (D:Nat):Prop where
 val:v=.pointer (some ⟨b,0,none⟩)
 blk:BsBlk W b 1 me mf
 ent:PM 3 W me 1 ge
 fam:PM 80 W mf 1 gf
 fm:FmBlk W fb (some ⟨q,0,none⟩) km
 tree:OneT eb 0 q W
 en:EnBlk W eb pl hx bx
 pls: -9223372036854775808<pl∧pl≤9223372036854775807
 small:D≤1099511627775
 hh:HoldsS D anyB W hx.val h
 hb:HoldsS D anyB W bx.val bd
 oks:h.all okM=true∧bd.all okM=true
 g1:ge (.int .i64 1)=some ⟨eb,0,none⟩
 g2:∀(s:ByteArray) (k:Nat),(∃K N rest,h=(K,N,s.toList,k)::rest)→gf (predL s k)=some ⟨fb,0,none⟩
def BaseIs(X:Nat→Prop)(W:World)(v:Value):List (Int×List Nd×List Nd)→Prop
 | []=> ∃b me mf,Bs0 X W v b me mf
 | [(1,h,bd)]=> ∃(b me mf fb km q eb:Nat) (pl:Int) (hx bx:TV) (ge gf:Lit→Option Addr) (D:Nat),Bs1 W v h bd b me mf fb km q eb pl hx bx ge gf D
 | _=>False
/-- One more storey. -/
def Tr.lift:{n:Nat}→Tr n→Tr (n+1)
 | 0,_=>(none:Option (Nat×Nat×Int×Int×Tr 0×Tr 0))
 | n+1,t=>match(t:Option (Nat×Nat×Int×Int×Tr n×Tr n)) with
  | none=>(none:Option (Nat×Nat×Int×Int×Tr (n+1)×Tr (n+1)))
  | some (tb,eb,pl,h,l,r)=>nodeT tb eb pl h l.lift r.lift
/-- The entries, in order: block and place. -/
def entsT:{n:Nat}→Tr n→List (Nat×Int)
 | 0,_=>[]
 | n+1,t=>match(t:Option (Nat×Nat×Int×Int×Tr n×Tr n)) with
  | none=>[]
  | some (_,eb,pl,_,l,r)=>entsT l++(eb,pl)::entsT r
def htT:{n:Nat}→Tr n→Int
 | 0,_=>0
 | n+1,t=>match(t:Option (Nat×Nat×Int×Int×Tr n×Tr n)) with
  | none=>0
  | some (_,_,_,h,_,_)=>h
/-- Each height is what it says. -/
def HtOK:{n:Nat}→Tr n→Prop
 | 0,_=>True
 | n+1,t=>match(t:Option (Nat×Nat×Int×Int×Tr n×Tr n)) with
  | none=>True
  | some (_,_,_,h,l,r)=>h=max (htT l) (htT r)+1∧HtOK l∧HtOK r
theorem lift_is{W:World}:∀{n:Nat} {t:Tr n} {p:Option Addr},TrIs W t p→TrIs W t.lift p:=by
 intro n
 induction n with
 | zero=>intro t p h;exact h
 | succ n ih=>
  intro t p h
  match t,h with
  | none,h=>exact h
  | some (tb,eb,pl,ht,l,r),h=>
   obtain⟨h1,lp,rp,h2,h3,h4,h5⟩:=h
   exact⟨h1,lp,rp,h2,h3,ih h4,ih h5⟩
theorem lift_ents:∀{n:Nat} (t:Tr n),entsT t.lift=entsT t:=by
 intro n
 induction n with
 | zero=>intro t;rfl
 | succ n ih=>
  intro t
  match t with
  | none=>rfl
  | some (tb,eb,pl,ht,l,r)=>
   show entsT l.lift++(eb,pl)::entsT r.lift=entsT l++(eb,pl)::entsT r
   rw[ih l,ih r]
theorem lift_ht:∀{n:Nat} (t:Tr n),htT t.lift=htT t:=by
 intro n
 cases n with
 | zero=>intro t;rfl
 | succ n=>
  intro t
  match t with
  | none=>rfl
  | some (tb,eb,pl,ht,l,r)=>rfl
theorem lift_htok:∀{n:Nat} {t:Tr n},HtOK t→HtOK t.lift:=by
 intro n
 induction n with
 | zero=>intro t _;exact True.intro
 | succ n ih=>
  intro t h
  match t,h with
  | none,_=>exact True.intro
  | some (tb,eb,pl,ht,l,r),h=>
   obtain⟨h1,h2,h3⟩:=h
   show ht=max (htT l.lift) (htT r.lift)+1∧HtOK l.lift∧HtOK r.lift
   rw[lift_ht,lift_ht]
   exact⟨h1,ih h2,ih h3⟩
/-- A tree lies at a pointer: its entries, its height. -/
def TrL(W:World)(p:Option Addr)(L:List (Nat×Int))(h:Int):Prop:= ∃N,∀n,N≤n→∃t:Tr n,TrIs W t p∧HtOK t∧entsT t=L∧htT t=h
theorem trL_of{W:World}{p:Option Addr}{n:Nat}{t:Tr n}(h1:TrIs W t p)(h2:HtOK t):TrL W p (entsT t) (htT t):=by
 refine⟨n,fun m hm=>?_⟩
 obtain⟨d,rfl⟩:∃d,m=n+d:=⟨m-n,by omega⟩
 clear hm
 induction d with
 | zero=>exact⟨t,h1,h2,rfl,rfl⟩
 | succ d ih=>
  obtain⟨t',k1,k2,k3,k4⟩:=ih
  exact⟨t'.lift,lift_is k1,lift_htok k2,(lift_ents t').trans k3,(lift_ht t').trans k4⟩
theorem TrL.nil(W:World):TrL W none [] 0:=trL_of (n:=0) (t:=()) rfl True.intro
theorem TrL.node{W:World}{lp rp:Option Addr}{Ll Lr:List (Nat×Int)}{hl hr:Int}(h1:TrL W lp Ll hl)(h2:TrL W rp Lr hr){tb eb:Nat}{pl:Int}(hb:W.heap[tb]?=some (.cells #[.pointer (some ⟨eb,0,none⟩),.pointer lp,.pointer rp,.int .i64 (max hl hr+1)] 145 (0,0)))(hc:W.cell? ⟨eb,0,none⟩=some (.int .i64 pl)):
  TrL W (some ⟨tb,0,none⟩) (Ll++(eb,pl)::Lr) (max hl hr+1):=by
 obtain⟨N1,k1⟩:=h1
 obtain⟨N2,k2⟩:=h2
 obtain⟨t1,a1,a2,a3,a4⟩:=k1 (N1+N2) (by omega)
 obtain⟨t2,b1,b2,b3,b4⟩:=k2 (N1+N2) (by omega)
 have h:=trL_of (n:=N1+N2+1) (t:=nodeT tb eb pl (max hl hr+1) t1 t2) (W:=W) (p:=some ⟨tb,0,none⟩) ⟨rfl,lp,rp,hb,hc,a1,b1⟩ ⟨by rw[a4,b4],a2,b2⟩
 have e:entsT (nodeT tb eb pl (max hl hr+1) t1 t2)=Ll++(eb,pl)::Lr:=by
  show entsT t1++(eb,pl)::entsT t2=_
  rw[a3,b3]
 rw[e] at h
 exact h
theorem TrL.cases{W:World}{p:Option Addr}{L:List (Nat×Int)}{h:Int}(ht:TrL W p L h):(p=none∧L=[]∧h=0)∨∃(tb eb:Nat) (pl:Int) (lp rp:Option Addr) (Ll Lr:List (Nat×Int)) (hl hr:Int),p=some ⟨tb,0,none⟩∧W.heap[tb]?=some (.cells #[.pointer (some ⟨eb,0,none⟩),.pointer lp,.pointer rp,.int .i64 h] 145 (0,0))∧W.cell? ⟨eb,0,none⟩=some (.int .i64 pl)∧TrL W lp Ll hl∧TrL W rp Lr hr∧L=Ll++(eb,pl)::Lr∧h=max hl hr+1:=by
 obtain⟨N,k⟩:=ht
 obtain⟨t,h1,h2,h3,h4⟩:=k (N+1) (by omega)
 match t,h1,h2,h3,h4 with
 | none,h1,_,h3,h4=>exact .inl ⟨h1,h3.symm,h4.symm⟩
 | some (tb,eb,pl,ht,l,r),h1,h2,h3,h4=>
  obtain⟨rfl,lp,rp,hb,hc,hl,hr⟩:=h1
  obtain⟨e1,e2,e3⟩:=h2
  have h4':ht=h:=h4
  subst h4'
  exact .inr ⟨tb,eb,pl,lp,rp,entsT l,entsT r,htT l,htT r,rfl,hb,hc,trL_of hl e2,trL_of hr e3,h3.symm,e1⟩
theorem TrL.below{A B:World}(hb:Below A.heap.size A B){p:Option Addr}{L:List (Nat×Int)}{h:Int}(ht:TrL A p L h):TrL B p L h:=by
 obtain⟨N,k⟩:=ht
 exact⟨N,fun n hn=>by obtain⟨t,h1,h2⟩:=k n hn;exact⟨t,h1.below hb,h2⟩⟩
theorem len_cons(Ll Lr:List (Nat×Int))(x:Nat×Int):(Ll++x::Lr).length=Ll.length+Lr.length+1:=by simp;omega
theorem TrL.ind{W:World}{P:Option Addr→List (Nat×Int)→Int→Prop}(hnil:P none [] 0)
  (hnode:∀(tb eb:Nat) (pl:Int) (lp rp:Option Addr) (Ll Lr:List (Nat×Int)) (hl hr:Int),W.heap[tb]?=some (.cells #[.pointer (some ⟨eb,0,none⟩),.pointer lp,.pointer rp,.int .i64 (max hl hr+1)] 145 (0,0))→W.cell? ⟨eb,0,none⟩=some (.int .i64 pl)→TrL W lp Ll hl→TrL W rp Lr hr→P lp Ll hl→P rp Lr hr→P (some ⟨tb,0,none⟩) (Ll++(eb,pl)::Lr) (max hl hr+1)):
  ∀{p:Option Addr} {L:List (Nat×Int)} {h:Int},TrL W p L h→P p L h:=by
 have key:∀(n:Nat) {p:Option Addr} {L:List (Nat×Int)} {h:Int},L.length≤n→TrL W p L h→P p L h:=by
  intro n
  induction n with
  | zero=>
   intro p L h hn ht
   rcases ht.cases with⟨rfl,rfl,rfl⟩ | ⟨tb,eb,pl,lp,rp,Ll,Lr,hl,hr,_,_,_,_,_,rfl,_⟩
   ·exact hnil
   ·rw[len_cons] at hn;omega
  | succ n ih=>
   intro p L h hn ht
   rcases ht.cases with⟨rfl,rfl,rfl⟩ | ⟨tb,eb,pl,lp,rp,Ll,Lr,hl,hr,rfl,hb,hc,h1,h2,rfl,rfl⟩
   ·exact hnil
   ·rw[len_cons] at hn
    exact hnode tb eb pl lp rp Ll Lr hl hr hb hc h1 h2 (ih (by omega) h1) (ih (by omega) h2)
 intro p L h ht
 exact key L.length (Nat.le_refl _) ht
theorem TrL.ht{W:World}:∀{p:Option Addr} {L:List (Nat×Int)} {h:Int},TrL W p L h→0≤h∧h≤L.length∧(h=0↔p=none):=by
 intro p L h ht
 refine TrL.ind (P:=fun p L h=>0≤h∧h≤L.length∧(h=0↔p=none)) ⟨by omega,by simp,by simp⟩ ?_ ht
 intro tb eb pl lp rp Ll Lr hl hr _ _ _ _ h1 h2
 rw[len_cons]
 refine⟨by omega,by omega,?_⟩
 constructor
 ·intro h;omega
 ·intro h;cases h
theorem TrL.tall{W:World}{p:Option Addr}{L:List (Nat×Int)}{h:Int}(ht:TrL W p L h):Tall W p h:=by
 rcases ht.cases with⟨rfl,rfl,rfl⟩ | ⟨tb,eb,pl,lp,rp,Ll,Lr,hl,hr,rfl,hb,hc,h1,h2,rfl,rfl⟩
 ·exact .inl ⟨rfl,rfl⟩
 ·exact .inr ⟨tb,rfl,by simp[World.cell?,hb]⟩
theorem grownL{W:World}{lp rp:Option Addr}{Ll Lr:List (Nat×Int)}{hl hr:Int}(h1:TrL W lp Ll hl)(h2:TrL W rp Lr hr)(eb:Nat)(pl:Int)(hc:W.cell? ⟨eb,0,none⟩=some (.int .i64 pl))(hn:Ll.length+Lr.length<4611686018427387904):
  Calls Tryz.prog 70 #[.pointer lp,.pointer (some ⟨eb,0,none⟩),.pointer rp] W fun e W'=> ∃q h,e=.returned (.pointer (some ⟨q,0,none⟩))∧W.heap.size≤q∧Below W.heap.size W W'∧TrL W' (some ⟨q,0,none⟩) (Ll++(eb,pl)::Lr) h:=by
 have k1:=h1.ht
 have k2:=h2.ht
 refine(grown_any lp (some ⟨eb,0,none⟩) rp hl hr W h1.tall h2.tall (by omega) (by omega)).mono ?_
 rintro e W' ⟨rfl,rfl⟩
 have hb:Below W.heap.size W (W.alloc (.cells #[.pointer (some ⟨eb,0,none⟩),.pointer lp,.pointer rp,.int .i64 (max hl hr+1)] 145)):=(Below.refl _ W).alloc (Nat.le_refl _) _
 have hel:eb<W.heap.size:=by
  by_cases h:eb<W.heap.size
  ·exact h
  ·have:W.heap[eb]?=none:=Array.getElem?_eq_none (by omega)
   simp[World.cell?,this] at hc
 exact⟨W.heap.size,_,rfl,Nat.le_refl _,hb,(h1.below hb).node (h2.below hb) (World.alloc_heap_new W _) ((hb.cell (p:=⟨eb,0,none⟩) hel).trans hc)⟩
end Go.Proofs.YteaiefjmcinljaaGreatDoor
