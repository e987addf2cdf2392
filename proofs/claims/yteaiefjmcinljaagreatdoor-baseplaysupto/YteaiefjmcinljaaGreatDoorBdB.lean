import Derived.Test.YteaiefjmcinljaaGreatDoorTks
import Derived.Test.YteaiefjmcinljaaGreatDoorBcIs
namespace Go.Proofs.YteaiefjmcinljaaGreatDoor
set_option maxHeartbeats 4000000
set_option maxRecDepth 100000
open Go.RowKit Go.Shelf Go.Maps
/-- What makes a tree of these entries answers. -/
def TreeC(W:World)(f:Nat)(args:Array Value)(L:List (Nat×Int)):Prop:=Calls Tryz.prog f args W fun e W'=> ∃q h,e=.returned (.pointer (some ⟨q,0,none⟩))∧W.heap.size≤q∧Below W.heap.size W W'∧TrL W' (some ⟨q,0,none⟩) L h
theorem grownC{W:World}{lp rp:Option Addr}{Ll Lr:List (Nat×Int)}{hl hr:Int}(h1:TrL W lp Ll hl)(h2:TrL W rp Lr hr)(eb:Nat)(pl:Int)(hc:W.cell? ⟨eb,0,none⟩=some (.int .i64 pl))(hn:Ll.length+Lr.length<4611686018427387904):TreeC W 70 #[.pointer lp,.pointer (some ⟨eb,0,none⟩),.pointer rp] (Ll++(eb,pl)::Lr):=grownL h1 h2 eb pl hc hn
theorem cell_in{W:World}{b o:Nat}{v:Value}(h:W.cell? ⟨b,o,none⟩=some v):b<W.heap.size:=by
 by_cases hb:b<W.heap.size
 ·exact hb
 ·have:W.heap[b]?=none:=Array.getElem?_eq_none (by omega)
  simp[World.cell?,this] at h
theorem node_cells{W:World}{tb eb:Nat}{lp rp:Option Addr}{h:Int}(hb:W.heap[tb]?=some (.cells #[.pointer (some ⟨eb,0,none⟩),.pointer lp,.pointer rp,.int .i64 h] 145 (0,0))):W.cell? ⟨tb,0,none⟩=some (.pointer (some ⟨eb,0,none⟩))∧W.cell? ⟨tb,1,none⟩=some (.pointer lp)∧W.cell? ⟨tb,2,none⟩=some (.pointer rp)∧W.cell? ⟨tb,3,none⟩=some (.int .i64 h):=by
 refine⟨?_,?_,?_,?_⟩ <;> simp[World.cell?,hb]
theorem leaningLeft_a{W:World}{tb xb eb:Nat}{xl pl ht:Int}{lp rp op:Option Addr}{Ll Lr Lo:List (Nat×Int)}{hl hr ho:Int}(hb:W.heap[tb]?=some (.cells #[.pointer (some ⟨xb,0,none⟩),.pointer lp,.pointer rp,.int .i64 ht] 145 (0,0)))(hx:W.cell? ⟨xb,0,none⟩=some (.int .i64 xl))(he:W.cell? ⟨eb,0,none⟩=some (.int .i64 pl))(h1:TrL W lp Ll hl)(h2:TrL W rp Lr hr)(h3:TrL W op Lo ho)(hn:Ll.length+Lr.length+Lo.length<4611686018427387900)(hc:hr≤hl):
  TreeC W 94 #[.pointer (some ⟨tb,0,none⟩),.pointer (some ⟨eb,0,none⟩),.pointer op] ((Ll++(xb,xl)::Lr)++(eb,pl)::Lo):=by
 unfold TreeC
 have htl:=cell_in (node_cells hb).1
 have hxl:=cell_in hx
 have hel:=cell_in he
 have GW:Hid (Below W.heap.size W W):=Below.refl _ _
 have HX:Hid (∀V,Below W.heap.size W V→V.cell? ⟨xb,0,none⟩=some (.int .i64 xl)∧V.cell? ⟨eb,0,none⟩=some (.int .i64 pl)∧TrL V lp Ll hl∧TrL V rp Lr hr∧TrL V op Lo ho):=fun V hV=>⟨(hV.cell (p:=⟨xb,0,none⟩) hxl).trans hx,(hV.cell (p:=⟨eb,0,none⟩) hel).trans he,h1.below hV,h2.below hV,h3.below hV⟩
 obtain⟨n0,n1,n2,n3⟩:=node_cells hb
 have HT:Hid (∀V,Below W.heap.size W V→Calls Tryz.prog 93 #[.pointer lp] V fun e V'=>e=.returned (.int .i64 hl)∧V'=V):=fun V hV=>tall_any (h1.below hV).tall
 have HT2:Hid (∀V,Below W.heap.size W V→Calls Tryz.prog 93 #[.pointer rp] V fun e V'=>e=.returned (.int .i64 hr)∧V'=V):=fun V hV=>tall_any (h2.below hV).tall
 clear hb hx he h1 h2 h3 n3
 go_enter Tryz.func94,Tryz.ntmps94
 go_wp2_with fail
 have KEEP:W.cell? ⟨tb,0,none⟩=some (.pointer (some ⟨xb,0,none⟩))∧W.cell? ⟨tb,1,none⟩=some (.pointer lp)∧W.cell? ⟨tb,2,none⟩=some (.pointer rp):=⟨n0,n1,n2⟩
 refine wp_region_noPanic ?_
 refine wp_region_held_drew (S:=(fun w'=>w'.cell? ⟨tb,0,none⟩=some (.pointer (some ⟨xb,0,none⟩))∧w'.cell? ⟨tb,1,none⟩=some (.pointer lp)∧w'.cell? ⟨tb,2,none⟩=some (.pointer rp))) (by kernel_rfl) ?_ (fun hHeld=>?_)
 ·exact KEEP
 refine tk 0 rfl hHeld ?_
 refine tk 1 rfl hHeld ?_
 refine tk 2 rfl hHeld ?_
 refine tk 3 rfl hHeld ?_
 refine tk 5 rfl hHeld ?_
 refine tk 6 rfl hHeld ?_
 refine tk 7 rfl hHeld ?_
 refine tk 8 rfl hHeld ?_
 refine rd 4 rfl fun K hK=>?_
 have hHold:=hHeld
 clear hHeld
 go_simp
 refine(HT.out W.drew (unhide GW).drew).mono ?_
 rintro e V1 ⟨rfl,rfl⟩
 go_wp2_with fail
 refine hK.out _ _ ?_ (fun hHeld=>?_)
 ·((try dsimp only);exact KEEP)
 clear hK K hHold
 try simp only[pu]
 refine rd 9 rfl fun K hK=>?_
 have hHold:=hHeld
 clear hHeld
 go_simp
 refine(HT2.out W.drew (unhide GW).drew).mono ?_
 rintro e V1 ⟨rfl,rfl⟩
 go_wp2_with fail
 refine hK.out _ _ ?_ (fun hHeld=>?_)
 ·((try dsimp only);exact KEEP)
 clear hK K hHold
 try simp only[pu]
 refine tk 10 rfl hHeld ?_
 refine wpAnyH_done (by kernel_rfl) ?_ _
 refine NoPanic.normal ?_
 clear hHeld KEEP HT HT2
 have WD:Hid (Below W.heap.size W W.drew):=(Below.refl _ W).drew
 obtain⟨V0,hV0⟩:∃V0,W.drew=V0:=⟨_,rfl⟩
 have s0:V0.heap.size=W.heap.size:=by rw[←hV0];rfl
 rw[hV0] at WD
 have GV0:Hid (Below W.heap.size W V0):=WD.out
 rw[hV0]
 clear WD
 have m0:V0.cell? ⟨tb,0,none⟩=some (.pointer (some ⟨xb,0,none⟩)):=((unhide GV0).cell (p:=⟨tb,0,none⟩) htl).trans n0
 have m1:V0.cell? ⟨tb,1,none⟩=some (.pointer lp):=((unhide GV0).cell (p:=⟨tb,1,none⟩) htl).trans n1
 have m2:V0.cell? ⟨tb,2,none⟩=some (.pointer rp):=((unhide GV0).cell (p:=⟨tb,2,none⟩) htl).trans n2
 clear n0 n1 n2 hV0
 replace htl:tb<V0.heap.size:=by omega
 have hge:hl≥hr:=hc
 clear hc
 go_wp2_with fail
 have KEEP:V0.cell? ⟨tb,0,none⟩=some (.pointer (some ⟨xb,0,none⟩))∧V0.cell? ⟨tb,1,none⟩=some (.pointer lp)∧V0.cell? ⟨tb,2,none⟩=some (.pointer rp):=⟨m0,m1,m2⟩
 refine wp_region_noPanic ?_
 refine wp_region_held_drew (S:=(fun w'=>w'.cell? ⟨tb,0,none⟩=some (.pointer (some ⟨xb,0,none⟩))∧w'.cell? ⟨tb,1,none⟩=some (.pointer lp)∧w'.cell? ⟨tb,2,none⟩=some (.pointer rp))) (by kernel_rfl) ?_ (fun hHeld=>?_)
 ·exact KEEP
 refine tk 0 rfl hHeld ?_
 refine tk 1 rfl hHeld ?_
 refine tk 2 rfl hHeld ?_
 refine tk 3 rfl hHeld ?_
 refine tk 4 rfl hHeld ?_
 refine tk 5 rfl hHeld ?_
 refine tk 6 rfl hHeld ?_
 refine tk 7 rfl hHeld ?_
 refine tk 8 rfl hHeld ?_
 refine tk 9 rfl hHeld ?_
 refine tk 10 rfl hHeld ?_
 refine tk 11 rfl hHeld ?_
 refine tk 12 rfl hHeld ?_
 refine tk 13 rfl hHeld ?_
 refine rd 14 rfl fun K hK=>?_
 have hHold:=hHeld
 clear hHeld
 go_simp
 have hcl:=grownC (HX.out V0.drew (unhide GV0).drew).2.2.2.1 (HX.out V0.drew (unhide GV0).drew).2.2.2.2 eb pl (HX.out V0.drew (unhide GV0).drew).2.1 (by omega)
 refine hcl.mono ?_
 clear hcl
 rintro e V1 ⟨q1,i1,rfl,hq1,gV1,t1⟩
 have sV1:V0.heap.size≤V1.heap.size:=gV1.size
 have GV1:Hid (Below W.heap.size W V1):=(unhide GV0).drew.trans (gV1.mono (by have:=(unhide GV0).size;show W.heap.size≤V0.heap.size;omega))
 have kc:∀k o,k<V0.heap.size→V1.cell? ⟨k,o,none⟩=V0.cell? ⟨k,o,none⟩:=fun k o hk=>World.cell?_of_block (a:=⟨k,o,none⟩) (w:=V0) (gV1.block k hk)
 have KEEP:V1.cell? ⟨tb,0,none⟩=some (.pointer (some ⟨xb,0,none⟩))∧V1.cell? ⟨tb,1,none⟩=some (.pointer lp)∧V1.cell? ⟨tb,2,none⟩=some (.pointer rp):=⟨(kc _ _ htl).trans KEEP.1,(kc _ _ htl).trans KEEP.2.1,(kc _ _ htl).trans KEEP.2.2⟩
 have htl:tb<V1.heap.size:=Nat.lt_of_lt_of_le htl sV1
 clear kc
 go_wp2_with fail
 refine hK.out _ _ ?_ (fun hHeld=>?_)
 ·((try dsimp only);exact KEEP)
 clear hK K hHold
 try simp only[pu]
 refine rd 15 rfl fun K hK=>?_
 have hHold:=hHeld
 clear hHeld
 go_simp
 have hcl:=grownC (HX.out V1 (unhide GV1)).2.2.1 t1 xb xl (HX.out V1 (unhide GV1)).1 (by simp only[List.length_append,List.length_cons];omega)
 refine hcl.mono ?_
 clear hcl
 rintro e V2 ⟨q2,i2,rfl,hq2,gV2,t2⟩
 have sV2:V1.heap.size≤V2.heap.size:=gV2.size
 have GV2:Hid (Below W.heap.size W V2):=(unhide GV1).trans (gV2.mono (by have:=(unhide GV1).size;show W.heap.size≤V1.heap.size;omega))
 have kc:∀k o,k<V1.heap.size→V2.cell? ⟨k,o,none⟩=V1.cell? ⟨k,o,none⟩:=fun k o hk=>World.cell?_of_block (a:=⟨k,o,none⟩) (w:=V1) (gV2.block k hk)
 have KEEP:V2.cell? ⟨tb,0,none⟩=some (.pointer (some ⟨xb,0,none⟩))∧V2.cell? ⟨tb,1,none⟩=some (.pointer lp)∧V2.cell? ⟨tb,2,none⟩=some (.pointer rp):=⟨(kc _ _ htl).trans KEEP.1,(kc _ _ htl).trans KEEP.2.1,(kc _ _ htl).trans KEEP.2.2⟩
 have htl:tb<V2.heap.size:=Nat.lt_of_lt_of_le htl sV2
 clear kc
 go_wp2_with fail
 refine hK.out _ _ ?_ (fun hHeld=>?_)
 ·((try dsimp only);exact KEEP)
 clear hK K hHold
 try simp only[pu]
 refine tk 16 rfl hHeld ?_
 refine wpAnyH_done (by kernel_rfl) ?_ _
 refine NoPanic.normal ?_
 clear hHeld KEEP
 have HF:Hid (Below W.heap.size W V2∧W.heap.size≤q2∧TrL V2 (some ⟨q2,0,none⟩) ((Ll++(xb,xl)::Lr)++(eb,pl)::Lo) i2):=⟨unhide GV2,by omega,by have h:=t2;rw[show Ll++(xb,xl)::(Lr++(eb,pl)::Lo)=(Ll++(xb,xl)::Lr)++(eb,pl)::Lo by simp] at h;exact h⟩
 clear t1 t2 gV1 gV2 GV0 GV1 GV2 HX
 go_wp2_with fail
 all_goals go_ret
 all_goals exact⟨q2,i2,rfl,HF.out.2.1,HF.out.1,HF.out.2.2⟩
theorem leaningRight_a{W:World}{tb xb eb:Nat}{xl pl ht:Int}{lp rp op:Option Addr}{Ll Lr Lo:List (Nat×Int)}{hl hr ho:Int}(hb:W.heap[tb]?=some (.cells #[.pointer (some ⟨xb,0,none⟩),.pointer lp,.pointer rp,.int .i64 ht] 145 (0,0)))(hx:W.cell? ⟨xb,0,none⟩=some (.int .i64 xl))(he:W.cell? ⟨eb,0,none⟩=some (.int .i64 pl))(h1:TrL W lp Ll hl)(h2:TrL W rp Lr hr)(h3:TrL W op Lo ho)(hn:Ll.length+Lr.length+Lo.length<4611686018427387900)(hc:hl≤hr):
  TreeC W 95 #[.pointer op,.pointer (some ⟨eb,0,none⟩),.pointer (some ⟨tb,0,none⟩)] (Lo++(eb,pl)::(Ll++(xb,xl)::Lr)):=by
 unfold TreeC
 have htl:=cell_in (node_cells hb).1
 have hxl:=cell_in hx
 have hel:=cell_in he
 have GW:Hid (Below W.heap.size W W):=Below.refl _ _
 have HX:Hid (∀V,Below W.heap.size W V→V.cell? ⟨xb,0,none⟩=some (.int .i64 xl)∧V.cell? ⟨eb,0,none⟩=some (.int .i64 pl)∧TrL V lp Ll hl∧TrL V rp Lr hr∧TrL V op Lo ho):=fun V hV=>⟨(hV.cell (p:=⟨xb,0,none⟩) hxl).trans hx,(hV.cell (p:=⟨eb,0,none⟩) hel).trans he,h1.below hV,h2.below hV,h3.below hV⟩
 obtain⟨n0,n1,n2,n3⟩:=node_cells hb
 have HT:Hid (∀V,Below W.heap.size W V→Calls Tryz.prog 93 #[.pointer rp] V fun e V'=>e=.returned (.int .i64 hr)∧V'=V):=fun V hV=>tall_any (h2.below hV).tall
 have HT2:Hid (∀V,Below W.heap.size W V→Calls Tryz.prog 93 #[.pointer lp] V fun e V'=>e=.returned (.int .i64 hl)∧V'=V):=fun V hV=>tall_any (h1.below hV).tall
 clear hb hx he h1 h2 h3 n3
 go_enter Tryz.func95,Tryz.ntmps95
 go_wp2_with fail
 have KEEP:W.cell? ⟨tb,0,none⟩=some (.pointer (some ⟨xb,0,none⟩))∧W.cell? ⟨tb,1,none⟩=some (.pointer lp)∧W.cell? ⟨tb,2,none⟩=some (.pointer rp):=⟨n0,n1,n2⟩
 refine wp_region_noPanic ?_
 refine wp_region_held_drew (S:=(fun w'=>w'.cell? ⟨tb,0,none⟩=some (.pointer (some ⟨xb,0,none⟩))∧w'.cell? ⟨tb,1,none⟩=some (.pointer lp)∧w'.cell? ⟨tb,2,none⟩=some (.pointer rp))) (by kernel_rfl) ?_ (fun hHeld=>?_)
 ·exact KEEP
 refine tk 0 rfl hHeld ?_
 refine tk 1 rfl hHeld ?_
 refine tk 2 rfl hHeld ?_
 refine tk 3 rfl hHeld ?_
 refine tk 5 rfl hHeld ?_
 refine tk 6 rfl hHeld ?_
 refine tk 7 rfl hHeld ?_
 refine tk 8 rfl hHeld ?_
 refine rd 4 rfl fun K hK=>?_
 have hHold:=hHeld
 clear hHeld
 go_simp
 refine(HT.out W.drew (unhide GW).drew).mono ?_
 rintro e V1 ⟨rfl,rfl⟩
 go_wp2_with fail
 refine hK.out _ _ ?_ (fun hHeld=>?_)
 ·((try dsimp only);exact KEEP)
 clear hK K hHold
 try simp only[pu]
 refine rd 9 rfl fun K hK=>?_
 have hHold:=hHeld
 clear hHeld
 go_simp
 refine(HT2.out W.drew (unhide GW).drew).mono ?_
 rintro e V1 ⟨rfl,rfl⟩
 go_wp2_with fail
 refine hK.out _ _ ?_ (fun hHeld=>?_)
 ·((try dsimp only);exact KEEP)
 clear hK K hHold
 try simp only[pu]
 refine tk 10 rfl hHeld ?_
 refine wpAnyH_done (by kernel_rfl) ?_ _
 refine NoPanic.normal ?_
 clear hHeld KEEP HT HT2
 have WD:Hid (Below W.heap.size W W.drew):=(Below.refl _ W).drew
 obtain⟨V0,hV0⟩:∃V0,W.drew=V0:=⟨_,rfl⟩
 have s0:V0.heap.size=W.heap.size:=by rw[←hV0];rfl
 rw[hV0] at WD
 have GV0:Hid (Below W.heap.size W V0):=WD.out
 rw[hV0]
 clear WD
 have m0:V0.cell? ⟨tb,0,none⟩=some (.pointer (some ⟨xb,0,none⟩)):=((unhide GV0).cell (p:=⟨tb,0,none⟩) htl).trans n0
 have m1:V0.cell? ⟨tb,1,none⟩=some (.pointer lp):=((unhide GV0).cell (p:=⟨tb,1,none⟩) htl).trans n1
 have m2:V0.cell? ⟨tb,2,none⟩=some (.pointer rp):=((unhide GV0).cell (p:=⟨tb,2,none⟩) htl).trans n2
 clear n0 n1 n2 hV0
 replace htl:tb<V0.heap.size:=by omega
 have hge:hr≥hl:=hc
 clear hc
 go_wp2_with fail
 have KEEP:V0.cell? ⟨tb,0,none⟩=some (.pointer (some ⟨xb,0,none⟩))∧V0.cell? ⟨tb,1,none⟩=some (.pointer lp)∧V0.cell? ⟨tb,2,none⟩=some (.pointer rp):=⟨m0,m1,m2⟩
 refine wp_region_noPanic ?_
 refine wp_region_held_drew (S:=(fun w'=>w'.cell? ⟨tb,0,none⟩=some (.pointer (some ⟨xb,0,none⟩))∧w'.cell? ⟨tb,1,none⟩=some (.pointer lp)∧w'.cell? ⟨tb,2,none⟩=some (.pointer rp))) (by kernel_rfl) ?_ (fun hHeld=>?_)
 ·exact KEEP
 refine tk 0 rfl hHeld ?_
 refine tk 1 rfl hHeld ?_
 refine tk 2 rfl hHeld ?_
 refine tk 3 rfl hHeld ?_
 refine tk 4 rfl hHeld ?_
 refine tk 5 rfl hHeld ?_
 refine tk 7 rfl hHeld ?_
 refine tk 8 rfl hHeld ?_
 refine tk 9 rfl hHeld ?_
 refine tk 10 rfl hHeld ?_
 refine tk 11 rfl hHeld ?_
 refine tk 12 rfl hHeld ?_
 refine tk 13 rfl hHeld ?_
 refine tk 14 rfl hHeld ?_
 refine rd 6 rfl fun K hK=>?_
 have hHold:=hHeld
 clear hHeld
 go_simp
 have hcl:=grownC (HX.out V0.drew (unhide GV0).drew).2.2.2.2 (HX.out V0.drew (unhide GV0).drew).2.2.1 eb pl (HX.out V0.drew (unhide GV0).drew).2.1 (by omega)
 refine hcl.mono ?_
 clear hcl
 rintro e V1 ⟨q1,i1,rfl,hq1,gV1,t1⟩
 have sV1:V0.heap.size≤V1.heap.size:=gV1.size
 have GV1:Hid (Below W.heap.size W V1):=(unhide GV0).drew.trans (gV1.mono (by have:=(unhide GV0).size;show W.heap.size≤V0.heap.size;omega))
 have kc:∀k o,k<V0.heap.size→V1.cell? ⟨k,o,none⟩=V0.cell? ⟨k,o,none⟩:=fun k o hk=>World.cell?_of_block (a:=⟨k,o,none⟩) (w:=V0) (gV1.block k hk)
 have KEEP:V1.cell? ⟨tb,0,none⟩=some (.pointer (some ⟨xb,0,none⟩))∧V1.cell? ⟨tb,1,none⟩=some (.pointer lp)∧V1.cell? ⟨tb,2,none⟩=some (.pointer rp):=⟨(kc _ _ htl).trans KEEP.1,(kc _ _ htl).trans KEEP.2.1,(kc _ _ htl).trans KEEP.2.2⟩
 have htl:tb<V1.heap.size:=Nat.lt_of_lt_of_le htl sV1
 clear kc
 go_wp2_with fail
 refine hK.out _ _ ?_ (fun hHeld=>?_)
 ·((try dsimp only);exact KEEP)
 clear hK K hHold
 try simp only[pu]
 refine rd 15 rfl fun K hK=>?_
 have hHold:=hHeld
 clear hHeld
 go_simp
 have hcl:=grownC t1 (HX.out V1 (unhide GV1)).2.2.2.1 xb xl (HX.out V1 (unhide GV1)).1 (by simp only[List.length_append,List.length_cons];omega)
 refine hcl.mono ?_
 clear hcl
 rintro e V2 ⟨q2,i2,rfl,hq2,gV2,t2⟩
 have sV2:V1.heap.size≤V2.heap.size:=gV2.size
 have GV2:Hid (Below W.heap.size W V2):=(unhide GV1).trans (gV2.mono (by have:=(unhide GV1).size;show W.heap.size≤V1.heap.size;omega))
 have kc:∀k o,k<V1.heap.size→V2.cell? ⟨k,o,none⟩=V1.cell? ⟨k,o,none⟩:=fun k o hk=>World.cell?_of_block (a:=⟨k,o,none⟩) (w:=V1) (gV2.block k hk)
 have KEEP:V2.cell? ⟨tb,0,none⟩=some (.pointer (some ⟨xb,0,none⟩))∧V2.cell? ⟨tb,1,none⟩=some (.pointer lp)∧V2.cell? ⟨tb,2,none⟩=some (.pointer rp):=⟨(kc _ _ htl).trans KEEP.1,(kc _ _ htl).trans KEEP.2.1,(kc _ _ htl).trans KEEP.2.2⟩
 have htl:tb<V2.heap.size:=Nat.lt_of_lt_of_le htl sV2
 clear kc
 go_wp2_with fail
 refine hK.out _ _ ?_ (fun hHeld=>?_)
 ·((try dsimp only);exact KEEP)
 clear hK K hHold
 try simp only[pu]
 refine tk 16 rfl hHeld ?_
 refine wpAnyH_done (by kernel_rfl) ?_ _
 refine NoPanic.normal ?_
 clear hHeld KEEP
 have HF:Hid (Below W.heap.size W V2∧W.heap.size≤q2∧TrL V2 (some ⟨q2,0,none⟩) (Lo++(eb,pl)::(Ll++(xb,xl)::Lr)) i2):=⟨unhide GV2,by omega,by have h:=t2;rw[show(Lo++(eb,pl)::Ll)++(xb,xl)::Lr=Lo++(eb,pl)::(Ll++(xb,xl)::Lr) by simp] at h;exact h⟩
 clear t1 t2 gV1 gV2 GV0 GV1 GV2 HX
 go_wp2_with fail
 all_goals go_ret
 all_goals exact⟨q2,i2,rfl,HF.out.2.1,HF.out.1,HF.out.2.2⟩
theorem leaningLeft_b{W:World}{tb xb eb ub yb:Nat}{xl pl ht yl:Int}{np ulp urp op:Option Addr}{Ln Lul Lur Lo:List (Nat×Int)}{hn hul hur ho:Int}(hb:W.heap[tb]?=some (.cells #[.pointer (some ⟨xb,0,none⟩),.pointer np,.pointer (some ⟨ub,0,none⟩),.int .i64 ht] 145 (0,0)))(hu:W.heap[ub]?=some (.cells #[.pointer (some ⟨yb,0,none⟩),.pointer ulp,.pointer urp,.int .i64 (max hul hur+1)] 145 (0,0)))(hx:W.cell? ⟨xb,0,none⟩=some (.int .i64 xl))(hy:W.cell? ⟨yb,0,none⟩=some (.int .i64 yl))(he:W.cell? ⟨eb,0,none⟩=some (.int .i64 pl))(h1:TrL W np Ln hn)(h2:TrL W ulp Lul hul)(h4:TrL W urp Lur hur)(h3:TrL W op Lo ho)(hnn:Ln.length+Lul.length+Lur.length+Lo.length<4611686018427387900)(hc:hn<max hul hur+1):
  TreeC W 94 #[.pointer (some ⟨tb,0,none⟩),.pointer (some ⟨eb,0,none⟩),.pointer op] ((Ln++(xb,xl)::(Lul++(yb,yl)::Lur))++(eb,pl)::Lo):=by
 unfold TreeC
 have htl:=cell_in (node_cells hb).1
 have hul':=cell_in (node_cells hu).1
 have hxl:=cell_in hx
 have hyl:=cell_in hy
 have hel:=cell_in he
 have GW:Hid (Below W.heap.size W W):=Below.refl _ _
 have HX:Hid (∀V,Below W.heap.size W V→V.cell? ⟨xb,0,none⟩=some (.int .i64 xl)∧V.cell? ⟨eb,0,none⟩=some (.int .i64 pl)∧V.cell? ⟨yb,0,none⟩=some (.int .i64 yl)∧TrL V np Ln hn∧TrL V ulp Lul hul∧TrL V urp Lur hur∧TrL V op Lo ho):=fun V hV=>⟨(hV.cell (p:=⟨xb,0,none⟩) hxl).trans hx,(hV.cell (p:=⟨eb,0,none⟩) hel).trans he,(hV.cell (p:=⟨yb,0,none⟩) hyl).trans hy,h1.below hV,h2.below hV,h4.below hV,h3.below hV⟩
 obtain⟨n0,n1,n2,-⟩:=node_cells hb
 obtain⟨u0,u1,u2,-⟩:=node_cells hu
 have HTN:Hid (∀V,Below W.heap.size W V→Calls Tryz.prog 93 #[.pointer np] V fun e V'=>e=.returned (.int .i64 hn)∧V'=V):=fun V hV=>tall_any (h1.below hV).tall
 have HTF:Hid (∀V,Below W.heap.size W V→Calls Tryz.prog 93 #[.pointer (some ⟨ub,0,none⟩)] V fun e V'=>e=.returned (.int .i64 (max hul hur+1))∧V'=V):=fun V hV=>tall_any ((h2.node h4 hu hy).below hV).tall
 generalize max hul hur+1=uh at *
 clear hb hu hx hy he h1 h2 h3 h4
 go_enter Tryz.func94,Tryz.ntmps94
 go_wp2_with fail
 have KEEP:W.cell? ⟨tb,0,none⟩=some (.pointer (some ⟨xb,0,none⟩))∧W.cell? ⟨tb,1,none⟩=some (.pointer np)∧W.cell? ⟨tb,2,none⟩=some (.pointer (some ⟨ub,0,none⟩)):=⟨n0,n1,n2⟩
 refine wp_region_noPanic ?_
 refine wp_region_held_drew (S:=(fun w'=>w'.cell? ⟨tb,0,none⟩=some (.pointer (some ⟨xb,0,none⟩))∧w'.cell? ⟨tb,1,none⟩=some (.pointer np)∧w'.cell? ⟨tb,2,none⟩=some (.pointer (some ⟨ub,0,none⟩)))) (by kernel_rfl) ?_ (fun hHeld=>?_)
 ·exact KEEP
 refine tk 0 rfl hHeld ?_
 refine tk 1 rfl hHeld ?_
 refine tk 2 rfl hHeld ?_
 refine tk 3 rfl hHeld ?_
 refine tk 5 rfl hHeld ?_
 refine tk 6 rfl hHeld ?_
 refine tk 7 rfl hHeld ?_
 refine tk 8 rfl hHeld ?_
 refine rd 4 rfl fun K hK=>?_
 have hHold:=hHeld
 clear hHeld
 go_simp
 refine(HTN.out W.drew (unhide GW).drew).mono ?_
 rintro e V1 ⟨rfl,rfl⟩
 go_wp2_with fail
 refine hK.out _ _ ?_ (fun hHeld=>?_)
 ·((try dsimp only);exact KEEP)
 clear hK K hHold
 try simp only[pu]
 refine rd 9 rfl fun K hK=>?_
 have hHold:=hHeld
 clear hHeld
 go_simp
 refine(HTF.out W.drew (unhide GW).drew).mono ?_
 rintro e V1 ⟨rfl,rfl⟩
 go_wp2_with fail
 refine hK.out _ _ ?_ (fun hHeld=>?_)
 ·((try dsimp only);exact KEEP)
 clear hK K hHold
 try simp only[pu]
 refine tk 10 rfl hHeld ?_
 refine wpAnyH_done (by kernel_rfl) ?_ _
 refine NoPanic.normal ?_
 clear hHeld KEEP HTN HTF
 have WD:Hid (Below W.heap.size W W.drew):=(Below.refl _ W).drew
 obtain⟨V0,hV0⟩:∃V0,W.drew=V0:=⟨_,rfl⟩
 have s0:V0.heap.size=W.heap.size:=by rw[←hV0];rfl
 rw[hV0] at WD
 have GV0:Hid (Below W.heap.size W V0):=WD.out
 rw[hV0]
 clear WD
 have m0:V0.cell? ⟨tb,0,none⟩=some (.pointer (some ⟨xb,0,none⟩)):=((unhide GV0).cell (p:=⟨tb,0,none⟩) htl).trans n0
 have m1:V0.cell? ⟨tb,1,none⟩=some (.pointer np):=((unhide GV0).cell (p:=⟨tb,1,none⟩) htl).trans n1
 have m2:V0.cell? ⟨tb,2,none⟩=some (.pointer (some ⟨ub,0,none⟩)):=((unhide GV0).cell (p:=⟨tb,2,none⟩) htl).trans n2
 have w0:V0.cell? ⟨ub,0,none⟩=some (.pointer (some ⟨yb,0,none⟩)):=((unhide GV0).cell (p:=⟨ub,0,none⟩) hul').trans u0
 have w1:V0.cell? ⟨ub,1,none⟩=some (.pointer ulp):=((unhide GV0).cell (p:=⟨ub,1,none⟩) hul').trans u1
 have w2:V0.cell? ⟨ub,2,none⟩=some (.pointer urp):=((unhide GV0).cell (p:=⟨ub,2,none⟩) hul').trans u2
 clear n0 n1 n2 u0 u1 u2 hV0
 replace htl:tb<V0.heap.size:=by omega
 replace hul':ub<V0.heap.size:=by omega
 have hge:¬(hn≥uh):=by omega
 clear hc
 go_wp2_with fail
 have KEEP:V0.cell? ⟨tb,0,none⟩=some (.pointer (some ⟨xb,0,none⟩))∧V0.cell? ⟨tb,1,none⟩=some (.pointer np)∧V0.cell? ⟨tb,2,none⟩=some (.pointer (some ⟨ub,0,none⟩))∧V0.cell? ⟨ub,0,none⟩=some (.pointer (some ⟨yb,0,none⟩))∧V0.cell? ⟨ub,1,none⟩=some (.pointer ulp)∧V0.cell? ⟨ub,2,none⟩=some (.pointer urp):=⟨m0,m1,m2,w0,w1,w2⟩
 refine wp_region_noPanic ?_
 refine wp_region_held_drew (S:=(fun w'=>w'.cell? ⟨tb,0,none⟩=some (.pointer (some ⟨xb,0,none⟩))∧w'.cell? ⟨tb,1,none⟩=some (.pointer np)∧w'.cell? ⟨tb,2,none⟩=some (.pointer (some ⟨ub,0,none⟩))∧w'.cell? ⟨ub,0,none⟩=some (.pointer (some ⟨yb,0,none⟩))∧w'.cell? ⟨ub,1,none⟩=some (.pointer ulp)∧w'.cell? ⟨ub,2,none⟩=some (.pointer urp))) (by kernel_rfl) ?_ (fun hHeld=>?_)
 ·exact KEEP
 refine tk 0 rfl hHeld ?_
 refine tk 1 rfl hHeld ?_
 refine tk 2 rfl hHeld ?_
 refine tk 3 rfl hHeld ?_
 refine tk 4 rfl hHeld ?_
 refine tk 5 rfl hHeld ?_
 refine tk 6 rfl hHeld ?_
 refine tk 7 rfl hHeld ?_
 refine tk 8 rfl hHeld ?_
 refine tk 9 rfl hHeld ?_
 refine tk 10 rfl hHeld ?_
 refine tk 11 rfl hHeld ?_
 refine tk 13 rfl hHeld ?_
 refine tk 14 rfl hHeld ?_
 refine tk 15 rfl hHeld ?_
 refine tk 16 rfl hHeld ?_
 refine tk 17 rfl hHeld ?_
 refine tk 18 rfl hHeld ?_
 refine tk 19 rfl hHeld ?_
 refine tk 20 rfl hHeld ?_
 refine tk 21 rfl hHeld ?_
 refine tk 22 rfl hHeld ?_
 refine rd 12 rfl fun K hK=>?_
 have hHold:=hHeld
 clear hHeld
 go_simp
 have hcl:=grownC (HX.out V0.drew (unhide GV0).drew).2.2.2.1 (HX.out V0.drew (unhide GV0).drew).2.2.2.2.1 xb xl (HX.out V0.drew (unhide GV0).drew).1 (by omega)
 refine hcl.mono ?_
 clear hcl
 rintro e V1 ⟨q1,i1,rfl,hq1,gV1,t1⟩
 have sV1:V0.heap.size≤V1.heap.size:=gV1.size
 have GV1:Hid (Below W.heap.size W V1):=(unhide GV0).drew.trans (gV1.mono (by have:=(unhide GV0).size;show W.heap.size≤V0.heap.size;omega))
 have kc:∀k o,k<V0.heap.size→V1.cell? ⟨k,o,none⟩=V0.cell? ⟨k,o,none⟩:=fun k o hk=>World.cell?_of_block (a:=⟨k,o,none⟩) (w:=V0) (gV1.block k hk)
 have KEEP:V1.cell? ⟨tb,0,none⟩=some (.pointer (some ⟨xb,0,none⟩))∧V1.cell? ⟨tb,1,none⟩=some (.pointer np)∧V1.cell? ⟨tb,2,none⟩=some (.pointer (some ⟨ub,0,none⟩))∧V1.cell? ⟨ub,0,none⟩=some (.pointer (some ⟨yb,0,none⟩))∧V1.cell? ⟨ub,1,none⟩=some (.pointer ulp)∧V1.cell? ⟨ub,2,none⟩=some (.pointer urp):=⟨(kc _ _ htl).trans KEEP.1,(kc _ _ htl).trans KEEP.2.1,(kc _ _ htl).trans KEEP.2.2.1,(kc _ _ hul').trans KEEP.2.2.2.1,(kc _ _ hul').trans KEEP.2.2.2.2.1,(kc _ _ hul').trans KEEP.2.2.2.2.2⟩
 have htl:tb<V1.heap.size:=Nat.lt_of_lt_of_le htl sV1
 have hul':ub<V1.heap.size:=Nat.lt_of_lt_of_le hul' sV1
 clear kc
 go_wp2_with fail
 refine hK.out _ _ ?_ (fun hHeld=>?_)
 ·((try dsimp only);exact KEEP)
 clear hK K hHold
 try simp only[pu]
 refine rd 23 rfl fun K hK=>?_
 have hHold:=hHeld
 clear hHeld
 go_simp
 have hcl:=grownC (HX.out V1 (unhide GV1)).2.2.2.2.2.1 (HX.out V1 (unhide GV1)).2.2.2.2.2.2 eb pl (HX.out V1 (unhide GV1)).2.1 (by omega)
 refine hcl.mono ?_
 clear hcl
 rintro e V2 ⟨q2,i2,rfl,hq2,gV2,t2⟩
 have sV2:V1.heap.size≤V2.heap.size:=gV2.size
 have GV2:Hid (Below W.heap.size W V2):=(unhide GV1).trans (gV2.mono (by have:=(unhide GV1).size;show W.heap.size≤V1.heap.size;omega))
 have kc:∀k o,k<V1.heap.size→V2.cell? ⟨k,o,none⟩=V1.cell? ⟨k,o,none⟩:=fun k o hk=>World.cell?_of_block (a:=⟨k,o,none⟩) (w:=V1) (gV2.block k hk)
 have KEEP:V2.cell? ⟨tb,0,none⟩=some (.pointer (some ⟨xb,0,none⟩))∧V2.cell? ⟨tb,1,none⟩=some (.pointer np)∧V2.cell? ⟨tb,2,none⟩=some (.pointer (some ⟨ub,0,none⟩))∧V2.cell? ⟨ub,0,none⟩=some (.pointer (some ⟨yb,0,none⟩))∧V2.cell? ⟨ub,1,none⟩=some (.pointer ulp)∧V2.cell? ⟨ub,2,none⟩=some (.pointer urp):=⟨(kc _ _ htl).trans KEEP.1,(kc _ _ htl).trans KEEP.2.1,(kc _ _ htl).trans KEEP.2.2.1,(kc _ _ hul').trans KEEP.2.2.2.1,(kc _ _ hul').trans KEEP.2.2.2.2.1,(kc _ _ hul').trans KEEP.2.2.2.2.2⟩
 have htl:tb<V2.heap.size:=Nat.lt_of_lt_of_le htl sV2
 have hul':ub<V2.heap.size:=Nat.lt_of_lt_of_le hul' sV2
 clear kc
 have t1:=t1.below gV2
 go_wp2_with fail
 refine hK.out _ _ ?_ (fun hHeld=>?_)
 ·((try dsimp only);exact KEEP)
 clear hK K hHold
 try simp only[pu]
 refine rd 24 rfl fun K hK=>?_
 have hHold:=hHeld
 clear hHeld
 go_simp
 have hcl:=grownC t1 t2 yb yl (HX.out V2 (unhide GV2)).2.2.1 (by simp only[List.length_append,List.length_cons];omega)
 refine hcl.mono ?_
 clear hcl
 rintro e V3 ⟨q3,i3,rfl,hq3,gV3,t3⟩
 have sV3:V2.heap.size≤V3.heap.size:=gV3.size
 have GV3:Hid (Below W.heap.size W V3):=(unhide GV2).trans (gV3.mono (by have:=(unhide GV2).size;show W.heap.size≤V2.heap.size;omega))
 have kc:∀k o,k<V2.heap.size→V3.cell? ⟨k,o,none⟩=V2.cell? ⟨k,o,none⟩:=fun k o hk=>World.cell?_of_block (a:=⟨k,o,none⟩) (w:=V2) (gV3.block k hk)
 have KEEP:V3.cell? ⟨tb,0,none⟩=some (.pointer (some ⟨xb,0,none⟩))∧V3.cell? ⟨tb,1,none⟩=some (.pointer np)∧V3.cell? ⟨tb,2,none⟩=some (.pointer (some ⟨ub,0,none⟩))∧V3.cell? ⟨ub,0,none⟩=some (.pointer (some ⟨yb,0,none⟩))∧V3.cell? ⟨ub,1,none⟩=some (.pointer ulp)∧V3.cell? ⟨ub,2,none⟩=some (.pointer urp):=⟨(kc _ _ htl).trans KEEP.1,(kc _ _ htl).trans KEEP.2.1,(kc _ _ htl).trans KEEP.2.2.1,(kc _ _ hul').trans KEEP.2.2.2.1,(kc _ _ hul').trans KEEP.2.2.2.2.1,(kc _ _ hul').trans KEEP.2.2.2.2.2⟩
 have htl:tb<V3.heap.size:=Nat.lt_of_lt_of_le htl sV3
 have hul':ub<V3.heap.size:=Nat.lt_of_lt_of_le hul' sV3
 clear kc
 go_wp2_with fail
 refine hK.out _ _ ?_ (fun hHeld=>?_)
 ·((try dsimp only);exact KEEP)
 clear hK K hHold
 try simp only[pu]
 refine tk 25 rfl hHeld ?_
 refine wpAnyH_done (by kernel_rfl) ?_ _
 refine NoPanic.normal ?_
 clear hHeld KEEP
 have HF:Hid (Below W.heap.size W V3∧W.heap.size≤q3∧TrL V3 (some ⟨q3,0,none⟩) ((Ln++(xb,xl)::(Lul++(yb,yl)::Lur))++(eb,pl)::Lo) i3):=⟨unhide GV3,by omega,by have h:=t3;rw[show(Ln++(xb,xl)::Lul)++(yb,yl)::(Lur++(eb,pl)::Lo)=(Ln++(xb,xl)::(Lul++(yb,yl)::Lur))++(eb,pl)::Lo by simp] at h;exact h⟩
 clear t1 t2 t3 gV1 gV2 gV3 GV0 GV1 GV2 GV3 HX
 go_wp2_with fail
 all_goals go_ret
 all_goals exact⟨q3,i3,rfl,HF.out.2.1,HF.out.1,HF.out.2.2⟩
theorem leaningLeft_any{W:World}{tp op:Option Addr}{eb:Nat}{pl:Int}{Lt Lo:List (Nat×Int)}{ht ho:Int}(h1:TrL W tp Lt ht)(h3:TrL W op Lo ho)(he:W.cell? ⟨eb,0,none⟩=some (.int .i64 pl))(hn:Lt.length+Lo.length<4611686018427387900)(hc:1≤ht):TreeC W 94 #[.pointer tp,.pointer (some ⟨eb,0,none⟩),.pointer op] (Lt++(eb,pl)::Lo):=by
 rcases h1.cases with⟨_,_,rfl⟩ | ⟨tb,xb,xl,lp,rp,Ll,Lr,hl,hr,rfl,hb,hx,k1,k2,rfl,rfl⟩
 ·omega
 ·rw[len_cons] at hn
  by_cases hle:hr≤hl
  ·exact leaningLeft_a hb hx he k1 k2 h3 (by omega) hle
  ·rcases k2.cases with⟨_,_,rfl⟩ | ⟨ub,yb,yl,ulp,urp,Lul,Lur,hul,hur,rfl,hu,hy,m1,m2,rfl,rfl⟩
   ·have:=k1.ht;omega
   ·rw[len_cons] at hn
    exact leaningLeft_b hb hu hx hy he k1 m1 m2 h3 (by omega) (by omega)
theorem leaningRight_b{W:World}{tb xb eb ub yb:Nat}{xl pl ht yl:Int}{np ulp urp op:Option Addr}{Ln Lul Lur Lo:List (Nat×Int)}{hn hul hur ho:Int}(hb:W.heap[tb]?=some (.cells #[.pointer (some ⟨xb,0,none⟩),.pointer (some ⟨ub,0,none⟩),.pointer np,.int .i64 ht] 145 (0,0)))(hu:W.heap[ub]?=some (.cells #[.pointer (some ⟨yb,0,none⟩),.pointer ulp,.pointer urp,.int .i64 (max hul hur+1)] 145 (0,0)))(hx:W.cell? ⟨xb,0,none⟩=some (.int .i64 xl))(hy:W.cell? ⟨yb,0,none⟩=some (.int .i64 yl))(he:W.cell? ⟨eb,0,none⟩=some (.int .i64 pl))(h1:TrL W np Ln hn)(h2:TrL W ulp Lul hul)(h4:TrL W urp Lur hur)(h3:TrL W op Lo ho)(hnn:Ln.length+Lul.length+Lur.length+Lo.length<4611686018427387900)(hc:hn<max hul hur+1):
  TreeC W 95 #[.pointer op,.pointer (some ⟨eb,0,none⟩),.pointer (some ⟨tb,0,none⟩)] (Lo++(eb,pl)::((Lul++(yb,yl)::Lur)++(xb,xl)::Ln)):=by
 unfold TreeC
 have htl:=cell_in (node_cells hb).1
 have hul':=cell_in (node_cells hu).1
 have hxl:=cell_in hx
 have hyl:=cell_in hy
 have hel:=cell_in he
 have GW:Hid (Below W.heap.size W W):=Below.refl _ _
 have HX:Hid (∀V,Below W.heap.size W V→V.cell? ⟨xb,0,none⟩=some (.int .i64 xl)∧V.cell? ⟨eb,0,none⟩=some (.int .i64 pl)∧V.cell? ⟨yb,0,none⟩=some (.int .i64 yl)∧TrL V np Ln hn∧TrL V ulp Lul hul∧TrL V urp Lur hur∧TrL V op Lo ho):=fun V hV=>⟨(hV.cell (p:=⟨xb,0,none⟩) hxl).trans hx,(hV.cell (p:=⟨eb,0,none⟩) hel).trans he,(hV.cell (p:=⟨yb,0,none⟩) hyl).trans hy,h1.below hV,h2.below hV,h4.below hV,h3.below hV⟩
 obtain⟨n0,n1,n2,-⟩:=node_cells hb
 obtain⟨u0,u1,u2,-⟩:=node_cells hu
 have HTN:Hid (∀V,Below W.heap.size W V→Calls Tryz.prog 93 #[.pointer np] V fun e V'=>e=.returned (.int .i64 hn)∧V'=V):=fun V hV=>tall_any (h1.below hV).tall
 have HTF:Hid (∀V,Below W.heap.size W V→Calls Tryz.prog 93 #[.pointer (some ⟨ub,0,none⟩)] V fun e V'=>e=.returned (.int .i64 (max hul hur+1))∧V'=V):=fun V hV=>tall_any ((h2.node h4 hu hy).below hV).tall
 generalize max hul hur+1=uh at *
 clear hb hu hx hy he h1 h2 h3 h4
 go_enter Tryz.func95,Tryz.ntmps95
 go_wp2_with fail
 have KEEP:W.cell? ⟨tb,0,none⟩=some (.pointer (some ⟨xb,0,none⟩))∧W.cell? ⟨tb,1,none⟩=some (.pointer (some ⟨ub,0,none⟩))∧W.cell? ⟨tb,2,none⟩=some (.pointer np):=⟨n0,n1,n2⟩
 refine wp_region_noPanic ?_
 refine wp_region_held_drew (S:=(fun w'=>w'.cell? ⟨tb,0,none⟩=some (.pointer (some ⟨xb,0,none⟩))∧w'.cell? ⟨tb,1,none⟩=some (.pointer (some ⟨ub,0,none⟩))∧w'.cell? ⟨tb,2,none⟩=some (.pointer np))) (by kernel_rfl) ?_ (fun hHeld=>?_)
 ·exact KEEP
 refine tk 0 rfl hHeld ?_
 refine tk 1 rfl hHeld ?_
 refine tk 2 rfl hHeld ?_
 refine tk 3 rfl hHeld ?_
 refine tk 5 rfl hHeld ?_
 refine tk 6 rfl hHeld ?_
 refine tk 7 rfl hHeld ?_
 refine tk 8 rfl hHeld ?_
 refine rd 4 rfl fun K hK=>?_
 have hHold:=hHeld
 clear hHeld
 go_simp
 refine(HTN.out W.drew (unhide GW).drew).mono ?_
 rintro e V1 ⟨rfl,rfl⟩
 go_wp2_with fail
 refine hK.out _ _ ?_ (fun hHeld=>?_)
 ·((try dsimp only);exact KEEP)
 clear hK K hHold
 try simp only[pu]
 refine rd 9 rfl fun K hK=>?_
 have hHold:=hHeld
 clear hHeld
 go_simp
 refine(HTF.out W.drew (unhide GW).drew).mono ?_
 rintro e V1 ⟨rfl,rfl⟩
 go_wp2_with fail
 refine hK.out _ _ ?_ (fun hHeld=>?_)
 ·((try dsimp only);exact KEEP)
 clear hK K hHold
 try simp only[pu]
 refine tk 10 rfl hHeld ?_
 refine wpAnyH_done (by kernel_rfl) ?_ _
 refine NoPanic.normal ?_
 clear hHeld KEEP HTN HTF
 have WD:Hid (Below W.heap.size W W.drew):=(Below.refl _ W).drew
 obtain⟨V0,hV0⟩:∃V0,W.drew=V0:=⟨_,rfl⟩
 have s0:V0.heap.size=W.heap.size:=by rw[←hV0];rfl
 rw[hV0] at WD
 have GV0:Hid (Below W.heap.size W V0):=WD.out
 rw[hV0]
 clear WD
 have m0:V0.cell? ⟨tb,0,none⟩=some (.pointer (some ⟨xb,0,none⟩)):=((unhide GV0).cell (p:=⟨tb,0,none⟩) htl).trans n0
 have m1:V0.cell? ⟨tb,1,none⟩=some (.pointer (some ⟨ub,0,none⟩)):=((unhide GV0).cell (p:=⟨tb,1,none⟩) htl).trans n1
 have m2:V0.cell? ⟨tb,2,none⟩=some (.pointer np):=((unhide GV0).cell (p:=⟨tb,2,none⟩) htl).trans n2
 have w0:V0.cell? ⟨ub,0,none⟩=some (.pointer (some ⟨yb,0,none⟩)):=((unhide GV0).cell (p:=⟨ub,0,none⟩) hul').trans u0
 have w1:V0.cell? ⟨ub,1,none⟩=some (.pointer ulp):=((unhide GV0).cell (p:=⟨ub,1,none⟩) hul').trans u1
 have w2:V0.cell? ⟨ub,2,none⟩=some (.pointer urp):=((unhide GV0).cell (p:=⟨ub,2,none⟩) hul').trans u2
 clear n0 n1 n2 u0 u1 u2 hV0
 replace htl:tb<V0.heap.size:=by omega
 replace hul':ub<V0.heap.size:=by omega
 have hge:¬(hn≥uh):=by omega
 clear hc
 go_wp2_with fail
 have KEEP:V0.cell? ⟨tb,0,none⟩=some (.pointer (some ⟨xb,0,none⟩))∧V0.cell? ⟨tb,1,none⟩=some (.pointer (some ⟨ub,0,none⟩))∧V0.cell? ⟨tb,2,none⟩=some (.pointer np)∧V0.cell? ⟨ub,0,none⟩=some (.pointer (some ⟨yb,0,none⟩))∧V0.cell? ⟨ub,1,none⟩=some (.pointer ulp)∧V0.cell? ⟨ub,2,none⟩=some (.pointer urp):=⟨m0,m1,m2,w0,w1,w2⟩
 refine wp_region_noPanic ?_
 refine wp_region_held_drew (S:=(fun w'=>w'.cell? ⟨tb,0,none⟩=some (.pointer (some ⟨xb,0,none⟩))∧w'.cell? ⟨tb,1,none⟩=some (.pointer (some ⟨ub,0,none⟩))∧w'.cell? ⟨tb,2,none⟩=some (.pointer np)∧w'.cell? ⟨ub,0,none⟩=some (.pointer (some ⟨yb,0,none⟩))∧w'.cell? ⟨ub,1,none⟩=some (.pointer ulp)∧w'.cell? ⟨ub,2,none⟩=some (.pointer urp))) (by kernel_rfl) ?_ (fun hHeld=>?_)
 ·exact KEEP
 refine tk 0 rfl hHeld ?_
 refine tk 1 rfl hHeld ?_
 refine tk 2 rfl hHeld ?_
 refine tk 3 rfl hHeld ?_
 refine tk 4 rfl hHeld ?_
 refine tk 5 rfl hHeld ?_
 refine tk 7 rfl hHeld ?_
 refine tk 8 rfl hHeld ?_
 refine tk 9 rfl hHeld ?_
 refine tk 10 rfl hHeld ?_
 refine tk 11 rfl hHeld ?_
 refine tk 12 rfl hHeld ?_
 refine tk 13 rfl hHeld ?_
 refine tk 14 rfl hHeld ?_
 refine tk 15 rfl hHeld ?_
 refine tk 16 rfl hHeld ?_
 refine tk 17 rfl hHeld ?_
 refine tk 18 rfl hHeld ?_
 refine tk 19 rfl hHeld ?_
 refine tk 20 rfl hHeld ?_
 refine tk 21 rfl hHeld ?_
 refine tk 22 rfl hHeld ?_
 refine rd 6 rfl fun K hK=>?_
 have hHold:=hHeld
 clear hHeld
 go_simp
 have hcl:=grownC (HX.out V0.drew (unhide GV0).drew).2.2.2.2.2.2 (HX.out V0.drew (unhide GV0).drew).2.2.2.2.1 eb pl (HX.out V0.drew (unhide GV0).drew).2.1 (by omega)
 refine hcl.mono ?_
 clear hcl
 rintro e V1 ⟨q1,i1,rfl,hq1,gV1,t1⟩
 have sV1:V0.heap.size≤V1.heap.size:=gV1.size
 have GV1:Hid (Below W.heap.size W V1):=(unhide GV0).drew.trans (gV1.mono (by have:=(unhide GV0).size;show W.heap.size≤V0.heap.size;omega))
 have kc:∀k o,k<V0.heap.size→V1.cell? ⟨k,o,none⟩=V0.cell? ⟨k,o,none⟩:=fun k o hk=>World.cell?_of_block (a:=⟨k,o,none⟩) (w:=V0) (gV1.block k hk)
 have KEEP:V1.cell? ⟨tb,0,none⟩=some (.pointer (some ⟨xb,0,none⟩))∧V1.cell? ⟨tb,1,none⟩=some (.pointer (some ⟨ub,0,none⟩))∧V1.cell? ⟨tb,2,none⟩=some (.pointer np)∧V1.cell? ⟨ub,0,none⟩=some (.pointer (some ⟨yb,0,none⟩))∧V1.cell? ⟨ub,1,none⟩=some (.pointer ulp)∧V1.cell? ⟨ub,2,none⟩=some (.pointer urp):=⟨(kc _ _ htl).trans KEEP.1,(kc _ _ htl).trans KEEP.2.1,(kc _ _ htl).trans KEEP.2.2.1,(kc _ _ hul').trans KEEP.2.2.2.1,(kc _ _ hul').trans KEEP.2.2.2.2.1,(kc _ _ hul').trans KEEP.2.2.2.2.2⟩
 have htl:tb<V1.heap.size:=Nat.lt_of_lt_of_le htl sV1
 have hul':ub<V1.heap.size:=Nat.lt_of_lt_of_le hul' sV1
 clear kc
 go_wp2_with fail
 refine hK.out _ _ ?_ (fun hHeld=>?_)
 ·((try dsimp only);exact KEEP)
 clear hK K hHold
 try simp only[pu]
 refine rd 23 rfl fun K hK=>?_
 have hHold:=hHeld
 clear hHeld
 go_simp
 have hcl:=grownC (HX.out V1 (unhide GV1)).2.2.2.2.2.1 (HX.out V1 (unhide GV1)).2.2.2.1 xb xl (HX.out V1 (unhide GV1)).1 (by omega)
 refine hcl.mono ?_
 clear hcl
 rintro e V2 ⟨q2,i2,rfl,hq2,gV2,t2⟩
 have sV2:V1.heap.size≤V2.heap.size:=gV2.size
 have GV2:Hid (Below W.heap.size W V2):=(unhide GV1).trans (gV2.mono (by have:=(unhide GV1).size;show W.heap.size≤V1.heap.size;omega))
 have kc:∀k o,k<V1.heap.size→V2.cell? ⟨k,o,none⟩=V1.cell? ⟨k,o,none⟩:=fun k o hk=>World.cell?_of_block (a:=⟨k,o,none⟩) (w:=V1) (gV2.block k hk)
 have KEEP:V2.cell? ⟨tb,0,none⟩=some (.pointer (some ⟨xb,0,none⟩))∧V2.cell? ⟨tb,1,none⟩=some (.pointer (some ⟨ub,0,none⟩))∧V2.cell? ⟨tb,2,none⟩=some (.pointer np)∧V2.cell? ⟨ub,0,none⟩=some (.pointer (some ⟨yb,0,none⟩))∧V2.cell? ⟨ub,1,none⟩=some (.pointer ulp)∧V2.cell? ⟨ub,2,none⟩=some (.pointer urp):=⟨(kc _ _ htl).trans KEEP.1,(kc _ _ htl).trans KEEP.2.1,(kc _ _ htl).trans KEEP.2.2.1,(kc _ _ hul').trans KEEP.2.2.2.1,(kc _ _ hul').trans KEEP.2.2.2.2.1,(kc _ _ hul').trans KEEP.2.2.2.2.2⟩
 have htl:tb<V2.heap.size:=Nat.lt_of_lt_of_le htl sV2
 have hul':ub<V2.heap.size:=Nat.lt_of_lt_of_le hul' sV2
 clear kc
 have t1:=t1.below gV2
 go_wp2_with fail
 refine hK.out _ _ ?_ (fun hHeld=>?_)
 ·((try dsimp only);exact KEEP)
 clear hK K hHold
 try simp only[pu]
 refine rd 24 rfl fun K hK=>?_
 have hHold:=hHeld
 clear hHeld
 go_simp
 have hcl:=grownC t1 t2 yb yl (HX.out V2 (unhide GV2)).2.2.1 (by simp only[List.length_append,List.length_cons];omega)
 refine hcl.mono ?_
 clear hcl
 rintro e V3 ⟨q3,i3,rfl,hq3,gV3,t3⟩
 have sV3:V2.heap.size≤V3.heap.size:=gV3.size
 have GV3:Hid (Below W.heap.size W V3):=(unhide GV2).trans (gV3.mono (by have:=(unhide GV2).size;show W.heap.size≤V2.heap.size;omega))
 have kc:∀k o,k<V2.heap.size→V3.cell? ⟨k,o,none⟩=V2.cell? ⟨k,o,none⟩:=fun k o hk=>World.cell?_of_block (a:=⟨k,o,none⟩) (w:=V2) (gV3.block k hk)
 have KEEP:V3.cell? ⟨tb,0,none⟩=some (.pointer (some ⟨xb,0,none⟩))∧V3.cell? ⟨tb,1,none⟩=some (.pointer (some ⟨ub,0,none⟩))∧V3.cell? ⟨tb,2,none⟩=some (.pointer np)∧V3.cell? ⟨ub,0,none⟩=some (.pointer (some ⟨yb,0,none⟩))∧V3.cell? ⟨ub,1,none⟩=some (.pointer ulp)∧V3.cell? ⟨ub,2,none⟩=some (.pointer urp):=⟨(kc _ _ htl).trans KEEP.1,(kc _ _ htl).trans KEEP.2.1,(kc _ _ htl).trans KEEP.2.2.1,(kc _ _ hul').trans KEEP.2.2.2.1,(kc _ _ hul').trans KEEP.2.2.2.2.1,(kc _ _ hul').trans KEEP.2.2.2.2.2⟩
 have htl:tb<V3.heap.size:=Nat.lt_of_lt_of_le htl sV3
 have hul':ub<V3.heap.size:=Nat.lt_of_lt_of_le hul' sV3
 clear kc
 go_wp2_with fail
 refine hK.out _ _ ?_ (fun hHeld=>?_)
 ·((try dsimp only);exact KEEP)
 clear hK K hHold
 try simp only[pu]
 refine tk 25 rfl hHeld ?_
 refine wpAnyH_done (by kernel_rfl) ?_ _
 refine NoPanic.normal ?_
 clear hHeld KEEP
 have HF:Hid (Below W.heap.size W V3∧W.heap.size≤q3∧TrL V3 (some ⟨q3,0,none⟩) (Lo++(eb,pl)::((Lul++(yb,yl)::Lur)++(xb,xl)::Ln)) i3):=⟨unhide GV3,by omega,by have h:=t3;rw[show(Lo++(eb,pl)::Lul)++(yb,yl)::(Lur++(xb,xl)::Ln)=Lo++(eb,pl)::((Lul++(yb,yl)::Lur)++(xb,xl)::Ln) by simp] at h;exact h⟩
 clear t1 t2 t3 gV1 gV2 gV3 GV0 GV1 GV2 GV3 HX
 go_wp2_with fail
 all_goals go_ret
 all_goals exact⟨q3,i3,rfl,HF.out.2.1,HF.out.1,HF.out.2.2⟩
theorem leaningRight_any{W:World}{tp op:Option Addr}{eb:Nat}{pl:Int}{Lt Lo:List (Nat×Int)}{ht ho:Int}(h1:TrL W tp Lt ht)(h3:TrL W op Lo ho)(he:W.cell? ⟨eb,0,none⟩=some (.int .i64 pl))(hn:Lt.length+Lo.length<4611686018427387900)(hc:1≤ht):TreeC W 95 #[.pointer op,.pointer (some ⟨eb,0,none⟩),.pointer tp] (Lo++(eb,pl)::Lt):=by
 rcases h1.cases with⟨_,_,rfl⟩ | ⟨tb,xb,xl,lp,rp,Ll,Lr,hl,hr,rfl,hb,hx,k1,k2,rfl,rfl⟩
 ·omega
 ·rw[len_cons] at hn
  by_cases hle:hl≤hr
  ·exact leaningRight_a hb hx he k1 k2 h3 (by omega) hle
  ·rcases k1.cases with⟨_,_,rfl⟩ | ⟨ub,yb,yl,ulp,urp,Lul,Lur,hul,hur,rfl,hu,hy,m1,m2,rfl,rfl⟩
   ·have:=k2.ht;omega
   ·rw[len_cons] at hn
    exact leaningRight_b hb hu hx hy he k2 m1 m2 h3 (by omega) (by omega)
theorem balanced_any{W:World}{lp rp:Option Addr}{eb:Nat}{pl:Int}{Ll Lr:List (Nat×Int)}{hl hr:Int}(h1:TrL W lp Ll hl)(h2:TrL W rp Lr hr)(he:W.cell? ⟨eb,0,none⟩=some (.int .i64 pl))(hn:Ll.length+Lr.length<4611686018427387900):TreeC W 71 #[.pointer lp,.pointer (some ⟨eb,0,none⟩),.pointer rp] (Ll++(eb,pl)::Lr):=by
 have b1:=h1.ht
 have b2:=h2.ht
 have t1:=tall_any h1.tall
 have t2:=tall_any h2.tall
 have w1:wrap64 (hr+1)=hr+1:=by unfold wrap64;omega
 have w2:wrap64 (hl+1)=hl+1:=by unfold wrap64;omega
 by_cases c1:hr+1<hl
 ·have hx:=leaningLeft_any h1 h2 he hn (by omega)
  unfold TreeC at hx⊢
  clear h1 h2 he b1 b2 w2
  have c1':hl>hr+1:=c1
  go_enter Tryz.func71,Tryz.ntmps71
  go_wp2_with fail
  refine t1.mono ?_
  rintro e V1 ⟨rfl,rfl⟩
  go_wp2_with fail
  refine t2.mono ?_
  rintro e V2 ⟨rfl,rfl⟩
  go_wp2_with fail
  refine hx.mono ?_
  rintro e V3 ⟨q,h,rfl,k1,k2,k3⟩
  have HF:=hide (And.intro k1 (And.intro k2 k3))
  clear k1 k2 k3 hx t1 t2
  go_wp2_with fail
  all_goals go_ret
  all_goals exact⟨q,h,rfl,HF.out⟩
 ·have c1':¬(hl>hr+1):=c1
  by_cases c2:hl+1<hr
  ·have hx:=leaningRight_any h2 h1 he (by omega) (by omega)
   unfold TreeC at hx⊢
   clear h1 h2 he b1 b2 c1
   have c2':hr>hl+1:=c2
   go_enter Tryz.func71,Tryz.ntmps71
   go_wp2_with fail
   refine t1.mono ?_
   rintro e V1 ⟨rfl,rfl⟩
   go_wp2_with fail
   refine t2.mono ?_
   rintro e V2 ⟨rfl,rfl⟩
   go_wp2_with fail
   refine t2.mono ?_
   rintro e V1 ⟨rfl,rfl⟩
   go_wp2_with fail
   refine t1.mono ?_
   rintro e V2 ⟨rfl,rfl⟩
   go_wp2_with fail
   refine hx.mono ?_
   rintro e V3 ⟨q,h,rfl,k1,k2,k3⟩
   have HF:=hide (And.intro k1 (And.intro k2 k3))
   clear k1 k2 k3 hx t1 t2
   go_wp2_with fail
   all_goals go_ret
   all_goals exact⟨q,h,rfl,HF.out⟩
  ·have hx:=grownC h1 h2 eb pl he (by omega)
   have c2':¬(hr>hl+1):=c2
   unfold TreeC at hx⊢
   clear h1 h2 he b1 b2 c1 c2
   go_enter Tryz.func71,Tryz.ntmps71
   go_wp2_with fail
   refine t1.mono ?_
   rintro e V1 ⟨rfl,rfl⟩
   go_wp2_with fail
   refine t2.mono ?_
   rintro e V2 ⟨rfl,rfl⟩
   go_wp2_with fail
   refine t2.mono ?_
   rintro e V1 ⟨rfl,rfl⟩
   go_wp2_with fail
   refine t1.mono ?_
   rintro e V2 ⟨rfl,rfl⟩
   go_wp2_with fail
   refine hx.mono ?_
   rintro e V3 ⟨q,h,rfl,k1,k2,k3⟩
   have HF:=hide (And.intro k1 (And.intro k2 k3))
   clear k1 k2 k3 hx t1 t2
   go_wp2_with fail
   all_goals go_ret
   all_goals exact⟨q,h,rfl,HF.out⟩
end Go.Proofs.YteaiefjmcinljaaGreatDoor
