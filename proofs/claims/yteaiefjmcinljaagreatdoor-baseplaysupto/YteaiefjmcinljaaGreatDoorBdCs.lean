import Derived.Test.YteaiefjmcinljaaGreatDoorTks
import Derived.Test.YteaiefjmcinljaaGreatDoorBdB
namespace Go.Proofs.YteaiefjmcinljaaGreatDoor
set_option maxHeartbeats 4000000
set_option maxRecDepth 100000
open Go.RowKit Go.Shelf Go.Maps
/-- Rising by place. -/
def Srt(L:List (Nat×Int)):Prop:=L.Pairwise (fun a b=>a.2<b.2)
theorem srt_node{Ll Lr:List (Nat×Int)}{x:Nat×Int}(h:Srt (Ll++x::Lr)):Srt Ll∧Srt Lr∧(∀y∈Ll,y.2<x.2)∧(∀y∈Lr,x.2<y.2)∧∀y∈Ll,∀z∈Lr,y.2<z.2:=by
 unfold Srt at h
 rw[List.pairwise_append,List.pairwise_cons] at h
 exact⟨h.1,h.2.1.2,fun y hy=>h.2.2 y hy x (by simp),h.2.1.1,fun y hy z hz=>h.2.2 y hy z (by simp[hz])⟩
theorem find_none{L:List (Nat×Int)}{p:Int}(h:∀y∈L,y.2≤p):L.find? (fun x=>decide (p<x.2))=none:=by
 rw[List.find?_eq_none]
 intro y hy
 have:=h y hy
 simp
 omega
theorem afterT_find:∀{n:Nat} (t:Tr n) (p:Int) (f:Option Nat),Srt (entsT t)→afterT t p f=match(entsT t).find? (fun x=>decide (p<x.2)) with | some x=>some x.1 | none=>f:=by
 intro n
 induction n with
 | zero=>intro t p f _;rfl
 | succ n ih=>
  intro t p f hs
  match t,hs with
  | none,_=>rfl
  | some (tb,eb,pl,ht,l,r),hs=>
   have hs':Srt (entsT l++(eb,pl)::entsT r):=hs
   obtain⟨s1,s2,s3,s4,_⟩:=srt_node hs'
   show(if p<pl then afterT l p (some eb) else afterT r p f)=match(entsT l++(eb,pl)::entsT r).find? (fun x=>decide (p<x.2)) with | some x=>some x.1 | none=>f
   rw[List.find?_append]
   by_cases hp:p<pl
   ·rw[if_pos hp,ih l p (some eb) s1,List.find?_cons_of_pos (by simpa using hp)]
    cases hq:(entsT l).find? (fun x=>decide (p<x.2)) with
    | none=>rfl
    | some x=>rfl
   ·rw[if_neg hp,ih r p f s2,find_none (L:=entsT l) (fun y hy=>by have:=s3 y hy;omega),List.find?_cons_of_neg (by simpa using hp)]
    rfl
/-- The entry behind a place. -/
def nextE(L:List (Nat×Int))(p:Int):Option (Nat×Int):=L.find? (fun x=>decide (p<x.2))
theorem afterL{W:World}{p:Option Addr}{L:List (Nat×Int)}{h:Int}(ht:TrL W p L h)(hs:Srt L)(pl:Int):Calls Tryz.prog 51 #[.pointer p,.int .i64 pl] W fun e W'=>e=.returned (ptrE ((nextE L pl).map (·.1)))∧Below W.heap.size W W':=by
 obtain⟨N,k⟩:=ht
 obtain⟨t,h1,_,h3,_⟩:=k N (Nat.le_refl _)
 have h:=after_any t p pl W h1
 rw[afterT_find t pl none (by rw[h3];exact hs),h3] at h
 unfold nextE
 cases hq:L.find? (fun x=>decide (pl<x.2)) with
 | none=>rw[hq] at h;exact h
 | some x=>rw[hq] at h;exact h
/-- One more, where it belongs. -/
def insL(L:List (Nat×Int))(x:Nat×Int):List (Nat×Int):=L.filter (fun y=>decide (y.2<x.2))++x::L.filter (fun y=>decide (x.2≤y.2))
theorem insL_len(L:List (Nat×Int))(x:Nat×Int):(insL L x).length=L.length+1:=by
 unfold insL
 rw[List.length_append,List.length_cons]
 induction L with
 | nil=>rfl
 | cons y L ih=>
  by_cases h:y.2<x.2
  ·rw[List.filter_cons_of_pos (by simpa using h),List.filter_cons_of_neg (by simp;omega)]
   simp only[List.length_cons]
   omega
  ·rw[List.filter_cons_of_neg (by simpa using h),List.filter_cons_of_pos (by simp;omega)]
   simp only[List.length_cons]
   omega
theorem filter_all'{L:List (Nat×Int)}{f:Nat×Int→Bool}(h:∀y∈L,f y=true):L.filter f=L:=List.filter_eq_self.2 h
theorem filter_no{L:List (Nat×Int)}{f:Nat×Int→Bool}(h:∀y∈L,f y=false):L.filter f=[]:=List.filter_eq_nil_iff.2 (fun y hy=>by rw[h y hy];simp)
theorem insL_left{Ll Lr:List (Nat×Int)}{x e:Nat×Int}(hs:Srt (Ll++x::Lr))(h:e.2<x.2):insL (Ll++x::Lr) e=insL Ll e++x::Lr:=by
 obtain⟨_,_,_,s4,_⟩:=srt_node hs
 unfold insL
 rw[List.filter_append,List.filter_append,List.filter_cons_of_neg (by simp;omega),List.filter_cons_of_pos (by simp;omega),filter_no (L:=Lr) (f:=fun y=>decide (y.2<e.2)) (fun y hy=>by have:=s4 y hy;simp;omega),filter_all' (L:=Lr) (f:=fun y=>decide (e.2≤y.2)) (fun y hy=>by have:=s4 y hy;simp;omega)]
 simp
theorem insL_right{Ll Lr:List (Nat×Int)}{x e:Nat×Int}(hs:Srt (Ll++x::Lr))(h:x.2<e.2):insL (Ll++x::Lr) e=Ll++x::insL Lr e:=by
 obtain⟨_,_,s3,_,_⟩:=srt_node hs
 unfold insL
 rw[List.filter_append,List.filter_append,List.filter_cons_of_pos (by simpa using h),List.filter_cons_of_neg (by simp;omega),filter_all' (L:=Ll) (f:=fun y=>decide (y.2<e.2)) (fun y hy=>by have:=s3 y hy;simp;omega),filter_no (L:=Ll) (f:=fun y=>decide (e.2≤y.2)) (fun y hy=>by have:=s3 y hy;simp;omega)]
 simp
theorem with_left{W:World}{tb xb eb:Nat}{xl pl ht:Int}{lp rp:Option Addr}{Ll Lr Ls:List (Nat×Int)}{hl hr:Int}(hb:W.heap[tb]?=some (.cells #[.pointer (some ⟨xb,0,none⟩),.pointer lp,.pointer rp,.int .i64 ht] 145 (0,0)))(hx:W.cell? ⟨xb,0,none⟩=some (.int .i64 xl))(he:W.cell? ⟨eb,0,none⟩=some (.int .i64 pl))(h1:TrL W lp Ll hl)(h2:TrL W rp Lr hr)(hn:Ls.length+Ll.length+Lr.length<4611686018427387900)(hc:pl<xl)(ih:∀V,Below W.heap.size W V→TreeC V 43 #[.pointer lp,.pointer (some ⟨eb,0,none⟩)] Ls):
  TreeC W 43 #[.pointer (some ⟨tb,0,none⟩),.pointer (some ⟨eb,0,none⟩)] (Ls++(xb,xl)::Lr):=by
 unfold TreeC
 have htl:=cell_in (node_cells hb).1
 have hxl:=cell_in hx
 have hel:=cell_in he
 have HX:Hid (∀V,Below W.heap.size W V→V.cell? ⟨xb,0,none⟩=some (.int .i64 xl)∧TrL V lp Ll hl∧TrL V rp Lr hr):=fun V hV=>⟨(hV.cell (p:=⟨xb,0,none⟩) hxl).trans hx,h1.below hV,h2.below hV⟩
 obtain⟨n0,n1,n2,-⟩:=node_cells hb
 have HI:=hide ih
 have hcc:pl<xl:=hc
 clear hb h1 h2 ih hc
 go_enter Tryz.func43,Tryz.ntmps43
 go_wp2_with fail
 go_region
 have WD:Hid (Below W.heap.size W W.drew):=(Below.refl _ W).drew
 obtain⟨V0,hV0⟩:∃V0,W.drew=V0:=⟨_,rfl⟩
 have s0:V0.heap.size=W.heap.size:=by rw[←hV0];rfl
 rw[hV0] at WD
 have GV0:Hid (Below W.heap.size W V0):=WD.out
 rw[hV0]
 clear WD
 have m0:V0.cell? ⟨tb,0,none⟩=some (.pointer (some ⟨xb,0,none⟩)):=((unhide GV0).cell (p:=⟨tb,0,none⟩) htl).trans n0
 have m1:V0.cell? ⟨tb,1,none⟩=some (.pointer lp):=((unhide GV0).cell (p:=⟨tb,1,none⟩) htl).trans n1
 have m2:V0.cell? ⟨tb,2,none⟩=some (.pointer rp):=((unhide GV0).cell (p:=⟨tb,2,none⟩) htl).trans n2
 clear n0 n1 n2 hV0 hx he
 replace htl:tb<V0.heap.size:=by omega
 go_wp2_with fail
 have KEEP:V0.cell? ⟨tb,0,none⟩=some (.pointer (some ⟨xb,0,none⟩))∧V0.cell? ⟨tb,1,none⟩=some (.pointer lp)∧V0.cell? ⟨tb,2,none⟩=some (.pointer rp):=⟨m0,m1,m2⟩
 refine wp_region_noPanic ?_
 refine wp_region_held_drew (S:=(fun w'=>w'.cell? ⟨tb,0,none⟩=some (.pointer (some ⟨xb,0,none⟩))∧w'.cell? ⟨tb,1,none⟩=some (.pointer lp)∧w'.cell? ⟨tb,2,none⟩=some (.pointer rp))) (by kernel_rfl) ?_ (fun hHeld=>?_)
 ·exact KEEP
 refine tk 0 rfl hHeld ?_
 refine tk 1 rfl hHeld ?_
 refine tk 2 rfl hHeld ?_
 refine tk 3 rfl hHeld ?_
 refine tk 4 rfl hHeld ?_
 refine tk 6 rfl hHeld ?_
 refine tk 7 rfl hHeld ?_
 refine tk 8 rfl hHeld ?_
 refine tk 9 rfl hHeld ?_
 refine tk 10 rfl hHeld ?_
 refine tk 11 rfl hHeld ?_
 refine tk 12 rfl hHeld ?_
 refine tk 13 rfl hHeld ?_
 refine rd 5 rfl fun K hK=>?_
 have hHold:=hHeld
 clear hHeld
 go_simp
 have hcl:=(unhide HI) V0.drew (unhide GV0).drew
 refine hcl.mono ?_
 clear hcl
 rintro e V1 ⟨q1,i1,rfl,hq1,gV1,t1⟩
 have sV1:V0.heap.size≤V1.heap.size:=gV1.size
 have GV1:Hid (Below W.heap.size W V1):=(unhide GV0).drew.trans (gV1.mono (by have:=(unhide GV0).size;show W.heap.size≤V0.heap.size;omega))
 have kc:∀k o,k<V0.heap.size→V1.cell? ⟨k,o,none⟩=V0.cell? ⟨k,o,none⟩:=fun k o hk=>World.cell?_of_block (a:=⟨k,o,none⟩) (w:=V0) (gV1.block k hk)
 have KEEP:V1.cell? ⟨tb,0,none⟩=some (.pointer (some ⟨xb,0,none⟩))∧V1.cell? ⟨tb,1,none⟩=some (.pointer lp)∧V1.cell? ⟨tb,2,none⟩=some (.pointer rp):=⟨(kc _ _ htl).trans KEEP.1,(kc _ _ htl).trans KEEP.2.1,(kc _ _ htl).trans KEEP.2.2⟩
 have htl:tb<V1.heap.size:=Nat.lt_of_lt_of_le htl sV1
 clear kc
 go_wp2_with fail
 refine hK.out _ _ ?_ (fun hHeld=>?_)
 ·((try dsimp only);exact KEEP)
 clear hK K hHold
 try simp only[pu]
 refine rd 14 rfl fun K hK=>?_
 have hHold:=hHeld
 clear hHeld
 go_simp
 have hcl:=balanced_any t1 (HX.out V1 (unhide GV1)).2.2 (HX.out V1 (unhide GV1)).1 (by omega)
 refine hcl.mono ?_
 clear hcl
 rintro e V2 ⟨q2,i2,rfl,hq2,gV2,t2⟩
 have sV2:V1.heap.size≤V2.heap.size:=gV2.size
 have GV2:Hid (Below W.heap.size W V2):=(unhide GV1).trans (gV2.mono (by have:=(unhide GV1).size;show W.heap.size≤V1.heap.size;omega))
 have kc:∀k o,k<V1.heap.size→V2.cell? ⟨k,o,none⟩=V1.cell? ⟨k,o,none⟩:=fun k o hk=>World.cell?_of_block (a:=⟨k,o,none⟩) (w:=V1) (gV2.block k hk)
 have KEEP:V2.cell? ⟨tb,0,none⟩=some (.pointer (some ⟨xb,0,none⟩))∧V2.cell? ⟨tb,1,none⟩=some (.pointer lp)∧V2.cell? ⟨tb,2,none⟩=some (.pointer rp):=⟨(kc _ _ htl).trans KEEP.1,(kc _ _ htl).trans KEEP.2.1,(kc _ _ htl).trans KEEP.2.2⟩
 have htl:tb<V2.heap.size:=Nat.lt_of_lt_of_le htl sV2
 clear kc
 go_wp2_with fail
 refine hK.out _ _ ?_ (fun hHeld=>?_)
 ·((try dsimp only);exact KEEP)
 clear hK K hHold
 try simp only[pu]
 refine tk 15 rfl hHeld ?_
 refine wpAnyH_done (by kernel_rfl) ?_ _
 refine NoPanic.normal ?_
 clear hHeld KEEP
 have HF:Hid (W.heap.size≤q2∧Below W.heap.size W V2∧TrL V2 (some ⟨q2,0,none⟩) (Ls++(xb,xl)::Lr) i2):=⟨by omega,unhide GV2,t2⟩
 clear t1 t2 gV1 gV2 GV0 GV1 GV2 HX HI
 go_wp2_with fail
 all_goals go_ret
 all_goals exact⟨q2,i2,rfl,HF.out⟩
theorem with_right{W:World}{tb xb eb:Nat}{xl pl ht:Int}{lp rp:Option Addr}{Ll Lr Ls:List (Nat×Int)}{hl hr:Int}(hb:W.heap[tb]?=some (.cells #[.pointer (some ⟨xb,0,none⟩),.pointer lp,.pointer rp,.int .i64 ht] 145 (0,0)))(hx:W.cell? ⟨xb,0,none⟩=some (.int .i64 xl))(he:W.cell? ⟨eb,0,none⟩=some (.int .i64 pl))(h1:TrL W lp Ll hl)(h2:TrL W rp Lr hr)(hn:Ls.length+Ll.length+Lr.length<4611686018427387900)(hc:¬pl<xl)(ih:∀V,Below W.heap.size W V→TreeC V 43 #[.pointer rp,.pointer (some ⟨eb,0,none⟩)] Ls):
  TreeC W 43 #[.pointer (some ⟨tb,0,none⟩),.pointer (some ⟨eb,0,none⟩)] (Ll++(xb,xl)::Ls):=by
 unfold TreeC
 have htl:=cell_in (node_cells hb).1
 have hxl:=cell_in hx
 have hel:=cell_in he
 have HX:Hid (∀V,Below W.heap.size W V→V.cell? ⟨xb,0,none⟩=some (.int .i64 xl)∧TrL V lp Ll hl∧TrL V rp Lr hr):=fun V hV=>⟨(hV.cell (p:=⟨xb,0,none⟩) hxl).trans hx,h1.below hV,h2.below hV⟩
 obtain⟨n0,n1,n2,-⟩:=node_cells hb
 have HI:=hide ih
 have hcc:¬pl<xl:=hc
 clear hb h1 h2 ih hc
 go_enter Tryz.func43,Tryz.ntmps43
 go_wp2_with fail
 go_region
 have WD:Hid (Below W.heap.size W W.drew):=(Below.refl _ W).drew
 obtain⟨V0,hV0⟩:∃V0,W.drew=V0:=⟨_,rfl⟩
 have s0:V0.heap.size=W.heap.size:=by rw[←hV0];rfl
 rw[hV0] at WD
 have GV0:Hid (Below W.heap.size W V0):=WD.out
 rw[hV0]
 clear WD
 have m0:V0.cell? ⟨tb,0,none⟩=some (.pointer (some ⟨xb,0,none⟩)):=((unhide GV0).cell (p:=⟨tb,0,none⟩) htl).trans n0
 have m1:V0.cell? ⟨tb,1,none⟩=some (.pointer lp):=((unhide GV0).cell (p:=⟨tb,1,none⟩) htl).trans n1
 have m2:V0.cell? ⟨tb,2,none⟩=some (.pointer rp):=((unhide GV0).cell (p:=⟨tb,2,none⟩) htl).trans n2
 clear n0 n1 n2 hV0 hx he
 replace htl:tb<V0.heap.size:=by omega
 go_wp2_with fail
 have KEEP:V0.cell? ⟨tb,0,none⟩=some (.pointer (some ⟨xb,0,none⟩))∧V0.cell? ⟨tb,1,none⟩=some (.pointer lp)∧V0.cell? ⟨tb,2,none⟩=some (.pointer rp):=⟨m0,m1,m2⟩
 refine wp_region_noPanic ?_
 refine wp_region_held_drew (S:=(fun w'=>w'.cell? ⟨tb,0,none⟩=some (.pointer (some ⟨xb,0,none⟩))∧w'.cell? ⟨tb,1,none⟩=some (.pointer lp)∧w'.cell? ⟨tb,2,none⟩=some (.pointer rp))) (by kernel_rfl) ?_ (fun hHeld=>?_)
 ·exact KEEP
 refine tk 0 rfl hHeld ?_
 refine tk 1 rfl hHeld ?_
 refine tk 2 rfl hHeld ?_
 refine tk 3 rfl hHeld ?_
 refine tk 4 rfl hHeld ?_
 refine tk 5 rfl hHeld ?_
 refine tk 6 rfl hHeld ?_
 refine tk 7 rfl hHeld ?_
 refine tk 8 rfl hHeld ?_
 refine tk 9 rfl hHeld ?_
 refine tk 10 rfl hHeld ?_
 refine tk 11 rfl hHeld ?_
 refine tk 12 rfl hHeld ?_
 refine rd 13 rfl fun K hK=>?_
 have hHold:=hHeld
 clear hHeld
 go_simp
 have hcl:=(unhide HI) V0.drew (unhide GV0).drew
 refine hcl.mono ?_
 clear hcl
 rintro e V1 ⟨q1,i1,rfl,hq1,gV1,t1⟩
 have sV1:V0.heap.size≤V1.heap.size:=gV1.size
 have GV1:Hid (Below W.heap.size W V1):=(unhide GV0).drew.trans (gV1.mono (by have:=(unhide GV0).size;show W.heap.size≤V0.heap.size;omega))
 have kc:∀k o,k<V0.heap.size→V1.cell? ⟨k,o,none⟩=V0.cell? ⟨k,o,none⟩:=fun k o hk=>World.cell?_of_block (a:=⟨k,o,none⟩) (w:=V0) (gV1.block k hk)
 have KEEP:V1.cell? ⟨tb,0,none⟩=some (.pointer (some ⟨xb,0,none⟩))∧V1.cell? ⟨tb,1,none⟩=some (.pointer lp)∧V1.cell? ⟨tb,2,none⟩=some (.pointer rp):=⟨(kc _ _ htl).trans KEEP.1,(kc _ _ htl).trans KEEP.2.1,(kc _ _ htl).trans KEEP.2.2⟩
 have htl:tb<V1.heap.size:=Nat.lt_of_lt_of_le htl sV1
 clear kc
 go_wp2_with fail
 refine hK.out _ _ ?_ (fun hHeld=>?_)
 ·((try dsimp only);exact KEEP)
 clear hK K hHold
 try simp only[pu]
 refine rd 14 rfl fun K hK=>?_
 have hHold:=hHeld
 clear hHeld
 go_simp
 have hcl:=balanced_any (HX.out V1 (unhide GV1)).2.1 t1 (HX.out V1 (unhide GV1)).1 (by omega)
 refine hcl.mono ?_
 clear hcl
 rintro e V2 ⟨q2,i2,rfl,hq2,gV2,t2⟩
 have sV2:V1.heap.size≤V2.heap.size:=gV2.size
 have GV2:Hid (Below W.heap.size W V2):=(unhide GV1).trans (gV2.mono (by have:=(unhide GV1).size;show W.heap.size≤V1.heap.size;omega))
 have kc:∀k o,k<V1.heap.size→V2.cell? ⟨k,o,none⟩=V1.cell? ⟨k,o,none⟩:=fun k o hk=>World.cell?_of_block (a:=⟨k,o,none⟩) (w:=V1) (gV2.block k hk)
 have KEEP:V2.cell? ⟨tb,0,none⟩=some (.pointer (some ⟨xb,0,none⟩))∧V2.cell? ⟨tb,1,none⟩=some (.pointer lp)∧V2.cell? ⟨tb,2,none⟩=some (.pointer rp):=⟨(kc _ _ htl).trans KEEP.1,(kc _ _ htl).trans KEEP.2.1,(kc _ _ htl).trans KEEP.2.2⟩
 have htl:tb<V2.heap.size:=Nat.lt_of_lt_of_le htl sV2
 clear kc
 go_wp2_with fail
 refine hK.out _ _ ?_ (fun hHeld=>?_)
 ·((try dsimp only);exact KEEP)
 clear hK K hHold
 try simp only[pu]
 refine tk 15 rfl hHeld ?_
 refine wpAnyH_done (by kernel_rfl) ?_ _
 refine NoPanic.normal ?_
 clear hHeld KEEP
 have HF:Hid (W.heap.size≤q2∧Below W.heap.size W V2∧TrL V2 (some ⟨q2,0,none⟩) (Ll++(xb,xl)::Ls) i2):=⟨by omega,unhide GV2,t2⟩
 clear t1 t2 gV1 gV2 GV0 GV1 GV2 HX HI
 go_wp2_with fail
 all_goals go_ret
 all_goals exact⟨q2,i2,rfl,HF.out⟩
theorem withL(eb:Nat)(pl:Int):∀(n:Nat) {W:World} {p:Option Addr} {L:List (Nat×Int)} {h:Int},L.length≤n→TrL W p L h→Srt L→(∀y∈L,y.2≠pl)→W.cell? ⟨eb,0,none⟩=some (.int .i64 pl)→L.length<1152921504606846976→TreeC W 43 #[.pointer p,.pointer (some ⟨eb,0,none⟩)] (insL L (eb,pl)):=by
 intro n
 have nil:∀{W:World},W.cell? ⟨eb,0,none⟩=some (.int .i64 pl)→TreeC W 43 #[.pointer none,.pointer (some ⟨eb,0,none⟩)] (insL [] (eb,pl)):=fun {W} he=>by
  unfold TreeC
  refine(with_nil (some ⟨eb,0,none⟩) W).mono ?_
  rintro e W' ⟨rfl,rfl⟩
  have hb:Below W.heap.size W (W.alloc (.cells #[.pointer (some ⟨eb,0,none⟩),.pointer none,.pointer none,.int .i64 1] 145)):=(Below.refl _ W).alloc (Nat.le_refl _) _
  exact⟨W.heap.size,_,rfl,Nat.le_refl _,hb,(TrL.nil _).node (TrL.nil _) (World.alloc_heap_new W _) ((hb.cell (p:=⟨eb,0,none⟩) (cell_in he)).trans he)⟩
 induction n with
 | zero=>
  intro W p L h hn ht hs hd he _
  rcases ht.cases with⟨rfl,rfl,rfl⟩ | ⟨tb,xb,xl,lp,rp,Ll,Lr,hl,hr,_,_,_,_,_,rfl,_⟩
  ·exact nil he
  ·rw[len_cons] at hn;omega
 | succ n ih=>
  intro W p L h hn ht hs hd he hbig
  rcases ht.cases with⟨rfl,rfl,rfl⟩ | ⟨tb,xb,xl,lp,rp,Ll,Lr,hl,hr,rfl,hb,hx,k1,k2,rfl,rfl⟩
  ·exact nil he
  ·obtain⟨s1,s2,_,_,_⟩:=srt_node hs
   rw[len_cons] at hn hbig
   have hne:xl≠pl:=hd (xb,xl) (by simp)
   by_cases hlt:pl<xl
   ·rw[insL_left hs hlt]
    refine with_left hb hx he k1 k2 (by rw[insL_len];omega) hlt fun V hV=>?_
    exact ih (by omega) (k1.below hV) s1 (fun y hy=>hd y (by simp[hy])) ((hV.cell (p:=⟨eb,0,none⟩) (cell_in he)).trans he) (by omega)
   ·rw[insL_right hs (show xl<pl by omega)]
    refine with_right hb hx he k1 k2 (by rw[insL_len];omega) hlt fun V hV=>?_
    exact ih (by omega) (k2.below hV) s2 (fun y hy=>hd y (by simp[hy])) ((hV.cell (p:=⟨eb,0,none⟩) (cell_in he)).trans he) (by omega)
set_option maxHeartbeats 4000000
set_option maxRecDepth 100000
/-- What makes a tree of these entries, maybe none, answers. -/
def TreeO(W:World)(f:Nat)(args:Array Value)(L:List (Nat×Int)):Prop:=Calls Tryz.prog f args W fun e W'=> ∃q h,e=.returned (.pointer q)∧Below W.heap.size W W'∧TrL W' q L h
theorem TrL.place{W:World}{p:Option Addr}{L:List (Nat×Int)}{h:Int}(ht:TrL W p L h):∀y∈L,W.cell? ⟨y.1,0,none⟩=some (.int .i64 y.2):=by
 refine TrL.ind (P:=fun _ L _=> ∀y∈L,W.cell? ⟨y.1,0,none⟩=some (.int .i64 y.2)) (fun y hy=>by cases hy) ?_ ht
 intro tb eb pl lp rp Ll Lr hl hr _ hc _ _ i1 i2 y hy
 rcases List.mem_append.1 hy with hy | hy
 ·exact i1 y hy
 ·rcases List.mem_cons.1 hy with rfl | hy
  ·exact hc
  ·exact i2 y hy
def delL(L:List (Nat×Int))(p:Int):List (Nat×Int):=L.filter (fun y=>decide (y.2≠p))
theorem delL_len(L:List (Nat×Int))(p:Int):(delL L p).length≤L.length:=List.length_filter_le _ _
theorem delL_left{Ll Lr:List (Nat×Int)}{x:Nat×Int}{p:Int}(hs:Srt (Ll++x::Lr))(h:p<x.2):delL (Ll++x::Lr) p=delL Ll p++x::Lr:=by
 obtain⟨_,_,_,s4,_⟩:=srt_node hs
 unfold delL
 rw[List.filter_append,List.filter_cons_of_pos (by simp;omega),filter_all' (L:=Lr) (fun y hy=>by have:=s4 y hy;simp;omega)]
theorem delL_right{Ll Lr:List (Nat×Int)}{x:Nat×Int}{p:Int}(hs:Srt (Ll++x::Lr))(h:x.2<p):delL (Ll++x::Lr) p=Ll++x::delL Lr p:=by
 obtain⟨_,_,s3,_,_⟩:=srt_node hs
 unfold delL
 rw[List.filter_append,List.filter_cons_of_pos (by simp;omega),filter_all' (L:=Ll) (fun y hy=>by have:=s3 y hy;simp;omega)]
theorem delL_here{Ll Lr:List (Nat×Int)}{x:Nat×Int}(hs:Srt (Ll++x::Lr)):delL (Ll++x::Lr) x.2=Ll++Lr:=by
 obtain⟨_,_,s3,s4,_⟩:=srt_node hs
 unfold delL
 rw[List.filter_append,List.filter_cons_of_neg (by simp),filter_all' (L:=Ll) (fun y hy=>by have:=s3 y hy;simp;omega),filter_all' (L:=Lr) (fun y hy=>by have:=s4 y hy;simp;omega)]
theorem without_left{W:World}{tb xb:Nat}{xl pl ht:Int}{lp rp:Option Addr}{Ll Lr Ls:List (Nat×Int)}{hl hr:Int}(hb:W.heap[tb]?=some (.cells #[.pointer (some ⟨xb,0,none⟩),.pointer lp,.pointer rp,.int .i64 ht] 145 (0,0)))(hx:W.cell? ⟨xb,0,none⟩=some (.int .i64 xl))(h1:TrL W lp Ll hl)(h2:TrL W rp Lr hr)(hn:Ls.length+Ll.length+Lr.length<4611686018427387900)(hc:pl<xl)(ih:∀V,Below W.heap.size W V→TreeO V 46 #[.pointer lp,.int .i64 pl] Ls):
  TreeO W 46 #[.pointer (some ⟨tb,0,none⟩),.int .i64 pl] (Ls++(xb,xl)::Lr):=by
 unfold TreeO
 have htl:=cell_in (node_cells hb).1
 have hxl:=cell_in hx
 have HX:Hid (∀V,Below W.heap.size W V→V.cell? ⟨xb,0,none⟩=some (.int .i64 xl)∧TrL V lp Ll hl∧TrL V rp Lr hr):=fun V hV=>⟨(hV.cell (p:=⟨xb,0,none⟩) hxl).trans hx,h1.below hV,h2.below hV⟩
 obtain⟨n0,n1,n2,-⟩:=node_cells hb
 have HI:=hide ih
 have GW:Hid (Below W.heap.size W W):=Below.refl _ _
 have hc1:pl<xl:=hc
 clear hb h1 h2 ih hc
 go_enter Tryz.func46,Tryz.ntmps46
 go_wp2_with fail
 have KEEP:W.cell? ⟨tb,0,none⟩=some (.pointer (some ⟨xb,0,none⟩))∧W.cell? ⟨tb,1,none⟩=some (.pointer lp)∧W.cell? ⟨tb,2,none⟩=some (.pointer rp):=⟨n0,n1,n2⟩
 refine wp_region_noPanic ?_
 refine wp_region_held_drew (S:=(fun w'=>w'.cell? ⟨tb,0,none⟩=some (.pointer (some ⟨xb,0,none⟩))∧w'.cell? ⟨tb,1,none⟩=some (.pointer lp)∧w'.cell? ⟨tb,2,none⟩=some (.pointer rp))) (by kernel_rfl) ?_ (fun hHeld=>?_)
 ·exact KEEP
 refine tk 0 rfl hHeld ?_
 refine tk 1 rfl hHeld ?_
 refine tk 2 rfl hHeld ?_
 refine tk 3 rfl hHeld ?_
 refine tk 4 rfl hHeld ?_
 refine tk 6 rfl hHeld ?_
 refine tk 7 rfl hHeld ?_
 refine tk 8 rfl hHeld ?_
 refine tk 9 rfl hHeld ?_
 refine tk 10 rfl hHeld ?_
 refine tk 11 rfl hHeld ?_
 refine tk 12 rfl hHeld ?_
 refine tk 13 rfl hHeld ?_
 refine rd 5 rfl fun K hK=>?_
 have hHold:=hHeld
 clear hHeld
 go_simp
 have hcl:=(unhide HI) W.drew (unhide GW).drew
 refine hcl.mono ?_
 clear hcl
 rintro e V1 ⟨q1,i1,rfl,gV1,t1⟩
 have sV1:W.heap.size≤V1.heap.size:=gV1.size
 have GV1:Hid (Below W.heap.size W V1):=(unhide GW).drew.trans (gV1.mono (by have:=(unhide GW).size;show W.heap.size≤W.heap.size;omega))
 have kc:∀k o,k<W.heap.size→V1.cell? ⟨k,o,none⟩=W.cell? ⟨k,o,none⟩:=fun k o hk=>World.cell?_of_block (a:=⟨k,o,none⟩) (w:=W) (gV1.block k hk)
 have KEEP:V1.cell? ⟨tb,0,none⟩=some (.pointer (some ⟨xb,0,none⟩))∧V1.cell? ⟨tb,1,none⟩=some (.pointer lp)∧V1.cell? ⟨tb,2,none⟩=some (.pointer rp):=⟨(kc _ _ htl).trans KEEP.1,(kc _ _ htl).trans KEEP.2.1,(kc _ _ htl).trans KEEP.2.2⟩
 have htl:tb<V1.heap.size:=Nat.lt_of_lt_of_le htl sV1
 clear kc
 go_wp2_with fail
 refine hK.out _ _ ?_ (fun hHeld=>?_)
 ·((try dsimp only);exact KEEP)
 clear hK K hHold
 try simp only[pu]
 refine rd 14 rfl fun K hK=>?_
 have hHold:=hHeld
 clear hHeld
 go_simp
 have hcl:=balanced_any t1 (HX.out V1 (unhide GV1)).2.2 (HX.out V1 (unhide GV1)).1 (by omega)
 refine hcl.mono ?_
 clear hcl
 rintro e V2 ⟨q2,i2,rfl,hq2,gV2,t2⟩
 have sV2:V1.heap.size≤V2.heap.size:=gV2.size
 have GV2:Hid (Below W.heap.size W V2):=(unhide GV1).trans (gV2.mono (by have:=(unhide GV1).size;show W.heap.size≤V1.heap.size;omega))
 have kc:∀k o,k<V1.heap.size→V2.cell? ⟨k,o,none⟩=V1.cell? ⟨k,o,none⟩:=fun k o hk=>World.cell?_of_block (a:=⟨k,o,none⟩) (w:=V1) (gV2.block k hk)
 have KEEP:V2.cell? ⟨tb,0,none⟩=some (.pointer (some ⟨xb,0,none⟩))∧V2.cell? ⟨tb,1,none⟩=some (.pointer lp)∧V2.cell? ⟨tb,2,none⟩=some (.pointer rp):=⟨(kc _ _ htl).trans KEEP.1,(kc _ _ htl).trans KEEP.2.1,(kc _ _ htl).trans KEEP.2.2⟩
 have htl:tb<V2.heap.size:=Nat.lt_of_lt_of_le htl sV2
 clear kc
 go_wp2_with fail
 refine hK.out _ _ ?_ (fun hHeld=>?_)
 ·((try dsimp only);exact KEEP)
 clear hK K hHold
 try simp only[pu]
 refine tk 15 rfl hHeld ?_
 refine wpAnyH_done (by kernel_rfl) ?_ _
 refine NoPanic.normal ?_
 clear hHeld KEEP
 have HF:Hid (Below W.heap.size W V2∧TrL V2 (some ⟨q2,0,none⟩) (Ls++(xb,xl)::Lr) i2):=⟨unhide GV2,t2⟩
 clear t1 t2 gV1 gV2 GV1 GV2 HX HI
 go_wp2_with fail
 all_goals go_ret
 all_goals exact⟨_,i2,rfl,HF.out⟩
theorem without_right{W:World}{tb xb:Nat}{xl pl ht:Int}{lp rp:Option Addr}{Ll Lr Ls:List (Nat×Int)}{hl hr:Int}(hb:W.heap[tb]?=some (.cells #[.pointer (some ⟨xb,0,none⟩),.pointer lp,.pointer rp,.int .i64 ht] 145 (0,0)))(hx:W.cell? ⟨xb,0,none⟩=some (.int .i64 xl))(h1:TrL W lp Ll hl)(h2:TrL W rp Lr hr)(hn:Ls.length+Ll.length+Lr.length<4611686018427387900)(hc:xl<pl)(ih:∀V,Below W.heap.size W V→TreeO V 46 #[.pointer rp,.int .i64 pl] Ls):
  TreeO W 46 #[.pointer (some ⟨tb,0,none⟩),.int .i64 pl] (Ll++(xb,xl)::Ls):=by
 unfold TreeO
 have htl:=cell_in (node_cells hb).1
 have hxl:=cell_in hx
 have HX:Hid (∀V,Below W.heap.size W V→V.cell? ⟨xb,0,none⟩=some (.int .i64 xl)∧TrL V lp Ll hl∧TrL V rp Lr hr):=fun V hV=>⟨(hV.cell (p:=⟨xb,0,none⟩) hxl).trans hx,h1.below hV,h2.below hV⟩
 obtain⟨n0,n1,n2,-⟩:=node_cells hb
 have HI:=hide ih
 have GW:Hid (Below W.heap.size W W):=Below.refl _ _
 have hc1:¬pl<xl:=by omega
 have hc2:pl>xl:=hc
 clear hb h1 h2 ih hc
 go_enter Tryz.func46,Tryz.ntmps46
 go_wp2_with fail
 have KEEP:W.cell? ⟨tb,0,none⟩=some (.pointer (some ⟨xb,0,none⟩))∧W.cell? ⟨tb,1,none⟩=some (.pointer lp)∧W.cell? ⟨tb,2,none⟩=some (.pointer rp):=⟨n0,n1,n2⟩
 refine wp_region_noPanic ?_
 refine wp_region_held_drew (S:=(fun w'=>w'.cell? ⟨tb,0,none⟩=some (.pointer (some ⟨xb,0,none⟩))∧w'.cell? ⟨tb,1,none⟩=some (.pointer lp)∧w'.cell? ⟨tb,2,none⟩=some (.pointer rp))) (by kernel_rfl) ?_ (fun hHeld=>?_)
 ·exact KEEP
 refine tk 0 rfl hHeld ?_
 refine tk 1 rfl hHeld ?_
 refine tk 2 rfl hHeld ?_
 refine tk 3 rfl hHeld ?_
 refine tk 4 rfl hHeld ?_
 refine tk 5 rfl hHeld ?_
 refine tk 6 rfl hHeld ?_
 refine tk 7 rfl hHeld ?_
 refine tk 8 rfl hHeld ?_
 refine tk 9 rfl hHeld ?_
 refine tk 10 rfl hHeld ?_
 refine tk 11 rfl hHeld ?_
 refine tk 12 rfl hHeld ?_
 refine rd 13 rfl fun K hK=>?_
 have hHold:=hHeld
 clear hHeld
 go_simp
 have hcl:=(unhide HI) W.drew (unhide GW).drew
 refine hcl.mono ?_
 clear hcl
 rintro e V1 ⟨q1,i1,rfl,gV1,t1⟩
 have sV1:W.heap.size≤V1.heap.size:=gV1.size
 have GV1:Hid (Below W.heap.size W V1):=(unhide GW).drew.trans (gV1.mono (by have:=(unhide GW).size;show W.heap.size≤W.heap.size;omega))
 have kc:∀k o,k<W.heap.size→V1.cell? ⟨k,o,none⟩=W.cell? ⟨k,o,none⟩:=fun k o hk=>World.cell?_of_block (a:=⟨k,o,none⟩) (w:=W) (gV1.block k hk)
 have KEEP:V1.cell? ⟨tb,0,none⟩=some (.pointer (some ⟨xb,0,none⟩))∧V1.cell? ⟨tb,1,none⟩=some (.pointer lp)∧V1.cell? ⟨tb,2,none⟩=some (.pointer rp):=⟨(kc _ _ htl).trans KEEP.1,(kc _ _ htl).trans KEEP.2.1,(kc _ _ htl).trans KEEP.2.2⟩
 have htl:tb<V1.heap.size:=Nat.lt_of_lt_of_le htl sV1
 clear kc
 go_wp2_with fail
 refine hK.out _ _ ?_ (fun hHeld=>?_)
 ·((try dsimp only);exact KEEP)
 clear hK K hHold
 try simp only[pu]
 refine rd 14 rfl fun K hK=>?_
 have hHold:=hHeld
 clear hHeld
 go_simp
 have hcl:=balanced_any (HX.out V1 (unhide GV1)).2.1 t1 (HX.out V1 (unhide GV1)).1 (by omega)
 refine hcl.mono ?_
 clear hcl
 rintro e V2 ⟨q2,i2,rfl,hq2,gV2,t2⟩
 have sV2:V1.heap.size≤V2.heap.size:=gV2.size
 have GV2:Hid (Below W.heap.size W V2):=(unhide GV1).trans (gV2.mono (by have:=(unhide GV1).size;show W.heap.size≤V1.heap.size;omega))
 have kc:∀k o,k<V1.heap.size→V2.cell? ⟨k,o,none⟩=V1.cell? ⟨k,o,none⟩:=fun k o hk=>World.cell?_of_block (a:=⟨k,o,none⟩) (w:=V1) (gV2.block k hk)
 have KEEP:V2.cell? ⟨tb,0,none⟩=some (.pointer (some ⟨xb,0,none⟩))∧V2.cell? ⟨tb,1,none⟩=some (.pointer lp)∧V2.cell? ⟨tb,2,none⟩=some (.pointer rp):=⟨(kc _ _ htl).trans KEEP.1,(kc _ _ htl).trans KEEP.2.1,(kc _ _ htl).trans KEEP.2.2⟩
 have htl:tb<V2.heap.size:=Nat.lt_of_lt_of_le htl sV2
 clear kc
 go_wp2_with fail
 refine hK.out _ _ ?_ (fun hHeld=>?_)
 ·((try dsimp only);exact KEEP)
 clear hK K hHold
 try simp only[pu]
 refine tk 15 rfl hHeld ?_
 refine wpAnyH_done (by kernel_rfl) ?_ _
 refine NoPanic.normal ?_
 clear hHeld KEEP
 have HF:Hid (Below W.heap.size W V2∧TrL V2 (some ⟨q2,0,none⟩) (Ll++(xb,xl)::Ls) i2):=⟨unhide GV2,t2⟩
 clear t1 t2 gV1 gV2 GV1 GV2 HX HI
 go_wp2_with fail
 all_goals go_ret
 all_goals exact⟨_,i2,rfl,HF.out⟩
theorem without_last{W:World}{tb xb:Nat}{xl ht:Int}{lp:Option Addr}{Ll:List (Nat×Int)}{hl:Int}(hb:W.heap[tb]?=some (.cells #[.pointer (some ⟨xb,0,none⟩),.pointer lp,.pointer none,.int .i64 ht] 145 (0,0)))(hx:W.cell? ⟨xb,0,none⟩=some (.int .i64 xl))(h1:TrL W lp Ll hl):
  TreeO W 46 #[.pointer (some ⟨tb,0,none⟩),.int .i64 xl] Ll:=by
 unfold TreeO
 obtain⟨n0,n1,n2,-⟩:=node_cells hb
 have hc1:¬xl<xl:=by omega
 have hc2:¬xl>xl:=by omega
 have hw:Calls Tryz.prog 46 #[.pointer (some ⟨tb,0,none⟩),.int .i64 xl] W fun e W'=>e=.returned (.pointer lp)∧W'=W:=by
  clear hb h1
  go_enter Tryz.func46,Tryz.ntmps46
  go_wp2_with fail
  all_goals go_ret
  all_goals exact⟨rfl,rfl⟩
 refine hw.mono ?_
 rintro e W' ⟨rfl,rfl⟩
 exact⟨lp,hl,rfl,Below.refl _ _,h1⟩
theorem without_next{W:World}{tb xb yb zb:Nat}{xl yl ht:Int}{lp:Option Addr}{Ll Lr Ls:List (Nat×Int)}{hl hr:Int}(hb:W.heap[tb]?=some (.cells #[.pointer (some ⟨xb,0,none⟩),.pointer lp,.pointer (some ⟨zb,0,none⟩),.int .i64 ht] 145 (0,0)))(hx:W.cell? ⟨xb,0,none⟩=some (.int .i64 xl))(hy:W.cell? ⟨yb,0,none⟩=some (.int .i64 yl))(h1:TrL W lp Ll hl)(h2:TrL W (some ⟨zb,0,none⟩) Lr hr)(hsr:Srt Lr)(hnx:nextE Lr (-9223372036854775808)=some (yb,yl))(hn:Ls.length+Ll.length+Lr.length<4611686018427387900)(ih:∀V,Below W.heap.size W V→TreeO V 46 #[.pointer (some ⟨zb,0,none⟩),.int .i64 yl] Ls):
  TreeO W 46 #[.pointer (some ⟨tb,0,none⟩),.int .i64 xl] (Ll++(yb,yl)::Ls):=by
 unfold TreeO
 have htl:=cell_in (node_cells hb).1
 have hyl:=cell_in hy
 have HX:Hid (∀V,Below W.heap.size W V→V.cell? ⟨yb,0,none⟩=some (.int .i64 yl)∧TrL V lp Ll hl):=fun V hV=>⟨(hV.cell (p:=⟨yb,0,none⟩) hyl).trans hy,h1.below hV⟩
 obtain⟨n0,n1,n2,-⟩:=node_cells hb
 have haf:=afterL h2 hsr (-9223372036854775808)
 rw[hnx] at haf
 have HI:=hide ih
 have hc1:¬xl<xl:=by omega
 have hc2:¬xl>xl:=by omega
 clear hb h1 h2 ih hsr hnx
 simp only[Option.map_some,ptrE] at haf
 go_enter Tryz.func46,Tryz.ntmps46
 go_wp2_with fail
 refine haf.mono ?_
 clear haf
 rintro e V0 ⟨rfl,gV0⟩
 have s0:=gV0.size
 have GV0:Hid (Below W.heap.size W V0):=gV0
 have m1:V0.cell? ⟨tb,1,none⟩=some (.pointer lp):=(gV0.cell (p:=⟨tb,1,none⟩) htl).trans n1
 have m2:V0.cell? ⟨tb,2,none⟩=some (.pointer (some ⟨zb,0,none⟩)):=(gV0.cell (p:=⟨tb,2,none⟩) htl).trans n2
 have m3:V0.cell? ⟨yb,0,none⟩=some (.int .i64 yl):=(gV0.cell (p:=⟨yb,0,none⟩) hyl).trans hy
 clear n0 n1 n2 hy gV0 hx
 replace htl:tb<V0.heap.size:=by omega
 replace hyl:yb<V0.heap.size:=by omega
 go_wp2_with fail
 have KEEP:V0.cell? ⟨tb,1,none⟩=some (.pointer lp)∧V0.cell? ⟨tb,2,none⟩=some (.pointer (some ⟨zb,0,none⟩))∧V0.cell? ⟨yb,0,none⟩=some (.int .i64 yl):=⟨m1,m2,m3⟩
 refine wp_region_noPanic ?_
 refine wp_region_held_drew (S:=(fun w'=>w'.cell? ⟨tb,1,none⟩=some (.pointer lp)∧w'.cell? ⟨tb,2,none⟩=some (.pointer (some ⟨zb,0,none⟩))∧w'.cell? ⟨yb,0,none⟩=some (.int .i64 yl))) (by kernel_rfl) ?_ (fun hHeld=>?_)
 ·exact KEEP
 refine tk 0 rfl hHeld ?_
 refine tk 1 rfl hHeld ?_
 refine tk 2 rfl hHeld ?_
 refine tk 3 rfl hHeld ?_
 refine tk 4 rfl hHeld ?_
 refine tk 5 rfl hHeld ?_
 refine tk 6 rfl hHeld ?_
 refine tk 7 rfl hHeld ?_
 refine tk 8 rfl hHeld ?_
 refine tk 9 rfl hHeld ?_
 refine tk 10 rfl hHeld ?_
 refine tk 11 rfl hHeld ?_
 refine tk 12 rfl hHeld ?_
 refine rd 13 rfl fun K hK=>?_
 have hHold:=hHeld
 clear hHeld
 go_simp
 have hcl:=(unhide HI) V0.drew (unhide GV0).drew
 refine hcl.mono ?_
 clear hcl
 rintro e V1 ⟨q1,i1,rfl,gV1,t1⟩
 have sV1:V0.heap.size≤V1.heap.size:=gV1.size
 have GV1:Hid (Below W.heap.size W V1):=(unhide GV0).drew.trans (gV1.mono (by have:=(unhide GV0).size;show W.heap.size≤V0.heap.size;omega))
 have kc:∀k o,k<V0.heap.size→V1.cell? ⟨k,o,none⟩=V0.cell? ⟨k,o,none⟩:=fun k o hk=>World.cell?_of_block (a:=⟨k,o,none⟩) (w:=V0) (gV1.block k hk)
 have KEEP:V1.cell? ⟨tb,1,none⟩=some (.pointer lp)∧V1.cell? ⟨tb,2,none⟩=some (.pointer (some ⟨zb,0,none⟩))∧V1.cell? ⟨yb,0,none⟩=some (.int .i64 yl):=⟨(kc _ _ htl).trans KEEP.1,(kc _ _ htl).trans KEEP.2.1,(kc _ _ hyl).trans KEEP.2.2⟩
 have htl:tb<V1.heap.size:=Nat.lt_of_lt_of_le htl sV1
 have hyl:yb<V1.heap.size:=Nat.lt_of_lt_of_le hyl sV1
 clear kc
 go_wp2_with fail
 refine hK.out _ _ ?_ (fun hHeld=>?_)
 ·((try dsimp only);exact KEEP)
 clear hK K hHold
 try simp only[pu]
 refine rd 14 rfl fun K hK=>?_
 have hHold:=hHeld
 clear hHeld
 go_simp
 have hcl:=balanced_any (HX.out V1 (unhide GV1)).2 t1 (HX.out V1 (unhide GV1)).1 (by omega)
 refine hcl.mono ?_
 clear hcl
 rintro e V2 ⟨q2,i2,rfl,hq2,gV2,t2⟩
 have sV2:V1.heap.size≤V2.heap.size:=gV2.size
 have GV2:Hid (Below W.heap.size W V2):=(unhide GV1).trans (gV2.mono (by have:=(unhide GV1).size;show W.heap.size≤V1.heap.size;omega))
 have kc:∀k o,k<V1.heap.size→V2.cell? ⟨k,o,none⟩=V1.cell? ⟨k,o,none⟩:=fun k o hk=>World.cell?_of_block (a:=⟨k,o,none⟩) (w:=V1) (gV2.block k hk)
 have KEEP:V2.cell? ⟨tb,1,none⟩=some (.pointer lp)∧V2.cell? ⟨tb,2,none⟩=some (.pointer (some ⟨zb,0,none⟩))∧V2.cell? ⟨yb,0,none⟩=some (.int .i64 yl):=⟨(kc _ _ htl).trans KEEP.1,(kc _ _ htl).trans KEEP.2.1,(kc _ _ hyl).trans KEEP.2.2⟩
 have htl:tb<V2.heap.size:=Nat.lt_of_lt_of_le htl sV2
 have hyl:yb<V2.heap.size:=Nat.lt_of_lt_of_le hyl sV2
 clear kc
 go_wp2_with fail
 refine hK.out _ _ ?_ (fun hHeld=>?_)
 ·((try dsimp only);exact KEEP)
 clear hK K hHold
 try simp only[pu]
 refine tk 15 rfl hHeld ?_
 refine wpAnyH_done (by kernel_rfl) ?_ _
 refine NoPanic.normal ?_
 clear hHeld KEEP
 have HF:Hid (Below W.heap.size W V2∧TrL V2 (some ⟨q2,0,none⟩) (Ll++(yb,yl)::Ls) i2):=⟨unhide GV2,t2⟩
 clear t1 t2 gV1 gV2 GV0 GV1 GV2 HX HI
 go_wp2_with fail
 all_goals go_ret
 all_goals exact⟨_,i2,rfl,HF.out⟩
theorem withoutL:∀(n:Nat) {W:World} {p:Option Addr} {L:List (Nat×Int)} {h pl:Int},L.length≤n→TrL W p L h→Srt L→(∃y∈L,y.2=pl)→(∀y∈L,-9223372036854775808<y.2)→L.length<1152921504606846976→TreeO W 46 #[.pointer p,.int .i64 pl] (delL L pl):=by
 intro n
 induction n with
 | zero=>
  intro W p L h pl hn _ _ hy _ _
  obtain⟨y,hy,_⟩:=hy
  have:L=[]:=List.length_eq_zero_iff.1 (by omega)
  rw[this] at hy
  cases hy
 | succ n ih=>
  intro W p L h pl hn ht hs hy hr hbig
  rcases ht.cases with⟨rfl,rfl,rfl⟩ | ⟨tb,xb,xl,lp,rp,Ll,Lr,hl,hr',rfl,hb,hx,k1,k2,rfl,rfl⟩
  ·obtain⟨y,hy,_⟩:=hy
   cases hy
  ·obtain⟨s1,s2,s3,s4,_⟩:=srt_node hs
   rw[len_cons] at hn hbig
   obtain⟨y,hym,hye⟩:=hy
   have hlr:=delL_len Lr
   have hll:=delL_len Ll pl
   by_cases hlt:pl<xl
   ·rw[delL_left hs hlt]
    have hyl:y∈Ll:=by
     rcases List.mem_append.1 hym with h | h
     ·exact h
     ·rcases List.mem_cons.1 h with rfl | h
      ·simp only at hye;omega
      ·have:=s4 y h;simp only at this;omega
    exact without_left hb hx k1 k2 (by omega) hlt fun V hV=>ih (by omega) (k1.below hV) s1 ⟨y,hyl,hye⟩ (fun z hz=>hr z (by simp[hz])) (by omega)
   ·by_cases hgt:xl<pl
    ·rw[delL_right hs hgt]
     have hyr:y∈Lr:=by
      rcases List.mem_append.1 hym with h | h
      ·have:=s3 y h;simp only at this;omega
      ·rcases List.mem_cons.1 h with rfl | h
       ·simp only at hye;omega
       ·exact h
     exact without_right hb hx k1 k2 (by have:=hlr pl;omega) hgt fun V hV=>ih (by omega) (k2.below hV) s2 ⟨y,hyr,hye⟩ (fun z hz=>hr z (by simp[hz])) (by omega)
    ·obtain rfl:pl=xl:=by omega
     rw[delL_here (x:=(xb,pl)) hs]
     rcases k2.cases with⟨rfl,rfl,rfl⟩ | ⟨zb,_,_,_,_,_,_,_,_,rfl,_,_,_,_,_,_⟩
     ·rw[List.append_nil]
      exact without_last hb hx k1
     ·cases Lr with
      | nil=>
       have:=k2.ht
       simp at this
       omega
      | cons y0 Lr'=>
       have hm0:=hr y0 (by simp)
       have hnx:nextE (y0::Lr') (-9223372036854775808)=some (y0.1,y0.2):=by
        unfold nextE
        rw[List.find?_cons_of_pos (by simpa using hm0)]
       have hd0:delL (y0::Lr') y0.2=Lr':=delL_here (Ll:=[]) (x:=y0) s2
       have h:=without_next (Ls:=delL (y0::Lr') y0.2) hb hx (k2.place y0 (by simp)) k1 k2 s2 hnx (by have:=hlr y0.2;omega) fun V hV=>ih (by omega) (k2.below hV) s2 ⟨y0,by simp,rfl⟩ (fun z hz=>hr z (by simp at hz⊢;rcases hz with h | h <;> simp[h])) (by omega)
       rw[hd0] at h
       exact h
end Go.Proofs.YteaiefjmcinljaaGreatDoor
