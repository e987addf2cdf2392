import Derived.Test.YteaiefjmcinljaaGreatDoorTks
import Derived.Test.YteaiefjmcinljaaGreatDoorBdCs
namespace Go.Proofs.YteaiefjmcinljaaGreatDoor
set_option maxHeartbeats 4000000
set_option maxRecDepth 100000
open Go.RowKit Go.Shelf Go.Maps
/-- The earlier of two. -/
def earE:Option (Nat×Int)→Option (Nat×Int)→Option (Nat×Int)
 | none,y=>y
 | some x,none=>some x
 | some x,some y=>if y.2<x.2 then some y else some x
def ptrX(x:Option (Nat×Int)):Value:=ptrE (x.map (·.1))
theorem earlier_nil(y:Option (Nat×Int))(w:World):Calls Tryz.prog 50 #[ptrX none,ptrX y] w fun e W'=>e=.returned (ptrX y)∧Below w.heap.size w W':=by
 unfold ptrX ptrE
 simp only[Option.map_none]
 generalize (y.map (·.1)).map (fun b=>(⟨b,0,none⟩:Addr))=q
 go_enter Tryz.func50,Tryz.ntmps50
 go_wp2_with fail
 go_region
 all_goals
  go_wp2_with fail
  all_goals go_ret
  all_goals exact⟨rfl,(Below.refl _ _).drew⟩
theorem earlier_two(x y:Nat×Int)(w:World)(hx:w.cell? ⟨x.1,0,none⟩=some (.int .i64 x.2))(hy:w.cell? ⟨y.1,0,none⟩=some (.int .i64 y.2)):Calls Tryz.prog 50 #[ptrX (some x),ptrX (some y)] w fun e W'=>e=.returned (ptrX (if y.2<x.2 then some y else some x))∧Below w.heap.size w W':=by
 obtain⟨xb,xl⟩:=x
 obtain⟨yb,yl⟩:=y
 simp only at hx hy⊢
 by_cases h:yl<xl
 ·rw[if_pos h]
  simp only[ptrX,ptrE,Option.map_some]
  go_enter Tryz.func50,Tryz.ntmps50
  go_wp2_with fail
  go_region
  all_goals
   go_wp2_with fail
   all_goals go_ret
   all_goals exact⟨rfl,(Below.refl _ _).drew⟩
 ·rw[if_neg h]
  simp only[ptrX,ptrE,Option.map_some]
  go_enter Tryz.func50,Tryz.ntmps50
  go_wp2_with fail
  go_region
  all_goals
   go_wp2_with fail
   all_goals go_ret
   all_goals exact⟨rfl,(Below.refl _ _).drew⟩
theorem earlier_any(x y:Option (Nat×Int))(w:World)(hx:∀z,x=some z→w.cell? ⟨z.1,0,none⟩=some (.int .i64 z.2))(hy:∀z,y=some z→w.cell? ⟨z.1,0,none⟩=some (.int .i64 z.2)):Calls Tryz.prog 50 #[ptrX x,ptrX y] w fun e W'=>e=.returned (ptrX (earE x y))∧Below w.heap.size w W':=by
 cases x with
 | none=>exact earlier_nil y w
 | some x=>
  cases y with
  | none=>
   have h:=earlier_left (some x.1) w
   exact h
  | some y=>exact earlier_two x y w (hx x rfl) (hy y rfl)
/-- What a view's step leaves of it. -/
def StepL(R:Option (Nat×Int))(W':World)(vb:Nat)(p q:Option Addr)(last:Int):Prop:=(∀x,R=some x→VwBlk W' vb p q x.2)∧(R=none→VwBlk W' vb none none last)
theorem earE_in{x y z:Option (Nat×Int)}(h:earE x y=z):∀w,z=some w→x=some w∨y=some w:=by
 intro w hw
 subst hw
 cases x with
 | none=>exact .inr h
 | some x=>
  cases y with
  | none=>exact .inl h
  | some y=>
   have h':(if y.2<x.2 then some y else some x)=some w:=h
   split at h'
   ·exact .inr h'
   ·exact .inl h'
theorem stepL(vb:Nat)(p q:Option Addr)(last:Int){L1 L2:List (Nat×Int)}{h1 h2:Int}(W:World)(hv:VwBlk W vb p q last)(ht1:TrL W p L1 h1)(ht2:TrL W q L2 h2)(hs1:Srt L1)(hs2:Srt L2):
  Calls Tryz.prog 35 #[.pointer (some ⟨vb,0,none⟩)] W fun e W'=>e=.returned (ptrX (earE (nextE L1 last) (nextE L2 last)))∧GrB (fun k=>k=vb) W.heap.size W W'∧StepL (earE (nextE L1 last) (nextE L2 last)) W' vb p q last:=by
 have in1:∀z,nextE L1 last=some z→W.cell? ⟨z.1,0,none⟩=some (.int .i64 z.2):=fun z hz=>ht1.place z (List.mem_of_find?_eq_some hz)
 have in2:∀z,nextE L2 last=some z→W.cell? ⟨z.1,0,none⟩=some (.int .i64 z.2):=fun z hz=>ht2.place z (List.mem_of_find?_eq_some hz)
 have HA:Hid (∀V,Below W.heap.size W V→Calls Tryz.prog 51 #[.pointer p,.int .i64 last] V fun e W'=>e=.returned (ptrX (nextE L1 last))∧Below V.heap.size V W'):=fun V hV=>afterL (ht1.below hV) hs1 last
 have HN:Hid (∀V,Below W.heap.size W V→Calls Tryz.prog 51 #[.pointer q,.int .i64 last] V fun e W'=>e=.returned (ptrX (nextE L2 last))∧Below V.heap.size V W'):=fun V hV=>afterL (ht2.below hV) hs2 last
 have HE:Hid (∀V,Below W.heap.size W V→Calls Tryz.prog 50 #[ptrX (nextE L1 last),ptrX (nextE L2 last)] V fun e W'=>e=.returned (ptrX (earE (nextE L1 last) (nextE L2 last)))∧Below V.heap.size V W'):=fun V hV=>earlier_any _ _ V (fun z hz=>(hV.cell (p:=⟨z.1,0,none⟩) (cell_in (in1 z hz))).trans (in1 z hz)) (fun z hz=>(hV.cell (p:=⟨z.1,0,none⟩) (cell_in (in2 z hz))).trans (in2 z hz))
 have hpl:∀x,earE (nextE L1 last) (nextE L2 last)=some x→W.cell? ⟨x.1,0,none⟩=some (.int .i64 x.2):=fun x hx=>by
  rcases earE_in rfl x hx with h | h
  ·exact in1 x h
  ·exact in2 x h
 have hvl:=hv.lt
 clear in1 in2 ht1 ht2 hs1 hs2
 generalize earE (nextE L1 last) (nextE L2 last)=R at *
 generalize nextE L1 last=R1 at *
 generalize nextE L2 last=R2 at *
 have KEEP:W.cell? ⟨vb,0,none⟩=some (.pointer p)∧W.cell? ⟨vb,1,none⟩=some (.pointer q)∧W.cell? ⟨vb,2,none⟩=some (.int .i64 last):=hv.cs.1
 have hca:=HA.out W.drew (Below.refl _ W).drew
 have HV:=hide hv
 clear hv HA
 go_enter Tryz.func35,Tryz.ntmps35
 go_wp2_with fail
 refine wp_region_noPanic ?_
 refine wp_region_held_drew (S:=(fun w'=>w'.cell? ⟨vb,0,none⟩=some (.pointer p)∧w'.cell? ⟨vb,1,none⟩=some (.pointer q)∧w'.cell? ⟨vb,2,none⟩=some (.int .i64 last))) (by kernel_rfl) ?_ (fun hHeld=>?_)
 ·exact KEEP
 refine tk 0 rfl hHeld ?_
 refine tk 1 rfl hHeld ?_
 refine tk 2 rfl hHeld ?_
 refine tk 3 rfl hHeld ?_
 refine tk 4 rfl hHeld ?_
 refine tk 5 rfl hHeld ?_
 refine tk 6 rfl hHeld ?_
 refine tk 7 rfl hHeld ?_
 refine tk 8 rfl hHeld ?_
 refine tk 10 rfl hHeld ?_
 refine tk 11 rfl hHeld ?_
 refine tk 12 rfl hHeld ?_
 refine tk 13 rfl hHeld ?_
 refine tk 14 rfl hHeld ?_
 refine tk 15 rfl hHeld ?_
 refine tk 16 rfl hHeld ?_
 refine tk 17 rfl hHeld ?_
 refine tk 18 rfl hHeld ?_
 refine rd 9 rfl fun K hK=>?_
 have hHold:=hHeld
 clear hHeld
 go_simp
 refine(hca).mono ?_
 rintro e V1 ⟨rfl,gV1⟩
 have sV1:W.heap.size≤V1.heap.size:=gV1.size
 have kc:∀o,V1.cell? ⟨vb,o,none⟩=W.cell? ⟨vb,o,none⟩:=fun o=>World.cell?_of_block (a:=⟨vb,o,none⟩) (w:=W) (gV1.block vb (by show vb<W.heap.size;omega))
 have KEEP:V1.cell? ⟨vb,0,none⟩=some (.pointer p)∧V1.cell? ⟨vb,1,none⟩=some (.pointer q)∧V1.cell? ⟨vb,2,none⟩=some (.int .i64 last):=⟨(kc _).trans KEEP.1,(kc _).trans KEEP.2.1,(kc _).trans KEEP.2.2⟩
 clear kc
 go_wp2_with fail
 refine hK.out _ _ ?_ (fun hHeld=>?_)
 ·((try dsimp only);exact KEEP)
 clear hK K hHold
 try simp only[pu]
 refine rd 19 rfl fun K hK=>?_
 have hHold:=hHeld
 clear hHeld
 go_simp
 have g01:Below W.heap.size W V1:=(Below.refl _ W).drew.trans (show Below W.heap.size W.drew V1 from gV1)
 refine(HN.out V1 g01).mono ?_
 rintro e V2 ⟨rfl,gV2⟩
 have sV2:V1.heap.size≤V2.heap.size:=gV2.size
 have kc:∀o,V2.cell? ⟨vb,o,none⟩=V1.cell? ⟨vb,o,none⟩:=fun o=>World.cell?_of_block (a:=⟨vb,o,none⟩) (w:=V1) (gV2.block vb (by show vb<V1.heap.size;omega))
 have KEEP:V2.cell? ⟨vb,0,none⟩=some (.pointer p)∧V2.cell? ⟨vb,1,none⟩=some (.pointer q)∧V2.cell? ⟨vb,2,none⟩=some (.int .i64 last):=⟨(kc _).trans KEEP.1,(kc _).trans KEEP.2.1,(kc _).trans KEEP.2.2⟩
 clear kc
 go_wp2_with fail
 refine hK.out _ _ ?_ (fun hHeld=>?_)
 ·((try dsimp only);exact KEEP)
 clear hK K hHold
 try simp only[pu]
 refine rd 20 rfl fun K hK=>?_
 have hHold:=hHeld
 clear hHeld
 go_simp
 have g02:Below W.heap.size W V2:=g01.trans (gV2.mono sV1)
 refine(HE.out V2 g02).mono ?_
 rintro e V3 ⟨rfl,gV3⟩
 have sV3:V2.heap.size≤V3.heap.size:=gV3.size
 have kc:∀o,V3.cell? ⟨vb,o,none⟩=V2.cell? ⟨vb,o,none⟩:=fun o=>World.cell?_of_block (a:=⟨vb,o,none⟩) (w:=V2) (gV3.block vb (by show vb<V2.heap.size;omega))
 have KEEP:V3.cell? ⟨vb,0,none⟩=some (.pointer p)∧V3.cell? ⟨vb,1,none⟩=some (.pointer q)∧V3.cell? ⟨vb,2,none⟩=some (.int .i64 last):=⟨(kc _).trans KEEP.1,(kc _).trans KEEP.2.1,(kc _).trans KEEP.2.2⟩
 clear kc
 go_wp2_with fail
 refine hK.out _ _ ?_ (fun hHeld=>?_)
 ·((try dsimp only);exact KEEP)
 clear hK K hHold
 try simp only[pu]
 refine tk 21 rfl hHeld ?_
 refine wpAnyH_done (by kernel_rfl) ?_ _
 refine NoPanic.normal ?_
 clear hHeld hca HN HE
 have gW3:Below W.heap.size W V3:=g02.trans (gV3.mono (by omega))
 have hv3:VwBlk V3 vb p q last:=(gW3.block vb hvl).trans (unhide HV)
 obtain⟨⟨v0,v1,v2⟩,f0,f1,f2⟩:=hv3.cs
 cases R with
 | none=>
  have hv4:=((hv3.set.1 none).set).2.1 none
  have HF:Hid (GrB (fun k=>k=vb) W.heap.size W ((V3.setCell ⟨vb,0,none⟩ (.pointer none)).setCell ⟨vb,1,none⟩ (.pointer none))∧VwBlk ((V3.setCell ⟨vb,0,none⟩ (.pointer none)).setCell ⟨vb,1,none⟩ (.pointer none)) vb none none last):=⟨⟨gW3.os,gW3.tape,gW3.output,by have:=gW3.size;simpa using this,fun k hk hx=>(Below.heap_setCell _ _ _ _ (by simpa using hx)).trans ((Below.heap_setCell _ _ _ _ (by simpa using hx)).trans (gW3.block k hk))⟩,hv4⟩
  clear gW3 hv3 hv4 KEEP HV gV1 gV2 gV3 hpl g01 g02
  simp only[ptrX,ptrE,Option.map_none]
  go_wp2_with fail
  all_goals go_ret
  all_goals exact⟨rfl,HF.out.1,(fun eb h=>by cases h),(fun _=>HF.out.2)⟩
 | some x=>
  have hpc:=hpl x rfl
  have hp3:V3.cell? ⟨x.1,0,none⟩=some (.int .i64 x.2):=(gW3.cell (p:=⟨x.1,0,none⟩) (cell_in hpc)).trans hpc
  have hv4:=hv3.set.2.2 x.2
  have HF:Hid (GrB (fun k=>k=vb) W.heap.size W (V3.setCell ⟨vb,2,none⟩ (.int .i64 x.2))∧VwBlk (V3.setCell ⟨vb,2,none⟩ (.int .i64 x.2)) vb p q x.2):=⟨⟨gW3.os,gW3.tape,gW3.output,by have:=gW3.size;simpa using this,fun k hk hx=>(Below.heap_setCell _ _ _ _ (by simpa using hx)).trans (gW3.block k hk)⟩,hv4⟩
  clear gW3 hv3 hv4 KEEP HV gV1 gV2 gV3 hpl hpc g01 g02
  simp only[ptrX,ptrE,Option.map_some]
  go_wp2_with fail
  all_goals go_ret
  all_goals exact⟨rfl,HF.out.1,(fun y h=>by cases h;exact HF.out.2),(fun h=>by cases h)⟩
set_option maxHeartbeats 2000000
set_option maxRecDepth 100000
theorem familyOf_old(b me mf fb:Nat)(laid:Int)(cnt:Nat)(g:Lit→Option Addr)(s:ByteArray)(n:Nat)(w:World)(hb:BsBlk w b laid me mf)(hm:PM 80 w mf cnt g)(hs:s.size≤maxLen)(hn:n≤9223372036854775807)(hg:g (predL s n)=some ⟨fb,0,none⟩):
  Calls Tryz.prog 24 #[.pointer (some ⟨b,0,none⟩),predV s n] w fun e W'=>e=.returned (.pointer (some ⟨fb,0,none⟩))∧Below w.heap.size w W':=by
 have hkey:=pred_key s n hs hn
 have hb1:Below w.heap.size w (w.alloc (.cells #[.string s,.int .i64 (n:Int)] 80)).drew:=((Below.refl _ w).alloc (Nat.le_refl _) _).drew
 have hm1:=hm.kept (hb1.block mf hm.lt)
 have hB1:BsBlk (w.alloc (.cells #[.string s,.int .i64 (n:Int)] 80)).drew b laid me mf:=(hb1.block b hb.lt).trans hb
 have hlk:=hm1.look Tryz.keyedPred Tryz.underlying44 (Tryz.zeroPtr64 _) hkey
 rw[hg] at hlk
 obtain⟨c0,c1,c2,-⟩:=hB1.cs
 have c2':(w.alloc (.cells #[.string s,.int .i64 (n:Int)] 80)).cell? ⟨b,2,none⟩=some (.map (some mf)):=c2
 simp only[predV,Option.isSome_some] at hlk hkey⊢
 have HB:=hide hb1
 clear hb hm hm1 hB1 hkey hg hb1 c0 c1 c2
 go_enter Tryz.func24,Tryz.ntmps24
 go_wp2_with fail
 go_region
 go_wp2_with fail
 all_goals go_ret
 all_goals exact⟨rfl,unhide HB⟩
theorem letThrough_key(fb km ck:Nat)(all:Option Addr)(gk:Lit→Option Addr)(k N:Int)(s:ByteArray)(n:Nat)(W:World)(hf:FmBlk W fb all km)(hm:PM 106 W km ck gk)(hk0:¬k=0)(hs:s.size≤maxLen)(hn:n≤9223372036854775807)(hk1: -9223372036854775808≤k)(hk2:k≤9223372036854775807)(hN1: -9223372036854775808≤N)(hN2:N≤9223372036854775807):
  Calls Tryz.prog 79 #[.pointer (some ⟨fb,0,none⟩),keyV k N s n] W fun e W'=>e=.returned (.agg #[.pointer (gk (keyL k N s n)),.pointer (gk (keyL 0 0 ⟨#[]⟩ 0))])∧Below W.heap.size W W':=by
 have hb2:Below W.heap.size W ((W.alloc (.cells #[.int .i64 k,.int .i64 N,.string s,.int .i64 (n:Int)] 106)).alloc (.cells #[.pointer none,.pointer none] 117)).drew:=(((Below.refl _ W).alloc (Nat.le_refl _) _).alloc (by simp) _).drew
 have hl1:=(hm.kept (hb2.block km hm.lt)).look1 Tryz.keyedKey Tryz.underlying101 (Tryz.zeroPtr71 _) (key_key k N s n hs hn hk1 hk2 hN1 hN2)
 have hl2:=(hm.kept (hb2.block km hm.lt)).look1 Tryz.keyedKey Tryz.underlying101 (Tryz.zeroPtr71 _) (key_key 0 0 ⟨#[]⟩ 0 (by decide) (by omega) (by omega) (by omega) (by omega) (by omega))
 obtain⟨_,f1,_⟩:=(show FmBlk ((W.alloc (.cells #[.int .i64 k,.int .i64 N,.string s,.int .i64 (n:Int)] 106)).alloc (.cells #[.pointer none,.pointer none] 117)).drew fb all km from(hb2.block fb hf.lt).trans hf).cs
 have f1':((W.alloc (.cells #[.int .i64 k,.int .i64 N,.string s,.int .i64 (n:Int)] 106)).alloc (.cells #[.pointer none,.pointer none] 117)).cell? ⟨fb,1,none⟩=some (.map (some km)):=f1
 generalize gk (keyL k N s n)=r1 at *
 generalize gk (keyL 0 0 ⟨#[]⟩ 0)=r2 at *
 simp only[keyV] at hl1 hl2⊢
 have e0:((0:Nat):Int)=0:=rfl
 rw[e0] at hl2
 clear e0
 have hk0':(k == 0)=false:=by simpa using hk0
 clear hf hm hb2 f1 hs hn hk1 hk2 hN1 hN2
 go_enter Tryz.func79,Tryz.ntmps79
 go_wp2_with fail
 go_region
 all_goals
  go_wp2_with fail
  exact bodyPost_ret (v:=.agg #[.pointer r1,.pointer r2]) (by simp[results,Tryz.results79,go_sem]) rfl ⟨rfl,by first | exact(((Below.refl _ W).alloc (Nat.le_refl _) _).alloc (by simp) _).drew⟩
theorem view_known(b me mf fb:Nat)(laid:Int)(cf:Nat)(gf:Lit→Option Addr)(p q:Option Addr){n:Nat}(tg:Tm (n+1))(W:World)(hb:BsBlk W b laid me mf)(hmf:PM 80 W mf cf gf)(hT:IsT W.heap.size W tg)(hok:okT tg=true)(hcall:(decide (tg.tv.k=3) || decide (tg.tv.k=4))=true)(hltq:∀V,Below W.heap.size W V→Calls Tryz.prog 79 #[.pointer (some ⟨fb,0,none⟩),keyOfV tg] V fun e W'=>e=.returned (.agg #[.pointer p,.pointer q])∧Below V.heap.size V W')(hg:gf (predL tg.tv.s tg.tv.len)=some ⟨fb,0,none⟩):
  Calls Tryz.prog 34 #[.pointer (some ⟨b,0,none⟩),tg.tv.val] W fun e W'=> ∃vb,e=.returned (.tuple #[.pointer (some ⟨vb,0,none⟩),.int .i64 0])∧W.heap.size≤vb∧VwBlk W' vb p q (-9223372036854775808)∧Below W.heap.size W W':=
 view_by b p q tg W hT hok hcall fun V hV=>rules_known b me mf fb laid cf gf p q tg.tv.s tg.tv.len _ _ _ _ V ((hV.block b hb.lt).trans hb) (hmf.kept (hV.block mf hmf.lt)) hT.2.2.1 hT.2.1.1 (fun V' hV'=>hltq V' (hV.trans (hV'.mono hV.size))) hg
theorem view_unknown(b me mf:Nat)(laid:Int)(cf:Nat)(gf:Lit→Option Addr){n:Nat}(tg:Tm (n+1))(W:World)(hb:BsBlk W b laid me mf)(hmf:PM 80 W mf cf gf)(hT:IsT W.heap.size W tg)(hok:okT tg=true)(hcall:(decide (tg.tv.k=3) || decide (tg.tv.k=4))=true)(hg:gf (predL tg.tv.s tg.tv.len)=none):
  Calls Tryz.prog 34 #[.pointer (some ⟨b,0,none⟩),tg.tv.val] W fun e W'=> ∃vb,e=.returned (.tuple #[.pointer (some ⟨vb,0,none⟩),.int .i64 0])∧W.heap.size≤vb∧VwBlk W' vb none none (-9223372036854775808)∧Below W.heap.size W W':=
 view_by b none none tg W hT hok hcall fun V hV=>rules_unknown b me mf laid cf gf tg.tv.s tg.tv.len _ _ _ _ V ((hV.block b hb.lt).trans hb) (hmf.kept (hV.block mf hmf.lt)) hT.2.2.1 hT.2.1.1 hg
set_option maxHeartbeats 600000
set_option maxRecDepth 100000
theorem set8_block(W:World)(b:Nat)(x y:TV){k:Nat}(hk:k≠b):(set8 W b x y).heap[k]?=W.heap[k]?:=(set4_other _ b 4 y hk).trans (set4_other W b 0 x hk)
theorem GrB.set8{X:Nat→Prop}{B:Nat}{A W:World}(h:GrB X B A W){b:Nat}(hb:B≤b)(x y:TV):GrB X B A (set8 W b x y):=(h.set4 hb 0 x).set4 hb 4 y
theorem VwBlk.set8{W:World}{vb:Nat}{p q:Option Addr}{last:Int}(h:VwBlk W vb p q last){b:Nat}(hk:vb≠b)(x y:TV):VwBlk (set8 W b x y) vb p q last:=(set8_block W b x y hk).trans h
theorem next_none(vb:Nat)(p q:Option Addr)(last:Int){L1 L2:List (Nat×Int)}{h1 h2:Int}(W:World)(hv:VwBlk W vb p q last)(ht1:TrL W p L1 h1)(ht2:TrL W q L2 h2)(hs1:Srt L1)(hs2:Srt L2)(hR:earE (nextE L1 last) (nextE L2 last)=none):
  Calls Tryz.prog 19 #[.pointer (some ⟨vb,0,none⟩)] W fun e W'=>e=.returned (.tuple #[.int .i64 0,clV noTerm noTerm,.bool false])∧GrB (fun k=>k=vb) W.heap.size W W'∧VwBlk W' vb none none last:=by
 have hb1:Below W.heap.size W (W.alloc (.cells #[.int .i64 0,.int .i64 0,.string ⟨#[]⟩,.slice none 0 0,.int .i64 0,.int .i64 0,.string ⟨#[]⟩,.slice none 0 0] 36)):=(Below.refl _ W).alloc (Nat.le_refl _) _
 have hbz:BoxC (W.alloc (.cells #[.int .i64 0,.int .i64 0,.string ⟨#[]⟩,.slice none 0 0,.int .i64 0,.int .i64 0,.string ⟨#[]⟩,.slice none 0 0] 36)) W.heap.size noTerm noTerm:=BoxC.new W noTerm noTerm
 have hvl:=hv.lt
 have hst:=stepL vb p q last (W.alloc (.cells #[.int .i64 0,.int .i64 0,.string ⟨#[]⟩,.slice none 0 0,.int .i64 0,.int .i64 0,.string ⟨#[]⟩,.slice none 0 0] 36)) ((hb1.block vb hvl).trans hv) (ht1.below hb1) (ht2.below hb1) hs1 hs2
 rw[hR] at hst
 simp only[ptrX,ptrE,Option.map_none] at hst
 have HZ:=hide (And.intro hb1 hbz)
 clear hv ht1 ht2 hs1 hs2 hR hb1 hbz
 go_enter Tryz.func19,Tryz.ntmps19
 go_wp2_with fail
 refine hst.mono ?_
 clear hst
 rintro e V2 ⟨rfl,g2,k2⟩
 obtain⟨hb1,hbz⟩:=unhide HZ
 have hs1:(W.alloc (.cells #[.int .i64 0,.int .i64 0,.string ⟨#[]⟩,.slice none 0 0,.int .i64 0,.int .i64 0,.string ⟨#[]⟩,.slice none 0 0] 36)).heap.size=W.heap.size+1:=by simp
 generalize (W.alloc (.cells #[.int .i64 0,.int .i64 0,.string ⟨#[]⟩,.slice none 0 0,.int .i64 0,.int .i64 0,.string ⟨#[]⟩,.slice none 0 0] 36))=V1 at hb1 hbz hs1 g2
 have hs2:=g2.size
 have hz2:BoxC V2 W.heap.size noTerm noTerm:=(g2.block _ (by omega) (by omega)).trans hbz
 obtain⟨⟨z0,z1,z2,z3⟩,z4,z5,z6,z7⟩:=hz2.cs
 obtain⟨y0,y1,y2,y3,y4,y5,y6,y7⟩:=hz2.fs
 have gW:GrB (fun k=>k=vb) W.heap.size W V2:=(GrB.of_below hb1).trans (g2.mono (by omega))
 have HF:Hid (GrB (fun k=>k=vb) W.heap.size W (set8 V2 W.heap.size noTerm noTerm)∧VwBlk (set8 V2 W.heap.size noTerm noTerm) vb none none last∧BoxC (set8 V2 W.heap.size noTerm noTerm) W.heap.size noTerm noTerm):=⟨gW.set8 (Nat.le_refl _) _ _,(k2.2 rfl).set8 (by omega) _ _,boxC_set8 hz2 _ _⟩
 simp only[noTerm] at z0 z1 z2 z3 z4 z5 z6 z7
 clear gW hz2 g2 k2 hb1 hbz HZ
 go_wp2_with fail
 exact bodyPost_ret (v:=.tuple #[.int .i64 0,clV noTerm noTerm,.bool false]) (by simp[results,Tryz.results19,go_sem,clV,noTerm,z0,z1,z2,z3,z4,z5,z6,z7]) rfl ⟨rfl,HF.out.1,HF.out.2.1⟩
theorem next_some(vb eb:Nat)(pl:Int)(p q:Option Addr)(last:Int){L1 L2:List (Nat×Int)}{h1 h2:Int}{D:Nat}{S:Nat→Prop}{x y:TV}{h bd:List Nd}(W:World)(hv:VwBlk W vb p q last)(ht1:TrL W p L1 h1)(ht2:TrL W q L2 h2)(hs1:Srt L1)(hs2:Srt L2)(hR:earE (nextE L1 last) (nextE L2 last)=some (eb,pl))(hen:EnBlk W eb pl x y)(hpl0: -9223372036854775808<pl)(hpl1:pl≤9223372036854775807)
  (hx:HoldsS D S W x.val h) (hy:HoldsS D S W y.val bd) (hS:∀k,S k→k≠vb) (oh:h.all okM=true) (ob:bd.all okM=true) (hD:D≤2199023255552:=by omega):
  Calls Tryz.prog 19 #[.pointer (some ⟨vb,0,none⟩)] W fun e W'=>(∃x' y':TV,e=.returned (.tuple #[.int .i64 (max pl (-pl)),clV x' y',.bool true])∧HoldsS (D+1) (W.heap.size≤ ·) W' x'.val h∧HoldsS (D+1) (W.heap.size≤ ·) W' y'.val bd)∧GrB (fun k=>k=vb) W.heap.size W W'∧VwBlk W' vb p q pl:=by
 have hb1:Below W.heap.size W (W.alloc (.cells #[.int .i64 0,.int .i64 0,.string ⟨#[]⟩,.slice none 0 0,.int .i64 0,.int .i64 0,.string ⟨#[]⟩,.slice none 0 0] 36)):=(Below.refl _ W).alloc (Nat.le_refl _) _
 have hbz:BoxC (W.alloc (.cells #[.int .i64 0,.int .i64 0,.string ⟨#[]⟩,.slice none 0 0,.int .i64 0,.int .i64 0,.string ⟨#[]⟩,.slice none 0 0] 36)) W.heap.size noTerm noTerm:=BoxC.new W noTerm noTerm
 have hvl:=hv.lt
 have hel:=hen.lt
 have hne:eb≠vb:=fun e=>by
  subst e
  have e1:W.heap[eb]?=_:=hv
  have e2:W.heap[eb]?=_:=hen
  rw[e1] at e2
  simp at e2
 have hst:=stepL vb p q last (W.alloc (.cells #[.int .i64 0,.int .i64 0,.string ⟨#[]⟩,.slice none 0 0,.int .i64 0,.int .i64 0,.string ⟨#[]⟩,.slice none 0 0] 36)) ((hb1.block vb hvl).trans hv) (ht1.below hb1) (ht2.below hb1) hs1 hs2
 rw[hR] at hst
 simp only[ptrX,ptrE,Option.map_some] at hst
 have hx1:=hx.below hb1
 have hy1:=hy.below hb1
 have he1:EnBlk (W.alloc (.cells #[.int .i64 0,.int .i64 0,.string ⟨#[]⟩,.slice none 0 0,.int .i64 0,.int .i64 0,.string ⟨#[]⟩,.slice none 0 0] 36)) eb pl x y:=(hb1.block eb hel).trans hen
 have hs0:(W.alloc (.cells #[.int .i64 0,.int .i64 0,.string ⟨#[]⟩,.slice none 0 0,.int .i64 0,.int .i64 0,.string ⟨#[]⟩,.slice none 0 0] 36)).heap.size=W.heap.size+1:=by simp
 have HZ:=hide (And.intro hb1 (And.intro hbz (And.intro hx1 (And.intro hy1 (And.intro he1 hs0)))))
 clear hv ht1 ht2 hs1 hs2 hR hb1 hbz hx hy hx1 hy1 he1 hs0 hen
 go_enter Tryz.func19,Tryz.ntmps19
 go_wp2_with fail
 refine hst.mono ?_
 clear hst
 rintro e V2 ⟨rfl,g2,k2⟩
 have Q:=unhide HZ
 clear HZ
 generalize (W.alloc (.cells #[.int .i64 0,.int .i64 0,.string ⟨#[]⟩,.slice none 0 0,.int .i64 0,.int .i64 0,.string ⟨#[]⟩,.slice none 0 0] 36))=V1 at Q g2
 obtain⟨hb1,hbz,hx1,hy1,he1,hs1⟩:=Q
 have hs2:=g2.size
 have hz2:BoxC V2 W.heap.size noTerm noTerm:=(g2.block _ (by omega) (by omega)).trans hbz
 have gW:GrB (fun k=>k=vb) W.heap.size W V2:=(GrB.of_below hb1).trans (g2.mono (by omega))
 have he2:EnBlk V2 eb pl x y:=(g2.block _ (by omega) hne).trans he1
 have hx2:HoldsS D S V2 x.val h:=hx1.fromS (fun k hk hl=>g2.block k hl (hS k hk)) g2.size
 have hy2:HoldsS D S V2 y.val bd:=hy1.fromS (fun k hk hl=>g2.block k hl (hS k hk)) g2.size
 have hv2:VwBlk V2 vb p q pl:=k2.1 (eb,pl) rfl
 have hel2:=he2.lt
 have hid:=idAt_any pl V2.drew hpl0 hpl1
 have bd2:Below V2.heap.size V2 V2.drew:=(Below.refl _ V2).drew
 have hcp:=copyOfClause_any (W:=V2.drew) (hx2.below bd2) (hy2.below bd2) oh ob
 obtain⟨e0,⟨e1,e2,e3,e4⟩,e5,e6,e7,e8⟩:=he2.cs
 have KEEP:V2.cell? ⟨eb,0,none⟩=some (.int .i64 pl)∧V2.cell? ⟨eb,1,none⟩=some (.int .i64 x.k)∧V2.cell? ⟨eb,2,none⟩=some (.int .i64 x.N)∧V2.cell? ⟨eb,3,none⟩=some (.string x.s)∧V2.cell? ⟨eb,4,none⟩=some (.slice x.a x.len x.cap)∧V2.cell? ⟨eb,5,none⟩=some (.int .i64 y.k)∧V2.cell? ⟨eb,6,none⟩=some (.int .i64 y.N)∧V2.cell? ⟨eb,7,none⟩=some (.string y.s)∧V2.cell? ⟨eb,8,none⟩=some (.slice y.a y.len y.cap):=⟨e0,e1,e2,e3,e4,e5,e6,e7,e8⟩
 have HV:=hide (And.intro hz2 (And.intro gW hv2))
 have hs12:W.heap.size+1≤V2.heap.size:=by omega
 clear hb1 hbz hx1 hy1 he1 hs1 g2 k2 hz2 gW he2 hx2 hy2 hv2 bd2 e0 e1 e2 e3 e4 e5 e6 e7 e8 hs2 hS oh ob
 simp only[clV] at hcp
 go_wp2_with fail
 refine wp_region_noPanic ?_
 refine wp_region_held_drew (S:=(fun w'=>w'.cell? ⟨eb,0,none⟩=some (.int .i64 pl)∧w'.cell? ⟨eb,1,none⟩=some (.int .i64 x.k)∧w'.cell? ⟨eb,2,none⟩=some (.int .i64 x.N)∧w'.cell? ⟨eb,3,none⟩=some (.string x.s)∧w'.cell? ⟨eb,4,none⟩=some (.slice x.a x.len x.cap)∧w'.cell? ⟨eb,5,none⟩=some (.int .i64 y.k)∧w'.cell? ⟨eb,6,none⟩=some (.int .i64 y.N)∧w'.cell? ⟨eb,7,none⟩=some (.string y.s)∧w'.cell? ⟨eb,8,none⟩=some (.slice y.a y.len y.cap))) (by kernel_rfl) ?_ (fun hHeld=>?_)
 ·exact KEEP
 refine tk 0 rfl hHeld ?_
 refine tk 1 rfl hHeld ?_
 refine tk 2 rfl hHeld ?_
 refine tk 3 rfl hHeld ?_
 refine tk 5 rfl hHeld ?_
 refine tk 6 rfl hHeld ?_
 refine tk 7 rfl hHeld ?_
 refine tk 8 rfl hHeld ?_
 refine rd 4 rfl fun K hK=>?_
 have hHold:=hHeld
 clear hHeld
 go_simp
 refine hid.mono ?_
 clear hid
 rintro e V3 ⟨rfl,rfl⟩
 have KEEP:V2.drew.cell? ⟨eb,0,none⟩=some (.int .i64 pl)∧V2.drew.cell? ⟨eb,1,none⟩=some (.int .i64 x.k)∧V2.drew.cell? ⟨eb,2,none⟩=some (.int .i64 x.N)∧V2.drew.cell? ⟨eb,3,none⟩=some (.string x.s)∧V2.drew.cell? ⟨eb,4,none⟩=some (.slice x.a x.len x.cap)∧V2.drew.cell? ⟨eb,5,none⟩=some (.int .i64 y.k)∧V2.drew.cell? ⟨eb,6,none⟩=some (.int .i64 y.N)∧V2.drew.cell? ⟨eb,7,none⟩=some (.string y.s)∧V2.drew.cell? ⟨eb,8,none⟩=some (.slice y.a y.len y.cap):=KEEP
 go_wp2_with fail
 refine hK.out _ _ ?_ (fun hHeld=>?_)
 ·((try dsimp only);exact KEEP)
 clear hK K hHold
 try simp only[pu]
 refine rd 9 rfl fun K hK=>?_
 have hHold:=hHeld
 clear hHeld
 go_simp
 refine hcp.mono ?_
 clear hcp
 rintro e V4 ⟨v,rfl,⟨x4,y4,rfl,q1,q2⟩,g4⟩
 have s4:V2.heap.size≤V4.heap.size:=g4.size
 have kc:∀o,V4.cell? ⟨eb,o,none⟩=V2.cell? ⟨eb,o,none⟩:=fun o=>World.cell?_of_block (a:=⟨eb,o,none⟩) (w:=V2) (g4.block eb hel2)
 have KEEP:V4.cell? ⟨eb,0,none⟩=some (.int .i64 pl)∧V4.cell? ⟨eb,1,none⟩=some (.int .i64 x.k)∧V4.cell? ⟨eb,2,none⟩=some (.int .i64 x.N)∧V4.cell? ⟨eb,3,none⟩=some (.string x.s)∧V4.cell? ⟨eb,4,none⟩=some (.slice x.a x.len x.cap)∧V4.cell? ⟨eb,5,none⟩=some (.int .i64 y.k)∧V4.cell? ⟨eb,6,none⟩=some (.int .i64 y.N)∧V4.cell? ⟨eb,7,none⟩=some (.string y.s)∧V4.cell? ⟨eb,8,none⟩=some (.slice y.a y.len y.cap):=⟨(kc 0).trans KEEP.1,(kc 1).trans KEEP.2.1,(kc 2).trans KEEP.2.2.1,(kc 3).trans KEEP.2.2.2.1,(kc 4).trans KEEP.2.2.2.2.1,(kc 5).trans KEEP.2.2.2.2.2.1,(kc 6).trans KEEP.2.2.2.2.2.2.1,(kc 7).trans KEEP.2.2.2.2.2.2.2.1,(kc 8).trans KEEP.2.2.2.2.2.2.2.2⟩
 have hz4:BoxC V4 W.heap.size noTerm noTerm:=(g4.block _ (show W.heap.size<V2.heap.size by omega)).trans (unhide HV).1
 obtain⟨⟨z0,z1,z2,z3⟩,z4,z5,z6,z7⟩:=hz4.cs
 obtain⟨y0,y1,y2,y3,y4',y5,y6,y7⟩:=hz4.fs
 simp only[noTerm] at z0 z1 z2 z3 z4 z5 z6 z7
 have HB4:=hide hz4
 clear kc hz4
 dsimp only[clV]
 go_wp2_with fail
 refine hK.out _ _ ?_ (fun hHeld=>?_)
 ·((try dsimp only);exact KEEP)
 clear hK K hHold
 try simp only[pu]
 refine tk 10 rfl hHeld ?_
 refine rd 11 rfl fun K hK=>?_
 have hHold:=hHeld
 clear hHeld
 go_simp
 refine hK.out _ _ ?_ (fun hHeld=>?_)
 ·((try dsimp only);exact⟨(far8n _ W.heap.size _ _ 0 (by omega)).trans KEEP.1,(far8n _ W.heap.size _ _ 1 (by omega)).trans KEEP.2.1,(far8n _ W.heap.size _ _ 2 (by omega)).trans KEEP.2.2.1,(far8n _ W.heap.size _ _ 3 (by omega)).trans KEEP.2.2.2.1,(far8n _ W.heap.size _ _ 4 (by omega)).trans KEEP.2.2.2.2.1,(far8n _ W.heap.size _ _ 5 (by omega)).trans KEEP.2.2.2.2.2.1,(far8n _ W.heap.size _ _ 6 (by omega)).trans KEEP.2.2.2.2.2.2.1,(far8n _ W.heap.size _ _ 7 (by omega)).trans KEEP.2.2.2.2.2.2.2.1,(far8n _ W.heap.size _ _ 8 (by omega)).trans KEEP.2.2.2.2.2.2.2.2⟩)
 clear hK K hHold
 try simp only[pu]
 refine tk 12 rfl hHeld ?_
 refine wpAnyH_done (by kernel_rfl) ?_ _
 refine NoPanic.normal ?_
 clear hHeld KEEP
 rw[set8_nestn]
 have HF:Hid (GrB (fun k=>k=vb) W.heap.size W (set8 V4 W.heap.size x4 y4)∧HoldsS (D+1) (W.heap.size≤ ·) (set8 V4 W.heap.size x4 y4) x4.val h∧HoldsS (D+1) (W.heap.size≤ ·) (set8 V4 W.heap.size x4 y4) y4.val bd∧VwBlk (set8 V4 W.heap.size x4 y4) vb p q pl∧BoxC (set8 V4 W.heap.size x4 y4) W.heap.size x4 y4):=by
  have hl:∀k,V2.drew.heap.size≤k→W.heap.size≤k:=fun k hk=>by have:V2.heap.size≤k:=hk;omega
  have hlt:W.heap.size<V2.drew.heap.size:=hs12
  obtain⟨_,gW,hv2⟩:=unhide HV
  have g24:GrB (fun k=>k=vb) W.heap.size V2 V4:=⟨g4.os,g4.tape,g4.output,s4,fun k hk _=>g4.block k (show k<V2.heap.size by omega)⟩
  exact⟨(gW.trans g24).set8 (Nat.le_refl _) _ _,(holdsS_set4 (holdsS_set4 q1 hlt 0 _) hlt 4 _).mono (Nat.le_refl _) hl,(holdsS_set4 (holdsS_set4 q2 hlt 0 _) hlt 4 _).mono (Nat.le_refl _) hl,VwBlk.set8 (show VwBlk V4 vb p q pl from(g4.block _ (show vb<V2.heap.size by omega)).trans hv2) (by omega) _ _,boxC_set8 (unhide HB4) _ _⟩
 obtain⟨⟨w0,w1,w2,w3⟩,w4,w5,w6,w7⟩:=HF.out.2.2.2.2.cs
 generalize set8 V4 W.heap.size x4 y4=V5 at HF w0 w1 w2 w3 w4 w5 w6 w7⊢
 clear g4 q1 q2 HV HB4 z0 z1 z2 z3 z4 z5 z6 z7 y0 y1 y2 y3 y4' y5 y6 y7
 go_wp2_with fail
 exact bodyPost_ret (v:=.tuple #[.int .i64 (max pl (-pl)),clV x4 y4,.bool true]) (by simp[results,Tryz.results19,go_sem,clV,w0,w1,w2,w3,w4,w5,w6,w7]) rfl ⟨⟨x4,y4,rfl,HF.out.2.1,HF.out.2.2.1⟩,HF.out.1,HF.out.2.2.2.1⟩
end Go.Proofs.YteaiefjmcinljaaGreatDoor
