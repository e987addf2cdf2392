import Derived.Test.YteaiefjmcinljaaGreatDoorTks
import Derived.Test.YteaiefjmcinljaaGreatDoorBaE
namespace Go.Proofs.YteaiefjmcinljaaGreatDoor
set_option maxHeartbeats 8000000
set_option maxRecDepth 100000
open Go.RowKit Go.Shelf
theorem body_fine:∀{n:Nat} {t:Tm n} {c:List Nd},Wl t→okT t=true→bodyC t=some c→c.all okM=true∧c.length≤2*(code t).length:=by
 intro n
 induction n with
 | zero=>intro t;exact Empty.elim t
 | succ n ih=>
  intro t c hw hok hb
  have hok0:=hok
  rw[okT_m] at hok
  obtain⟨x,kids⟩:=t
  rw[bodyC_succ] at hb
  by_cases k1:x.k=1
  ·rw[if_pos k1] at hb
   cases hb
   refine⟨?_,?_⟩
   ·simp only[List.all_cons,hok,Bool.and_true]
    decide +kernel
   ·have:1≤(code (n:=n+1) ((x,kids):TV×List (Tm n))).length:=by rw[code_succ];simp
    simp only[List.length_cons]
    omega
  ·rw[if_neg k1] at hb
   by_cases k2:x.k=2
   ·rw[if_pos k2] at hb;cases hb
   ·rw[if_neg k2] at hb
    cases hj:junct x with
    | false=>
     rw[hj,if_neg (by simp)] at hb
     cases hb
     exact⟨hok,by omega⟩
    | true=>
     rw[hj,if_pos rfl] at hb
     have hl:=junct_len hj
     have hl2:x.len=kids.length:=hw.1
     obtain⟨u,v,rfl⟩:∃u v,kids=[u,v]:=by
      match kids,(show kids.length=2 by omega) with
      | [u,v],_=>exact⟨u,v,rfl⟩
     have hk:=(ok_kids hok0).2
     have hwk:∀y∈[u,v],Wl y:=hw.2
     have hwm:=(ok_kids hok0).1
     simp only[List.map_cons,List.map_nil] at hb
     cases hu:bodyC u with
     | none=>rw[hu] at hb;cases hb
     | some cu=>
      cases hv:bodyC v with
      | none=>rw[hu,hv] at hb;cases hb
      | some cv=>
       rw[hu,hv] at hb
       cases(show some _=some c from hb)
       obtain⟨a1,a2⟩:=ih (hwk u (by simp)) (hk u (by simp)) hu
       obtain⟨b1,b2⟩:=ih (hwk v (by simp)) (hk v (by simp)) hv
       have hx:okM x.nd=true:=by rw[←ok_m];exact hwm
       have hx4:x.k=4∧x.N=0:=by
        rcases wm_cases hwm with⟨h,_⟩ | ⟨_,h⟩ | ⟨h,h',_⟩
        ·omega
        ·omega
        ·exact⟨h,h'⟩
       have hx':okM (4,0,x.s.toList,2)=true:=by
        have e:x.nd=(4,0,x.s.toList,2):=by simp[TV.nd,hx4.1,hx4.2,hl]
        rw[←e];exact hx
       refine⟨by simp[hx',a1,b1],?_⟩
       rw[code_succ]
       simp only[List.length_cons,List.length_append,List.flatMap_cons,List.flatMap_nil,List.append_nil]
       omega
theorem rmake_rule{n:Nat}(k N:Int)(s:ByteArray)(b off cap:Nat)(u v:Tm n)(m:Int)(W:World)(hbk:b<W.heap.size)(hcu:cellsAt W b off u.tv)(hcv:cellsAt W b (off+4) v.tv)(hTu:IsT W.heap.size W u)(hTv:IsT W.heap.size W v)(oku:okT u=true)(okv:okT v=true)(hlen:(code u).length+2*(code v).length≤4194304)(hi:isB (⟨k,N,s,some ⟨b,off,none⟩,2,cap⟩:TV) [58,45] 2=true)(hm:W.cell? ⟨splitLay_ren.g 1,0,none⟩=some (.int .i64 m))(hm0:splitLay_ren.g 1<W.heap.size)(hn38:n≤274877906946:=by omega):
  Calls Tryz.prog 45 #[(⟨k,N,s,some ⟨b,off,none⟩,2,cap⟩:TV).val] W fun e W'=>ClSays (n+3) W.heap.size (makeJ (headBad u.tv) (code u) (bodyC v)) e W'∧Below W.heap.size W W':=by
 have ha:=ratom_any ⟨#[116,114,117,101]⟩
 have i1:=ris_any (⟨k,N,s,some ⟨b,off,none⟩,2,cap⟩:TV) ⟨#[58,45]⟩ 2
 rw[show(⟨#[58,45]⟩:ByteArray).toList=[58,45] by decide +kernel,hi] at i1
 have HRS:Hid (∀V,Below W.heap.size W V→Calls Tryz.prog 74 #[.string u.tv.s,.int .i64 (u.tv.len:Int)] V fun e W'=>e=.returned (.bool (resB u.tv.s.toList u.tv.len))∧Below V.heap.size V W'):=fun V hb=>rres_any u.tv.s u.tv.len m V ((hb.cell (p:=⟨splitLay_ren.g 1,0,none⟩) hm0).trans hm) (Nat.lt_of_lt_of_le hm0 hb.size)
 have HBO:Hid (∀V,Below W.heap.size W V→W.heap.size≤V.heap.size→_):=fun V (hb:Below W.heap.size W V) (hs:W.heap.size≤V.heap.size)=>rbody_any v W.heap.size V (hTv.below hb) hs okv
 have HT0:Hid (IsT W.heap.size W u):=hTu
 have HOH:Hid (okT u=true):=oku
 have HBF:Hid (∀c,bodyC v=some c→c.all okM=true∧c.length≤2*(code v).length):=fun c h=>body_fine hTv.wl okv h
 have HCU:=hide hcu
 have HCV:=hide hcv
 clear hTu hTv oku okv hi hm hm0 hcu hcv
 simp only[atomV,TV.val,BSays] at ha i1 HBO⊢
 obtain⟨W2,hW2,hb2,hs2,bT,bC2⟩:=box_clause W (⟨k,N,s,some ⟨b,off,none⟩,2,cap⟩:TV)
 simp only at hW2
 obtain⟨x,hx⟩:∃x,x=(⟨k,N,s,some ⟨b,off,none⟩,2,cap⟩:TV):=⟨_,rfl⟩
 have HXX:Hid (x=(⟨k,N,s,some ⟨b,off,none⟩,2,cap⟩:TV)):=hx
 rw[←hx] at bT
 clear hx
 have hlt:W.heap.size<W2.heap.size:=bT.lt
 go_enter Tryz.func45,Tryz.ntmps45
 go_upto_region 1 with fail
 try rw[hW2]
 clear hW2
 go_cut [4,5,6] from 8 (fun s4 s5 s6 wc=>s6=.bool true∧∃p q,s4=.pointer (some ⟨p,0,none⟩)∧s5=.pointer (some ⟨q,0,none⟩)∧p≠q∧W2.heap.size≤p∧W2.heap.size≤q∧Below W2.heap.size W2 wc∧BoxT wc p x∧BoxT wc q (atomV ⟨#[116,114,117,101]⟩))
 case first=>
  clear i1 HRS HBO HBF hlen
  refine wp_region_noPanic ?_
  refine wp_region_held_drew (S:=(fun w'=>w'.cell? ⟨W.heap.size,0,none⟩=some (.int .i64 x.k)∧w'.cell? ⟨W.heap.size,1,none⟩=some (.int .i64 x.N)∧w'.cell? ⟨W.heap.size,2,none⟩=some (.string x.s)∧w'.cell? ⟨W.heap.size,3,none⟩=some (.slice x.a x.len x.cap))) (by kernel_rfl) ?_ (fun hHeld=>?_)
  ·exact⟨bT.c0,bT.c1,bT.c2,bT.c3⟩
  refine tk 0 rfl hHeld ?_
  have hD0:Below W2.heap.size W2 W2.drew:=(Below.refl _ W2).drew
  have bT0:=bT.below hD0 hlt
  have sD0:W2.heap.size≤W2.drew.heap.size:=hD0.size
  generalize W2.drew=D0 at hD0 bT0 sD0 hHeld⊢
  refine wpAnyH_ready (rs:=[1,2,3]) (by kernel_rfl) (by simp) ?_
  refine AllReadyH.cons (o:={dst:=some 9,op:=Op.call {callee:=Callee.value (Operand.func 72),args:=#[Operand.const (Value.string {data:=#[116,114,117,101]})],argTypes:=#[9]},type:=34,pos:= "base.go:53",after:=#[],guard:=none}) rfl (fun K hK=>?_) (AllReadyH.cons (o:={dst:=some 4,op:=Op.alloc 34,type:=0,pos:= "base.go:53",after:=#[],guard:=none}) rfl (fun K hK=>?_) (AllReadyH.cons (o:={dst:=some 5,op:=Op.alloc 34,type:=0,pos:= "base.go:53",after:=#[],guard:=none}) rfl (fun K hK=>?_) AllReadyH.nil))
  ·have hHold:=hHeld
   clear hHeld
   go_simp
   refine(ha _).mono ?_
   rintro e D1 ⟨rfl,hD1⟩
   have sD1:=hD1.size
   have bT1:=bT0.below hD1 (by omega)
   have hD1':Below W2.heap.size W2 D1:=hD0.trans (hD1.mono (by omega))
   go_wp2_with fail
   refine hK.out _ _ ?_ (fun hHeld=>?_)
   ·exact⟨bT1.c0,bT1.c1,bT1.c2,bT1.c3⟩
   clear hK K hHold
   try simp only[pu]
   refine wpAnyH_ready (rs:=[2,3]) (by kernel_rfl) (by simp) ?_
   refine AllReadyH.cons (o:={dst:=some 4,op:=Op.alloc 34,type:=0,pos:= "base.go:53",after:=#[],guard:=none}) rfl (fun K hK=>?_) (AllReadyH.cons (o:={dst:=some 5,op:=Op.alloc 34,type:=0,pos:= "base.go:53",after:=#[],guard:=none}) rfl (fun K hK=>?_) AllReadyH.nil)
   ·have hHold:=hHeld
    clear hHeld
    go_simp
    obtain⟨D2,eD2,hD2,sD2,bP2⟩:∃V,D1.alloc (.cells #[.int .i64 0,.int .i64 0,.string ⟨#[]⟩,.slice none 0 0] 34)=V∧Below D1.heap.size D1 V∧D1.heap.size+1≤V.heap.size∧BoxT V D1.heap.size noTerm:=⟨_,rfl,(Below.refl _ _).alloc (Nat.le_refl _) _,by simp,BoxT.new D1 noTerm⟩
    try rw[eD2]
    clear eD2
    have bT2:=bT1.below hD2 (by omega)
    have hD2':Below W2.heap.size W2 D2:=hD1'.trans (hD2.mono (by omega))
    refine hK.out _ _ ?_ (fun hHeld=>?_)
    ·exact⟨bT2.c0,bT2.c1,bT2.c2,bT2.c3⟩
    clear hK K hHold
    try simp only[pu]
    refine rd 3 rfl fun K hK=>?_
    ·have hHold:=hHeld
     clear hHeld
     go_simp
     obtain⟨D3,eD3,hD3,sD3,bQ3⟩:∃V,D2.alloc (.cells #[.int .i64 0,.int .i64 0,.string ⟨#[]⟩,.slice none 0 0] 34)=V∧Below D2.heap.size D2 V∧D2.heap.size+1≤V.heap.size∧BoxT V D2.heap.size noTerm:=⟨_,rfl,(Below.refl _ _).alloc (Nat.le_refl _) _,by simp,BoxT.new D2 noTerm⟩
     try rw[eD3]
     clear eD3
     have bT3:=bT2.below hD3 (by omega)
     have hD3':Below W2.heap.size W2 D3:=hD2'.trans (hD3.mono (by omega))
     have bP3:=bP2.below hD3 (by omega)
     refine hK.out _ _ ?_ (fun hHeld=>?_)
     ·exact⟨bT3.c0,bT3.c1,bT3.c2,bT3.c3⟩
     clear hK K hHold
     try simp only[pu]
     refine rd 4 rfl fun K hK=>?_
     have hHold:=hHeld
     clear hHeld
     have z0:=bP3.c0
     have z1:=bP3.c1
     have z2:=bP3.c2
     have z3:=bP3.c3
     obtain⟨f0,f1,f2,f3⟩:=bP3.frz
     go_simp
     obtain⟨D4,eD4⟩:∃V,set4 D3 (D1.heap.size) 0 x=V:=⟨_,rfl⟩
     have hD4':Below W2.heap.size W2 D4:=by rw[←eD4];exact set4_below hD3' (by omega) 0 _
     have sD4:D3.heap.size≤D4.heap.size:=by rw[←eD4,set4_size];exact Nat.le_refl _
     have bT4:BoxT D4 W.heap.size x:=by rw[←eD4];exact bT3.set4 (by omega) _
     have bP4:BoxT D4 (D1.heap.size) x:=by rw[←eD4];exact set4_box bP3 _
     have bQ4:BoxT D4 (D2.heap.size) noTerm:=by rw[←eD4];exact bQ3.set4 (by omega) _
     simp only[set4,Nat.zero_add] at eD4
     try rw[eD4]
     clear eD4 z0 z1 z2 z3 f0 f1 f2 f3
     refine hK.out _ _ ?_ (fun hHeld=>?_)
     ·exact⟨bT4.c0,bT4.c1,bT4.c2,bT4.c3⟩
     clear hK K hHold
     try simp only[pu]
     refine rd 5 rfl fun K hK=>?_
     have hHold:=hHeld
     clear hHeld
     have z0:=bQ4.c0
     have z1:=bQ4.c1
     have z2:=bQ4.c2
     have z3:=bQ4.c3
     obtain⟨f0,f1,f2,f3⟩:=bQ4.frz
     go_simp
     obtain⟨D5,eD5⟩:∃V,set4 D4 (D2.heap.size) 0 (atomV ⟨#[116,114,117,101]⟩)=V:=⟨_,rfl⟩
     have hD5':Below W2.heap.size W2 D5:=by rw[←eD5];exact set4_below hD4' (by omega) 0 _
     have sD5:D4.heap.size≤D5.heap.size:=by rw[←eD5,set4_size];exact Nat.le_refl _
     have bT5:BoxT D5 W.heap.size x:=by rw[←eD5];exact bT4.set4 (by omega) _
     have bQ5:BoxT D5 (D2.heap.size) (atomV ⟨#[116,114,117,101]⟩):=by rw[←eD5];exact set4_box bQ4 _
     have bP5:BoxT D5 (D1.heap.size) x:=by rw[←eD5];exact bP4.set4 (by omega) _
     simp only[set4,atomV,Nat.zero_add] at eD5
     try rw[eD5]
     clear eD5 z0 z1 z2 z3 f0 f1 f2 f3
     refine hK.out _ _ ?_ (fun hHeld=>?_)
     ·exact⟨bT5.c0,bT5.c1,bT5.c2,bT5.c3⟩
     clear hK K hHold
     try simp only[pu]
     refine tk 6 rfl hHeld ?_
     refine wpAnyH_done (by kernel_rfl) ?_ _
     refine NoPanic.normal ?_
     clear hHeld
     go_wp2_with fail
     go_meet
     exact⟨rfl,D1.heap.size,D2.heap.size,rfl,rfl,by omega,by omega,by omega,hD5',bP5,bQ5⟩
   ·have hHold:=hHeld
    clear hHeld
    go_simp
    obtain⟨D2,eD2,hD2,sD2,bQ2⟩:∃V,D1.alloc (.cells #[.int .i64 0,.int .i64 0,.string ⟨#[]⟩,.slice none 0 0] 34)=V∧Below D1.heap.size D1 V∧D1.heap.size+1≤V.heap.size∧BoxT V D1.heap.size noTerm:=⟨_,rfl,(Below.refl _ _).alloc (Nat.le_refl _) _,by simp,BoxT.new D1 noTerm⟩
    try rw[eD2]
    clear eD2
    have bT2:=bT1.below hD2 (by omega)
    have hD2':Below W2.heap.size W2 D2:=hD1'.trans (hD2.mono (by omega))
    refine hK.out _ _ ?_ (fun hHeld=>?_)
    ·exact⟨bT2.c0,bT2.c1,bT2.c2,bT2.c3⟩
    clear hK K hHold
    try simp only[pu]
    refine rd 2 rfl fun K hK=>?_
    ·have hHold:=hHeld
     clear hHeld
     go_simp
     obtain⟨D3,eD3,hD3,sD3,bP3⟩:∃V,D2.alloc (.cells #[.int .i64 0,.int .i64 0,.string ⟨#[]⟩,.slice none 0 0] 34)=V∧Below D2.heap.size D2 V∧D2.heap.size+1≤V.heap.size∧BoxT V D2.heap.size noTerm:=⟨_,rfl,(Below.refl _ _).alloc (Nat.le_refl _) _,by simp,BoxT.new D2 noTerm⟩
     try rw[eD3]
     clear eD3
     have bT3:=bT2.below hD3 (by omega)
     have hD3':Below W2.heap.size W2 D3:=hD2'.trans (hD3.mono (by omega))
     have bQ3:=bQ2.below hD3 (by omega)
     refine hK.out _ _ ?_ (fun hHeld=>?_)
     ·exact⟨bT3.c0,bT3.c1,bT3.c2,bT3.c3⟩
     clear hK K hHold
     try simp only[pu]
     refine rd 4 rfl fun K hK=>?_
     have hHold:=hHeld
     clear hHeld
     have z0:=bP3.c0
     have z1:=bP3.c1
     have z2:=bP3.c2
     have z3:=bP3.c3
     obtain⟨f0,f1,f2,f3⟩:=bP3.frz
     go_simp
     obtain⟨D4,eD4⟩:∃V,set4 D3 (D2.heap.size) 0 x=V:=⟨_,rfl⟩
     have hD4':Below W2.heap.size W2 D4:=by rw[←eD4];exact set4_below hD3' (by omega) 0 _
     have sD4:D3.heap.size≤D4.heap.size:=by rw[←eD4,set4_size];exact Nat.le_refl _
     have bT4:BoxT D4 W.heap.size x:=by rw[←eD4];exact bT3.set4 (by omega) _
     have bP4:BoxT D4 (D2.heap.size) x:=by rw[←eD4];exact set4_box bP3 _
     have bQ4:BoxT D4 (D1.heap.size) noTerm:=by rw[←eD4];exact bQ3.set4 (by omega) _
     simp only[set4,Nat.zero_add] at eD4
     try rw[eD4]
     clear eD4 z0 z1 z2 z3 f0 f1 f2 f3
     refine hK.out _ _ ?_ (fun hHeld=>?_)
     ·exact⟨bT4.c0,bT4.c1,bT4.c2,bT4.c3⟩
     clear hK K hHold
     try simp only[pu]
     refine rd 5 rfl fun K hK=>?_
     have hHold:=hHeld
     clear hHeld
     have z0:=bQ4.c0
     have z1:=bQ4.c1
     have z2:=bQ4.c2
     have z3:=bQ4.c3
     obtain⟨f0,f1,f2,f3⟩:=bQ4.frz
     go_simp
     obtain⟨D5,eD5⟩:∃V,set4 D4 (D1.heap.size) 0 (atomV ⟨#[116,114,117,101]⟩)=V:=⟨_,rfl⟩
     have hD5':Below W2.heap.size W2 D5:=by rw[←eD5];exact set4_below hD4' (by omega) 0 _
     have sD5:D4.heap.size≤D5.heap.size:=by rw[←eD5,set4_size];exact Nat.le_refl _
     have bT5:BoxT D5 W.heap.size x:=by rw[←eD5];exact bT4.set4 (by omega) _
     have bQ5:BoxT D5 (D1.heap.size) (atomV ⟨#[116,114,117,101]⟩):=by rw[←eD5];exact set4_box bQ4 _
     have bP5:BoxT D5 (D2.heap.size) x:=by rw[←eD5];exact bP4.set4 (by omega) _
     simp only[set4,atomV,Nat.zero_add] at eD5
     try rw[eD5]
     clear eD5 z0 z1 z2 z3 f0 f1 f2 f3
     refine hK.out _ _ ?_ (fun hHeld=>?_)
     ·exact⟨bT5.c0,bT5.c1,bT5.c2,bT5.c3⟩
     clear hK K hHold
     try simp only[pu]
     refine tk 6 rfl hHeld ?_
     refine wpAnyH_done (by kernel_rfl) ?_ _
     refine NoPanic.normal ?_
     clear hHeld
     go_wp2_with fail
     go_meet
     exact⟨rfl,D2.heap.size,D1.heap.size,rfl,rfl,by omega,by omega,by omega,hD5',bP5,bQ5⟩
  ·have hHold:=hHeld
   clear hHeld
   go_simp
   obtain⟨D1,eD1,hD1,sD1,bP1⟩:∃V,D0.alloc (.cells #[.int .i64 0,.int .i64 0,.string ⟨#[]⟩,.slice none 0 0] 34)=V∧Below D0.heap.size D0 V∧D0.heap.size+1≤V.heap.size∧BoxT V D0.heap.size noTerm:=⟨_,rfl,(Below.refl _ _).alloc (Nat.le_refl _) _,by simp,BoxT.new D0 noTerm⟩
   try rw[eD1]
   clear eD1
   have bT1:=bT0.below hD1 (by omega)
   have hD1':Below W2.heap.size W2 D1:=hD0.trans (hD1.mono (by omega))
   refine hK.out _ _ ?_ (fun hHeld=>?_)
   ·exact⟨bT1.c0,bT1.c1,bT1.c2,bT1.c3⟩
   clear hK K hHold
   try simp only[pu]
   refine wpAnyH_ready (rs:=[1,3]) (by kernel_rfl) (by simp) ?_
   refine AllReadyH.cons (o:={dst:=some 9,op:=Op.call {callee:=Callee.value (Operand.func 72),args:=#[Operand.const (Value.string {data:=#[116,114,117,101]})],argTypes:=#[9]},type:=34,pos:= "base.go:53",after:=#[],guard:=none}) rfl (fun K hK=>?_) (AllReadyH.cons (o:={dst:=some 5,op:=Op.alloc 34,type:=0,pos:= "base.go:53",after:=#[],guard:=none}) rfl (fun K hK=>?_) AllReadyH.nil)
   ·have hHold:=hHeld
    clear hHeld
    go_simp
    refine(ha _).mono ?_
    rintro e D2 ⟨rfl,hD2⟩
    have sD2:=hD2.size
    have bT2:=bT1.below hD2 (by omega)
    have hD2':Below W2.heap.size W2 D2:=hD1'.trans (hD2.mono (by omega))
    have bP2:=bP1.below hD2 (by omega)
    go_wp2_with fail
    refine hK.out _ _ ?_ (fun hHeld=>?_)
    ·exact⟨bT2.c0,bT2.c1,bT2.c2,bT2.c3⟩
    clear hK K hHold
    try simp only[pu]
    refine rd 3 rfl fun K hK=>?_
    ·have hHold:=hHeld
     clear hHeld
     go_simp
     obtain⟨D3,eD3,hD3,sD3,bQ3⟩:∃V,D2.alloc (.cells #[.int .i64 0,.int .i64 0,.string ⟨#[]⟩,.slice none 0 0] 34)=V∧Below D2.heap.size D2 V∧D2.heap.size+1≤V.heap.size∧BoxT V D2.heap.size noTerm:=⟨_,rfl,(Below.refl _ _).alloc (Nat.le_refl _) _,by simp,BoxT.new D2 noTerm⟩
     try rw[eD3]
     clear eD3
     have bT3:=bT2.below hD3 (by omega)
     have hD3':Below W2.heap.size W2 D3:=hD2'.trans (hD3.mono (by omega))
     have bP3:=bP2.below hD3 (by omega)
     refine hK.out _ _ ?_ (fun hHeld=>?_)
     ·exact⟨bT3.c0,bT3.c1,bT3.c2,bT3.c3⟩
     clear hK K hHold
     try simp only[pu]
     refine rd 4 rfl fun K hK=>?_
     have hHold:=hHeld
     clear hHeld
     have z0:=bP3.c0
     have z1:=bP3.c1
     have z2:=bP3.c2
     have z3:=bP3.c3
     obtain⟨f0,f1,f2,f3⟩:=bP3.frz
     go_simp
     obtain⟨D4,eD4⟩:∃V,set4 D3 (D0.heap.size) 0 x=V:=⟨_,rfl⟩
     have hD4':Below W2.heap.size W2 D4:=by rw[←eD4];exact set4_below hD3' (by omega) 0 _
     have sD4:D3.heap.size≤D4.heap.size:=by rw[←eD4,set4_size];exact Nat.le_refl _
     have bT4:BoxT D4 W.heap.size x:=by rw[←eD4];exact bT3.set4 (by omega) _
     have bP4:BoxT D4 (D0.heap.size) x:=by rw[←eD4];exact set4_box bP3 _
     have bQ4:BoxT D4 (D2.heap.size) noTerm:=by rw[←eD4];exact bQ3.set4 (by omega) _
     simp only[set4,Nat.zero_add] at eD4
     try rw[eD4]
     clear eD4 z0 z1 z2 z3 f0 f1 f2 f3
     refine hK.out _ _ ?_ (fun hHeld=>?_)
     ·exact⟨bT4.c0,bT4.c1,bT4.c2,bT4.c3⟩
     clear hK K hHold
     try simp only[pu]
     refine rd 5 rfl fun K hK=>?_
     have hHold:=hHeld
     clear hHeld
     have z0:=bQ4.c0
     have z1:=bQ4.c1
     have z2:=bQ4.c2
     have z3:=bQ4.c3
     obtain⟨f0,f1,f2,f3⟩:=bQ4.frz
     go_simp
     obtain⟨D5,eD5⟩:∃V,set4 D4 (D2.heap.size) 0 (atomV ⟨#[116,114,117,101]⟩)=V:=⟨_,rfl⟩
     have hD5':Below W2.heap.size W2 D5:=by rw[←eD5];exact set4_below hD4' (by omega) 0 _
     have sD5:D4.heap.size≤D5.heap.size:=by rw[←eD5,set4_size];exact Nat.le_refl _
     have bT5:BoxT D5 W.heap.size x:=by rw[←eD5];exact bT4.set4 (by omega) _
     have bQ5:BoxT D5 (D2.heap.size) (atomV ⟨#[116,114,117,101]⟩):=by rw[←eD5];exact set4_box bQ4 _
     have bP5:BoxT D5 (D0.heap.size) x:=by rw[←eD5];exact bP4.set4 (by omega) _
     simp only[set4,atomV,Nat.zero_add] at eD5
     try rw[eD5]
     clear eD5 z0 z1 z2 z3 f0 f1 f2 f3
     refine hK.out _ _ ?_ (fun hHeld=>?_)
     ·exact⟨bT5.c0,bT5.c1,bT5.c2,bT5.c3⟩
     clear hK K hHold
     try simp only[pu]
     refine tk 6 rfl hHeld ?_
     refine wpAnyH_done (by kernel_rfl) ?_ _
     refine NoPanic.normal ?_
     clear hHeld
     go_wp2_with fail
     go_meet
     exact⟨rfl,D0.heap.size,D2.heap.size,rfl,rfl,by omega,by omega,by omega,hD5',bP5,bQ5⟩
   ·have hHold:=hHeld
    clear hHeld
    go_simp
    obtain⟨D2,eD2,hD2,sD2,bQ2⟩:∃V,D1.alloc (.cells #[.int .i64 0,.int .i64 0,.string ⟨#[]⟩,.slice none 0 0] 34)=V∧Below D1.heap.size D1 V∧D1.heap.size+1≤V.heap.size∧BoxT V D1.heap.size noTerm:=⟨_,rfl,(Below.refl _ _).alloc (Nat.le_refl _) _,by simp,BoxT.new D1 noTerm⟩
    try rw[eD2]
    clear eD2
    have bT2:=bT1.below hD2 (by omega)
    have hD2':Below W2.heap.size W2 D2:=hD1'.trans (hD2.mono (by omega))
    have bP2:=bP1.below hD2 (by omega)
    refine hK.out _ _ ?_ (fun hHeld=>?_)
    ·exact⟨bT2.c0,bT2.c1,bT2.c2,bT2.c3⟩
    clear hK K hHold
    try simp only[pu]
    refine rd 1 rfl fun K hK=>?_
    ·have hHold:=hHeld
     clear hHeld
     go_simp
     refine(ha _).mono ?_
     rintro e D3 ⟨rfl,hD3⟩
     have sD3:=hD3.size
     have bT3:=bT2.below hD3 (by omega)
     have hD3':Below W2.heap.size W2 D3:=hD2'.trans (hD3.mono (by omega))
     have bP3:=bP2.below hD3 (by omega)
     have bQ3:=bQ2.below hD3 (by omega)
     go_wp2_with fail
     refine hK.out _ _ ?_ (fun hHeld=>?_)
     ·exact⟨bT3.c0,bT3.c1,bT3.c2,bT3.c3⟩
     clear hK K hHold
     try simp only[pu]
     refine rd 4 rfl fun K hK=>?_
     have hHold:=hHeld
     clear hHeld
     have z0:=bP3.c0
     have z1:=bP3.c1
     have z2:=bP3.c2
     have z3:=bP3.c3
     obtain⟨f0,f1,f2,f3⟩:=bP3.frz
     go_simp
     obtain⟨D4,eD4⟩:∃V,set4 D3 (D0.heap.size) 0 x=V:=⟨_,rfl⟩
     have hD4':Below W2.heap.size W2 D4:=by rw[←eD4];exact set4_below hD3' (by omega) 0 _
     have sD4:D3.heap.size≤D4.heap.size:=by rw[←eD4,set4_size];exact Nat.le_refl _
     have bT4:BoxT D4 W.heap.size x:=by rw[←eD4];exact bT3.set4 (by omega) _
     have bP4:BoxT D4 (D0.heap.size) x:=by rw[←eD4];exact set4_box bP3 _
     have bQ4:BoxT D4 (D1.heap.size) noTerm:=by rw[←eD4];exact bQ3.set4 (by omega) _
     simp only[set4,Nat.zero_add] at eD4
     try rw[eD4]
     clear eD4 z0 z1 z2 z3 f0 f1 f2 f3
     refine hK.out _ _ ?_ (fun hHeld=>?_)
     ·exact⟨bT4.c0,bT4.c1,bT4.c2,bT4.c3⟩
     clear hK K hHold
     try simp only[pu]
     refine rd 5 rfl fun K hK=>?_
     have hHold:=hHeld
     clear hHeld
     have z0:=bQ4.c0
     have z1:=bQ4.c1
     have z2:=bQ4.c2
     have z3:=bQ4.c3
     obtain⟨f0,f1,f2,f3⟩:=bQ4.frz
     go_simp
     obtain⟨D5,eD5⟩:∃V,set4 D4 (D1.heap.size) 0 (atomV ⟨#[116,114,117,101]⟩)=V:=⟨_,rfl⟩
     have hD5':Below W2.heap.size W2 D5:=by rw[←eD5];exact set4_below hD4' (by omega) 0 _
     have sD5:D4.heap.size≤D5.heap.size:=by rw[←eD5,set4_size];exact Nat.le_refl _
     have bT5:BoxT D5 W.heap.size x:=by rw[←eD5];exact bT4.set4 (by omega) _
     have bQ5:BoxT D5 (D1.heap.size) (atomV ⟨#[116,114,117,101]⟩):=by rw[←eD5];exact set4_box bQ4 _
     have bP5:BoxT D5 (D0.heap.size) x:=by rw[←eD5];exact bP4.set4 (by omega) _
     simp only[set4,atomV,Nat.zero_add] at eD5
     try rw[eD5]
     clear eD5 z0 z1 z2 z3 f0 f1 f2 f3
     refine hK.out _ _ ?_ (fun hHeld=>?_)
     ·exact⟨bT5.c0,bT5.c1,bT5.c2,bT5.c3⟩
     clear hK K hHold
     try simp only[pu]
     refine tk 6 rfl hHeld ?_
     refine wpAnyH_done (by kernel_rfl) ?_ _
     refine NoPanic.normal ?_
     clear hHeld
     go_wp2_with fail
     go_meet
     exact⟨rfl,D0.heap.size,D1.heap.size,rfl,rfl,by omega,by omega,by omega,hD5',bP5,bQ5⟩
  ·have hHold:=hHeld
   clear hHeld
   go_simp
   obtain⟨D1,eD1,hD1,sD1,bQ1⟩:∃V,D0.alloc (.cells #[.int .i64 0,.int .i64 0,.string ⟨#[]⟩,.slice none 0 0] 34)=V∧Below D0.heap.size D0 V∧D0.heap.size+1≤V.heap.size∧BoxT V D0.heap.size noTerm:=⟨_,rfl,(Below.refl _ _).alloc (Nat.le_refl _) _,by simp,BoxT.new D0 noTerm⟩
   try rw[eD1]
   clear eD1
   have bT1:=bT0.below hD1 (by omega)
   have hD1':Below W2.heap.size W2 D1:=hD0.trans (hD1.mono (by omega))
   refine hK.out _ _ ?_ (fun hHeld=>?_)
   ·exact⟨bT1.c0,bT1.c1,bT1.c2,bT1.c3⟩
   clear hK K hHold
   try simp only[pu]
   refine wpAnyH_ready (rs:=[1,2]) (by kernel_rfl) (by simp) ?_
   refine AllReadyH.cons (o:={dst:=some 9,op:=Op.call {callee:=Callee.value (Operand.func 72),args:=#[Operand.const (Value.string {data:=#[116,114,117,101]})],argTypes:=#[9]},type:=34,pos:= "base.go:53",after:=#[],guard:=none}) rfl (fun K hK=>?_) (AllReadyH.cons (o:={dst:=some 4,op:=Op.alloc 34,type:=0,pos:= "base.go:53",after:=#[],guard:=none}) rfl (fun K hK=>?_) AllReadyH.nil)
   ·have hHold:=hHeld
    clear hHeld
    go_simp
    refine(ha _).mono ?_
    rintro e D2 ⟨rfl,hD2⟩
    have sD2:=hD2.size
    have bT2:=bT1.below hD2 (by omega)
    have hD2':Below W2.heap.size W2 D2:=hD1'.trans (hD2.mono (by omega))
    have bQ2:=bQ1.below hD2 (by omega)
    go_wp2_with fail
    refine hK.out _ _ ?_ (fun hHeld=>?_)
    ·exact⟨bT2.c0,bT2.c1,bT2.c2,bT2.c3⟩
    clear hK K hHold
    try simp only[pu]
    refine rd 2 rfl fun K hK=>?_
    ·have hHold:=hHeld
     clear hHeld
     go_simp
     obtain⟨D3,eD3,hD3,sD3,bP3⟩:∃V,D2.alloc (.cells #[.int .i64 0,.int .i64 0,.string ⟨#[]⟩,.slice none 0 0] 34)=V∧Below D2.heap.size D2 V∧D2.heap.size+1≤V.heap.size∧BoxT V D2.heap.size noTerm:=⟨_,rfl,(Below.refl _ _).alloc (Nat.le_refl _) _,by simp,BoxT.new D2 noTerm⟩
     try rw[eD3]
     clear eD3
     have bT3:=bT2.below hD3 (by omega)
     have hD3':Below W2.heap.size W2 D3:=hD2'.trans (hD3.mono (by omega))
     have bQ3:=bQ2.below hD3 (by omega)
     refine hK.out _ _ ?_ (fun hHeld=>?_)
     ·exact⟨bT3.c0,bT3.c1,bT3.c2,bT3.c3⟩
     clear hK K hHold
     try simp only[pu]
     refine rd 4 rfl fun K hK=>?_
     have hHold:=hHeld
     clear hHeld
     have z0:=bP3.c0
     have z1:=bP3.c1
     have z2:=bP3.c2
     have z3:=bP3.c3
     obtain⟨f0,f1,f2,f3⟩:=bP3.frz
     go_simp
     obtain⟨D4,eD4⟩:∃V,set4 D3 (D2.heap.size) 0 x=V:=⟨_,rfl⟩
     have hD4':Below W2.heap.size W2 D4:=by rw[←eD4];exact set4_below hD3' (by omega) 0 _
     have sD4:D3.heap.size≤D4.heap.size:=by rw[←eD4,set4_size];exact Nat.le_refl _
     have bT4:BoxT D4 W.heap.size x:=by rw[←eD4];exact bT3.set4 (by omega) _
     have bP4:BoxT D4 (D2.heap.size) x:=by rw[←eD4];exact set4_box bP3 _
     have bQ4:BoxT D4 (D0.heap.size) noTerm:=by rw[←eD4];exact bQ3.set4 (by omega) _
     simp only[set4,Nat.zero_add] at eD4
     try rw[eD4]
     clear eD4 z0 z1 z2 z3 f0 f1 f2 f3
     refine hK.out _ _ ?_ (fun hHeld=>?_)
     ·exact⟨bT4.c0,bT4.c1,bT4.c2,bT4.c3⟩
     clear hK K hHold
     try simp only[pu]
     refine rd 5 rfl fun K hK=>?_
     have hHold:=hHeld
     clear hHeld
     have z0:=bQ4.c0
     have z1:=bQ4.c1
     have z2:=bQ4.c2
     have z3:=bQ4.c3
     obtain⟨f0,f1,f2,f3⟩:=bQ4.frz
     go_simp
     obtain⟨D5,eD5⟩:∃V,set4 D4 (D0.heap.size) 0 (atomV ⟨#[116,114,117,101]⟩)=V:=⟨_,rfl⟩
     have hD5':Below W2.heap.size W2 D5:=by rw[←eD5];exact set4_below hD4' (by omega) 0 _
     have sD5:D4.heap.size≤D5.heap.size:=by rw[←eD5,set4_size];exact Nat.le_refl _
     have bT5:BoxT D5 W.heap.size x:=by rw[←eD5];exact bT4.set4 (by omega) _
     have bQ5:BoxT D5 (D0.heap.size) (atomV ⟨#[116,114,117,101]⟩):=by rw[←eD5];exact set4_box bQ4 _
     have bP5:BoxT D5 (D2.heap.size) x:=by rw[←eD5];exact bP4.set4 (by omega) _
     simp only[set4,atomV,Nat.zero_add] at eD5
     try rw[eD5]
     clear eD5 z0 z1 z2 z3 f0 f1 f2 f3
     refine hK.out _ _ ?_ (fun hHeld=>?_)
     ·exact⟨bT5.c0,bT5.c1,bT5.c2,bT5.c3⟩
     clear hK K hHold
     try simp only[pu]
     refine tk 6 rfl hHeld ?_
     refine wpAnyH_done (by kernel_rfl) ?_ _
     refine NoPanic.normal ?_
     clear hHeld
     go_wp2_with fail
     go_meet
     exact⟨rfl,D2.heap.size,D0.heap.size,rfl,rfl,by omega,by omega,by omega,hD5',bP5,bQ5⟩
   ·have hHold:=hHeld
    clear hHeld
    go_simp
    obtain⟨D2,eD2,hD2,sD2,bP2⟩:∃V,D1.alloc (.cells #[.int .i64 0,.int .i64 0,.string ⟨#[]⟩,.slice none 0 0] 34)=V∧Below D1.heap.size D1 V∧D1.heap.size+1≤V.heap.size∧BoxT V D1.heap.size noTerm:=⟨_,rfl,(Below.refl _ _).alloc (Nat.le_refl _) _,by simp,BoxT.new D1 noTerm⟩
    try rw[eD2]
    clear eD2
    have bT2:=bT1.below hD2 (by omega)
    have hD2':Below W2.heap.size W2 D2:=hD1'.trans (hD2.mono (by omega))
    have bQ2:=bQ1.below hD2 (by omega)
    refine hK.out _ _ ?_ (fun hHeld=>?_)
    ·exact⟨bT2.c0,bT2.c1,bT2.c2,bT2.c3⟩
    clear hK K hHold
    try simp only[pu]
    refine rd 1 rfl fun K hK=>?_
    ·have hHold:=hHeld
     clear hHeld
     go_simp
     refine(ha _).mono ?_
     rintro e D3 ⟨rfl,hD3⟩
     have sD3:=hD3.size
     have bT3:=bT2.below hD3 (by omega)
     have hD3':Below W2.heap.size W2 D3:=hD2'.trans (hD3.mono (by omega))
     have bP3:=bP2.below hD3 (by omega)
     have bQ3:=bQ2.below hD3 (by omega)
     go_wp2_with fail
     refine hK.out _ _ ?_ (fun hHeld=>?_)
     ·exact⟨bT3.c0,bT3.c1,bT3.c2,bT3.c3⟩
     clear hK K hHold
     try simp only[pu]
     refine rd 4 rfl fun K hK=>?_
     have hHold:=hHeld
     clear hHeld
     have z0:=bP3.c0
     have z1:=bP3.c1
     have z2:=bP3.c2
     have z3:=bP3.c3
     obtain⟨f0,f1,f2,f3⟩:=bP3.frz
     go_simp
     obtain⟨D4,eD4⟩:∃V,set4 D3 (D1.heap.size) 0 x=V:=⟨_,rfl⟩
     have hD4':Below W2.heap.size W2 D4:=by rw[←eD4];exact set4_below hD3' (by omega) 0 _
     have sD4:D3.heap.size≤D4.heap.size:=by rw[←eD4,set4_size];exact Nat.le_refl _
     have bT4:BoxT D4 W.heap.size x:=by rw[←eD4];exact bT3.set4 (by omega) _
     have bP4:BoxT D4 (D1.heap.size) x:=by rw[←eD4];exact set4_box bP3 _
     have bQ4:BoxT D4 (D0.heap.size) noTerm:=by rw[←eD4];exact bQ3.set4 (by omega) _
     simp only[set4,Nat.zero_add] at eD4
     try rw[eD4]
     clear eD4 z0 z1 z2 z3 f0 f1 f2 f3
     refine hK.out _ _ ?_ (fun hHeld=>?_)
     ·exact⟨bT4.c0,bT4.c1,bT4.c2,bT4.c3⟩
     clear hK K hHold
     try simp only[pu]
     refine rd 5 rfl fun K hK=>?_
     have hHold:=hHeld
     clear hHeld
     have z0:=bQ4.c0
     have z1:=bQ4.c1
     have z2:=bQ4.c2
     have z3:=bQ4.c3
     obtain⟨f0,f1,f2,f3⟩:=bQ4.frz
     go_simp
     obtain⟨D5,eD5⟩:∃V,set4 D4 (D0.heap.size) 0 (atomV ⟨#[116,114,117,101]⟩)=V:=⟨_,rfl⟩
     have hD5':Below W2.heap.size W2 D5:=by rw[←eD5];exact set4_below hD4' (by omega) 0 _
     have sD5:D4.heap.size≤D5.heap.size:=by rw[←eD5,set4_size];exact Nat.le_refl _
     have bT5:BoxT D5 W.heap.size x:=by rw[←eD5];exact bT4.set4 (by omega) _
     have bQ5:BoxT D5 (D0.heap.size) (atomV ⟨#[116,114,117,101]⟩):=by rw[←eD5];exact set4_box bQ4 _
     have bP5:BoxT D5 (D1.heap.size) x:=by rw[←eD5];exact bP4.set4 (by omega) _
     simp only[set4,atomV,Nat.zero_add] at eD5
     try rw[eD5]
     clear eD5 z0 z1 z2 z3 f0 f1 f2 f3
     refine hK.out _ _ ?_ (fun hHeld=>?_)
     ·exact⟨bT5.c0,bT5.c1,bT5.c2,bT5.c3⟩
     clear hK K hHold
     try simp only[pu]
     refine tk 6 rfl hHeld ?_
     refine wpAnyH_done (by kernel_rfl) ?_ _
     refine NoPanic.normal ?_
     clear hHeld
     go_wp2_with fail
     go_meet
     exact⟨rfl,D1.heap.size,D0.heap.size,rfl,rfl,by omega,by omega,by omega,hD5',bP5,bQ5⟩
 case rest=>
  obtain⟨rfl,p,q,rfl,rfl,hpq,hp,hq,gc,bP,bQ⟩:=hcut
  have sc:=gc.size
  have bTc:BoxT wc W.heap.size (⟨k,N,s,some ⟨b,off,none⟩,2,cap⟩:TV):=by rw[←HXX.out];exact bT.below gc hlt
  have bC:=bC2.below gc bC2.lt
  have x0:=bTc.c0
  have x1:=bTc.c1
  have x2:=bTc.c2
  have x3:=bTc.c3
  simp only at x0 x1 x2 x3
  clear ha bT bC2 HXX
  go_wp2_with fail
  refine(i1 _).mono ?_
  rintro e V ⟨rfl,gV⟩
  have sV0:=gV.size
  clear i1 x0 x1 x2 x3
  have hBV:Below W.heap.size W V:=(hb2.trans (gc.mono (by omega))).trans (gV.mono (by omega))
  have bTV:=bTc.below gV bTc.lt
  have bPV:=bP.below gV bP.lt
  have bQV:=bQ.below gV bQ.lt
  have bCV:=bC.below gV bC.lt
  have hp2:W.heap.size+2≤p:=by omega
  have hq2:W.heap.size+2≤q:=by omega
  have hpV:p<V.heap.size:=bPV.lt
  have hqV:q<V.heap.size:=bQV.lt
  have x0:=bTV.c0
  have x1:=bTV.c1
  have x2:=bTV.c2
  have x3:=bTV.c3
  have z0:=bPV.c0
  have z1:=bPV.c1
  have z2:=bPV.c2
  have z3:=bPV.c3
  obtain⟨f0,f1,f2,f3⟩:=bPV.frz
  simp only at x0 x1 x2 x3
  obtain⟨d0,d1,d2,d3⟩:=unhide HCU
  replace d0:=(hBV.cell (p:=⟨b,off,none⟩) hbk).trans d0
  replace d1:=(hBV.cell (p:=⟨b,off+1,none⟩) hbk).trans d1
  replace d2:=(hBV.cell (p:=⟨b,off+2,none⟩) hbk).trans d2
  replace d3:=(hBV.cell (p:=⟨b,off+3,none⟩) hbk).trans d3
  obtain⟨V6,e6⟩:∃V6,set4 V p 0 u.tv=V6:=⟨_,rfl⟩
  have hB6:Below W.heap.size W V6:=by rw[←e6];exact set4_below hBV (by omega) 0 _
  have s6:V.heap.size≤V6.heap.size:=by rw[←e6,set4_size];exact Nat.le_refl _
  have bT6:BoxT V6 W.heap.size (⟨k,N,s,some ⟨b,off,none⟩,2,cap⟩:TV):=by rw[←e6];exact bTV.set4 (by omega) _
  have bP6:BoxT V6 p u.tv:=by rw[←e6];exact set4_box bPV _
  have bQ6:BoxT V6 q (atomV ⟨#[116,114,117,101]⟩):=by rw[←e6];exact bQV.set4 (by omega) _
  have bC6:BoxC V6 (W.heap.size+1) noTerm noTerm:=by rw[←e6];exact bCV.set4 (by omega) _
  simp only[set4,Nat.zero_add] at e6
  have HP6:=hide bP6
  have HQ6:=hide bQ6
  have HC6:=hide bC6
  have HT6:=hide bT6
  clear bP bQ bC bTc bTV bPV bQV bCV gc gV bT6 bP6 bQ6 bC6
  go_upto_region 4 with fail
  try rw[e6]
  clear e6 x0 x1 x2 x3 z0 z1 z2 z3 f0 f1 f2 f3 d0 d1 d2 d3
  have bT6:=unhide HT6
  have x0:=bT6.c0
  have x1:=bT6.c1
  have x2:=bT6.c2
  have x3:=bT6.c3
  simp only at x0 x1 x2 x3
  obtain⟨d0,d1,d2,d3⟩:=unhide HCV
  replace d0:=(hB6.cell (p:=⟨b,off+4,none⟩) hbk).trans d0
  replace d1:V6.cell? ⟨b,off+5,none⟩=_:=(hB6.cell (p:=⟨b,off+4+1,none⟩) hbk).trans d1
  replace d2:V6.cell? ⟨b,off+6,none⟩=_:=(hB6.cell (p:=⟨b,off+4+2,none⟩) hbk).trans d2
  replace d3:V6.cell? ⟨b,off+7,none⟩=_:=(hB6.cell (p:=⟨b,off+4+3,none⟩) hbk).trans d3
  have hbo:=HBO.out V6 hB6 (by omega)
  clear bT6 HT6 HBO
  go_wp2_with fail
  refine hbo.mono ?_
  rintro e V7 ⟨⟨y2,rfl,hy2⟩,g7⟩
  clear hbo x0 x1 x2 x3 d0 d1 d2 d3
  have s7:=g7.size
  have bP7:=(unhide HP6).below g7 (by omega)
  have bQ7:=(unhide HQ6).below g7 (by omega)
  have bC7:=(unhide HC6).below g7 (by omega)
  have hB7:Below W.heap.size W V7:=hB6.trans (g7.mono (by omega))
  have z0:=bQ7.c0
  have z1:=bQ7.c1
  have z2:=bQ7.c2
  have z3:=bQ7.c3
  obtain⟨f0,f1,f2,f3⟩:=bQ7.frz
  obtain⟨V,eV⟩:∃V,set4 V7 q 0 y2=V:=⟨_,rfl⟩
  have hBV:Below W.heap.size W V:=by rw[←eV];exact set4_below hB7 (by omega) 0 _
  have sV:W.heap.size+2≤V.heap.size:=by rw[←eV,set4_size];omega
  have bP:BoxT V p u.tv:=by rw[←eV];exact bP7.set4 (by omega) _
  have bQ:BoxT V q y2:=by rw[←eV];exact set4_box bQ7 _
  have bC:BoxC V (W.heap.size+1) noTerm noTerm:=by rw[←eV];exact bC7.set4 (by omega) _
  have HY:Hid (∀c,HoldsS (n+1) (Mix W.heap.size V6.heap.size) V7 y2.val c→HoldsS (n+1) (Mix W.heap.size V6.heap.size) V y2.val c):=fun c h=>by rw[←eV];exact mix_set4 h (by omega) (by omega) 0 _
  have hy2':=hide hy2
  clear hy2
  have HBP:=hide bP
  have HBQ:=hide bQ
  have HBC:=hide bC
  clear bP bQ bC
  simp only[set4,Nat.zero_add] at eV
  generalize hrs:(bodyC v).isSome=rs
  have HRS2:=hide hrs
  clear hrs
  go_upto_region 5 with fail
  try rw[eV]
  clear eV z0 z1 z2 z3 f0 f1 f2 f3 bP7 bQ7 bC7 HP6 HQ6 HC6
  have bP:=unhide HBP
  have bQ:=unhide HBQ
  have bC:=unhide HBC
  clear HBP HBQ HBC
  have HTH:Hid (IsT V.heap.size V u):=(IsT.below hBV HT0.out).mono hBV.size
  cases hbv:bodyC v with
  | none=>
   have HX:Hid (bodyC v=none):=hbv
   have hrs:=unhide HRS2
   rw[hbv] at hrs
   simp only[Option.isSome_none] at hrs
   subst hrs
   have HRJ:Hid (makeJ (headBad u.tv) (code u) none=none):=rfl
   clear HRS2 hbv HRS HTH bP bQ
   obtain⟨⟨z0,z1,z2,z3⟩,z4,z5,z6,z7⟩:=bC.cs
   obtain⟨f0,f1,f2,f3,f4,f5,f6,f7⟩:=bC.fs
   simp only[noTerm] at z0 z1 z2 z3 z4 z5 z6 z7
   have HF:Hid (Below W.heap.size W (set8 V (W.heap.size+1) noTerm noTerm)):=set8_below hBV (by omega) noTerm noTerm
   clear bC
   go_wp2_with fail
   refine bodyPost_ret (v:=.tuple #[clV noTerm noTerm,.bool false]) (by simp[results,Tryz.results45,go_sem,clV,noTerm,z0,z1,z2,z3,z4,z5,z6,z7]) rfl ⟨?_,HF.out⟩
   rw[HX.out,HRJ.out]
   exact⟨noTerm,noTerm,rfl,rfl,rfl⟩
  | some c2=>
   have hrs:=unhide HRS2
   rw[hbv] at hrs
   simp only[Option.isSome_some] at hrs
   subst hrs
   have hy:=unhide hy2'
   rw[hbv] at hy
   obtain⟨tb,e2,hTB,-,hcb⟩:=HY.out c2 hy (n+1) (Nat.le_refl _) (by omega)
   have hyt:=tv_inj e2
   rw[hyt] at bQ
   obtain⟨hf1,hf2⟩:=HBF.out c2 hbv
   have HOB:Hid (okT tb=true):=by show okT tb=true;rw[okT_m,hcb];exact hf1
   have HTB:Hid (IsT V.heap.size V tb):=hTB
   have HX:Hid (bodyC v=some (code tb)):=by rw[hcb];exact hbv
   have hcl:(code u).length+(code tb).length≤4194304:=by rw[hcb];omega
   clear HRS2 hbv hy hy2' HY e2 hyt hTB hcb hf1 hf2 HBF hlen HT0 hB7 g7 s7 hB6 s6 hpV hqV sV0 sc hp hq hlt hs2 hb2
   have x0:=bP.c0
   have x1:=bP.c1
   have x2:=bP.c2
   have x3:=bP.c3
   by_cases k1:u.tv.k=1
   ·have HRJ:Hid (makeJ (headBad u.tv) (code u) (some (code tb))=none):=by
     show makeJ (headBad u.tv) _ _=none
     rw[show headBad u.tv=true by simp[headBad,k1]]
     rfl
    rw[k1] at x0
    clear k1 HRS HTH HTB
    obtain⟨⟨z0,z1,z2,z3⟩,z4,z5,z6,z7⟩:=bC.cs
    obtain⟨f0,f1,f2,f3,f4,f5,f6,f7⟩:=bC.fs
    simp only[noTerm] at z0 z1 z2 z3 z4 z5 z6 z7
    have HF:Hid (Below W.heap.size W (set8 V (W.heap.size+1) noTerm noTerm)):=set8_below hBV (by omega) noTerm noTerm
    clear bC
    go_wp2_with fail
    refine bodyPost_ret (v:=.tuple #[clV noTerm noTerm,.bool false]) (by simp[results,Tryz.results45,go_sem,clV,noTerm,z0,z1,z2,z3,z4,z5,z6,z7]) rfl ⟨?_,HF.out⟩
    rw[HX.out,HRJ.out]
    exact⟨noTerm,noTerm,rfl,rfl,rfl⟩
   ·have k1':(u.tv.k == 1)=false:=by simp[k1]
    by_cases k2:u.tv.k=2
    ·have HRJ:Hid (makeJ (headBad u.tv) (code u) (some (code tb))=none):=by
      show makeJ (headBad u.tv) _ _=none
      rw[show headBad u.tv=true by simp[headBad,k2]]
      rfl
     rw[k2] at x0
     clear k1 k2 k1' HRS HTH HTB
     obtain⟨⟨z0,z1,z2,z3⟩,z4,z5,z6,z7⟩:=bC.cs
     obtain⟨f0,f1,f2,f3,f4,f5,f6,f7⟩:=bC.fs
     simp only[noTerm] at z0 z1 z2 z3 z4 z5 z6 z7
     have HF:Hid (Below W.heap.size W (set8 V (W.heap.size+1) noTerm noTerm)):=set8_below hBV (by omega) noTerm noTerm
     clear bC
     go_wp2_with fail
     refine bodyPost_ret (v:=.tuple #[clV noTerm noTerm,.bool false]) (by simp[results,Tryz.results45,go_sem,clV,noTerm,z0,z1,z2,z3,z4,z5,z6,z7]) rfl ⟨?_,HF.out⟩
     rw[HX.out,HRJ.out]
     exact⟨noTerm,noTerm,rfl,rfl,rfl⟩
    ·have k2':(u.tv.k == 2)=false:=by simp[k2]
     have hres:=HRS.out V hBV
     have HRB:Hid (headBad u.tv=resB u.tv.s.toList u.tv.len):=by show headBad _=_;simp[headBad,k1,k2]
     clear k1 k2
     cases hrb:resB u.tv.s.toList u.tv.len with
     | true=>
      have HRJ:Hid (makeJ (headBad u.tv) (code u) (some (code tb))=none):=by
       show makeJ (headBad u.tv) _ _=_
       rw[HRB.out,hrb]
       rfl
      rw[hrb] at hres
      clear hrb HRB
      go_wp2_with fail
      refine hres.mono ?_
      rintro e V5 ⟨rfl,g5⟩
      clear hres x0 x1 x2 x3 k1' k2'
      have s5:=g5.size
      replace bP:=bP.below g5 bP.lt
      replace bQ:=bQ.below g5 bQ.lt
      replace bC:=bC.below g5 bC.lt
      replace hBV:Below W.heap.size W V5:=hBV.trans (g5.mono (by omega))
      have sV5:W.heap.size+2≤V5.heap.size:=by omega
      replace HTH:Hid (IsT V5.heap.size V5 u):=(IsT.below g5 HTH.out).mono g5.size
      replace HTB:Hid (IsT V5.heap.size V5 tb):=(IsT.below g5 HTB.out).mono g5.size
      clear sV s5 g5 HRS
      obtain⟨⟨z0,z1,z2,z3⟩,z4,z5,z6,z7⟩:=bC.cs
      obtain⟨f0,f1,f2,f3,f4,f5,f6,f7⟩:=bC.fs
      simp only[noTerm] at z0 z1 z2 z3 z4 z5 z6 z7
      have HF:Hid (Below W.heap.size W (set8 V5 (W.heap.size+1) noTerm noTerm)):=set8_below hBV (by omega) noTerm noTerm
      clear bC
      go_wp2_with fail
      refine bodyPost_ret (v:=.tuple #[clV noTerm noTerm,.bool false]) (by simp[results,Tryz.results45,go_sem,clV,noTerm,z0,z1,z2,z3,z4,z5,z6,z7]) rfl ⟨?_,HF.out⟩
      rw[HX.out,HRJ.out]
      exact⟨noTerm,noTerm,rfl,rfl,rfl⟩
     | false=>
      have HRJ:Hid (makeJ (headBad u.tv) (code u) (some (code tb))=some (clRen (code u) (code tb) (code u),clRen (code u) (code tb) (code tb))):=by
       show makeJ (headBad u.tv) _ _=_
       rw[HRB.out,hrb]
       rfl
      rw[hrb] at hres
      clear hrb HRB
      go_wp2_with fail
      refine hres.mono ?_
      rintro e V5 ⟨rfl,g5⟩
      clear hres x0 x1 x2 x3 k1' k2'
      have s5:=g5.size
      replace bP:=bP.below g5 bP.lt
      replace bQ:=bQ.below g5 bQ.lt
      replace bC:=bC.below g5 bC.lt
      replace hBV:Below W.heap.size W V5:=hBV.trans (g5.mono (by omega))
      have sV5:W.heap.size+2≤V5.heap.size:=by omega
      replace HTH:Hid (IsT V5.heap.size V5 u):=(IsT.below g5 HTH.out).mono g5.size
      replace HTB:Hid (IsT V5.heap.size V5 tb):=(IsT.below g5 HTB.out).mono g5.size
      clear sV s5 g5 HRS
      have x0:=bP.c0
      have x1:=bP.c1
      have x2:=bP.c2
      have x3:=bP.c3
      have y0:=bQ.c0
      have y1:=bQ.c1
      have y2:=bQ.c2
      have y3:=bQ.c3
      obtain⟨V1,e1,g1,s1,blk⟩:∃V1,V5.alloc (.cells #[.int .i64 u.tv.k,.int .i64 u.tv.N,.string u.tv.s,.slice u.tv.a u.tv.len u.tv.cap,.int .i64 tb.tv.k,.int .i64 tb.tv.N,.string tb.tv.s,.slice tb.tv.a tb.tv.len tb.tv.cap] 34)=V1∧Below V5.heap.size V5 V1∧V5.heap.size+1≤V1.heap.size∧V1.heap[V5.heap.size]?=some (.cells #[.int .i64 u.tv.k,.int .i64 u.tv.N,.string u.tv.s,.slice u.tv.a u.tv.len u.tv.cap,.int .i64 tb.tv.k,.int .i64 tb.tv.N,.string tb.tv.s,.slice tb.tv.a tb.tv.len tb.tv.cap] 34 (0,0)):=⟨_,rfl,(Below.refl _ _).alloc (Nat.le_refl _) _,by simp,World.alloc_heap_new _ _⟩
      have hTH1:IsT V1.heap.size V1 u:=(IsT.below g1 HTH.out).mono g1.size
      have hTB1:IsT V1.heap.size V1 tb:=(IsT.below g1 HTB.out).mono g1.size
      have hvars:=rVars_two u tb V5.heap.size 2 V1 hTH1 hTB1 (by omega) (by refine⟨?_,?_,?_,?_⟩ <;> simp[World.cell?,blk]) (by refine⟨?_,?_,?_,?_⟩ <;> simp[World.cell?,blk]) HOH.out HOB.out hcl
      have HT1:=hide hTH1
      have HB1:=hide hTB1
      clear blk hTH1 hTB1
      go_wp2_with fail
      try rw[e1]
      refine hvars.mono ?_
      rintro e V2 ⟨v,rfl,g2,hown⟩
      clear hvars e1 x0 x1 x2 x3 y0 y1 y2 y3
      have s2:=g2.size
      obtain⟨va,vc,rfl,hN⟩:=hown.isN (by have h:=clVars_len (code u) (code tb);unfold clVars at h;omega)
      clear hown
      have bP2:=(bP.below g1 (by have:=bP.lt;omega)).below g2 (by have:=bP.lt;omega)
      have bQ2:=(bQ.below g1 (by have:=bQ.lt;omega)).below g2 (by have:=bQ.lt;omega)
      have bC2:=(bC.below g1 (by omega)).below g2 (by omega)
      have hB2:Below W.heap.size W V2:=(hBV.trans (g1.mono (by omega))).trans (g2.mono (by omega))
      have hTH2:IsT V2.heap.size V2 u:=(IsT.below g2 (unhide HT1)).mono g2.size
      have hTB2:IsT V2.heap.size V2 tb:=(IsT.below g2 (unhide HB1)).mono g2.size
      have HM:Hid (varsC (varsC [] (code u)) (code tb)=clVars (code u) (code tb)):=rfl
      rw[HM.out] at hN⊢
      generalize hms:clVars (code u) (code tb)=ms at hN⊢
      have HMS:=hide hms
      clear hms HM
      have hlms:ms.length≤4194304:=by rw[←unhide HMS];exact Nat.le_trans (clVars_len _ _) hcl
      have HSW:Hid (∀(X:World),Below V2.heap.size V2 X→Calls Tryz.prog 76 #[u.tv.val,.slice va ms.length vc,.int .i64 0] X fun e W'=> ∃x:TV,e=.returned x.val∧Below X.heap.size X W'∧HoldsS (n+1) (Mix 0 X.heap.size) W' x.val ((code u).flatMap (subN (renN 0 ms)))):=fun X hX=>rswap_any ms va ms.length vc 0 (by omega) (by omega) n u X (hN.below hX) ((hTH2.below hX).mono hX.size) HOH.out (by rw[←unhide HMS];exact clVars_mem_h)
      have HSB:Hid (∀(X:World),Below V2.heap.size V2 X→Calls Tryz.prog 76 #[tb.tv.val,.slice va ms.length vc,.int .i64 0] X fun e W'=> ∃x:TV,e=.returned x.val∧Below X.heap.size X W'∧HoldsS (n+1+1) (Mix 0 X.heap.size) W' x.val ((code tb).flatMap (subN (renN 0 ms)))):=fun X hX=>rswap_any ms va ms.length vc 0 (by omega) (by omega) (n+1) tb X (hN.below hX) ((hTB2.below hX).mono hX.size) HOB.out (by rw[←unhide HMS];exact clVars_mem_b)
      simp only[TV.val] at HSW HSB
      have HC2:=hide bC2
      clear hTH2 hTB2 hN bC2 HT1 HB1 bP bQ bC g1 g2 hlms
      go_upto_region 8 with fail
      refine wp_region_noPanic ?_
      refine wp_region_held_drew (S:=(fun w'=>(w'.cell? ⟨p,0,none⟩=some (.int .i64 u.tv.k)∧w'.cell? ⟨p,1,none⟩=some (.int .i64 u.tv.N)∧w'.cell? ⟨p,2,none⟩=some (.string u.tv.s)∧w'.cell? ⟨p,3,none⟩=some (.slice u.tv.a u.tv.len u.tv.cap))∧w'.cell? ⟨q,0,none⟩=some (.int .i64 tb.tv.k)∧w'.cell? ⟨q,1,none⟩=some (.int .i64 tb.tv.N)∧w'.cell? ⟨q,2,none⟩=some (.string tb.tv.s)∧w'.cell? ⟨q,3,none⟩=some (.slice tb.tv.a tb.tv.len tb.tv.cap))) (by kernel_rfl) ?_ (fun hHeld=>?_)
      ·exact⟨⟨bP2.c0,bP2.c1,bP2.c2,bP2.c3⟩,bQ2.c0,bQ2.c1,bQ2.c2,bQ2.c3⟩
      refine tk 0 rfl hHeld ?_
      refine tk 1 rfl hHeld ?_
      refine tk 3 rfl hHeld ?_
      refine tk 4 rfl hHeld ?_
      refine rd 2 rfl fun K hK=>?_
      have hHold:=hHeld
      clear hHeld
      go_simp
      refine(HSW.out _ ((Below.refl _ V2).drew)).mono ?_
      rintro e X3 ⟨x',rfl,k3,hx'⟩
      have g3:Below V2.heap.size V2 X3:=(Below.refl _ V2).drew.trans k3
      have s3:=g3.size
      have bPX3:=bP2.below g3 bP2.lt
      have bQX3:=bQ2.below g3 bQ2.lt
      go_wp2_with fail
      refine hK.out _ _ ?_ (fun hHeld=>?_)
      ·exact⟨⟨bPX3.c0,bPX3.c1,bPX3.c2,bPX3.c3⟩,bQX3.c0,bQX3.c1,bQX3.c2,bQX3.c3⟩
      clear hK K hHold
      try simp only[pu]
      refine rd 5 rfl fun K hK=>?_
      have hHold:=hHeld
      clear hHeld
      go_simp
      refine(HSB.out _ g3).mono ?_
      rintro e X4 ⟨y',rfl,k4,hy'⟩
      have s4:=k4.size
      have bPX4:=bPX3.below k4 bPX3.lt
      have bQX4:=bQX3.below k4 bQX3.lt
      have bC4:BoxC X4 (W.heap.size+1) noTerm noTerm:=((unhide HC2).below g3 (unhide HC2).lt).below k4 (by have:=(unhide HC2).lt;omega)
      obtain⟨⟨z0,z1,z2,z3⟩,z4,z5,z6,z7⟩:=bC4.cs
      obtain⟨f0,f1,f2,f3,f4,f5,f6,f7⟩:=bC4.fs
      simp only[noTerm] at z0 z1 z2 z3 z4 z5 z6 z7
      go_wp2_with fail
      refine hK.out _ _ ?_ (fun hHeld=>?_)
      ·exact⟨⟨bPX4.c0,bPX4.c1,bPX4.c2,bPX4.c3⟩,bQX4.c0,bQX4.c1,bQX4.c2,bQX4.c3⟩
      clear hK K hHold
      try simp only[pu]
      refine tk 6 rfl hHeld ?_
      refine rd 7 rfl fun K hK=>?_
      have hHold:=hHeld
      clear hHeld
      go_simp
      have hset:∀(b' i:Nat),b'≠W.heap.size+1→(set8 X4 (W.heap.size+1) x' y').cell? ⟨b',i,none⟩=X4.cell? ⟨b',i,none⟩:=fun b' i hb'=>World.cell?_of_block (w:=X4) ((set4_other _ _ 4 y' hb').trans (set4_other _ _ 0 x' hb'))
      have hset':=hset
      simp only[set8,set4,Nat.zero_add] at hset'
      refine hK.out _ _ ?_ (fun hHeld=>?_)
      ·exact⟨⟨(hset' p 0 (by omega)).trans bPX4.c0,(hset' p 1 (by omega)).trans bPX4.c1,(hset' p 2 (by omega)).trans bPX4.c2,(hset' p 3 (by omega)).trans bPX4.c3⟩,(hset' q 0 (by omega)).trans bQX4.c0,(hset' q 1 (by omega)).trans bQX4.c1,(hset' q 2 (by omega)).trans bQX4.c2,(hset' q 3 (by omega)).trans bQX4.c3⟩
      clear hK K hHold hset hset'
      try simp only[pu]
      refine tk 8 rfl hHeld ?_
      refine wpAnyH_done (by kernel_rfl) ?_ _
      refine NoPanic.normal ?_
      clear hHeld
      have HF:Hid (Below W.heap.size W (set8 X4 (W.heap.size+1) x' y')∧HoldsS (n+3) (Mix 0 W.heap.size) (set8 X4 (W.heap.size+1) x' y') x'.val (clRen (code u) (code tb) (code u))∧HoldsS (n+3) (Mix 0 W.heap.size) (set8 X4 (W.heap.size+1) x' y') y'.val (clRen (code u) (code tb) (code tb))):=by
       unfold clRen
       rw[unhide HMS]
       refine⟨set8_below ((hB2.trans (g3.mono (by omega))).trans (k4.mono (by omega))) (by omega) x' y',?_,?_⟩
       ·exact mix_mono (mix_set8 (hx'.below k4) (Nat.zero_le _) (by simp;omega) x' y') (by omega) (by simp;omega)
       ·exact mix_mono (mix_set8 hy' (Nat.zero_le _) (by omega) x' y') (by omega) (by omega)
      clear hx' hy' bP2 bQ2 bPX3 bQX3 bPX4 bQX4 bC4 g3 k3 k4
      go_wp2_with fail
      refine bodyPost_ret (v:=.tuple #[clV x' y',.bool true]) (by simp[results,Tryz.results45,go_sem,clV,z0,z1,z2,z3,z4,z5,z6,z7]) rfl ⟨?_,HF.out.1⟩
      rw[HX.out,HRJ.out]
      exact⟨x',y',rfl,HF.out.2⟩
/-- The code of a clause's two terms. -/
def makeC{n:Nat}(t:Tm (n+1)):Option (List Nd×List Nd):=
 if isB t.tv [58,45] 2=true then(match t.kids with | [u,v]=>makeJ (headBad u.tv) (code u) (bodyC v) | _=>none) else makeJ (headBad t.tv) (code t) (some (atomC trueL))
theorem rmake_any{n:Nat}(t:Tm (n+1))(m:Int)(W:World)(hT:IsT W.heap.size W t)(hok:okT t=true)(hl:2*(code t).length≤4194304)(hm:W.cell? ⟨splitLay_ren.g 1,0,none⟩=some (.int .i64 m))(hm0:splitLay_ren.g 1<W.heap.size)(hn38:n≤274877906946:=by omega):
  Calls Tryz.prog 45 #[t.tv.val] W fun e W'=>ClSays (n+3) W.heap.size (makeC t) e W'∧Below W.heap.size W W':=by
 obtain⟨x,kids⟩:=t
 cases hi:isB x [58,45] 2 with
 | false=>
  have e:makeC (n:=n) ((x,kids):TV×List (Tm n))=makeJ (headBad x) (code (n:=n+1) ((x,kids):TV×List (Tm n))) (some (atomC trueL)):=if_neg (show¬(isB x [58,45] 2=true) by rw[hi];simp)
  rw[e]
  have h1:1≤(code (n:=n+1) ((x,kids):TV×List (Tm n))).length:=by rw[code_succ];simp
  exact rmake_not (a:=n+1) ((x,kids):TV×List (Tm n)) m W hT hok (by omega) hi hm hm0
 | true=>
  obtain⟨-,hk⟩:=ok_kids hok
  obtain⟨h1,h2,h3,h4⟩:=hT
  simp only[Tm.tv,Tm.kids] at h1 h2 h3 h4
  have hl2:x.len=2:=by
   simp only[isB,Bool.and_eq_true,beq_iff_eq] at hi
   have:=hi.2.2
   omega
  obtain⟨k,N,s,a,len,cap⟩:=x
  simp only at hl2 h1 h4
  subst hl2
  obtain⟨u,v,rfl⟩:∃u v,kids=[u,v]:=by
   match kids,h1 with
   | [u,v],_=>exact⟨u,v,rfl⟩
  obtain⟨b,off,rfl,hb,hkk⟩:=h4.resolve_left (by simp)
  obtain⟨hcu,hTu⟩:=hkk 0 u rfl
  obtain⟨hcv,hTv⟩:=hkk 1 v rfl
  rw[Nat.zero_mul,Nat.add_zero] at hcu
  rw[Nat.one_mul] at hcv
  rw[code_succ] at hl
  simp only[List.length_cons,List.flatMap_cons,List.flatMap_nil,List.append_nil,List.length_append] at hl
  have e:makeC (n:=n) ((⟨k,N,s,some ⟨b,off,none⟩,2,cap⟩,[u,v]):TV×List (Tm n))=makeJ (headBad u.tv) (code u) (bodyC v):=if_pos hi
  rw[e]
  exact rmake_rule k N s b off cap u v m W hb hcu hcv hTu hTv (hk u (by simp)) (hk v (by simp)) (by omega) hi hm hm0
end Go.Proofs.YteaiefjmcinljaaGreatDoor
