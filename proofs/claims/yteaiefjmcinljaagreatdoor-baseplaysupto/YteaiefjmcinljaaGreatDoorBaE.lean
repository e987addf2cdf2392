import Derived.Test.YteaiefjmcinljaaGreatDoorTks
import Derived.Test.YteaiefjmcinljaaGreatDoorBaCs
namespace Go.Proofs.YteaiefjmcinljaaGreatDoor
set_option maxHeartbeats 8000000
set_option maxRecDepth 100000
open Go.RowKit Go.Shelf
/-- A clause's eight cells. -/
def clV(x y:TV):Value:=.agg #[.int .i64 x.k,.int .i64 x.N,.string x.s,.slice x.a x.len x.cap,.int .i64 y.k,.int .i64 y.N,.string y.s,.slice y.a y.len y.cap]
def BoxC(W:World)(B:Nat)(x y:TV):Prop:=W.heap[B]?=some (.cells #[.int .i64 x.k,.int .i64 x.N,.string x.s,.slice x.a x.len x.cap,.int .i64 y.k,.int .i64 y.N,.string y.s,.slice y.a y.len y.cap] 36 (0,0))
theorem BoxC.lt{W:World}{B:Nat}{x y:TV}(h:BoxC W B x y):B<W.heap.size:=(Array.getElem?_eq_some_iff.1 h).1
theorem BoxC.new(W:World)(x y:TV):BoxC (W.alloc (.cells #[.int .i64 x.k,.int .i64 x.N,.string x.s,.slice x.a x.len x.cap,.int .i64 y.k,.int .i64 y.N,.string y.s,.slice y.a y.len y.cap] 36)) W.heap.size x y:=World.alloc_heap_new W _
theorem BoxC.below{A B:World}{n k:Nat}{x y:TV}(h:BoxC A k x y)(hb:Below n A B)(hk:k<n):BoxC B k x y:=(hb.block k hk).trans h
theorem BoxC.set4{W:World}{k b:Nat}{x y:TV}(h:BoxC W k x y)(hk:k≠b)(z:TV):BoxC (set4 W b 0 z) k x y:=(set4_other W b 0 z hk).trans h
theorem BoxC.cs{W:World}{B:Nat}{x y:TV}(h:BoxC W B x y):(W.cell? ⟨B,0,none⟩=some (.int .i64 x.k)∧W.cell? ⟨B,1,none⟩=some (.int .i64 x.N)∧W.cell? ⟨B,2,none⟩=some (.string x.s)∧W.cell? ⟨B,3,none⟩=some (.slice x.a x.len x.cap))∧(W.cell? ⟨B,4,none⟩=some (.int .i64 y.k)∧W.cell? ⟨B,5,none⟩=some (.int .i64 y.N)∧W.cell? ⟨B,6,none⟩=some (.string y.s)∧W.cell? ⟨B,7,none⟩=some (.slice y.a y.len y.cap)):=by
 have h':W.heap[B]?=_:=h
 refine⟨⟨?_,?_,?_,?_⟩,?_,?_,?_,?_⟩ <;> simp[World.cell?,h']
theorem BoxC.fs{W:World}{B:Nat}{x y:TV}(h:BoxC W B x y):W.frozen? ⟨B,0,none⟩=false∧W.frozen? ⟨B,1,none⟩=false∧W.frozen? ⟨B,2,none⟩=false∧W.frozen? ⟨B,3,none⟩=false∧W.frozen? ⟨B,4,none⟩=false∧W.frozen? ⟨B,5,none⟩=false∧W.frozen? ⟨B,6,none⟩=false∧W.frozen? ⟨B,7,none⟩=false:=by
 have h':W.heap[B]?=_:=h
 refine⟨?_,?_,?_,?_,?_,?_,?_,?_⟩ <;> simp[World.frozen?,h']
def set8(W:World)(b:Nat)(x y:TV):World:=set4 (set4 W b 0 x) b 4 y
theorem set8_below{n:Nat}{A W:World}(h:Below n A W){b:Nat}(hb:n≤b)(x y:TV):Below n A (set8 W b x y):=set4_below (set4_below h hb 0 x) hb 4 y
theorem mix_set8{D ns lo:Nat}{W:World}{v:Value}{c:List Nd}(h:HoldsS D (Mix ns lo) W v c){b:Nat}(h1:ns≤b)(h2:b<lo)(x y:TV):HoldsS D (Mix ns lo) (set8 W b x y) v c:=mix_set4 (mix_set4 h h1 h2 0 x) h1 h2 4 y
theorem box_clause(W:World)(x:TV):∃W2,(W.alloc (.cells #[.int .i64 x.k,.int .i64 x.N,.string x.s,.slice x.a x.len x.cap] 34)).alloc (.cells #[.int .i64 0,.int .i64 0,.string ⟨#[]⟩,.slice none 0 0,.int .i64 0,.int .i64 0,.string ⟨#[]⟩,.slice none 0 0] 36)=W2∧Below W.heap.size W W2∧W.heap.size+2≤W2.heap.size∧BoxT W2 W.heap.size x∧BoxC W2 (W.heap.size+1) noTerm noTerm:=by
 refine⟨_,rfl,((Below.refl _ W).alloc (Nat.le_refl _) _).alloc (by simp) _,by simp,(BoxT.new W x).alloc _,?_⟩
 have h:=BoxC.new (W.alloc (.cells #[.int .i64 x.k,.int .i64 x.N,.string x.s,.slice x.a x.len x.cap] 34)) noTerm noTerm
 rw[World.size_alloc] at h
 exact h
def trueL:List UInt8:=[116,114,117,101]
/-- The numbers that the variables of a clause get. -/
def clVars(h b:List Nd):List Int:=varsC (varsC [] h) b
def clRen(h b c:List Nd):List Nd:=c.flatMap (subN (renN 0 (clVars h b)))
/-- May a term not be a head? -/
def headBad(x:TV):Bool:=decide (x.k=1) || (decide (x.k=2) || resB x.s.toList x.len)
def makeJ(bad:Bool)(h:List Nd):Option (List Nd)→Option (List Nd×List Nd)
 | none=>none
 | some b=>if bad=true then none else some (clRen h b h,clRen h b b)
/-- What Make answers: both terms of a clause. -/
def ClIs(D lo:Nat)(W:World)(x y:TV):Option (List Nd×List Nd)→Prop
 | some (h,b)=>HoldsS D (Mix 0 lo) W x.val h∧HoldsS D (Mix 0 lo) W y.val b
 | none=>x=noTerm∧y=noTerm
def ClSays(D lo:Nat)(r:Option (List Nd×List Nd))(e:Ending)(W':World):Prop:= ∃x y:TV,e=.returned (.tuple #[clV x y,.bool r.isSome])∧ClIs D lo W' x y r
theorem clVars_mem_h{h b:List Nd}:∀N,IsVarOf h N→N∈clVars h b:=fun N hN=>(steps_mem b _ N).2 (.inl ((steps_mem h [] N).2 (.inr hN)))
theorem clVars_mem_b{h b:List Nd}:∀N,IsVarOf b N→N∈clVars h b:=fun N hN=>(steps_mem b _ N).2 (.inr hN)
theorem clVars_len(h b:List Nd):(clVars h b).length≤h.length+b.length:=by
 have h1:=varsC_len [] h
 have h2:=varsC_len (varsC [] h) b
 simp only[List.length_nil,Nat.zero_add] at h1
 unfold clVars
 omega
theorem rmake_not{a:Nat}(th:Tm a)(m:Int)(W:World)(hT:IsT W.heap.size W th)(hok:okT th=true)(hcl0:(code th).length+1≤4194304)(hi:isB th.tv [58,45] 2=false)(hm:W.cell? ⟨splitLay_ren.g 1,0,none⟩=some (.int .i64 m))(hm0:splitLay_ren.g 1<W.heap.size):
  Calls Tryz.prog 45 #[th.tv.val] W fun e W'=>ClSays (a+2) W.heap.size (makeJ (headBad th.tv) (code th) (some (atomC trueL))) e W'∧Below W.heap.size W W':=by
 have ha:=ratom_any ⟨#[116,114,117,101]⟩
 have i1:=ris_any th.tv ⟨#[58,45]⟩ 2
 rw[show(⟨#[58,45]⟩:ByteArray).toList=[58,45] by decide +kernel,hi] at i1
 have HRS:Hid (∀V,Below W.heap.size W V→Calls Tryz.prog 74 #[.string th.tv.s,.int .i64 (th.tv.len:Int)] V fun e W'=>e=.returned (.bool (resB th.tv.s.toList th.tv.len))∧Below V.heap.size V W'):=fun V hb=>rres_any th.tv.s th.tv.len m V ((hb.cell (p:=⟨splitLay_ren.g 1,0,none⟩) hm0).trans hm) (Nat.lt_of_lt_of_le hm0 hb.size)
 have HT0:Hid (IsT W.heap.size W th):=hT
 have HOH:Hid (okT th=true):=hok
 clear hT hok hi hm hm0
 let tb:Tm 1:=((atomV ⟨#[116,114,117,101]⟩,[]):TV×List (Tm 0))
 have htb:tb.tv=atomV ⟨#[116,114,117,101]⟩:=rfl
 have htc:code tb=atomC trueL:=by
  show code (n:=0+1) ((atomV ⟨#[116,114,117,101]⟩,[]):TV×List (Tm 0))=_
  rw[code_succ]
  have e:(⟨#[116,114,117,101]⟩:ByteArray).toList=trueL:=by decide +kernel
  simp[TV.nd,atomV,atomC,e]
 have hto:okT tb=true:=by
  show okT (n:=0+1) ((atomV ⟨#[116,114,117,101]⟩,[]):TV×List (Tm 0))=true
  rw[okT_succ]
  decide +kernel
 have HTB0:Hid (∀V:World,IsT V.heap.size V tb):=fun V=>⟨rfl,by simp[htb,atomV],by rw[htb];show(4:Nat)≤_;omega,.inl rfl⟩
 rw[←htc]
 have HOB:Hid (okT tb=true):=hto
 have HXB:Hid (tb.tv=atomV ⟨#[116,114,117,101]⟩):=htb
 have hcl:(code th).length+(code tb).length≤4194304:=by rw[htc];exact hcl0
 clear_value tb
 clear htb htc hto hcl0
 simp only[atomV,TV.val] at ha i1⊢
 obtain⟨W2,hW2,hb2,hs2,bT,bC2⟩:=box_clause W th.tv
 obtain⟨x,hx⟩:∃x,x=th.tv:=⟨_,rfl⟩
 have HX:Hid (x=th.tv):=hx
 rw[←hx] at bT hW2 i1⊢
 clear hx
 have hlt:W.heap.size<W2.heap.size:=bT.lt
 go_enter Tryz.func45,Tryz.ntmps45
 go_upto_region 1 with fail
 try rw[hW2]
 clear hW2
 go_cut [4,5,6] from 8 (fun s4 s5 s6 wc=>s6=.bool true∧∃p q,s4=.pointer (some ⟨p,0,none⟩)∧s5=.pointer (some ⟨q,0,none⟩)∧p≠q∧W2.heap.size≤p∧W2.heap.size≤q∧Below W2.heap.size W2 wc∧BoxT wc p x∧BoxT wc q (atomV ⟨#[116,114,117,101]⟩))
 case first=>
  clear i1 HRS hcl
  refine wp_region_noPanic ?_
  refine wp_region_held_drew (S:=(fun w'=>w'.cell? ⟨W.heap.size,0,none⟩=some (.int .i64 x.k)∧w'.cell? ⟨W.heap.size,1,none⟩=some (.int .i64 x.N)∧w'.cell? ⟨W.heap.size,2,none⟩=some (.string x.s)∧w'.cell? ⟨W.heap.size,3,none⟩=some (.slice x.a x.len x.cap))) (by kernel_rfl) ?_ (fun hHeld=>?_)
  ·exact⟨bT.c0,bT.c1,bT.c2,bT.c3⟩
  refine tk 0 rfl hHeld ?_
  have hD0:Below W2.heap.size W2 W2.drew:=(Below.refl _ W2).drew
  have bT0:=bT.below hD0 hlt
  have sD0:W2.heap.size≤W2.drew.heap.size:=hD0.size
  generalize W2.drew=D0 at hD0 bT0 sD0 hHeld⊢
  refine wpAnyH_ready (rs:=[1,2,3]) (by kernel_rfl) (by simp) ?_
  refine AllReadyH.cons (o:={dst:=some 9,op:=Op.call {callee:=Callee.value (Operand.func 72),args:=#[Operand.const (Value.string {data:=#[116,114,117,101]})],argTypes:=#[9]},type:=34,pos:= "base.go:53",after:=#[],guard:=none}) rfl (fun K hK=>?_) (AllReadyH.cons (o:={dst:=some 4,op:=Op.alloc 34,type:=0,pos:= "base.go:53",after:=#[],guard:=none}) rfl (fun K hK=>?_) (AllReadyH.cons (o:={dst:=some 5,op:=Op.alloc 34,type:=0,pos:= "base.go:53",after:=#[],guard:=none}) rfl (fun K hK=>?_) AllReadyH.nil))
  ·have hHold:=hHeld
   clear hHeld
   go_simp
   refine(ha _).mono ?_
   rintro e D1 ⟨rfl,hD1⟩
   have sD1:=hD1.size
   have bT1:=bT0.below hD1 (by omega)
   have hD1':Below W2.heap.size W2 D1:=hD0.trans (hD1.mono (by omega))
   go_wp2_with fail
   refine hK.out _ _ ?_ (fun hHeld=>?_)
   ·exact⟨bT1.c0,bT1.c1,bT1.c2,bT1.c3⟩
   clear hK K hHold
   try simp only[pu]
   refine wpAnyH_ready (rs:=[2,3]) (by kernel_rfl) (by simp) ?_
   refine AllReadyH.cons (o:={dst:=some 4,op:=Op.alloc 34,type:=0,pos:= "base.go:53",after:=#[],guard:=none}) rfl (fun K hK=>?_) (AllReadyH.cons (o:={dst:=some 5,op:=Op.alloc 34,type:=0,pos:= "base.go:53",after:=#[],guard:=none}) rfl (fun K hK=>?_) AllReadyH.nil)
   ·have hHold:=hHeld
    clear hHeld
    go_simp
    obtain⟨D2,eD2,hD2,sD2,bP2⟩:∃V,D1.alloc (.cells #[.int .i64 0,.int .i64 0,.string ⟨#[]⟩,.slice none 0 0] 34)=V∧Below D1.heap.size D1 V∧D1.heap.size+1≤V.heap.size∧BoxT V D1.heap.size noTerm:=⟨_,rfl,(Below.refl _ _).alloc (Nat.le_refl _) _,by simp,BoxT.new D1 noTerm⟩
    try rw[eD2]
    clear eD2
    have bT2:=bT1.below hD2 (by omega)
    have hD2':Below W2.heap.size W2 D2:=hD1'.trans (hD2.mono (by omega))
    refine hK.out _ _ ?_ (fun hHeld=>?_)
    ·exact⟨bT2.c0,bT2.c1,bT2.c2,bT2.c3⟩
    clear hK K hHold
    try simp only[pu]
    refine rd 3 rfl fun K hK=>?_
    ·have hHold:=hHeld
     clear hHeld
     go_simp
     obtain⟨D3,eD3,hD3,sD3,bQ3⟩:∃V,D2.alloc (.cells #[.int .i64 0,.int .i64 0,.string ⟨#[]⟩,.slice none 0 0] 34)=V∧Below D2.heap.size D2 V∧D2.heap.size+1≤V.heap.size∧BoxT V D2.heap.size noTerm:=⟨_,rfl,(Below.refl _ _).alloc (Nat.le_refl _) _,by simp,BoxT.new D2 noTerm⟩
     try rw[eD3]
     clear eD3
     have bT3:=bT2.below hD3 (by omega)
     have hD3':Below W2.heap.size W2 D3:=hD2'.trans (hD3.mono (by omega))
     have bP3:=bP2.below hD3 (by omega)
     refine hK.out _ _ ?_ (fun hHeld=>?_)
     ·exact⟨bT3.c0,bT3.c1,bT3.c2,bT3.c3⟩
     clear hK K hHold
     try simp only[pu]
     refine rd 4 rfl fun K hK=>?_
     have hHold:=hHeld
     clear hHeld
     have z0:=bP3.c0
     have z1:=bP3.c1
     have z2:=bP3.c2
     have z3:=bP3.c3
     obtain⟨f0,f1,f2,f3⟩:=bP3.frz
     go_simp
     obtain⟨D4,eD4⟩:∃V,set4 D3 (D1.heap.size) 0 x=V:=⟨_,rfl⟩
     have hD4':Below W2.heap.size W2 D4:=by rw[←eD4];exact set4_below hD3' (by omega) 0 _
     have sD4:D3.heap.size≤D4.heap.size:=by rw[←eD4,set4_size];exact Nat.le_refl _
     have bT4:BoxT D4 W.heap.size x:=by rw[←eD4];exact bT3.set4 (by omega) _
     have bP4:BoxT D4 (D1.heap.size) x:=by rw[←eD4];exact set4_box bP3 _
     have bQ4:BoxT D4 (D2.heap.size) noTerm:=by rw[←eD4];exact bQ3.set4 (by omega) _
     simp only[set4,Nat.zero_add] at eD4
     try rw[eD4]
     clear eD4 z0 z1 z2 z3 f0 f1 f2 f3
     refine hK.out _ _ ?_ (fun hHeld=>?_)
     ·exact⟨bT4.c0,bT4.c1,bT4.c2,bT4.c3⟩
     clear hK K hHold
     try simp only[pu]
     refine rd 5 rfl fun K hK=>?_
     have hHold:=hHeld
     clear hHeld
     have z0:=bQ4.c0
     have z1:=bQ4.c1
     have z2:=bQ4.c2
     have z3:=bQ4.c3
     obtain⟨f0,f1,f2,f3⟩:=bQ4.frz
     go_simp
     obtain⟨D5,eD5⟩:∃V,set4 D4 (D2.heap.size) 0 (atomV ⟨#[116,114,117,101]⟩)=V:=⟨_,rfl⟩
     have hD5':Below W2.heap.size W2 D5:=by rw[←eD5];exact set4_below hD4' (by omega) 0 _
     have sD5:D4.heap.size≤D5.heap.size:=by rw[←eD5,set4_size];exact Nat.le_refl _
     have bT5:BoxT D5 W.heap.size x:=by rw[←eD5];exact bT4.set4 (by omega) _
     have bQ5:BoxT D5 (D2.heap.size) (atomV ⟨#[116,114,117,101]⟩):=by rw[←eD5];exact set4_box bQ4 _
     have bP5:BoxT D5 (D1.heap.size) x:=by rw[←eD5];exact bP4.set4 (by omega) _
     simp only[set4,atomV,Nat.zero_add] at eD5
     try rw[eD5]
     clear eD5 z0 z1 z2 z3 f0 f1 f2 f3
     refine hK.out _ _ ?_ (fun hHeld=>?_)
     ·exact⟨bT5.c0,bT5.c1,bT5.c2,bT5.c3⟩
     clear hK K hHold
     try simp only[pu]
     refine tk 6 rfl hHeld ?_
     refine wpAnyH_done (by kernel_rfl) ?_ _
     refine NoPanic.normal ?_
     clear hHeld
     go_wp2_with fail
     go_meet
     exact⟨rfl,D1.heap.size,D2.heap.size,rfl,rfl,by omega,by omega,by omega,hD5',bP5,bQ5⟩
   ·have hHold:=hHeld
    clear hHeld
    go_simp
    obtain⟨D2,eD2,hD2,sD2,bQ2⟩:∃V,D1.alloc (.cells #[.int .i64 0,.int .i64 0,.string ⟨#[]⟩,.slice none 0 0] 34)=V∧Below D1.heap.size D1 V∧D1.heap.size+1≤V.heap.size∧BoxT V D1.heap.size noTerm:=⟨_,rfl,(Below.refl _ _).alloc (Nat.le_refl _) _,by simp,BoxT.new D1 noTerm⟩
    try rw[eD2]
    clear eD2
    have bT2:=bT1.below hD2 (by omega)
    have hD2':Below W2.heap.size W2 D2:=hD1'.trans (hD2.mono (by omega))
    refine hK.out _ _ ?_ (fun hHeld=>?_)
    ·exact⟨bT2.c0,bT2.c1,bT2.c2,bT2.c3⟩
    clear hK K hHold
    try simp only[pu]
    refine rd 2 rfl fun K hK=>?_
    ·have hHold:=hHeld
     clear hHeld
     go_simp
     obtain⟨D3,eD3,hD3,sD3,bP3⟩:∃V,D2.alloc (.cells #[.int .i64 0,.int .i64 0,.string ⟨#[]⟩,.slice none 0 0] 34)=V∧Below D2.heap.size D2 V∧D2.heap.size+1≤V.heap.size∧BoxT V D2.heap.size noTerm:=⟨_,rfl,(Below.refl _ _).alloc (Nat.le_refl _) _,by simp,BoxT.new D2 noTerm⟩
     try rw[eD3]
     clear eD3
     have bT3:=bT2.below hD3 (by omega)
     have hD3':Below W2.heap.size W2 D3:=hD2'.trans (hD3.mono (by omega))
     have bQ3:=bQ2.below hD3 (by omega)
     refine hK.out _ _ ?_ (fun hHeld=>?_)
     ·exact⟨bT3.c0,bT3.c1,bT3.c2,bT3.c3⟩
     clear hK K hHold
     try simp only[pu]
     refine rd 4 rfl fun K hK=>?_
     have hHold:=hHeld
     clear hHeld
     have z0:=bP3.c0
     have z1:=bP3.c1
     have z2:=bP3.c2
     have z3:=bP3.c3
     obtain⟨f0,f1,f2,f3⟩:=bP3.frz
     go_simp
     obtain⟨D4,eD4⟩:∃V,set4 D3 (D2.heap.size) 0 x=V:=⟨_,rfl⟩
     have hD4':Below W2.heap.size W2 D4:=by rw[←eD4];exact set4_below hD3' (by omega) 0 _
     have sD4:D3.heap.size≤D4.heap.size:=by rw[←eD4,set4_size];exact Nat.le_refl _
     have bT4:BoxT D4 W.heap.size x:=by rw[←eD4];exact bT3.set4 (by omega) _
     have bP4:BoxT D4 (D2.heap.size) x:=by rw[←eD4];exact set4_box bP3 _
     have bQ4:BoxT D4 (D1.heap.size) noTerm:=by rw[←eD4];exact bQ3.set4 (by omega) _
     simp only[set4,Nat.zero_add] at eD4
     try rw[eD4]
     clear eD4 z0 z1 z2 z3 f0 f1 f2 f3
     refine hK.out _ _ ?_ (fun hHeld=>?_)
     ·exact⟨bT4.c0,bT4.c1,bT4.c2,bT4.c3⟩
     clear hK K hHold
     try simp only[pu]
     refine rd 5 rfl fun K hK=>?_
     have hHold:=hHeld
     clear hHeld
     have z0:=bQ4.c0
     have z1:=bQ4.c1
     have z2:=bQ4.c2
     have z3:=bQ4.c3
     obtain⟨f0,f1,f2,f3⟩:=bQ4.frz
     go_simp
     obtain⟨D5,eD5⟩:∃V,set4 D4 (D1.heap.size) 0 (atomV ⟨#[116,114,117,101]⟩)=V:=⟨_,rfl⟩
     have hD5':Below W2.heap.size W2 D5:=by rw[←eD5];exact set4_below hD4' (by omega) 0 _
     have sD5:D4.heap.size≤D5.heap.size:=by rw[←eD5,set4_size];exact Nat.le_refl _
     have bT5:BoxT D5 W.heap.size x:=by rw[←eD5];exact bT4.set4 (by omega) _
     have bQ5:BoxT D5 (D1.heap.size) (atomV ⟨#[116,114,117,101]⟩):=by rw[←eD5];exact set4_box bQ4 _
     have bP5:BoxT D5 (D2.heap.size) x:=by rw[←eD5];exact bP4.set4 (by omega) _
     simp only[set4,atomV,Nat.zero_add] at eD5
     try rw[eD5]
     clear eD5 z0 z1 z2 z3 f0 f1 f2 f3
     refine hK.out _ _ ?_ (fun hHeld=>?_)
     ·exact⟨bT5.c0,bT5.c1,bT5.c2,bT5.c3⟩
     clear hK K hHold
     try simp only[pu]
     refine tk 6 rfl hHeld ?_
     refine wpAnyH_done (by kernel_rfl) ?_ _
     refine NoPanic.normal ?_
     clear hHeld
     go_wp2_with fail
     go_meet
     exact⟨rfl,D2.heap.size,D1.heap.size,rfl,rfl,by omega,by omega,by omega,hD5',bP5,bQ5⟩
  ·have hHold:=hHeld
   clear hHeld
   go_simp
   obtain⟨D1,eD1,hD1,sD1,bP1⟩:∃V,D0.alloc (.cells #[.int .i64 0,.int .i64 0,.string ⟨#[]⟩,.slice none 0 0] 34)=V∧Below D0.heap.size D0 V∧D0.heap.size+1≤V.heap.size∧BoxT V D0.heap.size noTerm:=⟨_,rfl,(Below.refl _ _).alloc (Nat.le_refl _) _,by simp,BoxT.new D0 noTerm⟩
   try rw[eD1]
   clear eD1
   have bT1:=bT0.below hD1 (by omega)
   have hD1':Below W2.heap.size W2 D1:=hD0.trans (hD1.mono (by omega))
   refine hK.out _ _ ?_ (fun hHeld=>?_)
   ·exact⟨bT1.c0,bT1.c1,bT1.c2,bT1.c3⟩
   clear hK K hHold
   try simp only[pu]
   refine wpAnyH_ready (rs:=[1,3]) (by kernel_rfl) (by simp) ?_
   refine AllReadyH.cons (o:={dst:=some 9,op:=Op.call {callee:=Callee.value (Operand.func 72),args:=#[Operand.const (Value.string {data:=#[116,114,117,101]})],argTypes:=#[9]},type:=34,pos:= "base.go:53",after:=#[],guard:=none}) rfl (fun K hK=>?_) (AllReadyH.cons (o:={dst:=some 5,op:=Op.alloc 34,type:=0,pos:= "base.go:53",after:=#[],guard:=none}) rfl (fun K hK=>?_) AllReadyH.nil)
   ·have hHold:=hHeld
    clear hHeld
    go_simp
    refine(ha _).mono ?_
    rintro e D2 ⟨rfl,hD2⟩
    have sD2:=hD2.size
    have bT2:=bT1.below hD2 (by omega)
    have hD2':Below W2.heap.size W2 D2:=hD1'.trans (hD2.mono (by omega))
    have bP2:=bP1.below hD2 (by omega)
    go_wp2_with fail
    refine hK.out _ _ ?_ (fun hHeld=>?_)
    ·exact⟨bT2.c0,bT2.c1,bT2.c2,bT2.c3⟩
    clear hK K hHold
    try simp only[pu]
    refine rd 3 rfl fun K hK=>?_
    ·have hHold:=hHeld
     clear hHeld
     go_simp
     obtain⟨D3,eD3,hD3,sD3,bQ3⟩:∃V,D2.alloc (.cells #[.int .i64 0,.int .i64 0,.string ⟨#[]⟩,.slice none 0 0] 34)=V∧Below D2.heap.size D2 V∧D2.heap.size+1≤V.heap.size∧BoxT V D2.heap.size noTerm:=⟨_,rfl,(Below.refl _ _).alloc (Nat.le_refl _) _,by simp,BoxT.new D2 noTerm⟩
     try rw[eD3]
     clear eD3
     have bT3:=bT2.below hD3 (by omega)
     have hD3':Below W2.heap.size W2 D3:=hD2'.trans (hD3.mono (by omega))
     have bP3:=bP2.below hD3 (by omega)
     refine hK.out _ _ ?_ (fun hHeld=>?_)
     ·exact⟨bT3.c0,bT3.c1,bT3.c2,bT3.c3⟩
     clear hK K hHold
     try simp only[pu]
     refine rd 4 rfl fun K hK=>?_
     have hHold:=hHeld
     clear hHeld
     have z0:=bP3.c0
     have z1:=bP3.c1
     have z2:=bP3.c2
     have z3:=bP3.c3
     obtain⟨f0,f1,f2,f3⟩:=bP3.frz
     go_simp
     obtain⟨D4,eD4⟩:∃V,set4 D3 (D0.heap.size) 0 x=V:=⟨_,rfl⟩
     have hD4':Below W2.heap.size W2 D4:=by rw[←eD4];exact set4_below hD3' (by omega) 0 _
     have sD4:D3.heap.size≤D4.heap.size:=by rw[←eD4,set4_size];exact Nat.le_refl _
     have bT4:BoxT D4 W.heap.size x:=by rw[←eD4];exact bT3.set4 (by omega) _
     have bP4:BoxT D4 (D0.heap.size) x:=by rw[←eD4];exact set4_box bP3 _
     have bQ4:BoxT D4 (D2.heap.size) noTerm:=by rw[←eD4];exact bQ3.set4 (by omega) _
     simp only[set4,Nat.zero_add] at eD4
     try rw[eD4]
     clear eD4 z0 z1 z2 z3 f0 f1 f2 f3
     refine hK.out _ _ ?_ (fun hHeld=>?_)
     ·exact⟨bT4.c0,bT4.c1,bT4.c2,bT4.c3⟩
     clear hK K hHold
     try simp only[pu]
     refine rd 5 rfl fun K hK=>?_
     have hHold:=hHeld
     clear hHeld
     have z0:=bQ4.c0
     have z1:=bQ4.c1
     have z2:=bQ4.c2
     have z3:=bQ4.c3
     obtain⟨f0,f1,f2,f3⟩:=bQ4.frz
     go_simp
     obtain⟨D5,eD5⟩:∃V,set4 D4 (D2.heap.size) 0 (atomV ⟨#[116,114,117,101]⟩)=V:=⟨_,rfl⟩
     have hD5':Below W2.heap.size W2 D5:=by rw[←eD5];exact set4_below hD4' (by omega) 0 _
     have sD5:D4.heap.size≤D5.heap.size:=by rw[←eD5,set4_size];exact Nat.le_refl _
     have bT5:BoxT D5 W.heap.size x:=by rw[←eD5];exact bT4.set4 (by omega) _
     have bQ5:BoxT D5 (D2.heap.size) (atomV ⟨#[116,114,117,101]⟩):=by rw[←eD5];exact set4_box bQ4 _
     have bP5:BoxT D5 (D0.heap.size) x:=by rw[←eD5];exact bP4.set4 (by omega) _
     simp only[set4,atomV,Nat.zero_add] at eD5
     try rw[eD5]
     clear eD5 z0 z1 z2 z3 f0 f1 f2 f3
     refine hK.out _ _ ?_ (fun hHeld=>?_)
     ·exact⟨bT5.c0,bT5.c1,bT5.c2,bT5.c3⟩
     clear hK K hHold
     try simp only[pu]
     refine tk 6 rfl hHeld ?_
     refine wpAnyH_done (by kernel_rfl) ?_ _
     refine NoPanic.normal ?_
     clear hHeld
     go_wp2_with fail
     go_meet
     exact⟨rfl,D0.heap.size,D2.heap.size,rfl,rfl,by omega,by omega,by omega,hD5',bP5,bQ5⟩
   ·have hHold:=hHeld
    clear hHeld
    go_simp
    obtain⟨D2,eD2,hD2,sD2,bQ2⟩:∃V,D1.alloc (.cells #[.int .i64 0,.int .i64 0,.string ⟨#[]⟩,.slice none 0 0] 34)=V∧Below D1.heap.size D1 V∧D1.heap.size+1≤V.heap.size∧BoxT V D1.heap.size noTerm:=⟨_,rfl,(Below.refl _ _).alloc (Nat.le_refl _) _,by simp,BoxT.new D1 noTerm⟩
    try rw[eD2]
    clear eD2
    have bT2:=bT1.below hD2 (by omega)
    have hD2':Below W2.heap.size W2 D2:=hD1'.trans (hD2.mono (by omega))
    have bP2:=bP1.below hD2 (by omega)
    refine hK.out _ _ ?_ (fun hHeld=>?_)
    ·exact⟨bT2.c0,bT2.c1,bT2.c2,bT2.c3⟩
    clear hK K hHold
    try simp only[pu]
    refine rd 1 rfl fun K hK=>?_
    ·have hHold:=hHeld
     clear hHeld
     go_simp
     refine(ha _).mono ?_
     rintro e D3 ⟨rfl,hD3⟩
     have sD3:=hD3.size
     have bT3:=bT2.below hD3 (by omega)
     have hD3':Below W2.heap.size W2 D3:=hD2'.trans (hD3.mono (by omega))
     have bP3:=bP2.below hD3 (by omega)
     have bQ3:=bQ2.below hD3 (by omega)
     go_wp2_with fail
     refine hK.out _ _ ?_ (fun hHeld=>?_)
     ·exact⟨bT3.c0,bT3.c1,bT3.c2,bT3.c3⟩
     clear hK K hHold
     try simp only[pu]
     refine rd 4 rfl fun K hK=>?_
     have hHold:=hHeld
     clear hHeld
     have z0:=bP3.c0
     have z1:=bP3.c1
     have z2:=bP3.c2
     have z3:=bP3.c3
     obtain⟨f0,f1,f2,f3⟩:=bP3.frz
     go_simp
     obtain⟨D4,eD4⟩:∃V,set4 D3 (D0.heap.size) 0 x=V:=⟨_,rfl⟩
     have hD4':Below W2.heap.size W2 D4:=by rw[←eD4];exact set4_below hD3' (by omega) 0 _
     have sD4:D3.heap.size≤D4.heap.size:=by rw[←eD4,set4_size];exact Nat.le_refl _
     have bT4:BoxT D4 W.heap.size x:=by rw[←eD4];exact bT3.set4 (by omega) _
     have bP4:BoxT D4 (D0.heap.size) x:=by rw[←eD4];exact set4_box bP3 _
     have bQ4:BoxT D4 (D1.heap.size) noTerm:=by rw[←eD4];exact bQ3.set4 (by omega) _
     simp only[set4,Nat.zero_add] at eD4
     try rw[eD4]
     clear eD4 z0 z1 z2 z3 f0 f1 f2 f3
     refine hK.out _ _ ?_ (fun hHeld=>?_)
     ·exact⟨bT4.c0,bT4.c1,bT4.c2,bT4.c3⟩
     clear hK K hHold
     try simp only[pu]
     refine rd 5 rfl fun K hK=>?_
     have hHold:=hHeld
     clear hHeld
     have z0:=bQ4.c0
     have z1:=bQ4.c1
     have z2:=bQ4.c2
     have z3:=bQ4.c3
     obtain⟨f0,f1,f2,f3⟩:=bQ4.frz
     go_simp
     obtain⟨D5,eD5⟩:∃V,set4 D4 (D1.heap.size) 0 (atomV ⟨#[116,114,117,101]⟩)=V:=⟨_,rfl⟩
     have hD5':Below W2.heap.size W2 D5:=by rw[←eD5];exact set4_below hD4' (by omega) 0 _
     have sD5:D4.heap.size≤D5.heap.size:=by rw[←eD5,set4_size];exact Nat.le_refl _
     have bT5:BoxT D5 W.heap.size x:=by rw[←eD5];exact bT4.set4 (by omega) _
     have bQ5:BoxT D5 (D1.heap.size) (atomV ⟨#[116,114,117,101]⟩):=by rw[←eD5];exact set4_box bQ4 _
     have bP5:BoxT D5 (D0.heap.size) x:=by rw[←eD5];exact bP4.set4 (by omega) _
     simp only[set4,atomV,Nat.zero_add] at eD5
     try rw[eD5]
     clear eD5 z0 z1 z2 z3 f0 f1 f2 f3
     refine hK.out _ _ ?_ (fun hHeld=>?_)
     ·exact⟨bT5.c0,bT5.c1,bT5.c2,bT5.c3⟩
     clear hK K hHold
     try simp only[pu]
     refine tk 6 rfl hHeld ?_
     refine wpAnyH_done (by kernel_rfl) ?_ _
     refine NoPanic.normal ?_
     clear hHeld
     go_wp2_with fail
     go_meet
     exact⟨rfl,D0.heap.size,D1.heap.size,rfl,rfl,by omega,by omega,by omega,hD5',bP5,bQ5⟩
  ·have hHold:=hHeld
   clear hHeld
   go_simp
   obtain⟨D1,eD1,hD1,sD1,bQ1⟩:∃V,D0.alloc (.cells #[.int .i64 0,.int .i64 0,.string ⟨#[]⟩,.slice none 0 0] 34)=V∧Below D0.heap.size D0 V∧D0.heap.size+1≤V.heap.size∧BoxT V D0.heap.size noTerm:=⟨_,rfl,(Below.refl _ _).alloc (Nat.le_refl _) _,by simp,BoxT.new D0 noTerm⟩
   try rw[eD1]
   clear eD1
   have bT1:=bT0.below hD1 (by omega)
   have hD1':Below W2.heap.size W2 D1:=hD0.trans (hD1.mono (by omega))
   refine hK.out _ _ ?_ (fun hHeld=>?_)
   ·exact⟨bT1.c0,bT1.c1,bT1.c2,bT1.c3⟩
   clear hK K hHold
   try simp only[pu]
   refine wpAnyH_ready (rs:=[1,2]) (by kernel_rfl) (by simp) ?_
   refine AllReadyH.cons (o:={dst:=some 9,op:=Op.call {callee:=Callee.value (Operand.func 72),args:=#[Operand.const (Value.string {data:=#[116,114,117,101]})],argTypes:=#[9]},type:=34,pos:= "base.go:53",after:=#[],guard:=none}) rfl (fun K hK=>?_) (AllReadyH.cons (o:={dst:=some 4,op:=Op.alloc 34,type:=0,pos:= "base.go:53",after:=#[],guard:=none}) rfl (fun K hK=>?_) AllReadyH.nil)
   ·have hHold:=hHeld
    clear hHeld
    go_simp
    refine(ha _).mono ?_
    rintro e D2 ⟨rfl,hD2⟩
    have sD2:=hD2.size
    have bT2:=bT1.below hD2 (by omega)
    have hD2':Below W2.heap.size W2 D2:=hD1'.trans (hD2.mono (by omega))
    have bQ2:=bQ1.below hD2 (by omega)
    go_wp2_with fail
    refine hK.out _ _ ?_ (fun hHeld=>?_)
    ·exact⟨bT2.c0,bT2.c1,bT2.c2,bT2.c3⟩
    clear hK K hHold
    try simp only[pu]
    refine rd 2 rfl fun K hK=>?_
    ·have hHold:=hHeld
     clear hHeld
     go_simp
     obtain⟨D3,eD3,hD3,sD3,bP3⟩:∃V,D2.alloc (.cells #[.int .i64 0,.int .i64 0,.string ⟨#[]⟩,.slice none 0 0] 34)=V∧Below D2.heap.size D2 V∧D2.heap.size+1≤V.heap.size∧BoxT V D2.heap.size noTerm:=⟨_,rfl,(Below.refl _ _).alloc (Nat.le_refl _) _,by simp,BoxT.new D2 noTerm⟩
     try rw[eD3]
     clear eD3
     have bT3:=bT2.below hD3 (by omega)
     have hD3':Below W2.heap.size W2 D3:=hD2'.trans (hD3.mono (by omega))
     have bQ3:=bQ2.below hD3 (by omega)
     refine hK.out _ _ ?_ (fun hHeld=>?_)
     ·exact⟨bT3.c0,bT3.c1,bT3.c2,bT3.c3⟩
     clear hK K hHold
     try simp only[pu]
     refine rd 4 rfl fun K hK=>?_
     have hHold:=hHeld
     clear hHeld
     have z0:=bP3.c0
     have z1:=bP3.c1
     have z2:=bP3.c2
     have z3:=bP3.c3
     obtain⟨f0,f1,f2,f3⟩:=bP3.frz
     go_simp
     obtain⟨D4,eD4⟩:∃V,set4 D3 (D2.heap.size) 0 x=V:=⟨_,rfl⟩
     have hD4':Below W2.heap.size W2 D4:=by rw[←eD4];exact set4_below hD3' (by omega) 0 _
     have sD4:D3.heap.size≤D4.heap.size:=by rw[←eD4,set4_size];exact Nat.le_refl _
     have bT4:BoxT D4 W.heap.size x:=by rw[←eD4];exact bT3.set4 (by omega) _
     have bP4:BoxT D4 (D2.heap.size) x:=by rw[←eD4];exact set4_box bP3 _
     have bQ4:BoxT D4 (D0.heap.size) noTerm:=by rw[←eD4];exact bQ3.set4 (by omega) _
     simp only[set4,Nat.zero_add] at eD4
     try rw[eD4]
     clear eD4 z0 z1 z2 z3 f0 f1 f2 f3
     refine hK.out _ _ ?_ (fun hHeld=>?_)
     ·exact⟨bT4.c0,bT4.c1,bT4.c2,bT4.c3⟩
     clear hK K hHold
     try simp only[pu]
     refine rd 5 rfl fun K hK=>?_
     have hHold:=hHeld
     clear hHeld
     have z0:=bQ4.c0
     have z1:=bQ4.c1
     have z2:=bQ4.c2
     have z3:=bQ4.c3
     obtain⟨f0,f1,f2,f3⟩:=bQ4.frz
     go_simp
     obtain⟨D5,eD5⟩:∃V,set4 D4 (D0.heap.size) 0 (atomV ⟨#[116,114,117,101]⟩)=V:=⟨_,rfl⟩
     have hD5':Below W2.heap.size W2 D5:=by rw[←eD5];exact set4_below hD4' (by omega) 0 _
     have sD5:D4.heap.size≤D5.heap.size:=by rw[←eD5,set4_size];exact Nat.le_refl _
     have bT5:BoxT D5 W.heap.size x:=by rw[←eD5];exact bT4.set4 (by omega) _
     have bQ5:BoxT D5 (D0.heap.size) (atomV ⟨#[116,114,117,101]⟩):=by rw[←eD5];exact set4_box bQ4 _
     have bP5:BoxT D5 (D2.heap.size) x:=by rw[←eD5];exact bP4.set4 (by omega) _
     simp only[set4,atomV,Nat.zero_add] at eD5
     try rw[eD5]
     clear eD5 z0 z1 z2 z3 f0 f1 f2 f3
     refine hK.out _ _ ?_ (fun hHeld=>?_)
     ·exact⟨bT5.c0,bT5.c1,bT5.c2,bT5.c3⟩
     clear hK K hHold
     try simp only[pu]
     refine tk 6 rfl hHeld ?_
     refine wpAnyH_done (by kernel_rfl) ?_ _
     refine NoPanic.normal ?_
     clear hHeld
     go_wp2_with fail
     go_meet
     exact⟨rfl,D2.heap.size,D0.heap.size,rfl,rfl,by omega,by omega,by omega,hD5',bP5,bQ5⟩
   ·have hHold:=hHeld
    clear hHeld
    go_simp
    obtain⟨D2,eD2,hD2,sD2,bP2⟩:∃V,D1.alloc (.cells #[.int .i64 0,.int .i64 0,.string ⟨#[]⟩,.slice none 0 0] 34)=V∧Below D1.heap.size D1 V∧D1.heap.size+1≤V.heap.size∧BoxT V D1.heap.size noTerm:=⟨_,rfl,(Below.refl _ _).alloc (Nat.le_refl _) _,by simp,BoxT.new D1 noTerm⟩
    try rw[eD2]
    clear eD2
    have bT2:=bT1.below hD2 (by omega)
    have hD2':Below W2.heap.size W2 D2:=hD1'.trans (hD2.mono (by omega))
    have bQ2:=bQ1.below hD2 (by omega)
    refine hK.out _ _ ?_ (fun hHeld=>?_)
    ·exact⟨bT2.c0,bT2.c1,bT2.c2,bT2.c3⟩
    clear hK K hHold
    try simp only[pu]
    refine rd 1 rfl fun K hK=>?_
    ·have hHold:=hHeld
     clear hHeld
     go_simp
     refine(ha _).mono ?_
     rintro e D3 ⟨rfl,hD3⟩
     have sD3:=hD3.size
     have bT3:=bT2.below hD3 (by omega)
     have hD3':Below W2.heap.size W2 D3:=hD2'.trans (hD3.mono (by omega))
     have bP3:=bP2.below hD3 (by omega)
     have bQ3:=bQ2.below hD3 (by omega)
     go_wp2_with fail
     refine hK.out _ _ ?_ (fun hHeld=>?_)
     ·exact⟨bT3.c0,bT3.c1,bT3.c2,bT3.c3⟩
     clear hK K hHold
     try simp only[pu]
     refine rd 4 rfl fun K hK=>?_
     have hHold:=hHeld
     clear hHeld
     have z0:=bP3.c0
     have z1:=bP3.c1
     have z2:=bP3.c2
     have z3:=bP3.c3
     obtain⟨f0,f1,f2,f3⟩:=bP3.frz
     go_simp
     obtain⟨D4,eD4⟩:∃V,set4 D3 (D1.heap.size) 0 x=V:=⟨_,rfl⟩
     have hD4':Below W2.heap.size W2 D4:=by rw[←eD4];exact set4_below hD3' (by omega) 0 _
     have sD4:D3.heap.size≤D4.heap.size:=by rw[←eD4,set4_size];exact Nat.le_refl _
     have bT4:BoxT D4 W.heap.size x:=by rw[←eD4];exact bT3.set4 (by omega) _
     have bP4:BoxT D4 (D1.heap.size) x:=by rw[←eD4];exact set4_box bP3 _
     have bQ4:BoxT D4 (D0.heap.size) noTerm:=by rw[←eD4];exact bQ3.set4 (by omega) _
     simp only[set4,Nat.zero_add] at eD4
     try rw[eD4]
     clear eD4 z0 z1 z2 z3 f0 f1 f2 f3
     refine hK.out _ _ ?_ (fun hHeld=>?_)
     ·exact⟨bT4.c0,bT4.c1,bT4.c2,bT4.c3⟩
     clear hK K hHold
     try simp only[pu]
     refine rd 5 rfl fun K hK=>?_
     have hHold:=hHeld
     clear hHeld
     have z0:=bQ4.c0
     have z1:=bQ4.c1
     have z2:=bQ4.c2
     have z3:=bQ4.c3
     obtain⟨f0,f1,f2,f3⟩:=bQ4.frz
     go_simp
     obtain⟨D5,eD5⟩:∃V,set4 D4 (D0.heap.size) 0 (atomV ⟨#[116,114,117,101]⟩)=V:=⟨_,rfl⟩
     have hD5':Below W2.heap.size W2 D5:=by rw[←eD5];exact set4_below hD4' (by omega) 0 _
     have sD5:D4.heap.size≤D5.heap.size:=by rw[←eD5,set4_size];exact Nat.le_refl _
     have bT5:BoxT D5 W.heap.size x:=by rw[←eD5];exact bT4.set4 (by omega) _
     have bQ5:BoxT D5 (D0.heap.size) (atomV ⟨#[116,114,117,101]⟩):=by rw[←eD5];exact set4_box bQ4 _
     have bP5:BoxT D5 (D1.heap.size) x:=by rw[←eD5];exact bP4.set4 (by omega) _
     simp only[set4,atomV,Nat.zero_add] at eD5
     try rw[eD5]
     clear eD5 z0 z1 z2 z3 f0 f1 f2 f3
     refine hK.out _ _ ?_ (fun hHeld=>?_)
     ·exact⟨bT5.c0,bT5.c1,bT5.c2,bT5.c3⟩
     clear hK K hHold
     try simp only[pu]
     refine tk 6 rfl hHeld ?_
     refine wpAnyH_done (by kernel_rfl) ?_ _
     refine NoPanic.normal ?_
     clear hHeld
     go_wp2_with fail
     go_meet
     exact⟨rfl,D1.heap.size,D0.heap.size,rfl,rfl,by omega,by omega,by omega,hD5',bP5,bQ5⟩
 case rest=>
  obtain⟨rfl,p,q,rfl,rfl,hpq,hp,hq,gc,bP,bQ⟩:=hcut
  have sc:=gc.size
  have bTc:=bT.below gc hlt
  have bC:=bC2.below gc bC2.lt
  have x0:=bTc.c0
  have x1:=bTc.c1
  have x2:=bTc.c2
  have x3:=bTc.c3
  clear ha bT bC2
  go_wp2_with fail
  refine(i1 _).mono ?_
  rintro e V ⟨rfl,gV⟩
  have sV0:=gV.size
  clear i1 x0 x1 x2 x3 bTc
  replace bP:=bP.below gV bP.lt
  replace bQ:=bQ.below gV bQ.lt
  replace bC:=bC.below gV bC.lt
  have hBV:Below W.heap.size W V:=(hb2.trans (gc.mono (by omega))).trans (gV.mono (by omega))
  have sV:W.heap.size+2≤V.heap.size:=by omega
  have hp2:W.heap.size+2≤p:=by omega
  have hq2:W.heap.size+2≤q:=by omega
  rw[HX.out] at bP
  rw[←HXB.out] at bQ
  have HTH:Hid (IsT V.heap.size V th):=(IsT.below hBV HT0.out).mono hBV.size
  have HTB:Hid (IsT V.heap.size V tb):=HTB0.out V
  clear gc gV hb2 hs2 hlt hp hq sc sV0 HXB HT0 HTB0
  have x0:=bP.c0
  have x1:=bP.c1
  have x2:=bP.c2
  have x3:=bP.c3
  by_cases k1:th.tv.k=1
  ·have HRJ:Hid (makeJ (headBad th.tv) (code th) (some (code tb))=none):=by
    show makeJ (headBad th.tv) _ _=none
    rw[show headBad th.tv=true by simp[headBad,k1]]
    rfl
   rw[k1] at x0
   clear k1 HRS HTH HTB
   obtain⟨⟨z0,z1,z2,z3⟩,z4,z5,z6,z7⟩:=bC.cs
   obtain⟨f0,f1,f2,f3,f4,f5,f6,f7⟩:=bC.fs
   simp only[noTerm] at z0 z1 z2 z3 z4 z5 z6 z7
   have HF:Hid (Below W.heap.size W (set8 V (W.heap.size+1) noTerm noTerm)):=set8_below hBV (by omega) noTerm noTerm
   clear bC
   go_wp2_with fail
   refine bodyPost_ret (v:=.tuple #[clV noTerm noTerm,.bool false]) (by simp[results,Tryz.results45,go_sem,clV,noTerm,z0,z1,z2,z3,z4,z5,z6,z7]) rfl ⟨?_,HF.out⟩
   rw[HX.out,HRJ.out]
   exact⟨noTerm,noTerm,rfl,rfl,rfl⟩
  ·have k1':(th.tv.k == 1)=false:=by simp[k1]
   by_cases k2:th.tv.k=2
   ·have HRJ:Hid (makeJ (headBad th.tv) (code th) (some (code tb))=none):=by
     show makeJ (headBad th.tv) _ _=none
     rw[show headBad th.tv=true by simp[headBad,k2]]
     rfl
    rw[k2] at x0
    clear k1 k2 k1' HRS HTH HTB
    obtain⟨⟨z0,z1,z2,z3⟩,z4,z5,z6,z7⟩:=bC.cs
    obtain⟨f0,f1,f2,f3,f4,f5,f6,f7⟩:=bC.fs
    simp only[noTerm] at z0 z1 z2 z3 z4 z5 z6 z7
    have HF:Hid (Below W.heap.size W (set8 V (W.heap.size+1) noTerm noTerm)):=set8_below hBV (by omega) noTerm noTerm
    clear bC
    go_wp2_with fail
    refine bodyPost_ret (v:=.tuple #[clV noTerm noTerm,.bool false]) (by simp[results,Tryz.results45,go_sem,clV,noTerm,z0,z1,z2,z3,z4,z5,z6,z7]) rfl ⟨?_,HF.out⟩
    rw[HX.out,HRJ.out]
    exact⟨noTerm,noTerm,rfl,rfl,rfl⟩
   ·have k2':(th.tv.k == 2)=false:=by simp[k2]
    have hres:=HRS.out V hBV
    have HRB:Hid (headBad th.tv=resB th.tv.s.toList th.tv.len):=by show headBad _=_;simp[headBad,k1,k2]
    clear k1 k2
    cases hrb:resB th.tv.s.toList th.tv.len with
    | true=>
     have HRJ:Hid (makeJ (headBad th.tv) (code th) (some (code tb))=none):=by
      show makeJ (headBad th.tv) _ _=_
      rw[HRB.out,hrb]
      rfl
     rw[hrb] at hres
     clear hrb HRB
     go_wp2_with fail
     refine hres.mono ?_
     rintro e V5 ⟨rfl,g5⟩
     clear hres x0 x1 x2 x3 k1' k2'
     have s5:=g5.size
     replace bP:=bP.below g5 bP.lt
     replace bQ:=bQ.below g5 bQ.lt
     replace bC:=bC.below g5 bC.lt
     replace hBV:Below W.heap.size W V5:=hBV.trans (g5.mono (by omega))
     have sV5:W.heap.size+2≤V5.heap.size:=by omega
     replace HTH:Hid (IsT V5.heap.size V5 th):=(IsT.below g5 HTH.out).mono g5.size
     replace HTB:Hid (IsT V5.heap.size V5 tb):=(IsT.below g5 HTB.out).mono g5.size
     clear sV s5 g5 HRS
     obtain⟨⟨z0,z1,z2,z3⟩,z4,z5,z6,z7⟩:=bC.cs
     obtain⟨f0,f1,f2,f3,f4,f5,f6,f7⟩:=bC.fs
     simp only[noTerm] at z0 z1 z2 z3 z4 z5 z6 z7
     have HF:Hid (Below W.heap.size W (set8 V5 (W.heap.size+1) noTerm noTerm)):=set8_below hBV (by omega) noTerm noTerm
     clear bC
     go_wp2_with fail
     refine bodyPost_ret (v:=.tuple #[clV noTerm noTerm,.bool false]) (by simp[results,Tryz.results45,go_sem,clV,noTerm,z0,z1,z2,z3,z4,z5,z6,z7]) rfl ⟨?_,HF.out⟩
     rw[HX.out,HRJ.out]
     exact⟨noTerm,noTerm,rfl,rfl,rfl⟩
    | false=>
     have HRJ:Hid (makeJ (headBad th.tv) (code th) (some (code tb))=some (clRen (code th) (code tb) (code th),clRen (code th) (code tb) (code tb))):=by
      show makeJ (headBad th.tv) _ _=_
      rw[HRB.out,hrb]
      rfl
     rw[hrb] at hres
     clear hrb HRB
     go_wp2_with fail
     refine hres.mono ?_
     rintro e V5 ⟨rfl,g5⟩
     clear hres x0 x1 x2 x3 k1' k2'
     have s5:=g5.size
     replace bP:=bP.below g5 bP.lt
     replace bQ:=bQ.below g5 bQ.lt
     replace bC:=bC.below g5 bC.lt
     replace hBV:Below W.heap.size W V5:=hBV.trans (g5.mono (by omega))
     have sV5:W.heap.size+2≤V5.heap.size:=by omega
     replace HTH:Hid (IsT V5.heap.size V5 th):=(IsT.below g5 HTH.out).mono g5.size
     replace HTB:Hid (IsT V5.heap.size V5 tb):=(IsT.below g5 HTB.out).mono g5.size
     clear sV s5 g5 HRS
     have x0:=bP.c0
     have x1:=bP.c1
     have x2:=bP.c2
     have x3:=bP.c3
     have y0:=bQ.c0
     have y1:=bQ.c1
     have y2:=bQ.c2
     have y3:=bQ.c3
     obtain⟨V1,e1,g1,s1,blk⟩:∃V1,V5.alloc (.cells #[.int .i64 th.tv.k,.int .i64 th.tv.N,.string th.tv.s,.slice th.tv.a th.tv.len th.tv.cap,.int .i64 tb.tv.k,.int .i64 tb.tv.N,.string tb.tv.s,.slice tb.tv.a tb.tv.len tb.tv.cap] 34)=V1∧Below V5.heap.size V5 V1∧V5.heap.size+1≤V1.heap.size∧V1.heap[V5.heap.size]?=some (.cells #[.int .i64 th.tv.k,.int .i64 th.tv.N,.string th.tv.s,.slice th.tv.a th.tv.len th.tv.cap,.int .i64 tb.tv.k,.int .i64 tb.tv.N,.string tb.tv.s,.slice tb.tv.a tb.tv.len tb.tv.cap] 34 (0,0)):=⟨_,rfl,(Below.refl _ _).alloc (Nat.le_refl _) _,by simp,World.alloc_heap_new _ _⟩
     have hTH1:IsT V1.heap.size V1 th:=(IsT.below g1 HTH.out).mono g1.size
     have hTB1:IsT V1.heap.size V1 tb:=(IsT.below g1 HTB.out).mono g1.size
     have hvars:=rVars_two th tb V5.heap.size 2 V1 hTH1 hTB1 (by omega) (by refine⟨?_,?_,?_,?_⟩ <;> simp[World.cell?,blk]) (by refine⟨?_,?_,?_,?_⟩ <;> simp[World.cell?,blk]) HOH.out HOB.out hcl
     have HT1:=hide hTH1
     have HB1:=hide hTB1
     clear blk hTH1 hTB1
     go_wp2_with fail
     try rw[e1]
     refine hvars.mono ?_
     rintro e V2 ⟨v,rfl,g2,hown⟩
     clear hvars e1 x0 x1 x2 x3 y0 y1 y2 y3
     have s2:=g2.size
     obtain⟨va,vc,rfl,hN⟩:=hown.isN (by have h:=clVars_len (code th) (code tb);unfold clVars at h;omega)
     clear hown
     have bP2:=(bP.below g1 (by have:=bP.lt;omega)).below g2 (by have:=bP.lt;omega)
     have bQ2:=(bQ.below g1 (by have:=bQ.lt;omega)).below g2 (by have:=bQ.lt;omega)
     have bC2:=(bC.below g1 (by omega)).below g2 (by omega)
     have hB2:Below W.heap.size W V2:=(hBV.trans (g1.mono (by omega))).trans (g2.mono (by omega))
     have hTH2:IsT V2.heap.size V2 th:=(IsT.below g2 (unhide HT1)).mono g2.size
     have hTB2:IsT V2.heap.size V2 tb:=(IsT.below g2 (unhide HB1)).mono g2.size
     have HM:Hid (varsC (varsC [] (code th)) (code tb)=clVars (code th) (code tb)):=rfl
     rw[HM.out] at hN⊢
     generalize hms:clVars (code th) (code tb)=ms at hN⊢
     have HMS:=hide hms
     clear hms HM
     have hlms:ms.length≤4194304:=by rw[←unhide HMS];exact Nat.le_trans (clVars_len _ _) hcl
     have HSW:Hid (∀(X:World),Below V2.heap.size V2 X→Calls Tryz.prog 76 #[th.tv.val,.slice va ms.length vc,.int .i64 0] X fun e W'=> ∃x:TV,e=.returned x.val∧Below X.heap.size X W'∧HoldsS (a+1) (Mix 0 X.heap.size) W' x.val ((code th).flatMap (subN (renN 0 ms)))):=fun X hX=>rswap_any ms va ms.length vc 0 (by omega) (by omega) a th X (hN.below hX) ((hTH2.below hX).mono hX.size) HOH.out (by rw[←unhide HMS];exact clVars_mem_h)
     have HSB:Hid (∀(X:World),Below V2.heap.size V2 X→Calls Tryz.prog 76 #[tb.tv.val,.slice va ms.length vc,.int .i64 0] X fun e W'=> ∃x:TV,e=.returned x.val∧Below X.heap.size X W'∧HoldsS (1+1) (Mix 0 X.heap.size) W' x.val ((code tb).flatMap (subN (renN 0 ms)))):=fun X hX=>rswap_any ms va ms.length vc 0 (by omega) (by omega) 1 tb X (hN.below hX) ((hTB2.below hX).mono hX.size) HOB.out (by rw[←unhide HMS];exact clVars_mem_b)
     simp only[TV.val] at HSW HSB
     have HC2:=hide bC2
     clear hTH2 hTB2 hN bC2 HT1 HB1 bP bQ bC g1 g2 hlms
     go_upto_region 8 with fail
     refine wp_region_noPanic ?_
     refine wp_region_held_drew (S:=(fun w'=>(w'.cell? ⟨p,0,none⟩=some (.int .i64 th.tv.k)∧w'.cell? ⟨p,1,none⟩=some (.int .i64 th.tv.N)∧w'.cell? ⟨p,2,none⟩=some (.string th.tv.s)∧w'.cell? ⟨p,3,none⟩=some (.slice th.tv.a th.tv.len th.tv.cap))∧w'.cell? ⟨q,0,none⟩=some (.int .i64 tb.tv.k)∧w'.cell? ⟨q,1,none⟩=some (.int .i64 tb.tv.N)∧w'.cell? ⟨q,2,none⟩=some (.string tb.tv.s)∧w'.cell? ⟨q,3,none⟩=some (.slice tb.tv.a tb.tv.len tb.tv.cap))) (by kernel_rfl) ?_ (fun hHeld=>?_)
     ·exact⟨⟨bP2.c0,bP2.c1,bP2.c2,bP2.c3⟩,bQ2.c0,bQ2.c1,bQ2.c2,bQ2.c3⟩
     refine tk 0 rfl hHeld ?_
     refine tk 1 rfl hHeld ?_
     refine tk 3 rfl hHeld ?_
     refine tk 4 rfl hHeld ?_
     refine rd 2 rfl fun K hK=>?_
     have hHold:=hHeld
     clear hHeld
     go_simp
     refine(HSW.out _ ((Below.refl _ V2).drew)).mono ?_
     rintro e X3 ⟨x',rfl,k3,hx'⟩
     have g3:Below V2.heap.size V2 X3:=(Below.refl _ V2).drew.trans k3
     have s3:=g3.size
     have bPX3:=bP2.below g3 bP2.lt
     have bQX3:=bQ2.below g3 bQ2.lt
     go_wp2_with fail
     refine hK.out _ _ ?_ (fun hHeld=>?_)
     ·exact⟨⟨bPX3.c0,bPX3.c1,bPX3.c2,bPX3.c3⟩,bQX3.c0,bQX3.c1,bQX3.c2,bQX3.c3⟩
     clear hK K hHold
     try simp only[pu]
     refine rd 5 rfl fun K hK=>?_
     have hHold:=hHeld
     clear hHeld
     go_simp
     refine(HSB.out _ g3).mono ?_
     rintro e X4 ⟨y',rfl,k4,hy'⟩
     have s4:=k4.size
     have bPX4:=bPX3.below k4 bPX3.lt
     have bQX4:=bQX3.below k4 bQX3.lt
     have bC4:BoxC X4 (W.heap.size+1) noTerm noTerm:=((unhide HC2).below g3 (unhide HC2).lt).below k4 (by have:=(unhide HC2).lt;omega)
     obtain⟨⟨z0,z1,z2,z3⟩,z4,z5,z6,z7⟩:=bC4.cs
     obtain⟨f0,f1,f2,f3,f4,f5,f6,f7⟩:=bC4.fs
     simp only[noTerm] at z0 z1 z2 z3 z4 z5 z6 z7
     go_wp2_with fail
     refine hK.out _ _ ?_ (fun hHeld=>?_)
     ·exact⟨⟨bPX4.c0,bPX4.c1,bPX4.c2,bPX4.c3⟩,bQX4.c0,bQX4.c1,bQX4.c2,bQX4.c3⟩
     clear hK K hHold
     try simp only[pu]
     refine tk 6 rfl hHeld ?_
     refine rd 7 rfl fun K hK=>?_
     have hHold:=hHeld
     clear hHeld
     go_simp
     have hset:∀(b' i:Nat),b'≠W.heap.size+1→(set8 X4 (W.heap.size+1) x' y').cell? ⟨b',i,none⟩=X4.cell? ⟨b',i,none⟩:=fun b' i hb'=>World.cell?_of_block (w:=X4) ((set4_other _ _ 4 y' hb').trans (set4_other _ _ 0 x' hb'))
     have hset':=hset
     simp only[set8,set4,Nat.zero_add] at hset'
     refine hK.out _ _ ?_ (fun hHeld=>?_)
     ·exact⟨⟨(hset' p 0 (by omega)).trans bPX4.c0,(hset' p 1 (by omega)).trans bPX4.c1,(hset' p 2 (by omega)).trans bPX4.c2,(hset' p 3 (by omega)).trans bPX4.c3⟩,(hset' q 0 (by omega)).trans bQX4.c0,(hset' q 1 (by omega)).trans bQX4.c1,(hset' q 2 (by omega)).trans bQX4.c2,(hset' q 3 (by omega)).trans bQX4.c3⟩
     clear hK K hHold hset hset'
     try simp only[pu]
     refine tk 8 rfl hHeld ?_
     refine wpAnyH_done (by kernel_rfl) ?_ _
     refine NoPanic.normal ?_
     clear hHeld
     have HF:Hid (Below W.heap.size W (set8 X4 (W.heap.size+1) x' y')∧HoldsS (a+2) (Mix 0 W.heap.size) (set8 X4 (W.heap.size+1) x' y') x'.val (clRen (code th) (code tb) (code th))∧HoldsS (a+2) (Mix 0 W.heap.size) (set8 X4 (W.heap.size+1) x' y') y'.val (clRen (code th) (code tb) (code tb))):=by
      unfold clRen
      rw[unhide HMS]
      refine⟨set8_below ((hB2.trans (g3.mono (by omega))).trans (k4.mono (by omega))) (by omega) x' y',?_,?_⟩
      ·exact mix_mono (mix_set8 (hx'.below k4) (Nat.zero_le _) (by simp;omega) x' y') (by omega) (by simp;omega)
      ·exact mix_mono (mix_set8 hy' (Nat.zero_le _) (by omega) x' y') (by omega) (by omega)
     clear hx' hy' bP2 bQ2 bPX3 bQX3 bPX4 bQX4 bC4 g3 k3 k4
     go_wp2_with fail
     refine bodyPost_ret (v:=.tuple #[clV x' y',.bool true]) (by simp[results,Tryz.results45,go_sem,clV,z0,z1,z2,z3,z4,z5,z6,z7]) rfl ⟨?_,HF.out.1⟩
     rw[HX.out,HRJ.out]
     exact⟨x',y',rfl,HF.out.2⟩
end Go.Proofs.YteaiefjmcinljaaGreatDoor
