import Derived.Test.YtjbdkbaacjfecaaDoorGsE
import Derived.Test.YtjbdkbaacjfecaaDoorGsD
import Derived.Test.YtjbdkbaacjfecaaDoorBaC
namespace Go.Proofs.YtjbdkbaacjfecaaDoor
set_option maxHeartbeats 8000000
set_option maxRecDepth 100000
open Go.RowKit Go.Shelf Go.Maps
theorem btw_boxes(W:World)(x xs xr:TV):∃W4 sb rb zb,(((W.alloc (.cells #[.int .i64 x.k,.int .i64 x.N,.string x.s,.slice x.a x.len x.cap] 24)).alloc (.cells #[.int .i64 xs.k,.int .i64 xs.N,.string xs.s,.slice xs.a xs.len xs.cap] 24)).alloc (.cells #[.int .i64 xr.k,.int .i64 xr.N,.string xr.s,.slice xr.a xr.len xr.cap] 24)).alloc (.cells #[.int .i64 0,.int .i64 0,.string ⟨#[]⟩,.slice none 0 0] 24)=W4∧W.heap.size+1=sb∧sb+1=rb∧rb+1=zb∧BwS W x xs xr sb rb zb W4:=by
 have b1:=(((BoxT.new W x).alloc (.cells #[.int .i64 xs.k,.int .i64 xs.N,.string xs.s,.slice xs.a xs.len xs.cap] 24)).alloc (.cells #[.int .i64 xr.k,.int .i64 xr.N,.string xr.s,.slice xr.a xr.len xr.cap] 24)).alloc (.cells #[.int .i64 0,.int .i64 0,.string ⟨#[]⟩,.slice none 0 0] 24);have b2:=((BoxT.new (W.alloc (.cells #[.int .i64 x.k,.int .i64 x.N,.string x.s,.slice x.a x.len x.cap] 24)) xs).alloc (.cells #[.int .i64 xr.k,.int .i64 xr.N,.string xr.s,.slice xr.a xr.len xr.cap] 24)).alloc (.cells #[.int .i64 0,.int .i64 0,.string ⟨#[]⟩,.slice none 0 0] 24);have b3:=(BoxT.new ((W.alloc (.cells #[.int .i64 x.k,.int .i64 x.N,.string x.s,.slice x.a x.len x.cap] 24)).alloc (.cells #[.int .i64 xs.k,.int .i64 xs.N,.string xs.s,.slice xs.a xs.len xs.cap] 24)) xr).alloc (.cells #[.int .i64 0,.int .i64 0,.string ⟨#[]⟩,.slice none 0 0] 24);have b4:=BoxT.new (((W.alloc (.cells #[.int .i64 x.k,.int .i64 x.N,.string x.s,.slice x.a x.len x.cap] 24)).alloc (.cells #[.int .i64 xs.k,.int .i64 xs.N,.string xs.s,.slice xs.a xs.len xs.cap] 24)).alloc (.cells #[.int .i64 xr.k,.int .i64 xr.N,.string xr.s,.slice xr.a xr.len xr.cap] 24)) noTerm;have g4:=((((Below.refl W.heap.size W).alloc (Nat.le_refl _) (.cells #[.int .i64 x.k,.int .i64 x.N,.string x.s,.slice x.a x.len x.cap] 24)).alloc (by simp) (.cells #[.int .i64 xs.k,.int .i64 xs.N,.string xs.s,.slice xs.a xs.len xs.cap] 24)).alloc (by simp;omega) (.cells #[.int .i64 xr.k,.int .i64 xr.N,.string xr.s,.slice xr.a xr.len xr.cap] 24)).alloc (by simp;omega) (.cells #[.int .i64 0,.int .i64 0,.string ⟨#[]⟩,.slice none 0 0] 24);simp only[World.size_alloc] at b2 b3 b4;refine⟨_,_,_,_,rfl,rfl,rfl,rfl,g4,by simp;omega,⟨b1.c3,b2.c0,b2.c1,b2.c2,b2.c3,b3.c0,b3.c1,b3.c2,b3.c3⟩,fun X vm ES hX hrow=>?_⟩;have hs:=hX.size;simp only[World.size_alloc] at hX hrow hs;exact⟨g4.trans (hX.mono (by omega)),by omega,b1.below hX (by omega),b2.below hX (by omega),b3.below hX (by omega),BoxT.below (x:=noTerm) b4 hX (by omega),hrow⟩
theorem BwI.slice{W V:World}{tb sb rb zb:Nat}{x xs xr:TV}{vm:Value}{L:List TV}(h:BwI W tb sb rb zb x xs xr vm (L++[xs,xr]) V):∃g cap q,vm=.slice (some ⟨g,0,none⟩) q cap∧L.length+2=q∧zb+1≤g∧g<V.heap.size∧q≤cap∧cap≤maxLen:=by
 have h':=h.row;unfold StkT at h';rw[show(L++[xs,xr]).map trow=(L.map trow++[trow xs])++[trow xr] by simp] at h';obtain⟨g,cap,cur,h1,h2,h3,h4,h5,_⟩:=StkW.slice h';refine⟨g,cap,_,h1,by simp,h2,h3,h4,h5⟩
theorem BwI.but{W V:World}{sb rb zb:Nat}{x xs xr:TV}{vm:Value}{ES:List TV}(h:BwI W W.heap.size sb rb zb x xs xr vm ES V):∀U:World,(∀k,k<V.heap.size→k≠zb→U.heap[k]?=V.heap[k]?)→U.cell? ⟨W.heap.size,0,none⟩=some (.int .i64 x.k)∧U.cell? ⟨W.heap.size,1,none⟩=some (.int .i64 x.N)∧U.cell? ⟨W.heap.size,2,none⟩=some (.string x.s)∧U.cell? ⟨W.heap.size,3,none⟩=some (.slice x.a x.len x.cap)∧U.cell? ⟨sb,0,none⟩=some (.int .i64 xs.k)∧U.cell? ⟨sb,1,none⟩=some (.int .i64 xs.N)∧U.cell? ⟨sb,2,none⟩=some (.string xs.s)∧U.cell? ⟨sb,3,none⟩=some (.slice xs.a xs.len xs.cap)∧U.cell? ⟨rb,0,none⟩=some (.int .i64 xr.k)∧U.cell? ⟨rb,1,none⟩=some (.int .i64 xr.N)∧U.cell? ⟨rb,2,none⟩=some (.string xr.s)∧U.cell? ⟨rb,3,none⟩=some (.slice xr.a xr.len xr.cap):=fun U hU=>by
 have s:=h.o;have e1:∀j,U.cell? ⟨W.heap.size,j,none⟩=V.cell? ⟨W.heap.size,j,none⟩:=fun j=>World.cell?_of_block (hU W.heap.size (by omega) (by omega));have e2:∀j,U.cell? ⟨sb,j,none⟩=V.cell? ⟨sb,j,none⟩:=fun j=>World.cell?_of_block (hU sb (by omega) (by omega));have e3:∀j,U.cell? ⟨rb,j,none⟩=V.cell? ⟨rb,j,none⟩:=fun j=>World.cell?_of_block (hU rb (by omega) (by omega));obtain⟨c0,c1,c2,c3,c4,c5,c6,c7,c8,c9,c10,c11⟩:=h.cells;exact⟨(e1 _).trans c0,(e1 _).trans c1,(e1 _).trans c2,(e1 _).trans c3,(e2 _).trans c4,(e2 _).trans c5,(e2 _).trans c6,(e2 _).trans c7,(e3 _).trans c8,(e3 _).trans c9,(e3 _).trans c10,(e3 _).trans c11⟩
theorem BwI.holds{W V:World}{tb sb rb zb D ns:Nat}{x xs xr:TV}{vm:Value}{ES:List TV}{v:Value}{c:List Nd}(h:BwI W tb sb rb zb x xs xr vm ES V)(hv:HoldsS D (· <ns) W v c):HoldsS D (Mix ns (zb+1)) V v c:=(hv.below h.g).mono (Nat.le_refl _) (fun _ hk=>.inl hk)
theorem BwI.term{W V:World}{tb sb rb zb ns n:Nat}{x xs xr:TV}{vm:Value}{ES:List TV}{t:Tm n}(h:BwI W tb sb rb zb x xs xr vm ES V)(hT:IsT ns W t)(hns:ns≤W.heap.size):HoldsS n (Mix ns (zb+1)) V t.tv.val (code t):=(mix_of hT hns (zb+1)).below h.g
theorem row_holds{S:Nat→Prop}{V:World}{D n g cap q B:Nat}{y z:TV}{kids:List (Tm n)}{cy cz:List Nd}{nm:ByteArray}(h:StkT B V (.slice (some ⟨g,0,none⟩) q cap) (kids.map Tm.tv++[y,z]))(hq:kids.length+2=q)(hg:S g∧g<V.heap.size∧q≤cap∧cap≤maxLen)(hnm:nm.size≤9223372036854775807)
  (hk:∀u∈kids,HoldsS D S V u.tv.val (code u)) (hy:HoldsS D S V y.val cy) (hz:HoldsS D S V z.val cz):
  HoldsS (D+1) S V (compV nm (some ⟨g,0,none⟩) q cap).val ((4,0,nm.toList,q)::(kids.flatMap code++(cy++cz))):=by
 have hlen:(kids.map Tm.tv++[y,z]).length=q:=by simp;omega
 have:=comp_S (S:=S) (D:=D) (g:=g) (cap:=cap) (W:=V) (s:=nm) (xs:=kids.map Tm.tv++[y,z]) (cs:=kids.map code++[cy,cz]) hnm (by rw[hlen];have:=hg.2.2.2;unfold maxLen at this;omega) (by simp) hg.2.1 hg.1 (by rw[hlen];exact hg.2.2.1) (fun j x c hx hc=>by
  refine⟨StkT.at h hlen.symm hx,?_⟩
  by_cases hj:j<kids.length
  ·rw[List.getElem?_append_left (by simpa using hj)] at hx
   rw[List.getElem?_append_left (by simpa using hj)] at hc;have hkj:kids[j]?=some kids[j]:=List.getElem?_eq_getElem hj;rw[List.getElem?_map,hkj] at hx hc;simp only[Option.map_some,Option.some.injEq] at hx hc;subst hx hc;exact hk _ (List.getElem_mem hj)
  ·rw[List.getElem?_append_right (by simp;omega)] at hx hc
   simp only[List.length_map] at hx hc
   match j-kids.length,hx,hc with
   | 0,hx,hc=>
    simp at hx hc;subst hx hc;exact hy
   | 1,hx,hc=>
    simp at hx hc;subst hx hc;exact hz
   | k+2,hx,hc=>
    simp at hx)
 rw[hlen] at this;simpa[List.flatMap,List.flatten_append] using this
theorem more_holds{W V:World}{sb rb zb D ns n g cap q:Nat}{x xs xr:TV}{kids:List (Tm n)}{s r:List Nd}{nm:ByteArray}(h:BwI W W.heap.size sb rb zb x xs xr (.slice (some ⟨g,0,none⟩) q cap) (kids.map Tm.tv++[xs,xr]) V)(hq:kids.length+2=q)(hnm:nm.size≤9223372036854775807)
  (hT:IsT (n:=n+1) ns W ((x,kids):TV×List (Tm n))) (hns:ns≤W.heap.size) (hs:HoldsS D (· <ns) W xs.val s) (hr:HoldsS D (· <ns) W xr.val r):
  HoldsS (D+n+1) (Mix ns (zb+1)) V (compV nm (some ⟨g,0,none⟩) q cap).val ((4,0,nm.toList,q)::(kids.flatMap code++(s++r))):=by
 have hg:zb+1≤g∧g<V.heap.size∧q≤cap∧cap≤maxLen:=by
  obtain⟨g',cap',q',e,_,hh⟩:=h.slice;simp only[Value.slice.injEq,Option.some.injEq,Addr.mk.injEq,and_true] at e;obtain⟨rfl,rfl,rfl⟩:=e;exact hh
 refine row_holds h.row hq ⟨.inr hg.1,hg.2⟩ hnm (fun u hu=>?_) ((h.holds hs).mono (by omega) (fun _ h=>h)) ((h.holds hr).mono (by omega) (fun _ h=>h))
 rcases hT.2.2.2 with h4 | ⟨Bk,off,_,_,hcs⟩
 ·have:kids=[]:=h4
  subst this;cases hu
 ·obtain⟨j,hj⟩:=List.mem_iff_getElem?.1 hu
  exact(h.term (hcs j u hj).2 hns).mono (by omega) (fun _ h=>h)
theorem var_holds{W V:World}{sb rb zb D ns n b1:Nat}{x xs xr:TV}{vm:Value}{ES:List TV}{kids:List (Tm n)}{s r:List Nd}(h:BwI W W.heap.size sb rb zb x xs xr vm ES V)(nb:zb+1≤b1∧V.heap[b1]?=some (.cells #[.int .i64 x.k,.int .i64 x.N,.string x.s,.slice x.a x.len x.cap,.int .i64 xs.k,.int .i64 xs.N,.string xs.s,.slice xs.a xs.len xs.cap,.int .i64 xr.k,.int .i64 xr.N,.string xr.s,.slice xr.a xr.len xr.cap] 24 (0,0)))
  (hT:IsT (n:=n+1) ns W ((x,kids):TV×List (Tm n))) (hns:ns≤W.heap.size) (hs:HoldsS D (· <ns) W xs.val s) (hr:HoldsS D (· <ns) W xr.val r):HoldsS (D+n+2) (Mix ns (zb+1)) V (compV ⟨#[99,97,108,108]⟩ (some ⟨b1,0,none⟩) 3 3).val ((4,0,callL,3)::(code (n:=n+1) ((x,kids):TV×List (Tm n))++(s++r))):=by
 have:=comp_S (S:=Mix ns (zb+1)) (D:=D+n+1) (g:=b1) (cap:=3) (W:=V) (s:=⟨#[99,97,108,108]⟩) (xs:=[x,xs,xr]) (cs:=[code (n:=n+1) ((x,kids):TV×List (Tm n)),s,r]) (by decide) (by simp) rfl (Array.getElem?_eq_some_iff.1 nb.2).1 (.inr nb.1) (by simp) (fun j q c hq hc=>by
  match j,hq,hc with
  | 0,hq,hc=>
   simp at hq hc;subst hq hc;exact⟨⟨cell_of nb.2 rfl,cell_of nb.2 rfl,cell_of nb.2 rfl,cell_of nb.2 rfl⟩,(h.term hT hns).mono (by omega) (fun _ h=>h)⟩
  | 1,hq,hc=>
   simp at hq hc;subst hq hc;exact⟨⟨cell_of nb.2 rfl,cell_of nb.2 rfl,cell_of nb.2 rfl,cell_of nb.2 rfl⟩,(h.holds hs).mono (by omega) (fun _ h=>h)⟩
  | 2,hq,hc=>
   simp at hq hc;subst hq hc;exact⟨⟨cell_of nb.2 rfl,cell_of nb.2 rfl,cell_of nb.2 rfl,cell_of nb.2 rfl⟩,(h.holds hr).mono (by omega) (fun _ h=>h)⟩
  | j+3,hq,hc=>simp at hq)
 rw[callL_eq] at this;simpa using this
theorem btw_var{n D ns:Nat}{x xs xr:TV}{kids:List (Tm n)}{s r:List Nd}{f:Int}{W:World}(hT:IsT (n:=n+1) ns W ((x,kids):TV×List (Tm n)))(hns:ns≤W.heap.size)(hl:kids.length≤1099511627776)(hs:HoldsS D (· <ns) W xs.val s)(hr:HoldsS D (· <ns) W xr.val r)
  (k1:(x.k == 1)=true):
  Calls Tryd.prog 24 #[x.val,xs.val,xr.val,.int .i64 f] W fun e U=> ∃(y:TV) (m:Int),e=.returned (.tuple #[y.val,.int .i64 m,.int .i64 0])∧Below W.heap.size W U∧BtwP (D+n+2) ns 0 0 ((4,0,callL,3)::(code (n:=n+1) ((x,kids):TV×List (Tm n))++(s++r))) W.heap.size y m U:=by
 obtain⟨W4,sb,rb,zb,hW4,h2,h3,h4,hS⟩:=btw_boxes W x xs xr;have H2:=hide (And.intro h2 (And.intro h3 h4));clear h2 h3 h4;simp only[TV.val];go_enter Tryd.func24,Tryd.ntmps24
 go_wp2_with fail
 try rw[hW4]
 rw[(uh H2).1,(uh H2).2.1,(uh H2).2.2];clear hW4 H2;refine wp_btw1 hT hns hl hS ?_;intro X vm u19 u20 u21 u22 u23 u24 u25 HI;clear hS;obtain⟨Y,hY⟩:∃Y,X.alloc (.cells #[.int .i64 x.k,.int .i64 x.N,.string x.s,.slice x.a x.len x.cap,.int .i64 xs.k,.int .i64 xs.N,.string xs.s,.slice xs.a xs.len xs.cap,.int .i64 xr.k,.int .i64 xr.N,.string xr.s,.slice xr.a xr.len xr.cap] 24)=Y:=⟨_,rfl⟩;obtain⟨b1,hb1⟩:∃b,X.heap.size=b:=⟨_,rfl⟩;have g:Below X.heap.size X Y:=by rw[←hY];exact(Below.refl _ X).alloc (Nat.le_refl _) _
 have nb1:zb+1≤b1∧Y.heap[b1]?=some (.cells #[.int .i64 x.k,.int .i64 x.N,.string x.s,.slice x.a x.len x.cap,.int .i64 xs.k,.int .i64 xs.N,.string xs.s,.slice xs.a xs.len xs.cap,.int .i64 xr.k,.int .i64 xr.N,.string xr.s,.slice xr.a xr.len xr.cap] 24 (0,0)):=⟨by have:=HI.o.2.2.2.2;omega,by rw[←hY,←hb1];exact World.alloc_heap_new _ _⟩;obtain⟨c0,c1,c2,c3,d0,d1,d2,d3,e0,e1,e2,e3⟩:=HI.cells;go_wp2_with fail
 try rw[hb1]
 try rw[hY]
 refine(rcompound_any ⟨#[99,97,108,108]⟩ (some ⟨b1,0,none⟩) 3 3 Y).mono ?_;rintro e X2 ⟨rfl,h⟩;replace HI:=(HI.below g).below h;have k1':=keep_blk nb1 h;have hh:=var_holds HI k1' hT hns hs hr;clear h g hY c0 c1 c2 c3 d0 d1 d2 d3 e0 e1 e2 e3 nb1 k1';simp only[TV.val,compV];obtain⟨⟨f0,f1,f2,f3⟩,p0,p1,p2,p3⟩:=HI.zero;obtain⟨lF,bF,hF⟩:=HI.fin (compV ⟨#[99,97,108,108]⟩ (some ⟨b1,0,none⟩) 3 3);have HF:=hide (And.intro lF (hF hns hh));have z0:=bF.c0;have z1:=bF.c1;have z2:=bF.c2;have z3:=bF.c3;clear lF bF hF;go_wp2_with fail
 exact bodyPost_ret (v:=.tuple #[(compV ⟨#[99,97,108,108]⟩ (some ⟨b1,0,none⟩) 3 3).val,.int .i64 0,.int .i64 0]) (by
  have e:(((X2.setCell ⟨zb,0,none⟩ (.int .i64 4)).setCell ⟨zb,1,none⟩ (.int .i64 0)).setCell ⟨zb,2,none⟩ (.string ⟨#[99,97,108,108]⟩)).setCell ⟨zb,3,none⟩ (.slice (some ⟨b1,0,none⟩) 3 3)=set4 X2 zb 0 (compV ⟨#[99,97,108,108]⟩ (some ⟨b1,0,none⟩) 3 3):=rfl;rw[e];simp[results,Tryd.results24,go_sem,TV.val,z0,z1,z2,z3]) rfl ⟨(compV ⟨#[99,97,108,108]⟩ (some ⟨b1,0,none⟩) 3 3),_,rfl,(uh HF).1,Int.le_refl _,Int.le_refl _,fun _=>⟨rfl,(uh HF).2⟩⟩
theorem btw_int{n D ns:Nat}{x xs xr:TV}{kids:List (Tm n)}{s:List Nd}{f:Int}{W:World}(hT:IsT (n:=n+1) ns W ((x,kids):TV×List (Tm n)))(hns:ns≤W.heap.size)(hl:kids.length≤1099511627776)
  (k1:(x.k == 1)=false) (k2:(x.k == 2)=true):
  Calls Tryd.prog 24 #[x.val,xs.val,xr.val,.int .i64 f] W fun e U=> ∃(y:TV) (m:Int),e=.returned (.tuple #[y.val,.int .i64 m,.int .i64 14])∧Below W.heap.size W U∧BtwP D ns 0 14 s W.heap.size y m U:=by
 obtain⟨W4,sb,rb,zb,hW4,h2,h3,h4,hS⟩:=btw_boxes W x xs xr;have H2:=hide (And.intro h2 (And.intro h3 h4));clear h2 h3 h4;simp only[TV.val];go_enter Tryd.func24,Tryd.ntmps24
 go_wp2_with fail
 try rw[hW4]
 rw[(uh H2).1,(uh H2).2.1,(uh H2).2.2];clear hW4 H2;refine wp_btw1 hT hns hl hS ?_;intro X vm u19 u20 u21 u22 u23 u24 u25 HI;clear hS;obtain⟨c0,c1,c2,c3,-⟩:=HI.cells;obtain⟨⟨f0,f1,f2,f3⟩,p0,p1,p2,p3⟩:=HI.zero;obtain⟨lF,bF,hF⟩:=HI.fin x;have HF:=hide lF;have z0:=bF.c0;have z1:=bF.c1;have z2:=bF.c2;have z3:=bF.c3;clear lF bF hF;go_wp2_with fail
 exact bodyPost_ret (v:=.tuple #[x.val,.int .i64 0,.int .i64 14]) (by
  have e:(((X.setCell ⟨zb,0,none⟩ (.int .i64 x.k)).setCell ⟨zb,1,none⟩ (.int .i64 x.N)).setCell ⟨zb,2,none⟩ (.string x.s)).setCell ⟨zb,3,none⟩ (.slice x.a x.len x.cap)=set4 X zb 0 x:=rfl;rw[e];simp[results,Tryd.results24,go_sem,TV.val,z0,z1,z2,z3]) rfl ⟨x,_,rfl,uh HF,Int.le_refl _,Int.le_refl _,fun e=>absurd e (by decide)⟩
set_option maxHeartbeats 8000000
set_option maxRecDepth 100000
theorem btw_nil{n D ns:Nat}{x xs xr:TV}{kids:List (Tm n)}{s r:List Nd}{f:Int}{W:World}(hT:IsT (n:=n+1) ns W ((x,kids):TV×List (Tm n)))(hns:ns≤W.heap.size)(hl:kids.length≤1099511627776)(hs:HoldsS D (· <ns) W xs.val s)(hr:HoldsS D (· <ns) W xr.val r)
  (k1:(x.k == 1)=false) (k2:(x.k == 2)=false) (q1:isB x [44] 2=false) (q2:isB x [45,62] 2=false) (q3:isB x [59] 2=false) (q4:isB x [92,43] 1=false) (q5:isB x [91,93] 0=true):
  Calls Tryd.prog 24 #[x.val,xs.val,xr.val,.int .i64 f] W fun e U=> ∃(y:TV) (m:Int),e=.returned (.tuple #[y.val,.int .i64 m,.int .i64 0])∧Below W.heap.size W U∧BtwP (D+1) ns 0 0 (eqC s r) W.heap.size y m U:=by
 obtain⟨W4,sb,rb,zb,hW4,h2,h3,h4,hS⟩:=btw_boxes W x xs xr;have H2:=hide (And.intro h2 (And.intro h3 h4));clear h2 h3 h4;simp only[TV.val];go_enter Tryd.func24,Tryd.ntmps24
 go_wp2_with fail
 try rw[hW4]
 rw[(uh H2).1,(uh H2).2.1,(uh H2).2.2];clear hW4 H2;refine wp_btw1 hT hns hl hS ?_;intro X vm u19 u20 u21 u22 u23 u24 u25 HI;clear hS;obtain⟨c0,c1,c2,c3,-⟩:=HI.cells;go_wp2_with fail
 refine(HI.is q1 l44).mono ?_;clear HI c0 c1 c2 c3;rintro e X ⟨rfl,HI,c0,c1,c2,c3⟩;go_wp2_with fail
 refine(HI.is q2 lar).mono ?_;clear HI c0 c1 c2 c3;rintro e X ⟨rfl,HI,c0,c1,c2,c3⟩;go_wp2_with fail
 refine(HI.is q3 lse).mono ?_;clear HI c0 c1 c2 c3;rintro e X ⟨rfl,HI,c0,c1,c2,c3⟩;go_wp2_with fail
 refine(HI.is q4 lno).mono ?_;clear HI c0 c1 c2 c3;rintro e X ⟨rfl,HI,c0,c1,c2,c3⟩;go_wp2_with fail
 refine(HI.is q5 lni).mono ?_;clear HI c0 c1 c2 c3;rintro e X ⟨rfl,HI,-⟩;obtain⟨Y,hY⟩:∃Y,X.alloc (.cells #[.int .i64 xs.k,.int .i64 xs.N,.string xs.s,.slice xs.a xs.len xs.cap,.int .i64 xr.k,.int .i64 xr.N,.string xr.s,.slice xr.a xr.len xr.cap] 24)=Y:=⟨_,rfl⟩;obtain⟨b2,hb2⟩:∃b,X.heap.size=b:=⟨_,rfl⟩;have g:Below X.heap.size X Y:=by rw[←hY];exact(Below.refl _ X).alloc (Nat.le_refl _) _
 have nb2:zb+1≤b2∧Y.heap[b2]?=some (.cells #[.int .i64 xs.k,.int .i64 xs.N,.string xs.s,.slice xs.a xs.len xs.cap,.int .i64 xr.k,.int .i64 xr.N,.string xr.s,.slice xr.a xr.len xr.cap] 24 (0,0)):=⟨by have:=HI.o.2.2.2.2;omega,by rw[←hY,←hb2];exact World.alloc_heap_new _ _⟩;obtain⟨c0,c1,c2,c3,d0,d1,d2,d3,e0,e1,e2,e3⟩:=HI.cells;go_wp2_with fail
 try rw[hb2]
 try rw[hY]
 refine(rcompound_any ⟨#[61]⟩ (some ⟨b2,0,none⟩) 2 2 Y).mono ?_;rintro e X2 ⟨rfl,h⟩;replace HI:=(HI.below g).below h;have hh:=eq_holds (HI.holds hs) (HI.holds hr) (keep_blk nb2 h);clear h g hY c0 c1 c2 c3 d0 d1 d2 d3 e0 e1 e2 e3 nb2;simp only[TV.val,compV];obtain⟨⟨f0,f1,f2,f3⟩,p0,p1,p2,p3⟩:=HI.zero;obtain⟨lF,bF,hF⟩:=HI.fin (compV ⟨#[61]⟩ (some ⟨b2,0,none⟩) 2 2);have HF:=hide (And.intro lF (hF hns hh));have z0:=bF.c0;have z1:=bF.c1;have z2:=bF.c2;have z3:=bF.c3;clear lF bF hF;go_wp2_with fail
 exact bodyPost_ret (v:=.tuple #[(compV ⟨#[61]⟩ (some ⟨b2,0,none⟩) 2 2).val,.int .i64 0,.int .i64 0]) (by
  have e:(((X2.setCell ⟨zb,0,none⟩ (.int .i64 4)).setCell ⟨zb,1,none⟩ (.int .i64 0)).setCell ⟨zb,2,none⟩ (.string ⟨#[61]⟩)).setCell ⟨zb,3,none⟩ (.slice (some ⟨b2,0,none⟩) 2 2)=set4 X2 zb 0 (compV ⟨#[61]⟩ (some ⟨b2,0,none⟩) 2 2):=rfl;rw[e];simp[results,Tryd.results24,go_sem,TV.val,z0,z1,z2,z3]) rfl ⟨(compV ⟨#[61]⟩ (some ⟨b2,0,none⟩) 2 2),_,rfl,(uh HF).1,Int.le_refl _,Int.le_refl _,fun _=>⟨rfl,(uh HF).2⟩⟩
theorem btw_curl{n D ns:Nat}{x xs xr:TV}{kids:List (Tm n)}{s r:List Nd}{f:Int}{W:World}(hT:IsT (n:=n+1) ns W ((x,kids):TV×List (Tm n)))(hns:ns≤W.heap.size)(hl:kids.length≤1099511627776)(hs:HoldsS D (· <ns) W xs.val s)(hr:HoldsS D (· <ns) W xr.val r)
  (k1:(x.k == 1)=false) (k2:(x.k == 2)=false) (q1:isB x [44] 2=false) (q2:isB x [45,62] 2=false) (q3:isB x [59] 2=false) (q4:isB x [92,43] 1=false) (q5:isB x [91,93] 0=false) (q6:isB x [123,125] 0=true):
  Calls Tryd.prog 24 #[x.val,xs.val,xr.val,.int .i64 f] W fun e U=> ∃(y:TV) (m:Int),e=.returned (.tuple #[y.val,.int .i64 m,.int .i64 0])∧Below W.heap.size W U∧BtwP (D+1) ns 0 0 (eqC s r) W.heap.size y m U:=by
 obtain⟨W4,sb,rb,zb,hW4,h2,h3,h4,hS⟩:=btw_boxes W x xs xr;have H2:=hide (And.intro h2 (And.intro h3 h4));clear h2 h3 h4;simp only[TV.val];go_enter Tryd.func24,Tryd.ntmps24
 go_wp2_with fail
 try rw[hW4]
 rw[(uh H2).1,(uh H2).2.1,(uh H2).2.2];clear hW4 H2;refine wp_btw1 hT hns hl hS ?_;intro X vm u19 u20 u21 u22 u23 u24 u25 HI;clear hS;obtain⟨c0,c1,c2,c3,-⟩:=HI.cells;go_wp2_with fail
 refine(HI.is q1 l44).mono ?_;clear HI c0 c1 c2 c3;rintro e X ⟨rfl,HI,c0,c1,c2,c3⟩;go_wp2_with fail
 refine(HI.is q2 lar).mono ?_;clear HI c0 c1 c2 c3;rintro e X ⟨rfl,HI,c0,c1,c2,c3⟩;go_wp2_with fail
 refine(HI.is q3 lse).mono ?_;clear HI c0 c1 c2 c3;rintro e X ⟨rfl,HI,c0,c1,c2,c3⟩;go_wp2_with fail
 refine(HI.is q4 lno).mono ?_;clear HI c0 c1 c2 c3;rintro e X ⟨rfl,HI,c0,c1,c2,c3⟩;go_wp2_with fail
 refine(HI.is q5 lni).mono ?_;clear HI c0 c1 c2 c3;rintro e X ⟨rfl,HI,c0,c1,c2,c3⟩;go_wp2_with fail
 refine(HI.is q6 lcu).mono ?_;clear HI c0 c1 c2 c3;rintro e X ⟨rfl,HI,-⟩;obtain⟨Y,hY⟩:∃Y,X.alloc (.cells #[.int .i64 xs.k,.int .i64 xs.N,.string xs.s,.slice xs.a xs.len xs.cap,.int .i64 xr.k,.int .i64 xr.N,.string xr.s,.slice xr.a xr.len xr.cap] 24)=Y:=⟨_,rfl⟩;obtain⟨b2,hb2⟩:∃b,X.heap.size=b:=⟨_,rfl⟩;have g:Below X.heap.size X Y:=by rw[←hY];exact(Below.refl _ X).alloc (Nat.le_refl _) _
 have nb2:zb+1≤b2∧Y.heap[b2]?=some (.cells #[.int .i64 xs.k,.int .i64 xs.N,.string xs.s,.slice xs.a xs.len xs.cap,.int .i64 xr.k,.int .i64 xr.N,.string xr.s,.slice xr.a xr.len xr.cap] 24 (0,0)):=⟨by have:=HI.o.2.2.2.2;omega,by rw[←hY,←hb2];exact World.alloc_heap_new _ _⟩;obtain⟨c0,c1,c2,c3,d0,d1,d2,d3,e0,e1,e2,e3⟩:=HI.cells;go_wp2_with fail
 try rw[hb2]
 try rw[hY]
 refine(rcompound_any ⟨#[61]⟩ (some ⟨b2,0,none⟩) 2 2 Y).mono ?_;rintro e X2 ⟨rfl,h⟩;replace HI:=(HI.below g).below h;have hh:=eq_holds (HI.holds hs) (HI.holds hr) (keep_blk nb2 h);clear h g hY c0 c1 c2 c3 d0 d1 d2 d3 e0 e1 e2 e3 nb2;simp only[TV.val,compV];obtain⟨⟨f0,f1,f2,f3⟩,p0,p1,p2,p3⟩:=HI.zero;obtain⟨lF,bF,hF⟩:=HI.fin (compV ⟨#[61]⟩ (some ⟨b2,0,none⟩) 2 2);have HF:=hide (And.intro lF (hF hns hh));have z0:=bF.c0;have z1:=bF.c1;have z2:=bF.c2;have z3:=bF.c3;clear lF bF hF;go_wp2_with fail
 exact bodyPost_ret (v:=.tuple #[(compV ⟨#[61]⟩ (some ⟨b2,0,none⟩) 2 2).val,.int .i64 0,.int .i64 0]) (by
  have e:(((X2.setCell ⟨zb,0,none⟩ (.int .i64 4)).setCell ⟨zb,1,none⟩ (.int .i64 0)).setCell ⟨zb,2,none⟩ (.string ⟨#[61]⟩)).setCell ⟨zb,3,none⟩ (.slice (some ⟨b2,0,none⟩) 2 2)=set4 X2 zb 0 (compV ⟨#[61]⟩ (some ⟨b2,0,none⟩) 2 2):=rfl;rw[e];simp[results,Tryd.results24,go_sem,TV.val,z0,z1,z2,z3]) rfl ⟨(compV ⟨#[61]⟩ (some ⟨b2,0,none⟩) 2 2),_,rfl,(uh HF).1,Int.le_refl _,Int.le_refl _,fun _=>⟨rfl,(uh HF).2⟩⟩
set_option maxHeartbeats 8000000
set_option maxRecDepth 100000
theorem btw_call{n D ns:Nat}{x xs xr:TV}{kids:List (Tm n)}{s r:List Nd}{f:Int}{W:World}(hc:x.s.toList=[99,97,108,108])(h0:0<x.len)(h8:kids.length+2≤8)(hT:IsT (n:=n+1) ns W ((x,kids):TV×List (Tm n)))(hns:ns≤W.heap.size)(hs:HoldsS D (· <ns) W xs.val s)(hr:HoldsS D (· <ns) W xr.val r)
  (k1:(x.k == 1)=false) (k2:(x.k == 2)=false) (q1:isB x [44] 2=false) (q2:isB x [45,62] 2=false) (q3:isB x [59] 2=false) (q4:isB x [92,43] 1=false) (q5:isB x [91,93] 0=false) (q6:isB x [123,125] 0=false) (q7:isB x [33] 0=false) (q8:isB x [123,125] 1=false) (q9:isB x [46] 2=false):
  Calls Tryd.prog 24 #[x.val,xs.val,xr.val,.int .i64 f] W fun e U=> ∃(y:TV) (m:Int),e=.returned (.tuple #[y.val,.int .i64 m,.int .i64 0])∧Below W.heap.size W U∧BtwP (D+n+1) ns 0 0 ((4,0,callL,(kids.length:Nat)+2)::(kids.flatMap code++(s++r))) W.heap.size y m U:=by
 obtain⟨W4,sb,rb,zb,hW4,h2,h3,h4,hS⟩:=btw_boxes W x xs xr;have H2:=hide (And.intro h2 (And.intro h3 h4));clear h2 h3 h4;simp only[TV.val];go_enter Tryd.func24,Tryd.ntmps24
 go_wp2_with fail
 try rw[hW4]
 rw[(uh H2).1,(uh H2).2.1,(uh H2).2.2];clear hW4 H2;refine wp_btw1 hT hns (by omega) hS ?_;intro X vm u19 u20 u21 u22 u23 u24 u25 HI;clear hS;obtain⟨g,cap,q,rfl,hq,hq2⟩:=HI.slice;rw[show(kids.map Tm.tv).length=kids.length by simp] at hq;have HQ:=hide hq;clear hq hq2;obtain⟨c0,c1,c2,c3,-⟩:=HI.cells;go_wp2_with fail
 refine(HI.is q1 l44).mono ?_;clear HI c0 c1 c2 c3;rintro e X ⟨rfl,HI,c0,c1,c2,c3⟩;go_wp2_with fail
 refine(HI.is q2 lar).mono ?_;clear HI c0 c1 c2 c3;rintro e X ⟨rfl,HI,c0,c1,c2,c3⟩;go_wp2_with fail
 refine(HI.is q3 lse).mono ?_;clear HI c0 c1 c2 c3;rintro e X ⟨rfl,HI,c0,c1,c2,c3⟩;go_wp2_with fail
 refine(HI.is q4 lno).mono ?_;clear HI c0 c1 c2 c3;rintro e X ⟨rfl,HI,c0,c1,c2,c3⟩;go_wp2_with fail
 refine(HI.is q5 lni).mono ?_;clear HI c0 c1 c2 c3;rintro e X ⟨rfl,HI,c0,c1,c2,c3⟩;go_wp2_with fail
 refine(HI.is q6 lcu).mono ?_;clear HI c0 c1 c2 c3;rintro e X ⟨rfl,HI,c0,c1,c2,c3⟩;go_wp2_with fail
 refine(HI.is q7 lbx).mono ?_;clear HI c0 c1 c2 c3;rintro e X ⟨rfl,HI,c0,c1,c2,c3⟩;go_wp2_with fail
 refine(HI.is q8 lcu).mono ?_;clear HI c0 c1 c2 c3;rintro e X ⟨rfl,HI,c0,c1,c2,c3⟩;go_wp2_with fail
 refine(HI.is q9 ldo).mono ?_;clear HI c0 c1 c2 c3;rintro e X ⟨rfl,HI,-⟩;have hb:¬(8:Int)<(q:Int):=by have:=uh HQ;omega
 clear h8;obtain⟨c0,c1,c2,c3,-⟩:=HI.cells;go_wp2_with fail
 refine(rcompound_any ⟨#[99,97,108,108]⟩ (some ⟨g,0,none⟩) q cap X).mono ?_;rintro e X2 ⟨rfl,h⟩;replace HI:=HI.below h;have hh:=more_holds (nm:=⟨#[99,97,108,108]⟩) HI (uh HQ) (by decide) hT hns hs hr;rw[callL_eq] at hh;have hh2:=hide hh;clear h c0 c1 c2 c3 hh;simp only[TV.val,compV];obtain⟨⟨f0,f1,f2,f3⟩,p0,p1,p2,p3⟩:=HI.zero;obtain⟨lF,bF,hF⟩:=HI.fin (compV ⟨#[99,97,108,108]⟩ (some ⟨g,0,none⟩) q cap);have HF:Hid (Below W.heap.size W (set4 X2 zb 0 (compV ⟨#[99,97,108,108]⟩ (some ⟨g,0,none⟩) q cap))∧BtwP (D+n+1) ns 0 0 ((4,0,callL,(kids.length:Nat)+2)::(kids.flatMap code++(s++r))) W.heap.size (compV ⟨#[99,97,108,108]⟩ (some ⟨g,0,none⟩) q cap) 0 (set4 X2 zb 0 (compV ⟨#[99,97,108,108]⟩ (some ⟨g,0,none⟩) q cap))):=hide ⟨lF,Int.le_refl _,Int.le_refl _,fun _=>⟨rfl,hF hns (by rw[uh HQ];exact uh hh2)⟩⟩;have z0:=bF.c0;have z1:=bF.c1;have z2:=bF.c2;have z3:=bF.c3;clear lF bF hF;go_wp2_with fail
 exact bodyPost_ret (v:=.tuple #[(compV ⟨#[99,97,108,108]⟩ (some ⟨g,0,none⟩) q cap).val,.int .i64 0,.int .i64 0]) (by
  have e:(((X2.setCell ⟨zb,0,none⟩ (.int .i64 4)).setCell ⟨zb,1,none⟩ (.int .i64 0)).setCell ⟨zb,2,none⟩ (.string ⟨#[99,97,108,108]⟩)).setCell ⟨zb,3,none⟩ (.slice (some ⟨g,0,none⟩) q cap)=set4 X2 zb 0 (compV ⟨#[99,97,108,108]⟩ (some ⟨g,0,none⟩) q cap):=rfl;rw[e];simp[results,Tryd.results24,go_sem,TV.val,z0,z1,z2,z3]) rfl ⟨(compV ⟨#[99,97,108,108]⟩ (some ⟨g,0,none⟩) q cap),_,rfl,(uh HF).1,(uh HF).2⟩
theorem btw_call_large{n D ns:Nat}{x xs xr:TV}{kids:List (Tm n)}{s:List Nd}{f:Int}{W:World}(hc:x.s.toList=[99,97,108,108])(h0:0<x.len)(h8:8<kids.length+2)(hT:IsT (n:=n+1) ns W ((x,kids):TV×List (Tm n)))(hns:ns≤W.heap.size)(hl:kids.length≤1099511627776)
  (k1:(x.k == 1)=false) (k2:(x.k == 2)=false) (q1:isB x [44] 2=false) (q2:isB x [45,62] 2=false) (q3:isB x [59] 2=false) (q4:isB x [92,43] 1=false) (q5:isB x [91,93] 0=false) (q6:isB x [123,125] 0=false) (q7:isB x [33] 0=false) (q8:isB x [123,125] 1=false) (q9:isB x [46] 2=false):
  Calls Tryd.prog 24 #[x.val,xs.val,xr.val,.int .i64 f] W fun e U=> ∃(y:TV) (m:Int),e=.returned (.tuple #[y.val,.int .i64 m,.int .i64 9])∧Below W.heap.size W U∧BtwP D ns 0 9 s W.heap.size y m U:=by
 obtain⟨W4,sb,rb,zb,hW4,h2,h3,h4,hS⟩:=btw_boxes W x xs xr;have H2:=hide (And.intro h2 (And.intro h3 h4));clear h2 h3 h4;simp only[TV.val];go_enter Tryd.func24,Tryd.ntmps24
 go_wp2_with fail
 try rw[hW4]
 rw[(uh H2).1,(uh H2).2.1,(uh H2).2.2];clear hW4 H2;refine wp_btw1 hT hns hl hS ?_;intro X vm u19 u20 u21 u22 u23 u24 u25 HI;clear hS;obtain⟨g,cap,q,rfl,hq,hq2⟩:=HI.slice;rw[show(kids.map Tm.tv).length=kids.length by simp] at hq;have HQ:=hide hq;clear hq hq2;obtain⟨c0,c1,c2,c3,-⟩:=HI.cells;go_wp2_with fail
 refine(HI.is q1 l44).mono ?_;clear HI c0 c1 c2 c3;rintro e X ⟨rfl,HI,c0,c1,c2,c3⟩;go_wp2_with fail
 refine(HI.is q2 lar).mono ?_;clear HI c0 c1 c2 c3;rintro e X ⟨rfl,HI,c0,c1,c2,c3⟩;go_wp2_with fail
 refine(HI.is q3 lse).mono ?_;clear HI c0 c1 c2 c3;rintro e X ⟨rfl,HI,c0,c1,c2,c3⟩;go_wp2_with fail
 refine(HI.is q4 lno).mono ?_;clear HI c0 c1 c2 c3;rintro e X ⟨rfl,HI,c0,c1,c2,c3⟩;go_wp2_with fail
 refine(HI.is q5 lni).mono ?_;clear HI c0 c1 c2 c3;rintro e X ⟨rfl,HI,c0,c1,c2,c3⟩;go_wp2_with fail
 refine(HI.is q6 lcu).mono ?_;clear HI c0 c1 c2 c3;rintro e X ⟨rfl,HI,c0,c1,c2,c3⟩;go_wp2_with fail
 refine(HI.is q7 lbx).mono ?_;clear HI c0 c1 c2 c3;rintro e X ⟨rfl,HI,c0,c1,c2,c3⟩;go_wp2_with fail
 refine(HI.is q8 lcu).mono ?_;clear HI c0 c1 c2 c3;rintro e X ⟨rfl,HI,c0,c1,c2,c3⟩;go_wp2_with fail
 refine(HI.is q9 ldo).mono ?_;clear HI c0 c1 c2 c3;rintro e X ⟨rfl,HI,-⟩;have hb:(8:Int)<(q:Int):=by have:=uh HQ;omega
 clear h8;obtain⟨c0,c1,c2,c3,-⟩:=HI.cells;obtain⟨⟨f0,f1,f2,f3⟩,p0,p1,p2,p3⟩:=HI.zero;obtain⟨lF,bF,hF⟩:=HI.fin x;have HF:=hide lF;have z0:=bF.c0;have z1:=bF.c1;have z2:=bF.c2;have z3:=bF.c3;clear lF bF hF;go_wp2_with fail
 exact bodyPost_ret (v:=.tuple #[x.val,.int .i64 0,.int .i64 9]) (by
  have e:(((X.setCell ⟨zb,0,none⟩ (.int .i64 x.k)).setCell ⟨zb,1,none⟩ (.int .i64 x.N)).setCell ⟨zb,2,none⟩ (.string x.s)).setCell ⟨zb,3,none⟩ (.slice x.a x.len x.cap)=set4 X zb 0 x:=rfl;rw[e];simp[results,Tryd.results24,go_sem,TV.val,z0,z1,z2,z3]) rfl ⟨x,_,rfl,uh HF,Int.le_refl _,Int.le_refl _,fun e=>absurd e (by decide)⟩
set_option maxHeartbeats 8000000
set_option maxRecDepth 100000
theorem btw_other{n D ns:Nat}{x xs xr:TV}{kids:List (Tm n)}{s r:List Nd}{f:Int}{W:World}(hc:¬x.s.toList=[99,97,108,108])(h50:kids.length+2≤50)(hT:IsT (n:=n+1) ns W ((x,kids):TV×List (Tm n)))(hns:ns≤W.heap.size)(hs:HoldsS D (· <ns) W xs.val s)(hr:HoldsS D (· <ns) W xr.val r){mm:Int}(hm:W.cell? ⟨splitLay_ren.g 1,0,none⟩=some (.int .i64 mm))(hm0:splitLay_ren.g 1<W.heap.size)(hres:resB x.s.toList ((kids.length:Nat)+2)=false)
  (k1:(x.k == 1)=false) (k2:(x.k == 2)=false) (q1:isB x [44] 2=false) (q2:isB x [45,62] 2=false) (q3:isB x [59] 2=false) (q4:isB x [92,43] 1=false) (q5:isB x [91,93] 0=false) (q6:isB x [123,125] 0=false) (q7:isB x [33] 0=false) (q8:isB x [123,125] 1=false) (q9:isB x [46] 2=false):
  Calls Tryd.prog 24 #[x.val,xs.val,xr.val,.int .i64 f] W fun e U=> ∃(y:TV) (m:Int),e=.returned (.tuple #[y.val,.int .i64 m,.int .i64 0])∧Below W.heap.size W U∧BtwP (D+n+1) ns 0 0 ((4,0,x.s.toList,(kids.length:Nat)+2)::(kids.flatMap code++(s++r))) W.heap.size y m U:=by
 obtain⟨W4,sb,rb,zb,hW4,h2,h3,h4,hS⟩:=btw_boxes W x xs xr;have H2:=hide (And.intro h2 (And.intro h3 h4));clear h2 h3 h4;simp only[TV.val];go_enter Tryd.func24,Tryd.ntmps24
 go_wp2_with fail
 try rw[hW4]
 rw[(uh H2).1,(uh H2).2.1,(uh H2).2.2];clear hW4 H2;refine wp_btw1 hT hns (by omega) hS ?_;intro X vm u19 u20 u21 u22 u23 u24 u25 HI;clear hS;obtain⟨g,cap,q,rfl,hq,hq2⟩:=HI.slice;rw[show(kids.map Tm.tv).length=kids.length by simp] at hq;have HQ:=hide hq;clear hq hq2;obtain⟨c0,c1,c2,c3,-⟩:=HI.cells;go_wp2_with fail
 refine(HI.is q1 l44).mono ?_;clear HI c0 c1 c2 c3;rintro e X ⟨rfl,HI,c0,c1,c2,c3⟩;go_wp2_with fail
 refine(HI.is q2 lar).mono ?_;clear HI c0 c1 c2 c3;rintro e X ⟨rfl,HI,c0,c1,c2,c3⟩;go_wp2_with fail
 refine(HI.is q3 lse).mono ?_;clear HI c0 c1 c2 c3;rintro e X ⟨rfl,HI,c0,c1,c2,c3⟩;go_wp2_with fail
 refine(HI.is q4 lno).mono ?_;clear HI c0 c1 c2 c3;rintro e X ⟨rfl,HI,c0,c1,c2,c3⟩;go_wp2_with fail
 refine(HI.is q5 lni).mono ?_;clear HI c0 c1 c2 c3;rintro e X ⟨rfl,HI,c0,c1,c2,c3⟩;go_wp2_with fail
 refine(HI.is q6 lcu).mono ?_;clear HI c0 c1 c2 c3;rintro e X ⟨rfl,HI,c0,c1,c2,c3⟩;go_wp2_with fail
 refine(HI.is q7 lbx).mono ?_;clear HI c0 c1 c2 c3;rintro e X ⟨rfl,HI,c0,c1,c2,c3⟩;go_wp2_with fail
 refine(HI.is q8 lcu).mono ?_;clear HI c0 c1 c2 c3;rintro e X ⟨rfl,HI,c0,c1,c2,c3⟩;go_wp2_with fail
 refine(HI.is q9 ldo).mono ?_;clear HI c0 c1 c2 c3;rintro e X ⟨rfl,HI,-⟩;have hb:¬(50:Int)<(q:Int):=by have:=uh HQ;omega
 clear h50;obtain⟨c0,c1,c2,c3,-⟩:=HI.cells
 have HR:Hid (Calls Tryd.prog 21 #[.string x.s,.int .i64 q] X fun e W'=>e=.returned (.bool false)∧Below X.heap.size X W'):=hide (by
  have:=rres_any x.s (q:Int) mm X ((HI.g.cell hm0).trans hm) (Nat.lt_of_lt_of_le hm0 HI.g.size);rw[show(q:Int)=((kids.length:Nat):Int)+2 by have:=uh HQ;omega,hres] at this;rw[show(q:Int)=((kids.length:Nat):Int)+2 by have:=uh HQ;omega];exact this)
 clear hres;go_wp2_with fail
 refine(uh HR).mono ?_;rintro e X1 ⟨rfl,h⟩;replace HI:=HI.below h;clear h c0 c1 c2 c3 HR;obtain⟨c0,c1,c2,c3,-⟩:=HI.cells;go_wp2_with fail
 refine(rcompound_any x.s (some ⟨g,0,none⟩) q cap X1).mono ?_;rintro e X2 ⟨rfl,h⟩;replace HI:=HI.below h;have hh:=more_holds (nm:=x.s) HI (uh HQ) hT.2.2.1 hT hns hs hr;have hh2:=hide hh;clear h c0 c1 c2 c3 hh;simp only[TV.val,compV];obtain⟨⟨f0,f1,f2,f3⟩,p0,p1,p2,p3⟩:=HI.zero;obtain⟨lF,bF,hF⟩:=HI.fin (compV x.s (some ⟨g,0,none⟩) q cap);have HF:Hid (Below W.heap.size W (set4 X2 zb 0 (compV x.s (some ⟨g,0,none⟩) q cap))∧BtwP (D+n+1) ns 0 0 ((4,0,x.s.toList,(kids.length:Nat)+2)::(kids.flatMap code++(s++r))) W.heap.size (compV x.s (some ⟨g,0,none⟩) q cap) 0 (set4 X2 zb 0 (compV x.s (some ⟨g,0,none⟩) q cap))):=hide ⟨lF,Int.le_refl _,Int.le_refl _,fun _=>⟨rfl,hF hns (by rw[uh HQ];exact uh hh2)⟩⟩;have z0:=bF.c0;have z1:=bF.c1;have z2:=bF.c2;have z3:=bF.c3;clear lF bF hF;go_wp2_with fail
 exact bodyPost_ret (v:=.tuple #[(compV x.s (some ⟨g,0,none⟩) q cap).val,.int .i64 0,.int .i64 0]) (by
  have e:(((X2.setCell ⟨zb,0,none⟩ (.int .i64 4)).setCell ⟨zb,1,none⟩ (.int .i64 0)).setCell ⟨zb,2,none⟩ (.string x.s)).setCell ⟨zb,3,none⟩ (.slice (some ⟨g,0,none⟩) q cap)=set4 X2 zb 0 (compV x.s (some ⟨g,0,none⟩) q cap):=rfl;rw[e];simp[results,Tryd.results24,go_sem,TV.val,z0,z1,z2,z3]) rfl ⟨(compV x.s (some ⟨g,0,none⟩) q cap),_,rfl,(uh HF).1,(uh HF).2⟩
theorem btw_large{n D ns:Nat}{x xs xr:TV}{kids:List (Tm n)}{s:List Nd}{f:Int}{W:World}(hc:¬x.s.toList=[99,97,108,108])(h50:50<kids.length+2)(hT:IsT (n:=n+1) ns W ((x,kids):TV×List (Tm n)))(hns:ns≤W.heap.size)(hl:kids.length≤1099511627776)
  (k1:(x.k == 1)=false) (k2:(x.k == 2)=false) (q1:isB x [44] 2=false) (q2:isB x [45,62] 2=false) (q3:isB x [59] 2=false) (q4:isB x [92,43] 1=false) (q5:isB x [91,93] 0=false) (q6:isB x [123,125] 0=false) (q7:isB x [33] 0=false) (q8:isB x [123,125] 1=false) (q9:isB x [46] 2=false):
  Calls Tryd.prog 24 #[x.val,xs.val,xr.val,.int .i64 f] W fun e U=> ∃(y:TV) (m:Int),e=.returned (.tuple #[y.val,.int .i64 m,.int .i64 9])∧Below W.heap.size W U∧BtwP D ns 0 9 s W.heap.size y m U:=by
 obtain⟨W4,sb,rb,zb,hW4,h2,h3,h4,hS⟩:=btw_boxes W x xs xr;have H2:=hide (And.intro h2 (And.intro h3 h4));clear h2 h3 h4;simp only[TV.val];go_enter Tryd.func24,Tryd.ntmps24
 go_wp2_with fail
 try rw[hW4]
 rw[(uh H2).1,(uh H2).2.1,(uh H2).2.2];clear hW4 H2;refine wp_btw1 hT hns hl hS ?_;intro X vm u19 u20 u21 u22 u23 u24 u25 HI;clear hS;obtain⟨g,cap,q,rfl,hq,hq2⟩:=HI.slice;rw[show(kids.map Tm.tv).length=kids.length by simp] at hq;have HQ:=hide hq;clear hq hq2;obtain⟨c0,c1,c2,c3,-⟩:=HI.cells;go_wp2_with fail
 refine(HI.is q1 l44).mono ?_;clear HI c0 c1 c2 c3;rintro e X ⟨rfl,HI,c0,c1,c2,c3⟩;go_wp2_with fail
 refine(HI.is q2 lar).mono ?_;clear HI c0 c1 c2 c3;rintro e X ⟨rfl,HI,c0,c1,c2,c3⟩;go_wp2_with fail
 refine(HI.is q3 lse).mono ?_;clear HI c0 c1 c2 c3;rintro e X ⟨rfl,HI,c0,c1,c2,c3⟩;go_wp2_with fail
 refine(HI.is q4 lno).mono ?_;clear HI c0 c1 c2 c3;rintro e X ⟨rfl,HI,c0,c1,c2,c3⟩;go_wp2_with fail
 refine(HI.is q5 lni).mono ?_;clear HI c0 c1 c2 c3;rintro e X ⟨rfl,HI,c0,c1,c2,c3⟩;go_wp2_with fail
 refine(HI.is q6 lcu).mono ?_;clear HI c0 c1 c2 c3;rintro e X ⟨rfl,HI,c0,c1,c2,c3⟩;go_wp2_with fail
 refine(HI.is q7 lbx).mono ?_;clear HI c0 c1 c2 c3;rintro e X ⟨rfl,HI,c0,c1,c2,c3⟩;go_wp2_with fail
 refine(HI.is q8 lcu).mono ?_;clear HI c0 c1 c2 c3;rintro e X ⟨rfl,HI,c0,c1,c2,c3⟩;go_wp2_with fail
 refine(HI.is q9 ldo).mono ?_;clear HI c0 c1 c2 c3;rintro e X ⟨rfl,HI,-⟩;have hb:(50:Int)<(q:Int):=by have:=uh HQ;omega
 clear h50;obtain⟨c0,c1,c2,c3,-⟩:=HI.cells;obtain⟨⟨f0,f1,f2,f3⟩,p0,p1,p2,p3⟩:=HI.zero;obtain⟨lF,bF,hF⟩:=HI.fin x;have HF:=hide lF;have z0:=bF.c0;have z1:=bF.c1;have z2:=bF.c2;have z3:=bF.c3;clear lF bF hF;go_wp2_with fail
 exact bodyPost_ret (v:=.tuple #[x.val,.int .i64 0,.int .i64 9]) (by
  have e:(((X.setCell ⟨zb,0,none⟩ (.int .i64 x.k)).setCell ⟨zb,1,none⟩ (.int .i64 x.N)).setCell ⟨zb,2,none⟩ (.string x.s)).setCell ⟨zb,3,none⟩ (.slice x.a x.len x.cap)=set4 X zb 0 x:=rfl;rw[e];simp[results,Tryd.results24,go_sem,TV.val,z0,z1,z2,z3]) rfl ⟨x,_,rfl,uh HF,Int.le_refl _,Int.le_refl _,fun e=>absurd e (by decide)⟩
theorem btw_clause{n D ns:Nat}{x xs xr:TV}{kids:List (Tm n)}{s:List Nd}{f:Int}{W:World}(hc:¬x.s.toList=[99,97,108,108])(h50:kids.length+2≤50)(hT:IsT (n:=n+1) ns W ((x,kids):TV×List (Tm n)))(hns:ns≤W.heap.size){mm:Int}(hm:W.cell? ⟨splitLay_ren.g 1,0,none⟩=some (.int .i64 mm))(hm0:splitLay_ren.g 1<W.heap.size)(hres:resB x.s.toList ((kids.length:Nat)+2)=true)
  (k1:(x.k == 1)=false) (k2:(x.k == 2)=false) (q1:isB x [44] 2=false) (q2:isB x [45,62] 2=false) (q3:isB x [59] 2=false) (q4:isB x [92,43] 1=false) (q5:isB x [91,93] 0=false) (q6:isB x [123,125] 0=false) (q7:isB x [33] 0=false) (q8:isB x [123,125] 1=false) (q9:isB x [46] 2=false):
  Calls Tryd.prog 24 #[x.val,xs.val,xr.val,.int .i64 f] W fun e U=> ∃(y:TV) (m:Int),e=.returned (.tuple #[y.val,.int .i64 m,.int .i64 7])∧Below W.heap.size W U∧BtwP D ns 0 7 s W.heap.size y m U:=by
 obtain⟨W4,sb,rb,zb,hW4,h2,h3,h4,hS⟩:=btw_boxes W x xs xr;have H2:=hide (And.intro h2 (And.intro h3 h4));clear h2 h3 h4;simp only[TV.val];go_enter Tryd.func24,Tryd.ntmps24
 go_wp2_with fail
 try rw[hW4]
 rw[(uh H2).1,(uh H2).2.1,(uh H2).2.2];clear hW4 H2;refine wp_btw1 hT hns (by omega) hS ?_;intro X vm u19 u20 u21 u22 u23 u24 u25 HI;clear hS;obtain⟨g,cap,q,rfl,hq,hq2⟩:=HI.slice;rw[show(kids.map Tm.tv).length=kids.length by simp] at hq;have HQ:=hide hq;clear hq hq2;obtain⟨c0,c1,c2,c3,-⟩:=HI.cells;go_wp2_with fail
 refine(HI.is q1 l44).mono ?_;clear HI c0 c1 c2 c3;rintro e X ⟨rfl,HI,c0,c1,c2,c3⟩;go_wp2_with fail
 refine(HI.is q2 lar).mono ?_;clear HI c0 c1 c2 c3;rintro e X ⟨rfl,HI,c0,c1,c2,c3⟩;go_wp2_with fail
 refine(HI.is q3 lse).mono ?_;clear HI c0 c1 c2 c3;rintro e X ⟨rfl,HI,c0,c1,c2,c3⟩;go_wp2_with fail
 refine(HI.is q4 lno).mono ?_;clear HI c0 c1 c2 c3;rintro e X ⟨rfl,HI,c0,c1,c2,c3⟩;go_wp2_with fail
 refine(HI.is q5 lni).mono ?_;clear HI c0 c1 c2 c3;rintro e X ⟨rfl,HI,c0,c1,c2,c3⟩;go_wp2_with fail
 refine(HI.is q6 lcu).mono ?_;clear HI c0 c1 c2 c3;rintro e X ⟨rfl,HI,c0,c1,c2,c3⟩;go_wp2_with fail
 refine(HI.is q7 lbx).mono ?_;clear HI c0 c1 c2 c3;rintro e X ⟨rfl,HI,c0,c1,c2,c3⟩;go_wp2_with fail
 refine(HI.is q8 lcu).mono ?_;clear HI c0 c1 c2 c3;rintro e X ⟨rfl,HI,c0,c1,c2,c3⟩;go_wp2_with fail
 refine(HI.is q9 ldo).mono ?_;clear HI c0 c1 c2 c3;rintro e X ⟨rfl,HI,-⟩;have hb:¬(50:Int)<(q:Int):=by have:=uh HQ;omega
 clear h50;obtain⟨c0,c1,c2,c3,-⟩:=HI.cells
 have HR:Hid (Calls Tryd.prog 21 #[.string x.s,.int .i64 q] X fun e W'=>e=.returned (.bool true)∧Below X.heap.size X W'):=hide (by
  have:=rres_any x.s (q:Int) mm X ((HI.g.cell hm0).trans hm) (Nat.lt_of_lt_of_le hm0 HI.g.size);rw[show(q:Int)=((kids.length:Nat):Int)+2 by have:=uh HQ;omega,hres] at this;rw[show(q:Int)=((kids.length:Nat):Int)+2 by have:=uh HQ;omega];exact this)
 clear hres;go_wp2_with fail
 refine(uh HR).mono ?_;rintro e X1 ⟨rfl,h⟩;replace HI:=HI.below h;clear h c0 c1 c2 c3 HR;obtain⟨c0,c1,c2,c3,-⟩:=HI.cells;obtain⟨⟨f0,f1,f2,f3⟩,p0,p1,p2,p3⟩:=HI.zero;obtain⟨lF,bF,hF⟩:=HI.fin x;have HF:=hide lF;have z0:=bF.c0;have z1:=bF.c1;have z2:=bF.c2;have z3:=bF.c3;clear lF bF hF;go_wp2_with fail
 exact bodyPost_ret (v:=.tuple #[x.val,.int .i64 0,.int .i64 7]) (by
  have e:(((X1.setCell ⟨zb,0,none⟩ (.int .i64 x.k)).setCell ⟨zb,1,none⟩ (.int .i64 x.N)).setCell ⟨zb,2,none⟩ (.string x.s)).setCell ⟨zb,3,none⟩ (.slice x.a x.len x.cap)=set4 X1 zb 0 x:=rfl;rw[e];simp[results,Tryd.results24,go_sem,TV.val,z0,z1,z2,z3]) rfl ⟨x,_,rfl,uh HF,Int.le_refl _,Int.le_refl _,fun e=>absurd e (by decide)⟩
end Go.Proofs.YtjbdkbaacjfecaaDoor
