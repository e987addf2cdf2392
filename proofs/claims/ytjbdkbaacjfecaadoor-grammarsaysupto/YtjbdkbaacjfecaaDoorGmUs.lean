import Derived.Test.YtjbdkbaacjfecaaDoorGmQs
import Derived.Laws.OwnMore
import Derived.Test.YtjbdkbaacjfecaaDoorTks
import Derived.Test.YtjbdkbaacjfecaaDoorGmLs
import Derived.Test.YtjbdkbaacjfecaaDoorCs
namespace Go.Proofs.YtjbdkbaacjfecaaDoor
set_option maxHeartbeats 2000000
set_option maxRecDepth 100000
open Go.RowKit Go.Shelf Go.Maps
theorem gVars_one{n:Nat}(t:Tm n)(b off c:Nat)(w:World)(hT:IsT w.heap.size w t)(hc:cellsAt w b off t.tv)(hok:okLT t=true)(hl:(code t).length≤4398046511104):
  Calls Tryd.prog 23 #[.slice (some ⟨b,off,none⟩) 1 c] w fun e W'=> ∃v,e=.returned v∧Below w.heap.size w W'∧OwnN w.heap.size W' v (varsC [] (code t)):=by
 have hb:b<w.heap.size:=by
  by_cases h:b<w.heap.size
  ·exact h
  ·have e:w.heap[b]?=none:=Array.getElem?_eq_none (by omega)
   have:=hc.1;simp[World.cell?,e] at this
 have:=gVars_row [t] (some ⟨b,off,none⟩) 1 c w rfl (by omega) (fun u hu=>by simp at hu;subst hu;exact hok) (by simpa using hl) (.inr ⟨b,off,rfl,hb,fun j u hu=>by
  cases j with
  | zero=>simp at hu;subst hu;exact⟨by simpa using hc,hT⟩
  | succ j=>simp at hu⟩)
 simpa using this
theorem swap_canon(f:Int)(c:List Nd):c.flatMap (subN (swN f (varsC [] c)))=canon f c:=by
 unfold canon;refine sub_congr_on fun N hN=>?_;unfold swN swapR renN;rw[if_pos (steps_all N hN)]
theorem grename_any{d:Nat}(t:Tm d)(f:Int)(w:World)(hT:IsT w.heap.size w t)(hok:okLT t=true)(hl:(code t).length≤4398046511104)(hf0:0≤f)(hf1:f≤1099511627776):
  Calls Tryd.prog 27 #[t.tv.val,.int .i64 f] w fun e W'=> ∃x:TV,e=.returned x.val∧Below w.heap.size w W'∧HoldsS (d+1) (Mix 0 w.heap.size) W' x.val (canon f (code t)):=by
 have hH:=Head.new w t.tv;obtain⟨W1,hW1⟩:∃W1,(w.alloc (.cells #[.int .i64 t.tv.k,.int .i64 t.tv.N,.string t.tv.s,.slice t.tv.a t.tv.len t.tv.cap] 24)).alloc (.cells #[.int .i64 0,.int .i64 0,.string ⟨#[]⟩,.slice none 0 0] 24)=W1:=⟨_,rfl⟩;rw[hW1] at hH;have hT1:IsT W1.heap.size W1 t:=(hT.below hH.below).mono hH.below.size;have hbA:Below W1.heap.size W1 (W1.drew.alloc (.cells #[.int .i64 t.tv.k,.int .i64 t.tv.N,.string t.tv.s,.slice t.tv.a t.tv.len t.tv.cap] 24)):=((Below.refl _ W1).drew).alloc (Nat.le_refl _) _
 have hV:=(gVars_one t W1.heap.size 0 1 _ ((hT1.below hbA).mono hbA.size) (by
  have h:=BoxT.new W1.drew t.tv;exact⟨h.c0,h.c1,h.c2,h.c3⟩) hok hl).mono (R':=fun e W3=> ∃va vl vc,e=.returned (.slice va vl vc)∧Below W1.heap.size W1 W3∧Calls Tryd.prog 28 #[t.tv.val,.slice va vl vc,.int .i64 f] W3 fun e W5=> ∃x:TV,e=.returned x.val∧Below W1.heap.size W1 W5∧HoldsS (d+1) (Mix 0 W3.heap.size) W5 x.val (canon f (code t))) (fun e W3 h=>by
  obtain⟨v,he,hb3,hv⟩:=h;have hvl:=varsC_len [] (code t);obtain⟨va,vc,rfl,hN⟩:=hv.isN (by simp at hvl;omega);have hb3':Below W1.heap.size W1 W3:=hbA.trans (hb3.mono (by simp))
  exact⟨va,_,vc,he,hb3',(gswap_any _ va _ vc f hf0 (by omega) d t W3 hN ((hT1.below hb3').mono hb3'.size) hok).mono fun e W5 h=>by
   rw[swap_canon] at h;obtain⟨x,e1,e2,e3⟩:=h;exact⟨x,e1,hb3'.trans (e2.mono hb3'.size),e3⟩⟩)
 have c0:=hH.ba.c0;have c1:=hH.ba.c1;have c2:=hH.ba.c2;have c3:=hH.ba.c3;have hy1:w.heap.size<W1.heap.size:=hH.ba.lt;have hy2:w.heap.size+1<W1.heap.size:=hH.lt;have hzb:=hH.bz;obtain⟨⟨z0,z1,z2,z3⟩,-⟩:=zbox_kept hzb;have HH:=hide hH;generalize canon f (code t)=cf at *;clear hT hok hl hT1 hbA hH;simp only[TV.val] at hV⊢;go_enter Tryd.func27,Tryd.ntmps27
 go_wp2_with fail
 clear hW1
 go_region_held3 (fun w'=>w'.cell? ⟨w.heap.size,0,none⟩=some (.int .i64 t.tv.k)∧w'.cell? ⟨w.heap.size,1,none⟩=some (.int .i64 t.tv.N)∧w'.cell? ⟨w.heap.size,2,none⟩=some (.string t.tv.s)∧w'.cell? ⟨w.heap.size,3,none⟩=some (.slice t.tv.a t.tv.len t.tv.cap)) (go_keep)
  (first | (go_at_call 23;refine hV.mono ?_;clear hV;rintro e W3 ⟨va,vl,vc,rfl,hb3,hS3⟩;have hbc:=bcell hb3) | (go_at_call 28;refine hS3.mono ?_;clear hS3;rintro e W5 ⟨x,rfl,hb5,hx⟩;have hbd:=bcell hb5;obtain⟨-,y0,y1,y2,y3⟩:=zbox_kept ((hb5.block (w.heap.size+1) hy2).trans hzb)))
 obtain⟨⟨q0,q1,q2,q3⟩,-⟩:=zbox_kept ((hb5.block (w.heap.size+1) hy2).trans hzb);have hB5:Below w.heap.size w W5:=(uh HH).below.trans (hb5.mono (uh HH).below.size);have hb3s:=hb3.size;have hfin:HoldsS (d+1) (Mix 0 w.heap.size) (set4 W5 (w.heap.size+1) 0 x) x.val cf:=(hx.fromS (fun b hb _=>set4_other _ _ 0 x (by unfold Mix at hb;omega)) (by rw[set4_size];exact Nat.le_refl _)).mono (Nat.le_refl _) (fun k hk=>by unfold Mix at hk⊢;omega);have hbf:Below w.heap.size w (set4 W5 (w.heap.size+1) 0 x):=set4_below hB5 (by omega) 0 x;have HF:=hide hfin;have HBF:=hide hbf;clear hfin hbf hx hB5 hb5 hb3 hbc hbd z0 z1 z2 z3;go_wp2_with fail
 refine bodyPost_ret (v:=x.val) ?_ rfl ⟨x,rfl,uh HBF,uh HF⟩;simp[results,Tryd.results27,go_sem,TV.val,q0,q1,q2,q3]
set_option maxHeartbeats 4000000
set_option maxRecDepth 100000
/-- A list's entries: their cells and codes. -/
def ents:{n:Nat}→Tm n→List (TV×List Nd)
 | 0,t=>Empty.elim t
 | _+1,t=>if isB t.tv [46] 2=true then(match t.kids with | [u,v]=>(u.tv,code u)::ents v | _=>[]) else[]
/-- Why a term is no list: nothing, if it is. -/
def whyS:{n:Nat}→Tm n→ByteArray
 | 0,t=>Empty.elim t
 | _+1,t=>if isB t.tv [46] 2=true then(match t.kids with | [_,v]=>whyS v | _=>⟨#[]⟩) else if t.tv.k=1 then⟨#[117,110,98,111,117,110,100]⟩ else if isB t.tv [91,93] 0=true then⟨#[]⟩ else⟨#[119,114,111,110,103,95,107,105,110,100]⟩
theorem ents_succ{n:Nat}(x:TV)(kids:List (Tm n)):ents (n:=n+1) ((x,kids):TV×List (Tm n))=if isB x [46] 2=true then(match kids with | [u,v]=>(u.tv,code u)::ents v | _=>[]) else[]:=rfl
theorem whyS_succ{n:Nat}(x:TV)(kids:List (Tm n)):whyS (n:=n+1) ((x,kids):TV×List (Tm n))=if isB x [46] 2=true then(match kids with | [_,v]=>whyS v | _=>⟨#[]⟩) else if x.k=1 then⟨#[117,110,98,111,117,110,100]⟩ else if isB x [91,93] 0=true then⟨#[]⟩ else⟨#[119,114,111,110,103,95,107,105,110,100]⟩:=rfl
theorem ents_len:∀{n:Nat} (t:Tm n),(ents t).length≤n:=by
 intro n
 induction n with
 | zero=>intro t;exact Empty.elim t
 | succ n ih=>
  intro t;obtain⟨x,kids⟩:=t;rw[ents_succ]
  by_cases h:isB x [46] 2=true
  ·rw[if_pos h]
   match kids with
   | []=>simp
   | [_]=>simp
   | [u,v]=>have:=ih v;simp only[List.length_cons];omega
   | _::_::_::_=>simp
  ·rw[if_neg h];simp
theorem StkT.app{B B':Nat}{W:World}{v v2:Value}{S E:List TV}(hs:StkT B W v S)(hx:StkT B' W v2 E)(hl:S.length+E.length≤2199023255554)(hB:B≤W.heap.size):
  ∃v' X,(Builtin.append_ #[22,22] 22 #[v,v2]).run Tryd.prog W=.ok v' X∧StkT B X v' (S++E)∧W.grownBy X v.ownBlock:=by
 obtain⟨i0,hi,hz0,hz1,hz2⟩:=info_parts Tryd.infoT4
 rcases hx.2.2 with⟨h0,h1⟩ | ⟨g,cap,cur,h0,h1⟩
 ·have hE:E=[]:=by simpa using h1
  subst h0 hE;have hr:=run_append_owned_none (P:=Tryd.prog) W B 22 22 24 i0 4 Tryd.underlying22 hi v _ _ hs.2;exact⟨v,W,hr,by simpa using hs,⟨rfl,rfl,rfl,Nat.le_refl _,fun _ _ _=>rfl⟩⟩
 ·have h2:=hx.2
  rw[h0] at h2⊢
  obtain⟨v',X,r1,r2,r3,_⟩:=run_append_own (P:=Tryd.prog) W B 22 22 24 i0 _ 4 56 Tryd.underlying22 hi hz0 hz1 hz2 rfl (by omega) v _ _ hs.2 ⟨g,0,none⟩ (E.map trow).length cap (E.map trow).flatten h2.1 (fun j u hu=>by
   have hj:j<(E.map trow).flatten.length:=(List.getElem?_eq_some_iff.1 hu).1;rw[h2.1] at hj;have:=World.ownsRow.cellAt h2 j hj;cases j with
   | zero=>simpa[Addr.add] using this.trans hu
   | succ j=>simpa[Addr.add] using this.trans hu) (fun u hu=>by
   obtain⟨r,hr,hu⟩:=List.mem_flatten.1 hu;obtain⟨x,_,rfl⟩:=List.mem_map.1 hr;exact trow_ok x u hu) (by unfold maxLen;simp only[List.length_map];omega) (by simp only[List.length_map];omega) hB
  refine⟨v',X,r1,⟨fun r hr=>?_,?_⟩,r3⟩
  ·rw[List.map_append] at hr
   rcases List.mem_append.1 hr with hr | hr
   ·exact hs.1 r hr
   ·exact hx.1 r hr
  ·rw[List.map_append,List.length_append,List.flatten_append]
   exact r2
theorem rents_any:∀(n:Nat) (t:Tm n) (w:World),IsT w.heap.size w t→okT t=true→Calls Tryd.prog 43 #[t.tv.val] w fun e W'=> ∃v,e=.returned (.tuple #[v,.string (whyS t)])∧StkT w.heap.size W' v ((ents t).map (·.1))∧Below w.heap.size w W':=by
 intro n
 induction n with
 | zero=>intro t;exact Empty.elim t
 | succ n ih=>
  intro t w hT ok;obtain⟨x,kids⟩:=t;have hk:=ok_kids ok;have HIS:Hid (∀(V:World) (s:ByteArray) (m:Int),Calls Tryd.prog 20 #[.agg #[.int .i64 x.k,.int .i64 x.N,.string x.s,.slice x.a x.len x.cap],.string s,.int .i64 m] V fun e W'=>e=.returned (.bool (isB x s.toList m))∧Below V.heap.size V W'):=hide fun V s m=>ris_any x s m V;obtain⟨W1,hW1⟩:∃W1,w.alloc (.cells #[.int .i64 x.k,.int .i64 x.N,.string x.s,.slice x.a x.len x.cap] 24)=W1:=⟨_,rfl⟩;have b1:BoxT W1 w.heap.size x:=by rw[←hW1];exact BoxT.new w x
  have g1:Below w.heap.size w W1:=by rw[←hW1];exact(Below.refl _ w).alloc (Nat.le_refl _) _
  have c0:=b1.c0;have c1:=b1.c1;have c2:=b1.c2;have c3:=b1.c3;have HB:=hide (And.intro b1 g1);have hlim:n+1≤2199023255552:=hT.2.1.2.2;cases hx:isB x [46] 2 with
  | true=>
   have hxl:x.len=2:=by have:=isB_len hx;omega
   obtain⟨a,b,rfl⟩:=two_kids hT.wl hxl;obtain⟨_,_,_,h4⟩:=hT
   rcases h4 with h4 | ⟨Bk,off,ha,hBn,hcs⟩
   ·cases h4
   have ha':x.a=some ⟨Bk,off,none⟩:=ha;obtain⟨ca,hTa⟩:=hcs 0 a rfl;obtain⟨cb,hTb⟩:=hcs 1 b rfl;have HI:Hid (∀V,Below w.heap.size w V→Calls Tryd.prog 43 #[.agg #[.int .i64 b.tv.k,.int .i64 b.tv.N,.string b.tv.s,.slice b.tv.a b.tv.len b.tv.cap]] V fun e W'=> ∃v,e=.returned (.tuple #[v,.string (whyS b)])∧StkT V.heap.size W' v ((ents b).map (·.1))∧Below V.heap.size V W'):=hide fun V hV=>ih b V ((hTb.below hV).mono hV.size) (hk.2 b (by simp))
   have hcell:Hid (∀V,Below w.heap.size w V→BoxT V w.heap.size x→V.cell? ⟨w.heap.size,3,none⟩=some (.slice (some ⟨Bk,off,none⟩) 2 x.cap)∧(V.cell? ⟨Bk,off,none⟩=some (.int .i64 a.tv.k)∧V.cell? ⟨Bk,off+1,none⟩=some (.int .i64 a.tv.N)∧V.cell? ⟨Bk,off+2,none⟩=some (.string a.tv.s)∧V.cell? ⟨Bk,off+3,none⟩=some (.slice a.tv.a a.tv.len a.tv.cap))∧V.cell? ⟨Bk,off+4,none⟩=some (.int .i64 b.tv.k)∧V.cell? ⟨Bk,off+4+1,none⟩=some (.int .i64 b.tv.N)∧V.cell? ⟨Bk,off+4+2,none⟩=some (.string b.tv.s)∧V.cell? ⟨Bk,off+4+3,none⟩=some (.slice b.tv.a b.tv.len b.tv.cap)):=hide fun V gV bV=>by
    refine⟨by have:=bV.c3;rw[ha',hxl] at this;exact this,⟨(gV.cell (p:=⟨Bk,off,none⟩) hBn).trans (by simpa using ca.1),(gV.cell (p:=⟨Bk,off+1,none⟩) hBn).trans (by simpa using ca.2.1),(gV.cell (p:=⟨Bk,off+2,none⟩) hBn).trans (by simpa using ca.2.2.1),(gV.cell (p:=⟨Bk,off+3,none⟩) hBn).trans (by simpa using ca.2.2.2)⟩,(gV.cell (p:=⟨Bk,off+4,none⟩) hBn).trans (by simpa using cb.1),(gV.cell (p:=⟨Bk,off+4+1,none⟩) hBn).trans (by simpa using cb.2.1),(gV.cell (p:=⟨Bk,off+4+2,none⟩) hBn).trans (by simpa using cb.2.2.1),(gV.cell (p:=⟨Bk,off+4+3,none⟩) hBn).trans (by simpa using cb.2.2.2)⟩
   have HW:Hid (whyS (n:=n+1) ((x,[a,b]):TV×List (Tm n))=whyS b∧ents (n:=n+1) ((x,[a,b]):TV×List (Tm n))=(a.tv,code a)::ents b):=hide ⟨by rw[whyS_succ,if_pos hx],by rw[ents_succ,if_pos hx]⟩;rw[(uh HW).1,(uh HW).2];have hlen:=ents_len b;clear hcs ca cb hTa hTb ha ha' hxl ih hk ok HW b1 g1;simp only[Tm.tv,TV.val];go_enter Tryd.func43,Tryd.ntmps43
   go_wp2_with fail
   try rw[hW1]
   go_wp2_with fail
   refine((uh HIS) W1 _ _).mono ?_;rintro e V1 ⟨rfl,h1⟩;rw[ldo,hx];have b2:=(uh HB).1.below h1 (uh HB).1.lt;have g2:=(uh HB).2.trans (h1.mono (uh HB).2.size);have HB2:=hide (And.intro b2 g2);obtain⟨d3,⟨_,_,_,_⟩,q0,q1,q2,q3⟩:=(uh hcell) V1 g2 b2;clear b2 g2 h1 HB c0 c1 c2 c3 HIS hW1;go_wp2_with fail
   refine((uh HI) V1 (uh HB2).2).mono ?_;rintro e V2 ⟨l,rfl,hS,h2⟩;have b3:=(uh HB2).1.below h2 (uh HB2).1.lt;have g3:=(uh HB2).2.trans (h2.mono (uh HB2).2.size);obtain⟨d3',⟨e0,e1,e2,e3⟩,_,_,_,_⟩:=(uh hcell) V2 g3 b3;have hA:Below V2.heap.size V2 (V2.alloc (.cells #[.int .i64 a.tv.k,.int .i64 a.tv.N,.string a.tv.s,.slice a.tv.a a.tv.len a.tv.cap] 24)):=(Below.refl _ V2).alloc (Nat.le_refl _) _;have hrow:StkT w.heap.size (V2.alloc (.cells #[.int .i64 a.tv.k,.int .i64 a.tv.N,.string a.tv.s,.slice a.tv.a a.tv.len a.tv.cap] 24)) (.slice (some ⟨V2.heap.size,0,none⟩) 1 1) [a.tv]:=StkW.one (e:=trow a.tv) rfl rfl g3.size;obtain⟨v',X,hr,hXS,hgr⟩:=hrow.app (hS.below hA) (by simp only[List.length_map,List.length_cons,List.length_nil];omega) (by have:=g3.size;have:=hA.size;omega);have gA:=g3.trans (hA.mono g3.size);have gX:Below w.heap.size w X:=gA.grown hgr gA.size (fun k e=>by simp only[Value.ownBlock,Option.some.injEq] at e;have:=g3.size;omega);have HF:=hide (And.intro hXS gX);clear d3 q0 q1 q2 q3 b3 g3 hA hrow hXS hgr gA gX h2 HB2 HI hcell hS;go_wp2_with (at_builtin;go_must (refine wpList_append_run _ rfl _ _ _ _ rfl hr ?_))
   exact bodyPost_ret (v:=.tuple #[v',.string (whyS b)]) (by simp[results,Tryd.results43,go_sem]) rfl ⟨v',rfl,(uh HF).1,(uh HF).2⟩
  | false=>
   have hE:ents (n:=n+1) ((x,kids):TV×List (Tm n))=[]:=by rw[ents_succ,if_neg (by simp[hx])]
   rw[hE];have HN:Hid (∀V,Below w.heap.size w V→StkT w.heap.size V (.slice none 0 0) ([]:List TV)∧Below w.heap.size w V):=hide fun V hV=>⟨⟨fun r hr=>by simp at hr,by simp,.inl ⟨rfl,rfl⟩⟩,hV⟩;clear hE ih hk ok hT b1 g1;simp only[Tm.tv,TV.val,List.map_nil]
   by_cases k1:x.k=1
   ·have HW:=hide (show whyS (n:=n+1) ((x,kids):TV×List (Tm n))=⟨#[117,110,98,111,117,110,100]⟩ by rw[whyS_succ,if_neg (by simp[hx]),if_pos k1])
    rw[uh HW];obtain⟨k,N,s,a,len,cap⟩:=x;simp only at k1 c0 c1 c2 c3;subst k1;go_enter Tryd.func43,Tryd.ntmps43
    go_wp2_with fail
    try rw[hW1]
    go_wp2_with fail
    refine((uh HIS) W1 _ _).mono ?_;rintro e V1 ⟨rfl,h1⟩;rw[ldo,hx];have b2:=(uh HB).1.below h1 (uh HB).1.lt;have HG:=hide ((uh HN) V1 ((uh HB).2.trans (h1.mono (uh HB).2.size)));have d0:=b2.c0;simp only at d0;clear b2 h1 HB c0 c1 c2 c3 HIS hW1 HN HW;go_wp2_with fail
    exact bodyPost_ret (v:=.tuple #[.slice none 0 0,.string ⟨#[117,110,98,111,117,110,100]⟩]) (by simp[results,Tryd.results43,go_sem]) rfl ⟨_,rfl,uh HG⟩
   ·have k1':(x.k == 1)=false:=by simp[k1]
    cases hy:isB x [91,93] 0 with
    | true=>
     have HW:=hide (show whyS (n:=n+1) ((x,kids):TV×List (Tm n))=⟨#[]⟩ by rw[whyS_succ,if_neg (by simp[hx]),if_neg k1,hy];rfl);rw[uh HW];clear HW k1;go_enter Tryd.func43,Tryd.ntmps43
     go_wp2_with fail
     try rw[hW1]
     go_wp2_with fail
     refine((uh HIS) W1 _ _).mono ?_;rintro e V1 ⟨rfl,h1⟩;rw[ldo,hx];have b2:=(uh HB).1.below h1 (uh HB).1.lt;have g2:=(uh HB).2.trans (h1.mono (uh HB).2.size);have d0:=b2.c0;have d1:=b2.c1;have d2:=b2.c2;have d3:=b2.c3;have HG2:=hide g2;clear b2 h1 HB c0 c1 c2 c3 hW1 g2;go_wp2_with fail
     refine((uh HIS) V1 _ _).mono ?_;rintro e V2 ⟨rfl,h2⟩;rw[lni,hy];have HG:=hide ((uh HN) V2 ((uh HG2).trans (h2.mono (uh HG2).size)));clear h2 HG2 HN HIS;go_wp2_with fail
     exact bodyPost_ret (v:=.tuple #[.slice none 0 0,.string ⟨#[]⟩]) (by simp[results,Tryd.results43,go_sem]) rfl ⟨_,rfl,uh HG⟩
    | false=>
     have HW:=hide (show whyS (n:=n+1) ((x,kids):TV×List (Tm n))=⟨#[119,114,111,110,103,95,107,105,110,100]⟩ by rw[whyS_succ,if_neg (by simp[hx]),if_neg k1,hy];rfl);rw[uh HW];clear HW k1;go_enter Tryd.func43,Tryd.ntmps43
     go_wp2_with fail
     try rw[hW1]
     go_wp2_with fail
     refine((uh HIS) W1 _ _).mono ?_;rintro e V1 ⟨rfl,h1⟩;rw[ldo,hx];have b2:=(uh HB).1.below h1 (uh HB).1.lt;have g2:=(uh HB).2.trans (h1.mono (uh HB).2.size);have d0:=b2.c0;have d1:=b2.c1;have d2:=b2.c2;have d3:=b2.c3;have HG2:=hide g2;clear b2 h1 HB c0 c1 c2 c3 hW1 g2;go_wp2_with fail
     refine((uh HIS) V1 _ _).mono ?_;rintro e V2 ⟨rfl,h2⟩;rw[lni,hy];have HG:=hide ((uh HN) V2 ((uh HG2).trans (h2.mono (uh HG2).size)));clear h2 HG2 HN HIS;go_wp2_with fail
     exact bodyPost_ret (v:=.tuple #[.slice none 0 0,.string ⟨#[119,114,111,110,103,95,107,105,110,100]⟩]) (by simp[results,Tryd.results43,go_sem]) rfl ⟨_,rfl,uh HG⟩
set_option maxHeartbeats 8000000
set_option maxRecDepth 100000
theorem kids_S{S:Nat→Prop}{D g:Nat}{W:World}{M:Nat}(hM:D≤M)(hl:M≤2199023255552):∀(xs:List TV) (cs:List (List Nd)) (i:Nat),cs.length=xs.length→(∀j x c,xs[j]?=some x→cs[j]?=some c→cellsAt W g ((i+j)*4) x∧HoldsS D S W x.val c)→
  ∃ks:List (Tm M),ks.length=xs.length∧(∀j u,ks[j]?=some u→cellsAt W g ((i+j)*4) u.tv∧IsT W.heap.size W u∧BlkT S u)∧ks.flatMap code=cs.flatten
 | [],[],_,_,_=>⟨[],rfl,fun j u h=>by simp at h,rfl⟩
 | [],_::_,_,h,_=>by simp at h
 | _::_,[],_,h,_=>by simp at h
 | x::xs,c::cs,i,hlen,h=>by
  obtain⟨h1,h2⟩:=h 0 x c rfl rfl;obtain⟨t,e1,e2,e3,e4⟩:=h2 M hM hl;obtain rfl:=tv_inj e1
  obtain⟨ks,k1,k2,k3⟩:=kids_S hM hl xs cs (i+1) (by simpa using hlen) (fun j y d hy hd=>by
   have:=h (j+1) y d (by simpa using hy) (by simpa using hd);rw[show i+(j+1)=i+1+j by omega] at this;exact this)
  refine⟨t::ks,by simp[k1],fun j u hu=>?_,by simp[e4,k3]⟩;cases j with
  | zero=>
   simp at hu;subst hu;exact⟨h1,e2,e3⟩
  | succ j=>
   have:=k2 j u (by simpa using hu);rw[show i+1+j=i+(j+1) by omega] at this;exact this
theorem comp_S{S:Nat→Prop}{D g cap:Nat}{W:World}{s:ByteArray}{xs:List TV}{cs:List (List Nd)}(hs:s.size≤9223372036854775807)(hl:xs.length≤9223372036854775807)(hcl:cs.length=xs.length)(hg:g<W.heap.size)(hP:S g)(hcap:xs.length≤cap)
  (hx:∀j x c,xs[j]?=some x→cs[j]?=some c→cellsAt W g (j*4) x∧HoldsS D S W x.val c):HoldsS (D+1) S W (compV s (some ⟨g,0,none⟩) xs.length cap).val ((4,0,s.toList,xs.length)::cs.flatten):=fun m hm hlim=>by
 obtain⟨M,rfl⟩:∃M,m=M+1:=⟨m-1,by omega⟩;obtain⟨ks,k1,k2,k3⟩:=kids_S (S:=S) (D:=D) (g:=g) (W:=W) (M:=M) (by omega) (by omega) xs cs 0 hcl (fun j x c h1 h2=>by rw[Nat.zero_add];exact hx j x c h1 h2);refine⟨((compV s (some ⟨g,0,none⟩) xs.length cap,ks):TV×List (Tm M)),rfl,⟨k1.symm,⟨hl,hcap,hlim⟩,hs,.inr ⟨g,0,rfl,hg,fun j u hu=>?_⟩⟩,⟨.inr ⟨g,0,rfl,hP⟩,fun u hu=>?_⟩,?_⟩
 ·obtain⟨q1,q2,_⟩:=k2 j u hu
  rw[Nat.zero_add] at q1⊢;exact⟨q1,q2⟩
 ·obtain⟨j,hj⟩:=List.mem_iff_getElem?.1 hu
  exact(k2 j u hj).2.2
 ·rw[code_succ,k3];rfl
/-- The code of a list of entries with a tail. -/
def listC(es:List (TV×List Nd))(r:List Nd):List Nd:=es.foldr (fun e c=>(4,0,[46],2)::(e.2++c)) r
theorem end_list:∀{n:Nat} (t:Tm n),Wl t→okT t=true→∀r,endC t r=listC (ents t) r:=by
 intro n
 induction n with
 | zero=>intro t;exact Empty.elim t
 | succ n ih=>
  intro t hw ok r;obtain⟨x,kids⟩:=t;have hk:=ok_kids ok;rw[endC_succ,ents_succ];cases hx:isB x [46] 2 with
  | false=>simp[listC]
  | true=>
   have hl:x.len=2:=by have:=isB_len hx;omega
   obtain⟨a,b,rfl⟩:=two_kids hw hl;have hwk:∀z∈[a,b],Wl z:=hw.2
   have e:x.nd=(4,0,[46],2):=by
    rcases wm_cases hk.1 with⟨_,_,_,_,h⟩ | ⟨_,h⟩ | ⟨h1,h2,_⟩
    ·omega
    ·omega
    ·unfold TV.nd;rw[h1,h2,isB_name hx,hl]
   have hi:=ih b (hwk b (by simp)) (hk.2 b (by simp)) r;simp only[if_true];rw[e,hi];rfl
def anyK(_:Nat):Prop:=True
theorem rlist_nil(a:Option Addr)(cap:Nat)(z:TV)(W:World):Calls Tryd.prog 44 #[.slice a 0 cap,z.val] W fun e W'=>e=.returned z.val∧Below W.heap.size W W':=by
 obtain⟨W2,hW2,hb2,hs2,bT,hz⟩:=box_zero W z;have bZ:BoxT W2 (W.heap.size+1) noTerm:=hz;have c0:=bT.c0;have c1:=bT.c1;have c2:=bT.c2;have c3:=bT.c3;obtain⟨k0,k1,k2,k3⟩:=bZ.frz;have y0:=bZ.c0;have y1:=bZ.c1;have y2:=bZ.c2;have y3:=bZ.c3;have b6:=set4_box bZ z;have z0:=b6.c0;have z1:=b6.c1;have z2:=b6.c2;have z3:=b6.c3;have HF:=hide (set4_below hb2 (show W.heap.size≤W.heap.size+1 by omega) 0 z);clear bT hz bZ b6 hb2;simp only[TV.val];go_enter Tryd.func44,Tryd.ntmps44
 go_wp2_with fail
 try rw[hW2]
 go_wp2_with fail
 exact bodyPost_ret (v:=z.val) (by
  have e:(((W2.setCell ⟨W.heap.size+1,0,none⟩ (.int .i64 z.k)).setCell ⟨W.heap.size+1,1,none⟩ (.int .i64 z.N)).setCell ⟨W.heap.size+1,2,none⟩ (.string z.s)).setCell ⟨W.heap.size+1,3,none⟩ (.slice z.a z.len z.cap)=set4 W2 (W.heap.size+1) 0 z:=rfl;rw[e];simp[results,Tryd.results44,go_sem,TV.val,z0,z1,z2,z3]) rfl ⟨rfl,uh HF⟩
theorem rlist_any{D ns:Nat}:∀(es:List (TV×List Nd)) (a:Option Addr) (b off cap:Nat) (z:TV) (cz:List Nd) (W:World),ns≤W.heap.size→(es=[]∨a=some ⟨b,off,none⟩∧b<W.heap.size)→(∀(j:Nat) e,es[j]?=some e→cellsAt W b (off+j*4) e.1∧HoldsS D (· <ns) W e.1.val e.2)→HoldsS D (· <ns) W z.val cz→D+es.length≤2199023255552→es.length≤cap→cap≤9223372036854775807→
  Calls Tryd.prog 44 #[.slice a es.length cap,z.val] W fun e W'=> ∃x:TV,e=.returned x.val∧HoldsS (D+es.length) (Mix ns W.heap.size) W' x.val (listC es cz)∧Below W.heap.size W W':=by
 intro es
 induction es with
 | nil=>
  intro a b off cap z cz W _ _ _ hz _ _ _;exact(rlist_nil a cap z W).mono fun e W' h=>⟨z,h.1,(hz.below h.2).mono (Nat.le_refl _) (fun _ h=>.inl h),h.2⟩
 | cons e0 es ih=>
  intro a b off cap z cz W hns ha hes hz hlim hcap hcm;obtain⟨h,ch⟩:=e0
  rcases ha with ha | ⟨rfl,hbW⟩
  ·cases ha
  obtain⟨⟨q0,q1,q2,q3⟩,hh⟩:=hes 0 (h,ch) rfl;rw[Nat.zero_mul,Nat.add_zero] at q0 q1 q2 q3;simp only[List.length_cons] at hlim hcap⊢;obtain⟨W2,hW2,hb2,hs2,bT,hzz⟩:=box_zero W z;have bZ:BoxT W2 (W.heap.size+1) noTerm:=hzz;obtain⟨D1,hD1⟩:∃D1,W2.drew=D1:=⟨_,rfl⟩;have hDB:Below W2.heap.size W2 D1:=by rw[←hD1];exact(Below.refl _ W2).drew
  have gD:Below W.heap.size W D1:=hb2.trans (hDB.mono (by omega))
  have hcells:∀U:World,Below W2.heap.size W2 U→U.cell? ⟨b,off,none⟩=some (.int .i64 h.k)∧U.cell? ⟨b,off+1,none⟩=some (.int .i64 h.N)∧U.cell? ⟨b,off+2,none⟩=some (.string h.s)∧U.cell? ⟨b,off+3,none⟩=some (.slice h.a h.len h.cap)∧U.cell? ⟨W.heap.size,0,none⟩=some (.int .i64 z.k)∧U.cell? ⟨W.heap.size,1,none⟩=some (.int .i64 z.N)∧U.cell? ⟨W.heap.size,2,none⟩=some (.string z.s)∧U.cell? ⟨W.heap.size,3,none⟩=some (.slice z.a z.len z.cap):=fun U hU=>by
   have gU:Below W.heap.size W U:=hb2.trans (hU.mono (by omega));have bU:=bT.below hU (by omega);exact⟨(gU.cell (p:=⟨b,off,none⟩) hbW).trans q0,(gU.cell (p:=⟨b,off+1,none⟩) hbW).trans q1,(gU.cell (p:=⟨b,off+2,none⟩) hbW).trans q2,(gU.cell (p:=⟨b,off+3,none⟩) hbW).trans q3,bU.c0,bU.c1,bU.c2,bU.c3⟩
  have kD:=hcells D1 hDB;obtain⟨ap,hap⟩:∃ap:Option Addr,(if cap=1 then some (⟨b,off,none⟩:Addr) else some ⟨b,off+4,none⟩)=ap:=⟨_,rfl⟩
  have HI:=hide (ih ap b (off+4) (cap-1) z cz D1 (by have:=gD.size;omega) (by
   by_cases hc1:cap=1
   ·exact .inl (List.length_eq_zero_iff.1 (by omega))
   ·exact .inr ⟨by rw[←hap];exact if_neg hc1,by have:=gD.size;omega⟩) (fun j e hj=>by
   obtain⟨c1,c2⟩:=hes (j+1) e (by simpa using hj);rw[show off+(j+1)*4=off+4+j*4 by omega] at c1;exact⟨c1.kept (gD.block b hbW),(c2.below gD)⟩) (hz.below gD) (by omega) (by omega) (by omega))
  have HN:Hid (∀V1 (y:TV),HoldsS (D+es.length) (Mix ns D1.heap.size) V1 y.val (listC es cz)→Below D1.heap.size D1 V1→(V1.cell? ⟨b,off,none⟩=some (.int .i64 h.k)∧V1.cell? ⟨b,off+1,none⟩=some (.int .i64 h.N)∧V1.cell? ⟨b,off+2,none⟩=some (.string h.s)∧V1.cell? ⟨b,off+3,none⟩=some (.slice h.a h.len h.cap)∧V1.cell? ⟨W.heap.size,0,none⟩=some (.int .i64 z.k)∧V1.cell? ⟨W.heap.size,1,none⟩=some (.int .i64 z.N)∧V1.cell? ⟨W.heap.size,2,none⟩=some (.string z.s)∧V1.cell? ⟨W.heap.size,3,none⟩=some (.slice z.a z.len z.cap))∧((V1.alloc (.cells #[.int .i64 h.k,.int .i64 h.N,.string h.s,.slice h.a h.len h.cap,.int .i64 y.k,.int .i64 y.N,.string y.s,.slice y.a y.len y.cap] 24)).cell? ⟨b,off,none⟩=some (.int .i64 h.k)∧(V1.alloc (.cells #[.int .i64 h.k,.int .i64 h.N,.string h.s,.slice h.a h.len h.cap,.int .i64 y.k,.int .i64 y.N,.string y.s,.slice y.a y.len y.cap] 24)).cell? ⟨b,off+1,none⟩=some (.int .i64 h.N)∧(V1.alloc (.cells #[.int .i64 h.k,.int .i64 h.N,.string h.s,.slice h.a h.len h.cap,.int .i64 y.k,.int .i64 y.N,.string y.s,.slice y.a y.len y.cap] 24)).cell? ⟨b,off+2,none⟩=some (.string h.s)∧(V1.alloc (.cells #[.int .i64 h.k,.int .i64 h.N,.string h.s,.slice h.a h.len h.cap,.int .i64 y.k,.int .i64 y.N,.string y.s,.slice y.a y.len y.cap] 24)).cell? ⟨b,off+3,none⟩=some (.slice h.a h.len h.cap)∧(V1.alloc (.cells #[.int .i64 h.k,.int .i64 h.N,.string h.s,.slice h.a h.len h.cap,.int .i64 y.k,.int .i64 y.N,.string y.s,.slice y.a y.len y.cap] 24)).cell? ⟨W.heap.size,0,none⟩=some (.int .i64 z.k)∧(V1.alloc (.cells #[.int .i64 h.k,.int .i64 h.N,.string h.s,.slice h.a h.len h.cap,.int .i64 y.k,.int .i64 y.N,.string y.s,.slice y.a y.len y.cap] 24)).cell? ⟨W.heap.size,1,none⟩=some (.int .i64 z.N)∧(V1.alloc (.cells #[.int .i64 h.k,.int .i64 h.N,.string h.s,.slice h.a h.len h.cap,.int .i64 y.k,.int .i64 y.N,.string y.s,.slice y.a y.len y.cap] 24)).cell? ⟨W.heap.size,2,none⟩=some (.string z.s)∧(V1.alloc (.cells #[.int .i64 h.k,.int .i64 h.N,.string h.s,.slice h.a h.len h.cap,.int .i64 y.k,.int .i64 y.N,.string y.s,.slice y.a y.len y.cap] 24)).cell? ⟨W.heap.size,3,none⟩=some (.slice z.a z.len z.cap))∧Calls Tryd.prog 26 #[.string ⟨#[46]⟩,.slice (some ⟨V1.heap.size,0,none⟩) 2 2] (V1.alloc (.cells #[.int .i64 h.k,.int .i64 h.N,.string h.s,.slice h.a h.len h.cap,.int .i64 y.k,.int .i64 y.N,.string y.s,.slice y.a y.len y.cap] 24)) (fun e W'=>e=.returned (compV ⟨#[46]⟩ (some ⟨V1.heap.size,0,none⟩) 2 2).val∧Below (V1.alloc (.cells #[.int .i64 h.k,.int .i64 h.N,.string h.s,.slice h.a h.len h.cap,.int .i64 y.k,.int .i64 y.N,.string y.s,.slice y.a y.len y.cap] 24)).heap.size (V1.alloc (.cells #[.int .i64 h.k,.int .i64 h.N,.string h.s,.slice h.a h.len h.cap,.int .i64 y.k,.int .i64 y.N,.string y.s,.slice y.a y.len y.cap] 24)) W')∧
    ∀V3,Below (V1.alloc (.cells #[.int .i64 h.k,.int .i64 h.N,.string h.s,.slice h.a h.len h.cap,.int .i64 y.k,.int .i64 y.N,.string y.s,.slice y.a y.len y.cap] 24)).heap.size (V1.alloc (.cells #[.int .i64 h.k,.int .i64 h.N,.string h.s,.slice h.a h.len h.cap,.int .i64 y.k,.int .i64 y.N,.string y.s,.slice y.a y.len y.cap] 24)) V3→(V3.cell? ⟨b,off,none⟩=some (.int .i64 h.k)∧V3.cell? ⟨b,off+1,none⟩=some (.int .i64 h.N)∧V3.cell? ⟨b,off+2,none⟩=some (.string h.s)∧V3.cell? ⟨b,off+3,none⟩=some (.slice h.a h.len h.cap)∧V3.cell? ⟨W.heap.size,0,none⟩=some (.int .i64 z.k)∧V3.cell? ⟨W.heap.size,1,none⟩=some (.int .i64 z.N)∧V3.cell? ⟨W.heap.size,2,none⟩=some (.string z.s)∧V3.cell? ⟨W.heap.size,3,none⟩=some (.slice z.a z.len z.cap))∧((set4 V3 (W.heap.size+1) 0 (compV ⟨#[46]⟩ (some ⟨V1.heap.size,0,none⟩) 2 2)).cell? ⟨b,off,none⟩=some (.int .i64 h.k)∧(set4 V3 (W.heap.size+1) 0 (compV ⟨#[46]⟩ (some ⟨V1.heap.size,0,none⟩) 2 2)).cell? ⟨b,off+1,none⟩=some (.int .i64 h.N)∧(set4 V3 (W.heap.size+1) 0 (compV ⟨#[46]⟩ (some ⟨V1.heap.size,0,none⟩) 2 2)).cell? ⟨b,off+2,none⟩=some (.string h.s)∧(set4 V3 (W.heap.size+1) 0 (compV ⟨#[46]⟩ (some ⟨V1.heap.size,0,none⟩) 2 2)).cell? ⟨b,off+3,none⟩=some (.slice h.a h.len h.cap)∧(set4 V3 (W.heap.size+1) 0 (compV ⟨#[46]⟩ (some ⟨V1.heap.size,0,none⟩) 2 2)).cell? ⟨W.heap.size,0,none⟩=some (.int .i64 z.k)∧(set4 V3 (W.heap.size+1) 0 (compV ⟨#[46]⟩ (some ⟨V1.heap.size,0,none⟩) 2 2)).cell? ⟨W.heap.size,1,none⟩=some (.int .i64 z.N)∧(set4 V3 (W.heap.size+1) 0 (compV ⟨#[46]⟩ (some ⟨V1.heap.size,0,none⟩) 2 2)).cell? ⟨W.heap.size,2,none⟩=some (.string z.s)∧(set4 V3 (W.heap.size+1) 0 (compV ⟨#[46]⟩ (some ⟨V1.heap.size,0,none⟩) 2 2)).cell? ⟨W.heap.size,3,none⟩=some (.slice z.a z.len z.cap))∧BoxT V3 (W.heap.size+1) noTerm∧HoldsS (D+(es.length+1)) (Mix ns W.heap.size) (set4 V3 (W.heap.size+1) 0 (compV ⟨#[46]⟩ (some ⟨V1.heap.size,0,none⟩) 2 2)) (compV ⟨#[46]⟩ (some ⟨V1.heap.size,0,none⟩) 2 2).val (listC ((h,ch)::es) cz)∧Below W.heap.size W (set4 V3 (W.heap.size+1) 0 (compV ⟨#[46]⟩ (some ⟨V1.heap.size,0,none⟩) 2 2))):=hide fun V1 y hy h1=>by
   have hDs:D1.heap.size=W2.heap.size:=by rw[←hD1];rfl
   have gV1:Below W2.heap.size W2 V1:=hDB.trans (h1.mono (by omega));have gA0:Below V1.heap.size V1 (V1.alloc (.cells #[.int .i64 h.k,.int .i64 h.N,.string h.s,.slice h.a h.len h.cap,.int .i64 y.k,.int .i64 y.N,.string y.s,.slice y.a y.len y.cap] 24)):=(Below.refl _ V1).alloc (Nat.le_refl _) _;have gA:=gV1.trans (gA0.mono gV1.size);refine⟨hcells V1 gV1,hcells _ gA,rcompound_any ⟨#[46]⟩ (some ⟨V1.heap.size,0,none⟩) 2 2 _,fun V3 h3=>?_⟩;have g3:=gA.trans (h3.mono gA.size);have bX:=bZ.below g3 (by omega);have hn:=World.alloc_heap_new V1 (.cells #[.int .i64 h.k,.int .i64 h.N,.string h.s,.slice h.a h.len h.cap,.int .i64 y.k,.int .i64 y.N,.string y.s,.slice y.a y.len y.cap] 24);have hn3:=(h3.block V1.heap.size (by simp)).trans hn;have o:=fun k (hk:k≠W.heap.size+1)=>set4_other V3 (W.heap.size+1) 0 (compV ⟨#[46]⟩ (some ⟨V1.heap.size,0,none⟩) 2 2) hk;have gs1:=gV1.size;have hnF:(set4 V3 (W.heap.size+1) 0 (compV ⟨#[46]⟩ (some ⟨V1.heap.size,0,none⟩) 2 2)).heap[V1.heap.size]?=some (.cells #[.int .i64 h.k,.int .i64 h.N,.string h.s,.slice h.a h.len h.cap,.int .i64 y.k,.int .i64 y.N,.string y.s,.slice y.a y.len y.cap] 24 (0,0)):=(o _ (by omega)).trans hn3;have gW1:Below W.heap.size W V1:=hb2.trans (gV1.mono (by omega));have gV13:Below V1.heap.size V1 V3:=gA0.trans (h3.mono gA0.size);have gWF:Below W.heap.size W (set4 V3 (W.heap.size+1) 0 (compV ⟨#[46]⟩ (some ⟨V1.heap.size,0,none⟩) 2 2)):=set4_below (gW1.trans (gV13.mono gW1.size)) (by omega) 0 _;have hhF:HoldsS (D+es.length) (Mix ns W.heap.size) (set4 V3 (W.heap.size+1) 0 (compV ⟨#[46]⟩ (some ⟨V1.heap.size,0,none⟩) 2 2)) h.val ch:=(HoldsS.fromS hh (fun k hk _=>gWF.block k (by have:k<ns:=hk;omega)) gWF.size).mono (by omega) (fun _ hk=>.inl hk)
   have hyF:HoldsS (D+es.length) (Mix ns W.heap.size) (set4 V3 (W.heap.size+1) 0 (compV ⟨#[46]⟩ (some ⟨V1.heap.size,0,none⟩) 2 2)) y.val (listC es cz):=by
    refine(HoldsS.fromS (hy.below gV13) (fun k hk _=>o k (fun e=>?_)) (by rw[set4_size];exact Nat.le_refl _)).mono (Nat.le_refl _) (fun k hk=>?_)
    ·rcases hk with hk | hk <;> omega
    ·rcases hk with hk | hk
     ·exact .inl hk
     ·exact .inr (by omega)
   refine⟨hcells V3 g3,?_,bX,?_,gWF⟩
   ·have gU:=gWF
    have bU:BoxT (set4 V3 (W.heap.size+1) 0 (compV ⟨#[46]⟩ (some ⟨V1.heap.size,0,none⟩) 2 2)) W.heap.size z:=(bT.below g3 (by omega)).kept' (o _ (by omega));exact⟨(gU.cell (p:=⟨b,off,none⟩) hbW).trans q0,(gU.cell (p:=⟨b,off+1,none⟩) hbW).trans q1,(gU.cell (p:=⟨b,off+2,none⟩) hbW).trans q2,(gU.cell (p:=⟨b,off+3,none⟩) hbW).trans q3,bU.c0,bU.c1,bU.c2,bU.c3⟩
   ·have:=comp_S (S:=Mix ns W.heap.size) (D:=D+es.length) (g:=V1.heap.size) (cap:=2) (W:=(set4 V3 (W.heap.size+1) 0 (compV ⟨#[46]⟩ (some ⟨V1.heap.size,0,none⟩) 2 2))) (s:=⟨#[46]⟩) (xs:=[h,y]) (cs:=[ch,listC es cz]) (by decide) (by simp) rfl (Array.getElem?_eq_some_iff.1 hnF).1 (.inr (by have:=gW1.size;omega)) (by simp) (fun j q c hq hc=>by
     match j,hq,hc with
     | 0,hq,hc=>
      simp at hq hc;subst hq hc;exact⟨⟨cell_of hnF rfl,cell_of hnF rfl,cell_of hnF rfl,cell_of hnF rfl⟩,hhF⟩
     | 1,hq,hc=>
      simp at hq hc;subst hq hc;exact⟨⟨cell_of hnF rfl,cell_of hnF rfl,cell_of hnF rfl,cell_of hnF rfl⟩,hyF⟩
     | j+2,hq,hc=>simp at hq)
    rw[ldo] at this;simpa[listC,Nat.add_assoc] using this
  have hl1:es.length+1≤cap:=by omega
  have hl2:(1:Int)≤(es.length:Int)+1:=by omega
  clear hes hh hz q0 q1 q2 q3 hcells bT hzz bZ gD hDB ih;have HK:=hide (And.intro hb2 hs2);clear hb2 hs2 hlim;simp only[TV.val] at HI⊢;go_enter Tryd.func44,Tryd.ntmps44
  go_wp2_with fail
  try rw[hW2]
  go_wp2_with fail
  refine wp_region_noPanic ?_;refine wp_region_held_drew (S:=fun w'=>w'.cell? ⟨b,off,none⟩=some (.int .i64 h.k)∧w'.cell? ⟨b,off+1,none⟩=some (.int .i64 h.N)∧w'.cell? ⟨b,off+2,none⟩=some (.string h.s)∧w'.cell? ⟨b,off+3,none⟩=some (.slice h.a h.len h.cap)∧w'.cell? ⟨W.heap.size,0,none⟩=some (.int .i64 z.k)∧w'.cell? ⟨W.heap.size,1,none⟩=some (.int .i64 z.N)∧w'.cell? ⟨W.heap.size,2,none⟩=some (.string z.s)∧w'.cell? ⟨W.heap.size,3,none⟩=some (.slice z.a z.len z.cap)) (by kernel_rfl) ?_ (fun hHeld=>?_)
  ·rw[hD1];exact kD
  rw[hD1] at hHeld⊢;clear hD1;refine tk 0 rfl hHeld ?_;refine tk 1 rfl hHeld ?_;refine tk 2 rfl hHeld ?_;refine tk 3 rfl hHeld ?_;refine tk 4 rfl hHeld ?_;refine tk 5 rfl hHeld ?_;refine rd 6 rfl fun K hK=>?_;have hHold:=hHeld;clear hHeld;go_simp;refine(uh HI).mono ?_;rintro e V1 ⟨y,rfl,hy,h1⟩;obtain⟨kV,kA,HC,HE⟩:=(uh HN) V1 y hy h1;have HC:=hide HC;have HE:=hide HE;clear hy h1;go_wp2_with fail
  refine hK.out _ _ ?_ (fun hHeld=>?_)
  ·((try dsimp only);exact kV)
  clear hK K hHold;try simp only[pu]
  refine rd 7 rfl fun K hK=>?_;have hHold:=hHeld;clear hHeld;go_simp;refine hK.out _ _ ?_ (fun hHeld=>?_)
  ·((try dsimp only);exact kA)
  clear hK K hHold;try simp only[pu]
  refine rd 8 rfl fun K hK=>?_;have hHold:=hHeld;clear hHeld;go_simp;refine(uh HC).mono ?_;rintro e V3 ⟨rfl,h3⟩;obtain⟨kV3,kF,bX,HF⟩:=(uh HE) V3 h3;have HF:=hide HF;obtain⟨k0,k1,k2,k3⟩:=bX.frz;have y0:=bX.c0;have y1:=bX.c1;have y2:=bX.c2;have y3:=bX.c3;have b6:=set4_box bX (compV ⟨#[46]⟩ (some ⟨V1.heap.size,0,none⟩) 2 2);have z0:=b6.c0;have z1:=b6.c1;have z2:=b6.c2;have z3:=b6.c3;clear bX b6 h3 HC HE;simp only[TV.val,compV] at kF⊢;go_wp2_with fail
  refine hK.out _ _ ?_ (fun hHeld=>?_)
  ·((try dsimp only);exact kV3)
  clear hK K hHold;try simp only[pu]
  refine rd 9 rfl fun K hK=>?_;have hHold:=hHeld;clear hHeld;go_simp;refine hK.out _ _ ?_ (fun hHeld=>?_)
  ·((try dsimp only);exact kF)
  clear hK K hHold;try simp only[pu]
  refine wpAnyH_done (by kernel_rfl) ?_ _;refine NoPanic.normal ?_;clear hHeld;go_wp2_with fail
  exact bodyPost_ret (v:=(compV ⟨#[46]⟩ (some ⟨V1.heap.size,0,none⟩) 2 2).val) (by
   have e:(((V3.setCell ⟨W.heap.size+1,0,none⟩ (.int .i64 4)).setCell ⟨W.heap.size+1,1,none⟩ (.int .i64 0)).setCell ⟨W.heap.size+1,2,none⟩ (.string ⟨#[46]⟩)).setCell ⟨W.heap.size+1,3,none⟩ (.slice (some ⟨V1.heap.size,0,none⟩) 2 2)=set4 V3 (W.heap.size+1) 0 (compV ⟨#[46]⟩ (some ⟨V1.heap.size,0,none⟩) 2 2):=rfl;rw[e];simp[results,Tryd.results44,go_sem,TV.val,z0,z1,z2,z3]) rfl ⟨compV ⟨#[46]⟩ (some ⟨V1.heap.size,0,none⟩) 2 2,rfl,uh HF⟩
theorem res_far{s:List UInt8}{n:Int}(h:8<n):resB s n=false:=by
 unfold resB
 by_cases hc:(s == [99,97,108,108])=true
 ·rw[if_pos hc];simp;omega
 ·rw[if_neg hc,if_neg (by omega),if_neg (by omega),if_neg (by omega),if_neg (by omega)]
theorem ext_order(x:TV):extE x=if 50<x.len+2 then 9 else if resB x.s.toList (x.len+2)=true then 7 else 0:=by
 unfold extE
 by_cases h:50<x.len+2
 ·simp[h,res_far (s:=x.s.toList) (n:=(x.len:Int)+2) (by omega)]
 ·simp[h]
theorem why_list:∀{n:Nat} (t:Tm n),Wl t→(listT t=true→whyS t=⟨#[]⟩)∧(listT t=false→whyS t=⟨#[117,110,98,111,117,110,100]⟩∨whyS t=⟨#[119,114,111,110,103,95,107,105,110,100]⟩):=by
 intro n
 induction n with
 | zero=>intro t;exact Empty.elim t
 | succ n ih=>
  intro t hw;obtain⟨x,kids⟩:=t;rw[listT_succ,whyS_succ];cases hx:isB x [46] 2 with
  | true=>
   obtain⟨a,b,rfl⟩:=two_kids hw (by have:=isB_len hx;omega);have hwk:∀z∈[a,b],Wl z:=hw.2;simpa using ih b (hwk b (by simp))
  | false=>
   simp only[Bool.false_eq_true,if_false]
   by_cases k1:x.k=1
   ·rw[if_pos k1,isB_one k1]
    exact⟨fun h=>absurd h (by simp),fun _=>.inl rfl⟩
   ·rw[if_neg k1]
    cases hy:isB x [91,93] 0 with
    | true=>exact⟨fun _=>by simp,fun h=>absurd h (by simp)⟩
    | false=>exact⟨fun h=>absurd h (by simp),fun _=>.inr (by simp)⟩
theorem parts_stopsP(Pt:TV→Prop)(n:Nat)(Bt n₀ n₁:Nat){d:Nat}(t:Tm d)(w:World)
  (hPt:∀x∈parts t,Pt x) (hc:BoxT w Bt t.tv) (hT:IsT n₀ w t) (hn₀:n₀≤w.heap.size) (hn₁:n₁≤w.heap.size):
  SeqC 22 Fence.wide n Tryd.prog 62 #[.pointer (some ⟨Bt,0,none⟩)] (fun x:{x:TV // Pt x}=>#[TV.val x.1]) (Kp n₀ n₁) (fun ys=>ys.map Subtype.val=parts t) (fun pre=>pre.map Subtype.val <+: parts t) (parts t).length w:=fun l J Jx W hW hJ hJx hY h0=>by
 have h:=parts1_in n l Bt n₀ n₁ _ t (fun ys W=> ∃zs:List {x:TV // Pt x},zs.map Subtype.val=ys∧J zs W) (fun ys W=> ∃zs:List {x:TV // Pt x},zs.map Subtype.val=ys∧Jx zs W) (fun s A B row hs hg hr=>by obtain⟨zs,e,hz⟩:=hs;exact⟨zs,e,hJ zs A B row hz hg hr⟩)
  (fun pre x W hx hj hl=>by
   obtain⟨zs,rfl,hz⟩:=hj;refine(hY zs ⟨x,hPt x hx⟩ W hz (by simpa using hl)).mono fun e W' h=>?_
   rcases h with⟨h1,h2,h3⟩ | ⟨h1,h2⟩
   ·exact .inl ⟨h1,⟨zs++[⟨x,hPt x hx⟩],by simp,h2⟩,h3⟩
   ·exact .inr ⟨h1,⟨zs++[⟨x,hPt x hx⟩],by simp,h2⟩⟩)
  W ((hW.block Bt hc.lt).trans hc) (hT.below (hW.mono hn₀)) (Nat.le_trans hn₀ hW.size) (Nat.le_trans hn₁ hW.size) (Nat.le_refl _) ⟨[],rfl,h0⟩
 refine h.mono fun e W' h=>?_;obtain⟨h1,h2⟩:=h;refine⟨h1,?_⟩
 rcases h2 with⟨ys,rfl,zs,e,hz⟩ | ⟨pre,hp,zs,e,hz⟩
 ·exact .inl ⟨zs,e,hz⟩
 ·exact .inr ⟨zs,by show zs.map Subtype.val <+: parts t;rw[e];exact hp,hz⟩
end Go.Proofs.YtjbdkbaacjfecaaDoor
