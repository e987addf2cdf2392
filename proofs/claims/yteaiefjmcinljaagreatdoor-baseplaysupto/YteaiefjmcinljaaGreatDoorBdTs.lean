import Derived.Test.YteaiefjmcinljaaGreatDoorBdRs
namespace Go.Proofs.YteaiefjmcinljaaGreatDoor
open Go.RowKit Go.Shelf Go.Maps
theorem new_bok{M:Nat→Prop}{W:World}(hM:Mut M W):Calls Tryz.prog 4 #[] W fun e W'=> ∃(b me mf:Nat),e=.returned (.pointer (some ⟨b,0,none⟩))∧W.heap.size≤b∧W.heap.size≤me∧W.heap.size≤mf∧Below W.heap.size W W'∧Mut (fun k=>M k∨k=b∨k=me∨k=mf) W'∧BOK (fun k=>M k∨k=b∨k=me∨k=mf) W' b me mf 0 0 0 (fun _=>none) (fun _=>none) (fun _=>none) []:=by
 refine(new_any W).mono ?_
 rintro e W' ⟨rfl,h1,h2,h3,h4,h5⟩
 refine⟨W.heap.size+2,W.heap.size,W.heap.size+1,rfl,by omega,Nat.le_refl _,by omega,h4,?_,?_⟩
 ·intro k hk
  rcases hk with hk | rfl | rfl | rfl
  ·exact(hM.grow (GrB.of_below (X:=fun _=>False) h4) (fun _ h=>h.elim)) k hk
  ·exact⟨h1.lt,h1.nofix⟩
  ·exact⟨h2.lt,h2.mapB.nofix⟩
  ·exact⟨h3.lt,h3.mapB.nofix⟩
 ·exact {
   base:=h1
   ent:=h2
   fam:=h3
   low:=Int.le_refl _
   cnt:=by simp
   srt:=List.Pairwise.nil
   pls:=fun e he=>by cases he
   ids:=List.Pairwise.nil
   get:=fun _=>rfl
   gfs:=fun _=>rfl
   fams:=fun p f hp=>by cases hp
   has:=fun e he=>by cases he
   ents:=fun e he=>by cases he
   oks:=fun e he=>by cases he
   mem:=⟨.inr (.inl rfl),.inr (.inr (.inl rfl)),.inr (.inr (.inr rfl)),fun p f hp=>by cases hp⟩
   far:=by omega
   farF:=fun p f hp=>by cases hp
   farP:=fun p p' f f' hp=>by cases hp}
/-- Whether a goal's key lets all through. -/
def keyI:List Nd→Bool
 | _::u::_=>decide (u.1=1)
 | _=>true
/-- The rows of entries that a goal is let through to. -/
noncomputable def goalL (E:List En) (c:List Nd):List (Nat×Int)×List (Nat×Int):=if keyI c=true then(rowP E (predC c),[]) else(rowK E (predC c) (keyC c),rowK E (predC c) keyZ)
theorem goal_key{n:Nat}(t:Tm (n+1)){W:World}(hT:IsT W.heap.size W t)(hok:okT t=true)(hn:numC (code t)):(keyI (code t)=true∧keyOfV t=keyV 0 0 ⟨#[]⟩ 0)∨(keyI (code t)=false∧∃(k N:Int) (s:ByteArray) (m:Nat),keyOfV t=keyV k N s m∧keyC (code t)=keyL k N s m∧k≠0∧s.size≤maxLen∧m≤9223372036854775807∧ -9223372036854775808≤k∧k≤9223372036854775807∧ -9223372036854775808≤N∧N≤9223372036854775807):=by
 obtain⟨x,kids⟩:=t
 obtain⟨h1,h2,h3,h4⟩:=hT
 have hk:=ok_kids hok
 unfold keyOfV
 cases kids with
 | nil=>exact .inl ⟨rfl,rfl⟩
 | cons u r=>
  cases n with
  | zero=>exact Empty.elim u
  | succ n=>
   have hc:code (n:=n+1+1) ((x,u::r):TV×List (Tm (n+1)))=x.nd::u.tv.nd::(u.kids.flatMap code++r.flatMap code):=by
    rw[code_succ,List.flatMap_cons,code_kids u]
    rfl
   rw[hc]
   by_cases hk1:u.tv.k=1
   ·have e:keyOfT (n:=n+1) ((x,u::r):TV×List (Tm (n+1)))=(0,0,⟨#[]⟩,0):=by unfold keyOfT;simp[Tm.kids,hk1]
    rw[e]
    exact .inl ⟨by simp[keyI,TV.nd,hk1],rfl⟩
   ·have e:keyOfT (n:=n+1) ((x,u::r):TV×List (Tm (n+1)))=(u.tv.k,u.tv.N,u.tv.s,u.tv.len):=by unfold keyOfT;simp[Tm.kids,hk1]
    rw[e]
    have oku:=hk.2 u (by simp)
    have hTu:IsT W.heap.size W u:=by
     rcases h4 with h4 | ⟨b,off,_,_,hk'⟩
     ·cases h4
     ·exact(hk' 0 u rfl).2
    have hsu:u.tv.s.size≤9223372036854775807:=hTu.2.2.1
    have hnu:=hn u.tv.nd (by rw[hc];simp)
    have hNu: -9223372036854775808≤u.tv.N∧u.tv.N≤9223372036854775807:=hnu
    have hkl:u.tv.k≤4∧1≤u.tv.k∧u.tv.len≤50:=by
     rcases wm_cases (ok_top oku) with⟨h,_,_,_,h'⟩ | ⟨h,h'⟩ | ⟨h,_,_,h'⟩ <;> omega
    exact .inr ⟨by simp[keyI,TV.nd,hk1],u.tv.k,u.tv.N,u.tv.s,u.tv.len,rfl,by simp[keyC,TV.nd,hk1,keyN,keyL,ByteArray.toList_eq],by omega,by unfold maxLen;omega,by omega,by omega,by omega,hNu.1,hNu.2⟩
theorem view_bok{M:Nat→Prop}{W:World}{b me mf:Nat}{laid:Int}{ce cf:Nat}{ge gf:Lit→Option Addr}{F:Lit→Option Fam}{E:List En}(h:BOK M W b me mf laid ce cf ge gf F E){n:Nat}(tg:Tm (n+1))(hT:IsT W.heap.size W tg)(hok:okT tg=true)(hcall:(decide (tg.tv.k=3) || decide (tg.tv.k=4))=true)(hn:numC (code tg)):
  Calls Tryz.prog 34 #[.pointer (some ⟨b,0,none⟩),tg.tv.val] W fun e W'=> ∃(vb:Nat) (p q:Option Addr),e=.returned (.tuple #[.pointer (some ⟨vb,0,none⟩),.int .i64 0])∧W.heap.size≤vb∧VwBlk W' vb p q (-9223372036854775808)∧Below W.heap.size W W'∧(∃h1,TrL W p (goalL E (code tg)).1 h1)∧∃h2,TrL W q (goalL E (code tg)).2 h2:=by
 have hgp:gf (predL tg.tv.s tg.tv.len)=(F (predC (code tg))).map (fun f=>⟨f.fb,0,none⟩):=by rw[predL_code,h.gfs]
 cases hp:F (predC (code tg)) with
 | none=>
  rw[hp] at hgp
  have hno:∀e∈E,predC e.ch≠predC (code tg):=fun e he e'=>by
   obtain⟨f,hf'⟩:=h.has e he
   rw[e',hp] at hf'
   cases hf'
  refine(view_unknown b me mf laid cf gf tg W h.base h.fam hT hok hcall hgp).mono ?_
  rintro e W' ⟨vb,rfl,h1,h2,h3⟩
  refine⟨vb,none,none,rfl,h1,h2,h3,?_⟩
  have e0:goalL E (code tg)=([],[]):=by
   unfold goalL
   rw[rowP_none hno,rowK_none hno,rowK_none hno]
   split <;> rfl
  rw[e0]
  exact⟨⟨0,TrL.nil _⟩,0,TrL.nil _⟩
 | some f=>
  rw[hp] at hgp
  obtain⟨f1,f2,f3,f4,f5⟩:=h.fams _ f hp
  rcases goal_key tg hT hok hn with⟨i1,i2⟩ | ⟨i1,k,N,s,m,i2,i3,k0,ks,km,ka,kb,na,nb⟩
  ·refine(view_known b me mf f.fb laid cf gf f.all none tg W h.base h.fam hT hok hcall (fun V hV=>by rw[i2];exact letThrough_all f.fb f.km f.all V ((hV.block _ f1.lt).trans f1)) hgp).mono ?_
   rintro e W' ⟨vb,rfl,h1,h2,h3⟩
   refine⟨vb,f.all,none,rfl,h1,h2,h3,?_⟩
   unfold goalL
   rw[if_pos i1]
   exact⟨f4,0,TrL.nil _⟩
  ·refine(view_known b me mf f.fb laid cf gf (f.gk (keyL k N s m)) (f.gk (keyL 0 0 ⟨#[]⟩ 0)) tg W h.base h.fam hT hok hcall (fun V hV=>by rw[i2];exact letThrough_key f.fb f.km f.ck f.all f.gk k N s m V ((hV.block _ f1.lt).trans f1) (f2.kept (hV.block _ f2.lt)) k0 ks km ka kb na nb) hgp).mono ?_
   rintro e W' ⟨vb,rfl,h1,h2,h3⟩
   refine⟨vb,_,_,rfl,h1,h2,h3,?_⟩
   unfold goalL
   rw[if_neg (by rw[i1];simp),i3]
   exact⟨f5 _,f5 _⟩
/-- Two rows of entries say the same. -/
def SameE(A B:List En):Prop:=A.map En.say=B.map En.say
/-- The first entry behind a place. -/
def nextN(A:List En)(last:Int):Option En:=A.find? (fun e=>decide (last<e.pl))
theorem nextE_at(A:List En)(last:Int):nextE (A.map En.at) last=(nextN A last).map En.at:=by
 unfold nextE nextN
 rw[List.find?_map]
 rfl
def earN:Option En→Option En→Option En
 | none,y=>y
 | some x,none=>some x
 | some x,some y=>if y.pl<x.pl then some y else some x
theorem earE_at(x y:Option En):earE (x.map En.at) (y.map En.at)=(earN x y).map En.at:=by
 cases x <;> cases y <;> simp only[Option.map_none,Option.map_some,earE,earN]
 rename_i a b
 by_cases h:b.pl<a.pl
 ·rw[if_pos h,if_pos (show b.at.2<a.at.2 from h)]
  rfl
 ·rw[if_neg h,if_neg (show¬b.at.2<a.at.2 from h)]
  rfl
/-- The next entry of a view. -/
def stepN(A1 A2:List En)(last:Int):Option En:=earN (nextN A1 last) (nextN A2 last)
theorem stepN_at(A1 A2:List En)(last:Int):earE (nextE (A1.map En.at) last) (nextE (A2.map En.at) last)=(stepN A1 A2 last).map En.at:=by
 rw[nextE_at,nextE_at,earE_at]
 rfl
theorem nextN_in{A:List En}{last:Int}{e:En}(h:nextN A last=some e):e∈A∧last<e.pl:=
 ⟨List.mem_of_find?_eq_some h,by simpa using List.find?_some h⟩
theorem earN_in{x y:Option En}{e:En}(h:earN x y=some e):x=some e∨y=some e:=by
 cases x <;> cases y <;> simp only[earN] at h
 ·cases h
 ·exact .inr h
 ·exact .inl h
 ·split at h
  ·exact .inr h
  ·exact .inl h
theorem stepN_in{A1 A2:List En}{last:Int}{e:En}(h:stepN A1 A2 last=some e):e∈A1++A2∧last<e.pl:=by
 rcases earN_in h with h | h
 ·exact⟨List.mem_append_left _ (nextN_in h).1,(nextN_in h).2⟩
 ·exact⟨List.mem_append_right _ (nextN_in h).1,(nextN_in h).2⟩
/-- How many entries are still behind a place. -/
def restN(A:List En)(last:Int):Nat:=(A.filter (fun e=>decide (last<e.pl))).length
/-- What is left of a view. -/
def restV(A1 A2:List En)(last:Int):Nat:=restN A1 last+restN A2 last
open Classical in
noncomputable def rowPN (E:List En) (p:Lit):List En:=E.filter (fun e=>decide (predC e.ch=p))
open Classical in
noncomputable def rowKN (E:List En) (p k:Lit):List En:=E.filter (fun e=>decide (predC e.ch=p∧keyC e.ch=k))
/-- The entries that a goal is let through to. -/
noncomputable def goalN (E:List En) (c:List Nd):List En×List En:=if keyI c=true then(rowPN E (predC c),[]) else(rowKN E (predC c) (keyC c),rowKN E (predC c) keyZ)
theorem goalN_at(E:List En)(c:List Nd):goalL E c=((goalN E c).1.map En.at,(goalN E c).2.map En.at):=by
 unfold goalL goalN
 split <;> rfl
theorem goalN_in{E:List En}{c:List Nd}{e:En}(h:e∈(goalN E c).1++(goalN E c).2):e∈E:=by
 unfold goalN at h
 split at h
 ·rw[List.append_nil] at h
  exact(List.mem_filter.1 h).1
 ·rcases List.mem_append.1 h with h | h <;> exact(List.mem_filter.1 h).1
theorem goalN_srt{E:List En}(h:SrtE E)(c:List Nd):Srt ((goalN E c).1.map En.at)∧Srt ((goalN E c).2.map En.at):=by
 unfold goalN
 split
 ·exact⟨h.row _,List.Pairwise.nil⟩
 ·exact⟨h.row _,h.row _⟩
set_option maxHeartbeats 600000
set_option maxRecDepth 100000
theorem view_bad(b:Nat){n:Nat}(tg:Tm (n+1))(W:World)(hT:IsT W.heap.size W tg)(hok:okT tg=false):
  Calls Tryz.prog 34 #[.pointer (some ⟨b,0,none⟩),tg.tv.val] W fun e W'=>e=.returned (.tuple #[.pointer none,.int .i64 2])∧Below W.heap.size W W':=by
 have hb1:Below W.heap.size W (W.alloc (.cells #[.int .i64 tg.tv.k,.int .i64 tg.tv.N,.string tg.tv.s,.slice tg.tv.a tg.tv.len tg.tv.cap] 34)):=(Below.refl _ W).alloc (Nat.le_refl _) _
 have hck:=check_any tg _ ((hT.below hb1).mono hb1.size)
 rw[chk_no hok] at hck
 have HB:=hide hb1
 have hs1:W.heap.size≤(W.alloc (.cells #[.int .i64 tg.tv.k,.int .i64 tg.tv.N,.string tg.tv.s,.slice tg.tv.a tg.tv.len tg.tv.cap] 34)).heap.size:=hb1.size
 have HS:=hide hs1
 simp only[TV.val] at hck⊢
 clear hT hok hb1 hs1
 go_enter Tryz.func34,Tryz.ntmps34
 go_wp2_with fail
 refine hck.mono ?_
 clear hck
 rintro e V1 ⟨rfl,g1⟩
 have HW:Hid (Below W.heap.size W V1):=(unhide HB).trans (g1.mono (unhide HS))
 clear g1 HB HS
 go_wp2_with fail
 exact bodyPost_ret (v:=.tuple #[.pointer none,.int .i64 2]) (by simp[results,Tryz.results34,go_sem]) rfl ⟨rfl,HW.out⟩
theorem view_none(b:Nat){n:Nat}(tg:Tm (n+1))(W:World)(hT:IsT W.heap.size W tg)(hok:okT tg=true)(hcall:(decide (tg.tv.k=3) || decide (tg.tv.k=4))=false):
  Calls Tryz.prog 34 #[.pointer (some ⟨b,0,none⟩),tg.tv.val] W fun e W'=>e=.returned (.tuple #[.pointer none,.int .i64 7])∧Below W.heap.size W W':=by
 have hbx:=BoxT.new W tg.tv
 have hb1:Below W.heap.size W (W.alloc (.cells #[.int .i64 tg.tv.k,.int .i64 tg.tv.N,.string tg.tv.s,.slice tg.tv.a tg.tv.len tg.tv.cap] 34)):=(Below.refl _ W).alloc (Nat.le_refl _) _
 have hck:=check_any tg _ ((hT.below hb1).mono hb1.size)
 rw[chk_yes hok] at hck
 have hca:=isCallable_any tg.tv
 rw[hcall] at hca
 have HX:Hid (BoxT (W.alloc (.cells #[.int .i64 tg.tv.k,.int .i64 tg.tv.N,.string tg.tv.s,.slice tg.tv.a tg.tv.len tg.tv.cap] 34)) W.heap.size tg.tv∧Below W.heap.size W (W.alloc (.cells #[.int .i64 tg.tv.k,.int .i64 tg.tv.N,.string tg.tv.s,.slice tg.tv.a tg.tv.len tg.tv.cap] 34))∧(W.alloc (.cells #[.int .i64 tg.tv.k,.int .i64 tg.tv.N,.string tg.tv.s,.slice tg.tv.a tg.tv.len tg.tv.cap] 34)).heap.size=W.heap.size+1):=⟨hbx,hb1,by simp⟩
 simp only[TV.val] at hck hca⊢
 clear hT hok hcall hbx hb1
 go_enter Tryz.func34,Tryz.ntmps34
 go_wp2_with fail
 refine hck.mono ?_
 clear hck
 rintro e V1 ⟨rfl,g1⟩
 obtain⟨hbx,hb1,hs1⟩:=unhide HX
 have s1:=g1.size
 have bx1:BoxT V1 W.heap.size tg.tv:=hbx.below g1 (by omega)
 have gW1:Below W.heap.size W V1:=hb1.trans (g1.mono (by omega))
 have c0:=bx1.c0
 have c1:=bx1.c1
 have c2:=bx1.c2
 have c3:=bx1.c3
 have H1:=hide gW1
 have HS1:Hid (W.heap.size≤V1.heap.size):=gW1.size
 clear hbx hb1 bx1 gW1 g1 HX
 go_wp2_with fail
 refine(hca _).mono ?_
 clear hca c0 c1 c2 c3
 rintro e V2 ⟨rfl,g2⟩
 have HW:Hid (Below W.heap.size W V2):=(unhide H1).trans (g2.mono HS1.out)
 clear g2 H1 HS1
 go_wp2_with fail
 exact bodyPost_ret (v:=.tuple #[.pointer none,.int .i64 7]) (by simp[results,Tryz.results34,go_sem]) rfl ⟨rfl,HW.out⟩
/-- A view in memory that is to give the entries of two rows. -/
structure VOK (M:Nat→Prop) (W:World) (vb:Nat) (A1 A2:List En) (last:Int):Prop where
 blk:∃p q,VwBlk W vb p q last∧(((∃h1,TrL W p (A1.map En.at) h1)∧∃h2,TrL W q (A2.map En.at) h2)∨(p=none∧q=none∧stepN A1 A2 last=none))
 srt:Srt (A1.map En.at)∧Srt (A2.map En.at)
 ents:∀e∈A1++A2,EnIs M W e∧(-9223372036854775808<e.pl∧e.pl≤9223372036854775807)∧e.ch.all okM=true∧e.cb.all okM=true
 mem:M vb
theorem atE_mem{A:List En}{y:Nat×Int}(h:y∈A.map En.at):∃e∈A,e.at=y:=by
 obtain⟨e,he,rfl⟩:=List.mem_map.1 h
 exact⟨e,he,rfl⟩
theorem VOK.trees{M Y:Nat→Prop}{W W':World}{vb:Nat}{A1 A2:List En}{last:Int}(h:VOK M W vb A1 A2 last)(hM:Mut M W)(g:GrB Y W.heap.size W W')(hY:∀k,Y k→M k){p:Option Addr}{L:List En}{h1:Int}(ht:TrL W p (L.map En.at) h1)(hL:∀e∈L,e∈A1++A2):TrL W' p (L.map En.at) h1:=
 ht.fixed (fun y hy=>by
  obtain⟨e,he,rfl⟩:=atE_mem hy
  exact⟨e.hx,e.bx,(h.ents e (hL e he)).1.1⟩) (g.fixed (fun k hk=>(hM k (hY k hk)).2))
theorem VOK.kept{M Y:Nat→Prop}{W W':World}{vb:Nat}{A1 A2:List En}{last:Int}(h:VOK M W vb A1 A2 last)(hM:Mut M W)(g:GrB Y W.heap.size W W')(hY:∀k,Y k→M k∧k≠vb):VOK M W' vb A1 A2 last:=by
 obtain⟨p,q,hv,ht⟩:=h.blk
 have gM:GrB M W.heap.size W W':=⟨g.os,g.tape,g.output,g.size,fun k hk hn=>g.block k hk (fun hy=>hn (hY k hy).1)⟩
 refine⟨⟨p,q,(g.block vb hv.lt (fun hy=>(hY vb hy).2 rfl)).trans hv,?_⟩,h.srt,fun e he=>⟨(h.ents e he).1.kept hM gM,(h.ents e he).2⟩,h.mem⟩
 rcases ht with⟨⟨h1,t1⟩,h2,t2⟩ | ht
 ·exact .inl ⟨⟨h1,h.trees hM g (fun k hk=>(hY k hk).1) t1 (fun e he=>List.mem_append_left _ he)⟩,h2,h.trees hM g (fun k hk=>(hY k hk).1) t2 (fun e he=>List.mem_append_right _ he)⟩
 ·exact .inr ht
theorem VOK.more{M M':Nat→Prop}{W:World}{vb:Nat}{A1 A2:List En}{last:Int}(h:VOK M W vb A1 A2 last)(h1:∀k,M k→M' k)(h2:∀k,M' k→M k∨W.heap.size≤k):VOK M' W vb A1 A2 last:=
 ⟨h.blk,h.srt,fun e he=>⟨(h.ents e he).1.more h2,(h.ents e he).2⟩,h1 _ h.mem⟩
theorem EnIs.step{M M' Y:Nat→Prop}{W W':World}{e:En}(h:EnIs M W e)(hM:Mut M W)(g:GrB Y W.heap.size W W')(hY:∀k,Y k→M k)(h2:∀k,M' k→M k∨W.heap.size≤k):EnIs M' W' e:=by
 obtain⟨q1,D,S,q2,q3,q4⟩:=h
 have hf:=g.fixed (fun k hk=>(hM k (hY k hk)).2)
 have hk:∀k,S k→k<W.heap.size→W'.heap[k]?=W.heap[k]?:=fun k hk hl=>g.block k hl (fun hy=>(q4 k hk).2 (hY k hy))
 exact⟨q1.fixed hf,D,S,q2.fromS hk g.size,q3.fromS hk g.size,fun k hk=>⟨Nat.lt_of_lt_of_le (q4 k hk).1 g.size,fun hm=>(h2 k hm).elim (q4 k hk).2 (fun hl=>by have:=(q4 k hk).1;omega)⟩⟩
/-- What a view answers, by what the next entry says. -/
def ansS:Option (Int×List Nd×List Nd)→Int×Bool×List Nd×List Nd
 | none=>(0,false,noC,noC)
 | some s=>(max s.1 (-s.1),true,s.2.1,s.2.2)
def lastS(last:Int):Option (Int×List Nd×List Nd)→Int
 | none=>last
 | some s=>s.1
theorem next_vok{M:Nat→Prop}{W:World}{vb:Nat}{A1 A2:List En}{last:Int}(h:VOK M W vb A1 A2 last)(hM:Mut M W)(s:Option (Int×List Nd×List Nd))(hs:(stepN A1 A2 last).map En.say=s):
  Calls Tryz.prog 19 #[.pointer (some ⟨vb,0,none⟩)] W fun e W'=>(∃(D:Upto 1099511627776) (x y:TV),e=.returned (.tuple #[.int .i64 (ansS s).1,clV x y,.bool (ansS s).2.1])∧HoldsS D.1 (W.heap.size≤ ·) W' x.val (ansS s).2.2.1∧HoldsS D.1 (W.heap.size≤ ·) W' y.val (ansS s).2.2.2)∧GrB (fun k=>k=vb) W.heap.size W W'∧Mut M W'∧VOK M W' vb A1 A2 (lastS last s):=by
 obtain⟨p,q,hv,ht⟩:=h.blk
 cases hst:stepN A1 A2 last with
 | none=>
  rw[hst] at hs
  subst hs
  have hc:Calls Tryz.prog 19 #[.pointer (some ⟨vb,0,none⟩)] W fun e W'=>e=.returned (.tuple #[.int .i64 0,clV noTerm noTerm,.bool false])∧GrB (fun k=>k=vb) W.heap.size W W'∧VwBlk W' vb none none last:=by
   rcases ht with⟨⟨h1,t1⟩,h2,t2⟩ | ⟨rfl,rfl,-⟩
   ·exact next_none vb p q last W hv t1 t2 h.srt.1 h.srt.2 (by rw[stepN_at,hst];rfl)
   ·exact next_none vb none none last W hv (TrL.nil _) (TrL.nil _) List.Pairwise.nil List.Pairwise.nil rfl
  refine hc.mono ?_
  rintro e W' ⟨rfl,g,hv'⟩
  have hM':Mut M W':=hM.grow g (fun k hk=>by subst hk;exact hv'.nofix)
  have gM:GrB M W.heap.size W W':=⟨g.os,g.tape,g.output,g.size,fun k hk hn=>g.block k hk (fun e=>hn (e▸h.mem))⟩
  exact⟨⟨⟨1,by omega⟩,noTerm,noTerm,rfl,(no_holds 1 W.heap.size (Nat.le_refl _) W').holdsS,(no_holds 1 W.heap.size (Nat.le_refl _) W').holdsS⟩,g,hM',⟨none,none,hv',.inr ⟨rfl,rfl,hst⟩⟩,h.srt,fun e he=>⟨(h.ents e he).1.kept hM gM,(h.ents e he).2⟩,h.mem⟩
 | some x=>
  rw[hst] at hs
  subst hs
  obtain⟨hx,hlt⟩:=stepN_in hst
  obtain⟨⟨hen,D,S,hh,hb,hS⟩,hpl,ho1,ho2⟩:=h.ents x hx
  rcases ht with⟨⟨h1,t1⟩,h2,t2⟩ | ⟨-,-,hno⟩
  ·refine(next_some vb x.eb x.pl p q last W hv t1 t2 h.srt.1 h.srt.2 (by rw[stepN_at,hst];rfl) hen hpl.1 hpl.2 hh hb (fun k hk e=>(hS k hk).2 (e▸h.mem)) ho1 ho2 (by have:=D.2;omega)).mono ?_
   rintro e W' ⟨⟨x',y',rfl,q1,q2⟩,g,hv'⟩
   have hM':Mut M W':=hM.grow g (fun k hk=>by subst hk;exact hv'.nofix)
   have gM:GrB M W.heap.size W W':=⟨g.os,g.tape,g.output,g.size,fun k hk hn=>g.block k hk (fun e=>hn (e▸h.mem))⟩
   have hY:∀k,k=vb→M k:=fun k hk=>hk▸h.mem
   exact⟨⟨⟨D.1+1,by have:=D.2;omega⟩,x',y',rfl,q1,q2⟩,g,hM',⟨p,q,hv',.inl ⟨⟨h1,h.trees hM g hY t1 (fun e he=>List.mem_append_left _ he)⟩,h2,h.trees hM g hY t2 (fun e he=>List.mem_append_right _ he)⟩⟩,h.srt,fun e he=>⟨(h.ents e he).1.kept hM gM,(h.ents e he).2⟩,h.mem⟩
  ·rw[hst] at hno
   cases hno
theorem view_vok{M:Nat→Prop}{W:World}{b me mf:Nat}{laid:Int}{ce cf:Nat}{ge gf:Lit→Option Addr}{F:Lit→Option Fam}{E:List En}(h:BOK M W b me mf laid ce cf ge gf F E)(hM:Mut M W)(hbig:laid<1099511627776){n:Nat}(tg:Tm (n+1))(hT:IsT W.heap.size W tg)(hok:okT tg=true)(hcall:(decide (tg.tv.k=3) || decide (tg.tv.k=4))=true)(hn:numC (code tg)):
  Calls Tryz.prog 34 #[.pointer (some ⟨b,0,none⟩),tg.tv.val] W fun e W'=> ∃vb:Nat,e=.returned (.tuple #[.pointer (some ⟨vb,0,none⟩),.int .i64 0])∧W.heap.size≤vb∧Below W.heap.size W W'∧Mut (fun k=>M k∨k=vb) W'∧VOK (fun k=>M k∨k=vb) W' vb (goalN E (code tg)).1 (goalN E (code tg)).2 (-9223372036854775808):=by
 refine(view_bok h tg hT hok hcall hn).mono ?_
 rintro e W' ⟨vb,p,q,rfl,hlo,hv,g,⟨h1,t1⟩,h2,t2⟩
 rw[goalN_at] at t1 t2
 have hin:∀e∈(goalN E (code tg)).1++(goalN E (code tg)).2,e∈E:=fun e he=>goalN_in he
 have hall:∀{L:List En},(∀e∈L,e∈E)→EnAll W (L.map En.at):=fun hL y hy=>by
  obtain⟨e,he,rfl⟩:=atE_mem hy
  exact⟨e.hx,e.bx,(h.ents e (hL e he)).1⟩
 have hM':Mut (fun k=>M k∨k=vb) W':=fun k hk=>by
  rcases hk with hk | rfl
  ·exact(hM.grow (GrB.of_below (X:=fun _=>False) g) (fun _ h=>h.elim)) k hk
  ·exact⟨hv.lt,hv.nofix⟩
 refine⟨vb,rfl,hlo,g,hM',⟨p,q,hv,.inl ⟨⟨h1,t1.fixed (hall (fun e he=>hin e (List.mem_append_left _ he))) (Below.fixed g)⟩,h2,t2.fixed (hall (fun e he=>hin e (List.mem_append_right _ he))) (Below.fixed g)⟩⟩,goalN_srt h.srt _,fun e he=>?_,.inr rfl⟩
 have hE:=hin e he
 have:=h.pls e hE
 have ho:=h.oks e hE
 refine⟨?_,by omega,ho.1,ho.2.1⟩
 have k1:=(h.ents e hE).more (M':=fun k=>M k∨k=vb) (fun k hk=>hk.elim .inl (fun e=>.inr (by omega)))
 obtain⟨q1,D,S,q2,q3,q4⟩:=k1
 exact⟨(g.block e.eb q1.lt).trans q1,D,S,q2.below g,q3.below g,fun k hk=>⟨Nat.lt_of_lt_of_le (q4 k hk).1 g.size,(q4 k hk).2⟩⟩
end Go.Proofs.YteaiefjmcinljaaGreatDoor
