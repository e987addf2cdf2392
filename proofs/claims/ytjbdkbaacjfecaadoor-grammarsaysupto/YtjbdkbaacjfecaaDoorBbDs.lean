import Derived.Test.YtjbdkbaacjfecaaDoorBbC
import Derived.Test.YtjbdkbaacjfecaaDoorSs
import Derived.Test.YtjbdkbaacjfecaaDoorBaDs
import Derived.Test.YtjbdkbaacjfecaaDoorBaC
namespace Go.Proofs.YtjbdkbaacjfecaaDoor
set_option maxHeartbeats 2000000
set_option maxRecDepth 100000
open Go.RowKit Go.Shelf
theorem stands_holds{n b o:Nat}{L:List Nat}{sz:Nat}{W':World}{c:List Nd}{lo:Nat}(h:StandsB n b o L sz W' c)(hL:∀k∈L,lo≤k)(hsz:lo≤sz):∃y:TV,cellsAt W' b o y∧HoldsS (n+1) (lo≤ ·) W' y.val c:=by
 obtain⟨t',h1,h2,_,_,h5,h6⟩:=h;refine⟨t'.tv,h1,?_⟩;rw[←h5]
 exact holdsS_of h2 (blk_of h2 fun k hk=>by
  rcases h6 k hk with h | h
  ·exact hL k h
  ·exact Nat.le_trans hsz h)
theorem holdsS_set4{D lo:Nat}{W:World}{v:Value}{c:List Nd}(h:HoldsS D (lo≤ ·) W v c){b:Nat}(hb:b<lo)(o:Nat)(x:TV):HoldsS D (lo≤ ·) (set4 W b o x) v c:=
 h.fromS (fun k hk _=>set4_other W b o x (by have:lo≤k:=hk;omega)) (by rw[set4_size];exact Nat.le_refl _)
theorem isL_nil(m:Nat)(W:World)(n:Nat):IsL m W none 0 ([]:List (Int×Tm n)):=by
 refine⟨rfl,by omega,?_⟩;exact .inl rfl
theorem apply_nil{n:Nat}(t:Tm n)(w:World)(hT:IsT w.heap.size w t)(hok:okT t=true):
  Calls Tryd.prog 69 #[t.tv.val,.slice none 0 0] w fun e W'=> ∃x:TV,e=.returned (.tuple #[x.val,.int .i64 0])∧Below w.heap.size w W'∧HoldsT (n+(n+1)) w.heap.size W' x.val (code t):=by
 have h:=apply_ok t ([]:List (Int×Tm n)) none 0 0 w hT (isL_nil _ _ _) hok (fun p hp=>by cases hp) ⟨(fun p hp=>by cases hp),(fun i j p q h=>by simp at h)⟩;have e:(code t).flatMap (subN (lookC (cb ([]:List (Int×Tm n)))))=code t:=sub_var hok;rw[e] at h;exact h
theorem body_bad{n:Nat}(t:Tm n)(W:World)(hT:IsT W.heap.size W t)(hok:okT t=false):
  Calls Tryd.prog 65 #[t.tv.val] W fun e W'=>e=.returned (.tuple #[noTerm.val,.int .i64 2])∧Below W.heap.size W W':=by
 have HA:Hid (∀V,Below W.heap.size W V→Calls Tryd.prog 69 #[t.tv.val,.slice none 0 0] V fun e W'=>e=.returned (.tuple #[.agg #[.int .i64 0,.int .i64 0,.string ⟨#[]⟩,.slice none 0 0],.int .i64 2])∧Below V.heap.size V W'):=fun V hV=>apply_bad t none 0 0 V ((hT.below hV).mono hV.size) hok;have hH:=Head.new W t.tv;have ha:=HA.out _ hH.below;clear hT hok HA;simp only[TV.val,noTerm] at ha⊢;go_enter Tryd.func65,Tryd.ntmps65
 go_wp2_with fail
 refine ha.mono ?_;clear ha;rintro e W1 ⟨rfl,hb1⟩;replace hH:=(hH.next hb1).next ((Below.refl _ W1).alloc (o:=.cells #[.int .i64 0,.int .i64 0,.string ⟨#[]⟩,.slice none 0 0] 24) (Nat.le_refl _));obtain⟨⟨z0,z1,z2,z3⟩,y0,y1,y2,y3⟩:=zbox_kept hH.bz;have HH:=hide hH;clear hH hb1;go_wp2_with fail
 exact bodyPost_ret (v:=.tuple #[.agg #[.int .i64 0,.int .i64 0,.string ⟨#[]⟩,.slice none 0 0],.int .i64 2]) (by simp[results,Tryd.results65,go_sem,z0,z1,z2,z3]) rfl ⟨rfl,set4_below (uh HH).below (by omega) 0 ⟨0,0,⟨#[]⟩,none,0,0⟩⟩
theorem body_ok{n:Nat}(t:Tm n)(W:World)(hT:IsT W.heap.size W t)(hok:okT t=true)(hn40:n≤549755813888:=by omega):
  Calls Tryd.prog 65 #[t.tv.val] W fun e W'=>(∃x:TV,e=.returned (.tuple #[x.val,.int .i64 (if(bodyC t).isSome=true then 0 else 7)])∧HoldsS (n+(n+1)+1) (W.heap.size≤ ·) W' x.val (orNo (bodyC t)))∧Below W.heap.size W W':=by
 have HA:Hid (∀V,Below W.heap.size W V→Calls Tryd.prog 69 #[t.tv.val,.slice none 0 0] V fun e W'=> ∃x:TV,e=.returned (.tuple #[x.val,.int .i64 0])∧Below V.heap.size V W'∧HoldsT (n+(n+1)) V.heap.size W' x.val (code t)):=fun V hV=>apply_nil t V ((hT.below hV).mono hV.size) hok;have hH:=Head.new W t.tv;have ha:=HA.out _ hH.below;have HB:Hid (∀{m:Nat} (o:Tm m),Wl o→code o=code t→bodyC o=bodyC t∧okT o=true):=fun o ho hc=>⟨body_copy hT.wl hok ho hc,by rw[okT_m,hc,←okT_m];exact hok⟩;clear hT hok HA;generalize bodyC t=r at HB⊢;simp only[TV.val] at ha⊢;go_enter Tryd.func65,Tryd.ntmps65
 go_wp2_with fail
 refine ha.mono ?_;clear ha;rintro e W1 ⟨x,rfl,hb1,hx⟩;rw[show((W.alloc (.cells #[.int .i64 t.tv.k,.int .i64 t.tv.N,.string t.tv.s,.slice t.tv.a t.tv.len t.tv.cap] 24)).alloc (.cells #[.int .i64 0,.int .i64 0,.string ⟨#[]⟩,.slice none 0 0] 24)).heap.size=W.heap.size+2 by simp] at hx;replace hH:=hH.next hb1;have hlt:=hH.lt;obtain⟨o,ho,hoT',hoN,hoc⟩:=hx _ (Nat.le_refl _);have hoT:=hoT' (by omega);clear hoT';obtain rfl:=tv_inj ho;obtain⟨hbo,hok⟩:=HB.out o hoT.wl hoc;clear hx ho HB hoc hb1;have hb2:Below W1.heap.size W1 (W1.alloc (.cells #[.int .i64 o.tv.k,.int .i64 o.tv.N,.string o.tv.s,.slice o.tv.a o.tv.len o.tv.cap] 24)):=(Below.refl _ W1).alloc (Nat.le_refl _) _;have hbx:=BoxT.new W1 o.tv;have hL:∀k∈blks o,W.heap.size+2≤k∧k<W1.heap.size:=fun k hk=>⟨(hoN.wh.blks_in k hk).1,(hoN.wh.blks_in k hk).2.1⟩;have hmb:=makeBody_any _ o W1.heap.size 0 (W1.alloc (.cells #[.int .i64 o.tv.k,.int .i64 o.tv.N,.string o.tv.s,.slice o.tv.a o.tv.len o.tv.cap] 24)) hok ⟨hbx.c0,hbx.c1,hbx.c2,hbx.c3⟩ ⟨_,_,hbx,by simp⟩ ((hoT.below hb2).mono hb2.size) ((hoN.below hb2).wh.rows) hoN.ap (fun hm=>by have:=(hL _ hm).2;omega);rw[hbo] at hmb;replace hH:=hH.next hb2;have HH:=hide hH;have HL:=hide hL;have HS:Hid (W1.heap.size+1=(W1.alloc (.cells #[.int .i64 o.tv.k,.int .i64 o.tv.N,.string o.tv.s,.slice o.tv.a o.tv.len o.tv.cap] 24)).heap.size):=by show _=_;simp
 have HLT:=hide hlt;clear hH hL hoT hoN hok hbo hb2 hbx hlt;go_wp2_with fail
 refine hmb.mono ?_;clear hmb;rintro e W3 ⟨rfl,hm3⟩;obtain⟨ht3,hs3⟩:=hm3;have hs:=ht3.gr.size
 have hBW:Below W.heap.size W W3:=(uh HH).below.trans (ht3.gr.below (n₀:=W.heap.size) (fun k hk=>by
  rcases hk with rfl | hk
  ·have:=uh HLT;omega
  ·have:=(uh HL k hk).1;omega) (by have:=(uh HH).below.size;omega))
 have hz3:=(ht3.gr.block (W.heap.size+1) (uh HH).lt (by
  rintro(h | h)
  ·have:=uh HLT;omega
  ·have:=(uh HL _ h).1;omega)).trans (uh HH).bz
 obtain⟨⟨z0,z1,z2,z3⟩,y0,y1,y2,y3⟩:=zbox_kept hz3;cases r with
 | none=>
  have HF:Hid (Below W.heap.size W (set4 W3 (W.heap.size+1) 0 noTerm)):=set4_below hBW (by omega) 0 _;clear hBW hz3 HH HL ht3 hs3 HS HLT hs;simp only[Option.isSome_none];go_wp2_with fail
  exact bodyPost_ret (v:=.tuple #[noTerm.val,.int .i64 7]) (by simp[results,Tryd.results65,go_sem,TV.val,noTerm,z0,z1,z2,z3]) rfl ⟨⟨noTerm,rfl,(no_holds _ _ (by omega) _).holdsS⟩,HF.out⟩
 | some c=>
  obtain⟨y,hy,hyS⟩:=stands_holds (lo:=W.heap.size+2) (hs3 c rfl) (fun k hk=>(uh HL k hk).1) (by have:=HS.out;have:=uh HLT;omega);obtain⟨c0,c1,c2,c3⟩:=hy;have HF:Hid (Below W.heap.size W (set4 W3 (W.heap.size+1) 0 y)∧HoldsS (n+(n+1)+1) (W.heap.size≤ ·) (set4 W3 (W.heap.size+1) 0 y) y.val c):=⟨set4_below hBW (by omega) 0 _,(holdsS_set4 hyS (by omega) 0 y).mono (Nat.le_refl _) (fun k hk=>by have:W.heap.size+2≤k:=hk;show W.heap.size≤k;omega)⟩;clear hBW hz3 HH HL ht3 hs3 HS hyS hs HLT;simp only[Option.isSome_some];go_wp2_with fail
  exact bodyPost_ret (v:=.tuple #[y.val,.int .i64 0]) (by simp[results,Tryd.results65,go_sem,TV.val,z0,z1,z2,z3]) rfl ⟨⟨y,rfl,HF.out.2⟩,HF.out.1⟩
theorem body_any{n:Nat}(t:Tm n)(ns:Nat)(W:World)(hT:IsT ns W t)(hns:ns≤W.heap.size)(hn38:n≤274877906944:=by omega):
  Calls Tryd.prog 65 #[t.tv.val] W fun e W'=>TAns (2*n+8) ns W.heap.size (bodyR t).1 (bodyR t).2 e W'∧Below W.heap.size W W':=by
 unfold bodyR;cases hok:okT t with
 | false=>
  refine(body_bad t W (hT.mono hns) hok).mono fun e W' h=>⟨?_,h.2⟩;rw[if_neg (by simp)];exact⟨⟨1,by omega⟩,noTerm,h.1,no_shared 1 _ _ (by omega) W'⟩
 | true=>
  refine(body_ok t W (hT.mono hns) hok).mono fun e W' h=>⟨?_,h.2⟩;rw[if_pos rfl];obtain⟨x,h1,h2⟩:=h.1;exact⟨⟨_,by omega⟩,x,h1,h2.mono (Nat.le_refl _) fun _ h=>.inr h⟩
/-- Which line of the document's table a body is of. -/
def formB(x:TV):Int:=
 if x.k=2 then 0 else if x.k=1 then 1 else if(isB x [44] 2 || isB x [45,62] 2)=true then 2 else if isB x [59] 2=true then 3
 else if isB x [92,43] 1=true then 4 else if(isB x [91,93] 0 || isB x [46] 2)=true then 5 else if(isB x [123,125] 0 || isB x [123,125] 1)=true then 6
 else if isB x [33] 0=true then 7 else if(decide (x.s.toList=callL) && decide (0<x.len))=true then 8 else 9
/-- The error of what is to have two Args more. -/
def extE(x:TV):Int:=if resB x.s.toList (x.len+2)=true then 7 else if 50<x.len+2 then 9 else 0
def listT:{n:Nat}→Tm n→Bool
 | 0,t=>Empty.elim t
 | _+1,t=>if isB t.tv [46] 2=true then(match t.kids with | [_,v]=>listT v | _=>false) else isB t.tv [91,93] 0
/-- A list's code with something else at its end. -/
def endC:{n:Nat}→Tm n→List Nd→List Nd
 | 0,t,_=>Empty.elim t
 | _+1,t,r=>if isB t.tv [46] 2=true then(match t.kids with | [u,v]=>t.tv.nd::(code u++endC v r) | _=>[]) else r
/-- The error of a body that has no bodies in it. -/
def partE{n:Nat}(t:Tm (n+1)):Int:=
 if formB t.tv=0 then 14 else if formB t.tv=5 then(if listT t=true then 0 else 14) else if formB t.tv=6 then(if t.kids.all (fun u=>(bodyC u).isSome)=true then 0 else 14)
 else if formB t.tv=8 then(if 8<t.tv.len+2 then 9 else 0) else if formB t.tv=9 then extE t.tv else 0
def firstE:List Int→Int
 | []=>0
 | e::l=>if e=0 then firstE l else e
/-- The first error of a body. -/
def berr:{n:Nat}→Tm n→Int
 | 0,t=>Empty.elim t
 | _+1,t=>if formB t.tv=2∨formB t.tv=3∨formB t.tv=4 then firstE (t.kids.map berr) else partE t
/-- How many new variables its goal has. -/
def cntT:{n:Nat}→Tm n→Nat
 | 0,t=>Empty.elim t
 | _+1,t=>if formB t.tv=2∨formB t.tv=4 then 1+(t.kids.map cntT).sum else if formB t.tv=3 then(t.kids.map cntT).sum else 0
def eqC(s r:List Nd):List Nd:=(4,0,[61],2)::(s++r)
/-- The goal of goals in curly brackets. -/
def curlC{n:Nat}:List (Tm n)→List Nd→List Nd→List Nd
 | u::_,s,r=>(4,0,[44],2)::((bodyC u).getD []++eqC s r)
 | [],s,r=>eqC s r
/-- The goal of a body between two terms; new variables have the numbers from f on. -/
def btwC:{n:Nat}→Tm n→List Nd→List Nd→Int→List Nd
 | 0,t,_,_,_=>Empty.elim t
 | _+1,t,s,r,f=>
  if formB t.tv=1 then(4,0,callL,3)::(varNd t.tv.N::(s++r))
  else if formB t.tv=2 then(match t.kids with | [a,b]=>(4,0,t.tv.s.toList,2)::(btwC a s [varNd f] (f+1)++btwC b [varNd f] r (f+1+cntT a)) | _=>[])
  else if formB t.tv=3 then(match t.kids with | [a,b]=>(4,0,t.tv.s.toList,2)::(btwC a s r f++btwC b s r (f+cntT a)) | _=>[])
  else if formB t.tv=4 then(match t.kids with | [a]=>(4,0,[44],2)::((4,0,t.tv.s.toList,1)::(btwC a s [varNd f] (f+1)++eqC s r)) | _=>[])
  else if formB t.tv=5 then(4,0,[61],2)::(s++endC t r)
  else if formB t.tv=6 then curlC t.kids s r
  else if formB t.tv=7 then(4,0,[44],2)::((3,0,[33],0)::eqC s r)
  else(4,0,t.tv.s.toList,t.tv.len+2)::(t.kids.flatMap code++(s++r))
theorem form_nd{x y:TV}(h:x.nd=y.nd):formB x=formB y:=by
 have hp:=nd_parts h;unfold formB;rw[isB_nd h,isB_nd h,isB_nd h,isB_nd h,isB_nd h,isB_nd h,isB_nd h,isB_nd h,isB_nd h,hp.1,hp.2.2.1,hp.2.2.2]
theorem form_one{x:TV}:formB x=1↔x.k=1:=by
 unfold formB
 by_cases h2:x.k=2
 ·rw[if_pos h2];omega
 ·rw[if_neg h2]
  by_cases h1:x.k=1
  ·rw[if_pos h1];omega
  ·rw[if_neg h1]
   refine⟨fun h=>?_,fun h=>absurd h h1⟩
   repeat' split at h
   all_goals omega
theorem isB_len{x:TV}{s:List UInt8}{n:Int}(h:isB x s n=true):(x.len:Int)=n:=by
 unfold isB at h;simp only[Bool.and_eq_true,beq_iff_eq] at h;exact h.2.2
theorem isB_name{x:TV}{s:List UInt8}{n:Int}(h:isB x s n=true):x.s.toList=s:=by
 unfold isB at h;simp only[Bool.and_eq_true,decide_eq_true_eq] at h;exact h.2.1
theorem form_two{x:TV}(h:formB x=2):x.len=2:=by
 unfold formB at h
 repeat' split at h
 all_goals first
  | omega
  | (rename_i hb;simp only[Bool.or_eq_true] at hb;rcases hb with hb | hb <;> (have:=isB_len hb;omega))
  | skip
theorem form_three{x:TV}(h:formB x=3):x.len=2:=by
 unfold formB at h
 repeat' split at h
 all_goals first
  | omega
  | (rename_i hb;have:=isB_len hb;omega)
  | skip
theorem form_four{x:TV}(h:formB x=4):x.len=1:=by
 unfold formB at h
 repeat' split at h
 all_goals first
  | omega
  | (rename_i hb;have:=isB_len hb;omega)
  | skip
theorem one_kid{n:Nat}{x:TV}{kids:List (Tm n)}(hw:Wl (n:=n+1) ((x,kids):TV×List (Tm n)))(hl:x.len=1):∃u,kids=[u]:=by
 have hl2:x.len=kids.length:=hw.1
 match kids,(show kids.length=1 by omega) with
 | [u],_=>exact⟨u,rfl⟩
theorem renV_one(f:Int→Int)(x:Nd)(h:x.1=1):renC f [x]=[varNd (f x.2.1)]:=by
 unfold renC;rw[List.flatMap_cons,List.flatMap_nil,List.append_nil];exact if_pos h
theorem ren_var(f:Int→Int)(N:Int):renC f [varNd N]=[varNd (f N)]:=renV_one f _ rfl
theorem ren_eq(f:Int→Int)(s r:List Nd):renC f (eqC s r)=eqC (renC f s) (renC f r):=by
 unfold eqC;rw[renC_cons f _ _ (by simp),renC_append]
theorem renV_root(f:Int→Int){n m:Nat}{x y:TV}{kids:List (Tm n)}{ky:List (Tm m)}(k1:x.k≠1)(h:code (n:=m+1) ((y,ky):TV×List (Tm m))=renC f (code (n:=n+1) ((x,kids):TV×List (Tm n)))):
  y.nd=x.nd∧ky.flatMap code=renC f (kids.flatMap code):=by
 rw[code_succ,code_succ,renC_cons f _ _ (nd_one k1)] at h;simp only[List.cons.injEq] at h;exact h
theorem ren_kids2(f:Int→Int){n m:Nat}{x y:TV}{u v:Tm n}{u' v':Tm m}(hu:Wl (n:=n+1) ((x,[u,v]):TV×List (Tm n)))(ok:okT (n:=n+1) ((x,[u,v]):TV×List (Tm n))=true)
  (ht:Wl (n:=m+1) ((y,[u',v']):TV×List (Tm m))) (h:[u',v'].flatMap code=renC f ([u,v].flatMap code)):code u'=renC f (code u)∧code v'=renC f (code v):=by
 have hk:=ok_kids ok;have hwk:∀z∈[u,v],Wl z:=hu.2;have hwk':∀z∈[u',v'],Wl z:=ht.2;simp only[List.flatMap_cons,List.flatMap_nil,List.append_nil] at h;exact ren_two f (hwk u (by simp)) (hk.2 u (by simp)) (hwk' u' (by simp)) h
theorem ren_kids1(f:Int→Int){n m:Nat}{u:Tm n}{u':Tm m}(h:[u'].flatMap code=renC f ([u].flatMap code)):code u'=renC f (code u):=by
 simpa only[List.flatMap_cons,List.flatMap_nil,List.append_nil] using h
theorem listT_succ{n:Nat}(x:TV)(kids:List (Tm n)):listT (n:=n+1) ((x,kids):TV×List (Tm n))=if isB x [46] 2=true then(match kids with | [_,v]=>listT v | _=>false) else isB x [91,93] 0:=rfl
theorem endC_succ{n:Nat}(x:TV)(kids:List (Tm n))(r:List Nd):endC (n:=n+1) ((x,kids):TV×List (Tm n)) r=if isB x [46] 2=true then(match kids with | [u,v]=>x.nd::(code u++endC v r) | _=>[]) else r:=rfl
theorem isB_kind{x:TV}{s:List UInt8}{n:Int}(h:isB x s n=true):x.k≠1:=by
 intro h1;rw[isB_one h1] at h;cases h
theorem list_ren(f:Int→Int):∀{n:Nat} (u:Tm n),Wl u→okT u=true→∀{m:Nat} (t:Tm m),Wl t→code t=renC f (code u)→listT t=listT u∧∀r,endC t (renC f r)=renC f (endC u r):=by
 intro n
 induction n with
 | zero=>intro u;exact Empty.elim u
 | succ n ih=>
  intro u hu ok m t ht h;cases m with
  | zero=>exact Empty.elim t
  | succ m=>
   have hb:=fun s i=>isB_ren f hu ok h s i;obtain⟨x,kids⟩:=u;obtain⟨y,ky⟩:=t;have hb':∀s i,isB y s i=isB x s i:=hb;rw[listT_succ,listT_succ,hb',hb'];cases hx:isB x [46] 2 with
   | false=>
    refine⟨by simp,fun r=>?_⟩;rw[endC_succ,endC_succ,hb',hx];simp
   | true=>
    have k1:=isB_kind hx;obtain⟨e1,e2⟩:=renV_root f k1 h;have hl:x.len=2:=by have:=isB_len hx;omega
    obtain⟨a,b,rfl⟩:=two_kids hu hl;obtain⟨a',b',rfl⟩:=two_kids ht (by rw[(nd_parts e1).2.2.2];exact hl);obtain⟨c1,c2⟩:=ren_kids2 f hu ok ht e2;have hwk:∀z∈[a,b],Wl z:=hu.2;have hwk':∀z∈[a',b'],Wl z:=ht.2;obtain⟨i1,i2⟩:=ih b (hwk b (by simp)) ((ok_kids ok).2 b (by simp)) b' (hwk' b' (by simp)) c2;refine⟨by simpa using i1,fun r=>?_⟩;rw[endC_succ,endC_succ,hb',hx];simp only[if_true];rw[renC_cons f _ _ (nd_one k1),renC_append,i2,c1,e1]
theorem partE_succ{n:Nat}(x:TV)(kids:List (Tm n)):partE (n:=n) ((x,kids):TV×List (Tm n))=
  if formB x=0 then 14 else if formB x=5 then(if listT (n:=n+1) ((x,kids):TV×List (Tm n))=true then 0 else 14) else if formB x=6 then(if kids.all (fun u=>(bodyC u).isSome)=true then 0 else 14)
  else if formB x=8 then(if 8<x.len+2 then 9 else 0) else if formB x=9 then extE x else 0:=rfl
theorem berr_succ{n:Nat}(x:TV)(kids:List (Tm n)):berr (n:=n+1) ((x,kids):TV×List (Tm n))=if formB x=2∨formB x=3∨formB x=4 then firstE (kids.map berr) else partE (n:=n) ((x,kids):TV×List (Tm n)):=rfl
theorem cntT_succ{n:Nat}(x:TV)(kids:List (Tm n)):cntT (n:=n+1) ((x,kids):TV×List (Tm n))=if formB x=2∨formB x=4 then 1+(kids.map cntT).sum else if formB x=3 then(kids.map cntT).sum else 0:=rfl
theorem btwC_succ{n:Nat}(x:TV)(kids:List (Tm n))(s r:List Nd)(f:Int):btwC (n:=n+1) ((x,kids):TV×List (Tm n)) s r f=
  if formB x=1 then(4,0,callL,3)::(varNd x.N::(s++r))
  else if formB x=2 then(match kids with | [a,b]=>(4,0,x.s.toList,2)::(btwC a s [varNd f] (f+1)++btwC b [varNd f] r (f+1+cntT a)) | _=>[])
  else if formB x=3 then(match kids with | [a,b]=>(4,0,x.s.toList,2)::(btwC a s r f++btwC b s r (f+cntT a)) | _=>[])
  else if formB x=4 then(match kids with | [a]=>(4,0,[44],2)::((4,0,x.s.toList,1)::(btwC a s [varNd f] (f+1)++eqC s r)) | _=>[])
  else if formB x=5 then(4,0,[61],2)::(s++endC (n:=n+1) ((x,kids):TV×List (Tm n)) r)
  else if formB x=6 then curlC kids s r
  else if formB x=7 then(4,0,[44],2)::((3,0,[33],0)::eqC s r)
  else(4,0,x.s.toList,x.len+2)::(kids.flatMap code++(s++r)):=rfl
theorem ext_nd{x y:TV}(h:x.nd=y.nd):extE x=extE y:=by
 have hp:=nd_parts h;unfold extE;rw[hp.2.2.1,hp.2.2.2]
theorem btw_ren(σ:Int→Int):∀{n:Nat} (u:Tm n),Wl u→okT u=true→∀{m:Nat} (t:Tm m),Wl t→code t=renC σ (code u)→
  cntT t=cntT u∧berr t=berr u∧∀(s r:List Nd) (f f':Int),(∀i:Nat,i<cntT u→σ (f+i)=f'+i)→btwC t (renC σ s) (renC σ r) f'=renC σ (btwC u s r f):=by
 intro n
 induction n with
 | zero=>intro u;exact Empty.elim u
 | succ n ih=>
  intro u hu ok m t ht h;cases m with
  | zero=>exact Empty.elim t
  | succ m=>
   have hlr:=list_ren σ u hu ok t ht h;obtain⟨x,kids⟩:=u;obtain⟨y,ky⟩:=t;have hk:=ok_kids ok
   by_cases k1:x.k=1
   ·obtain rfl:=var_kids hu ok k1
    have f1:formB x=1:=form_one.2 k1
    have e:renC σ (code (n:=n+1) ((x,[]):TV×List (Tm n)))=[varNd (σ x.N)]:=by
     rw[code_succ,List.flatMap_nil];exact renV_one σ _ k1
    rw[e,code_succ] at h;simp only[List.cons.injEq] at h;have hy1:y.k=1:=congrArg (fun z:Nd=>z.1) h.1;have hyN:y.N=σ x.N:=congrArg (fun z:Nd=>z.2.1) h.1;have g1:formB y=1:=form_one.2 hy1;refine⟨?_,?_,fun s r f f' hσ=>?_⟩
    ·rw[cntT_succ,cntT_succ,f1,g1];simp
    ·rw[berr_succ,berr_succ,f1,g1]
     rw[partE_succ,partE_succ,f1,g1];simp
    ·rw[btwC_succ,btwC_succ,if_pos f1,if_pos g1,renC_cons σ _ _ (by simp)]
     show _=(4,0,callL,3)::renC σ ([varNd x.N]++(s++r))
     rw[renC_append,renC_append,ren_var,hyN];rfl
   ·obtain⟨e1,e2⟩:=renV_root σ k1 h
    have hf:formB y=formB x:=form_nd e1;have hp:=nd_parts e1;have n1:formB x≠1:=fun h=>k1 (form_one.1 h);have hne:((4,0,x.s.toList,2):Nd).1≠1:=by simp
    by_cases f2:formB x=2
    ·obtain⟨a,b,rfl⟩:=two_kids hu (form_two f2)
     obtain⟨a',b',rfl⟩:=two_kids ht (by rw[hp.2.2.2];exact form_two f2);obtain⟨c1,c2⟩:=ren_kids2 σ hu ok ht e2;have hwk:∀z∈[a,b],Wl z:=hu.2;have hwk':∀z∈[a',b'],Wl z:=ht.2;obtain⟨p1,q1,r1⟩:=ih a (hwk a (by simp)) (hk.2 a (by simp)) a' (hwk' a' (by simp)) c1;obtain⟨p2,q2,r2⟩:=ih b (hwk b (by simp)) (hk.2 b (by simp)) b' (hwk' b' (by simp)) c2
     have hc:cntT (n:=n+1) ((x,[a,b]):TV×List (Tm n))=1+(cntT a+cntT b):=by
      rw[cntT_succ,if_pos (.inl f2)];simp
     refine⟨?_,?_,fun s r f f' hσ=>?_⟩
     ·rw[hc,cntT_succ,hf,if_pos (.inl f2)];simp[p1,p2]
     ·rw[berr_succ,berr_succ,hf,if_pos (.inl f2),if_pos (.inl f2)];simp[q1,q2]
     ·rw[hc] at hσ
      have h0:σ f=f':=by simpa using hσ 0 (by omega)
      rw[btwC_succ,btwC_succ,hf,if_neg n1,if_neg n1,if_pos f2,if_pos f2,hp.2.2.1]
      show _=renC σ ((4,0,x.s.toList,2)::(btwC a s [varNd f] (f+1)++btwC b [varNd f] r (f+1+cntT a)))
      rw[renC_cons σ _ _ hne,renC_append,←r1 s [varNd f] (f+1) (f'+1) (fun i hi=>by have:=hσ (i+1) (by omega);rw[show f+1+(i:Int)=f+((i+1:Nat):Int) by omega,this];omega),
       ←r2 [varNd f] r (f+1+cntT a) (f'+1+cntT a) (fun i hi=>by have:=hσ (i+1+cntT a) (by omega);rw[show f+1+(cntT a:Int)+(i:Int)=f+((i+1+cntT a:Nat):Int) by omega,this];omega),ren_var,h0,←p1]
    ·by_cases f3:formB x=3
     ·obtain⟨a,b,rfl⟩:=two_kids hu (form_three f3)
      obtain⟨a',b',rfl⟩:=two_kids ht (by rw[hp.2.2.2];exact form_three f3);obtain⟨c1,c2⟩:=ren_kids2 σ hu ok ht e2;have hwk:∀z∈[a,b],Wl z:=hu.2;have hwk':∀z∈[a',b'],Wl z:=ht.2;obtain⟨p1,q1,r1⟩:=ih a (hwk a (by simp)) (hk.2 a (by simp)) a' (hwk' a' (by simp)) c1;obtain⟨p2,q2,r2⟩:=ih b (hwk b (by simp)) (hk.2 b (by simp)) b' (hwk' b' (by simp)) c2
      have hc:cntT (n:=n+1) ((x,[a,b]):TV×List (Tm n))=cntT a+cntT b:=by
       rw[cntT_succ,if_neg (by omega),if_pos f3];simp
      refine⟨?_,?_,fun s r f f' hσ=>?_⟩
      ·rw[hc,cntT_succ,hf,if_neg (by omega),if_pos f3];simp[p1,p2]
      ·rw[berr_succ,berr_succ,hf,if_pos (.inr (.inl f3)),if_pos (.inr (.inl f3))];simp[q1,q2]
      ·rw[hc] at hσ
       rw[btwC_succ,btwC_succ,hf,if_neg n1,if_neg n1,if_neg f2,if_neg f2,if_pos f3,if_pos f3,hp.2.2.1]
       show _=renC σ ((4,0,x.s.toList,2)::(btwC a s r f++btwC b s r (f+cntT a)))
       rw[renC_cons σ _ _ hne,renC_append,←r1 s r f f' (fun i hi=>hσ i (by omega)),
        ←r2 s r (f+cntT a) (f'+cntT a) (fun i hi=>by have:=hσ (cntT a+i) (by omega);rw[show f+(cntT a:Int)+(i:Int)=f+((cntT a+i:Nat):Int) by omega,this];omega),←p1]
     ·by_cases f4:formB x=4
      ·obtain⟨a,rfl⟩:=one_kid hu (form_four f4)
       obtain⟨a',rfl⟩:=one_kid ht (by rw[hp.2.2.2];exact form_four f4);have c1:=ren_kids1 σ e2;have hwk:∀z∈[a],Wl z:=hu.2;have hwk':∀z∈[a'],Wl z:=ht.2;obtain⟨p1,q1,r1⟩:=ih a (hwk a (by simp)) (hk.2 a (by simp)) a' (hwk' a' (by simp)) c1
       have hc:cntT (n:=n+1) ((x,[a]):TV×List (Tm n))=1+cntT a:=by
        rw[cntT_succ,if_pos (.inr f4)];simp
       refine⟨?_,?_,fun s r f f' hσ=>?_⟩
       ·rw[hc,cntT_succ,hf,if_pos (.inr f4)];simp[p1]
       ·rw[berr_succ,berr_succ,hf,if_pos (.inr (.inr f4)),if_pos (.inr (.inr f4))];simp[q1]
       ·rw[hc] at hσ
        have h0:σ f=f':=by simpa using hσ 0 (by omega)
        rw[btwC_succ,btwC_succ,hf,if_neg n1,if_neg n1,if_neg f2,if_neg f2,if_neg f3,if_neg f3,if_pos f4,if_pos f4,hp.2.2.1]
        show _=renC σ ((4,0,[44],2)::((4,0,x.s.toList,1)::(btwC a s [varNd f] (f+1)++eqC s r)))
        rw[renC_cons σ _ _ (by simp),renC_cons σ _ _ (by simp),renC_append,ren_eq,←r1 s [varNd f] (f+1) (f'+1) (fun i hi=>by have:=hσ (i+1) (by omega);rw[show f+1+(i:Int)=f+((i+1:Nat):Int) by omega,this];omega),ren_var,h0]
      ·have hb0:¬(formB x=2∨formB x=3∨formB x=4):=by omega
       have hbod:formB x=6→(ky.all (fun u=>(bodyC u).isSome)=kids.all (fun u=>(bodyC u).isSome))∧∀s r:List Nd,curlC ky (renC σ s) (renC σ r)=renC σ (curlC kids s r):=by
        intro f6
        have hl:x.len=0∨x.len=1:=by
         unfold formB at f6
         repeat' split at f6
         all_goals first
          | omega
          | (rename_i hb;simp only[Bool.or_eq_true] at hb;rcases hb with hb | hb <;> (have:=isB_len hb;omega))
          | skip
        rcases hl with hl | hl
        ·obtain rfl:=kids_nil hu hl
         obtain rfl:=kids_nil ht (by rw[hp.2.2.2];exact hl);exact⟨rfl,fun s r=>(ren_eq σ s r).symm⟩
        ·obtain⟨a,rfl⟩:=one_kid hu hl
         obtain⟨a',rfl⟩:=one_kid ht (by rw[hp.2.2.2];exact hl);have c1:=ren_kids1 σ e2;have hwk:∀z∈[a],Wl z:=hu.2;have hwk':∀z∈[a'],Wl z:=ht.2;have hbr:=body_ren σ a (hwk a (by simp)) (hk.2 a (by simp)) a' (hwk' a' (by simp)) c1;refine⟨by simp[hbr],fun s r=>?_⟩
         show(4,0,[44],2)::((bodyC a').getD []++eqC (renC σ s) (renC σ r))=renC σ ((4,0,[44],2)::((bodyC a).getD []++eqC s r))
         rw[renC_cons σ _ _ (by simp),renC_append,ren_eq,hbr];cases bodyC a <;> rfl
       refine⟨?_,?_,fun s r f f' hσ=>?_⟩
       ·rw[cntT_succ,cntT_succ,hf,if_neg (by omega),if_neg (by omega),if_neg (by omega),if_neg (by omega)]
       ·rw[berr_succ,berr_succ,hf,if_neg hb0,if_neg hb0]
        rw[partE_succ,partE_succ,hf,hlr.1,ext_nd e1,hp.2.2.2]
        by_cases f6:formB x=6
        ·rw[(hbod f6).1]
        ·rw[if_neg f6,if_neg f6]
       ·rw[btwC_succ,btwC_succ,hf,if_neg n1,if_neg n1,if_neg f2,if_neg f2,if_neg f3,if_neg f3,if_neg f4,if_neg f4]
        by_cases f5:formB x=5
        ·rw[if_pos f5,if_pos f5,renC_cons σ _ _ (by simp),renC_append,hlr.2]
        ·rw[if_neg f5,if_neg f5]
         by_cases f6:formB x=6
         ·rw[if_pos f6,if_pos f6];exact(hbod f6).2 s r
         ·rw[if_neg f6,if_neg f6]
          by_cases f7:formB x=7
          ·rw[if_pos f7,if_pos f7,renC_cons σ _ _ (by simp),renC_cons σ _ _ (by simp),ren_eq]
          ·rw[if_neg f7,if_neg f7,renC_cons σ _ _ (by simp),renC_append,renC_append,e2,hp.2.2.1,hp.2.2.2]
end Go.Proofs.YtjbdkbaacjfecaaDoor
