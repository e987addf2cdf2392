import Derived.Test.YtjbdkbaacjfecaaDoorBaB
import Derived.Test.YtjbdkbaacjfecaaDoorBaC
import Derived.Test.YtjbdkbaacjfecaaDoorVss
import Derived.Test.YtjbdkbaacjfecaaDoorOs
import Derived.Deep.RegionHeld3
import Derived.Deep.Cut
import Derived.Test.YtjbdkbaacjfecaaDoorSs
namespace Go.Proofs.YtjbdkbaacjfecaaDoor
open Go.RowKit Go.Shelf
theorem body_fine:∀{n:Nat} {t:Tm n} {c:List Nd},Wl t→okT t=true→bodyC t=some c→c.all okM=true∧c.length≤2*(code t).length:=by
 intro n
 induction n with
 | zero=>intro t;exact Empty.elim t
 | succ n ih=>
  intro t c hw hok hb;have hok0:=hok;rw[okT_m] at hok;obtain⟨x,kids⟩:=t;rw[bodyC_succ] at hb
  by_cases k1:x.k=1
  ·rw[if_pos k1] at hb
   cases hb
   refine⟨?_,?_⟩
   ·simp only[List.all_cons,hok,Bool.and_true]
    decide +kernel
   ·have:1≤(code (n:=n+1) ((x,kids):TV×List (Tm n))).length:=by rw[code_succ];simp
    simp only[List.length_cons];omega
  ·rw[if_neg k1] at hb
   by_cases k2:x.k=2
   ·rw[if_pos k2] at hb;cases hb
   ·rw[if_neg k2] at hb
    cases hj:junct x with
    | false=>
     rw[hj,if_neg (by simp)] at hb;cases hb;exact⟨hok,by omega⟩
    | true=>
     rw[hj,if_pos rfl] at hb;have hl:=junct_len hj;have hl2:x.len=kids.length:=hw.1
     obtain⟨u,v,rfl⟩:∃u v,kids=[u,v]:=by
      match kids,(show kids.length=2 by omega) with
      | [u,v],_=>exact⟨u,v,rfl⟩
     have hk:=(ok_kids hok0).2;have hwk:∀y∈[u,v],Wl y:=hw.2;have hwm:=(ok_kids hok0).1;simp only[List.map_cons,List.map_nil] at hb;cases hu:bodyC u with
     | none=>rw[hu] at hb;cases hb
     | some cu=>
      cases hv:bodyC v with
      | none=>rw[hu,hv] at hb;cases hb
      | some cv=>
       rw[hu,hv] at hb;cases(show some _=some c from hb);obtain⟨a1,a2⟩:=ih (hwk u (by simp)) (hk u (by simp)) hu;obtain⟨b1,b2⟩:=ih (hwk v (by simp)) (hk v (by simp)) hv;have hx:okM x.nd=true:=by rw[←ok_m];exact hwm
       have hx4:x.k=4∧x.N=0:=by
        rcases wm_cases hwm with⟨h,_⟩ | ⟨_,h⟩ | ⟨h,h',_⟩
        ·omega
        ·omega
        ·exact⟨h,h'⟩
       have hx':okM (4,0,x.s.toList,2)=true:=by
        have e:x.nd=(4,0,x.s.toList,2):=by simp[TV.nd,hx4.1,hx4.2,hl]
        rw[←e];exact hx
       refine⟨by simp[hx',a1,b1],?_⟩;rw[code_succ];simp only[List.length_cons,List.length_append,List.flatMap_cons,List.flatMap_nil,List.append_nil];omega
/-- A number of storeys, no greater than k. -/
abbrev Upto(k:Nat):Type:={D:Nat // D≤k}
def TAns(k ns lo:Nat)(err:Int)(c:List Nd)(e:Ending)(W':World):Prop:= ∃(D:Upto k) (x:TV),e=.returned (.tuple #[x.val,.int .i64 err])∧HoldsS D.1 (Mix ns lo) W' x.val c
theorem no_shared(D ns lo:Nat)(hD:1≤D)(W:World):HoldsS D (Mix ns lo) W noTerm.val noC:=(no_holds D lo hD W).shared fun _ h=>.inr h
def orNo:Option (List Nd)→List Nd
 | some c=>c
 | none=>noC
/-- Body, Make, Plain: the error and the answer (the zero term where there is none). -/
def bodyR{n:Nat}(t:Tm n):Int×List Nd:=if okT t=true then(if(bodyC t).isSome=true then 0 else 7,orNo (bodyC t)) else(2,noC)
theorem none_ans{D ns lo:Nat}{W:World}{x:TV}(h:HoldsS D (Mix ns lo) W x.val noC)(w:World)(hD:D+1≤2199023255552:=by first | omega | exact upto_one _ (by omega)):Calls Tryd.prog 7 #[x.val] w fun e W'=>e=.returned (.bool true)∧Below w.heap.size w W':=by
 obtain⟨t,h1,h2,-,h4⟩:=h (D+1) (by omega) hD;have hx:=tv_inj h1
 have hn:x.nd=(0,0,[],0):=by
  obtain⟨y,kids⟩:=t;rw[code_succ] at h4
  have:y.nd=(0,0,[],0):=by
   unfold noC at h4;simp only[List.cons.injEq] at h4;exact h4.1
  rw[hx];exact this
 simp only[TV.nd,Prod.mk.injEq] at hn;have hh:=none_any x w;rw[hn.1,hn.2.1,hn.2.2.1,hn.2.2.2] at hh;exact hh
theorem ren_one(f:Int→Int)(x:Nd)(h:x.1≠1):subN (fun N=>[varNd (f N)]) x=[x]:=if_neg h
theorem nd_one{x:TV}(h:x.k≠1):x.nd.1≠1:=h
theorem kids_nil{n:Nat}{x:TV}{kids:List (Tm n)}(hw:Wl (n:=n+1) ((x,kids):TV×List (Tm n)))(h:x.len=0):kids=[]:=by
 have:x.len=kids.length:=hw.1;exact List.length_eq_zero_iff.1 (by omega)
theorem ren_parse(f:Int→Int):∀{n:Nat} (u:Tm n),Wl u→okT u=true→∀{m:Nat} (t:Tm m),Wl t→∀r r':List Nd,code t++r=(code u).flatMap (subN fun N=>[varNd (f N)])++r'→code t=(code u).flatMap (subN fun N=>[varNd (f N)])∧r=r':=by
 intro n
 induction n with
 | zero=>intro u;exact Empty.elim u
 | succ n ih=>
  intro u hu ok m t ht r r' h;cases m with
  | zero=>exact Empty.elim t
  | succ m=>
   obtain⟨x,kids⟩:=u;obtain⟨y,ky⟩:=t;have hk:=ok_kids ok;rw[code_succ,code_succ] at h⊢
   by_cases k1:x.k=1
   ·have hx0:x.len=0:=by
     rcases wm_cases hk.1 with⟨_,_,_,_,h⟩ | ⟨h,_⟩ | ⟨h,_⟩
     ·exact h
     ·omega
     ·omega
    obtain rfl:=kids_nil hu hx0
    have e:([x.nd]:List Nd).flatMap (subN fun N=>[varNd (f N)])=[varNd (f x.N)]:=by
     simp only[List.flatMap_cons,List.flatMap_nil,List.append_nil];exact if_pos k1
    rw[List.flatMap_nil,e] at h⊢;simp only[List.cons_append,List.nil_append,List.cons.injEq] at h
    have hy0:y.len=0:=by
     have:=congrArg (fun z:Nd=>z.2.2.2) h.1;exact this
    obtain rfl:=kids_nil ht hy0;exact⟨by rw[h.1];rfl,by simpa using h.2⟩
   ·rw[List.flatMap_cons,ren_one f _ (nd_one k1)] at h⊢
    simp only[List.cons_append,List.nil_append,List.cons.injEq] at h⊢
    have hl:ky.length=kids.length:=by
     have h0:=congrArg (fun z:Nd=>z.2.2.2) h.1;have h1:y.len=x.len:=h0;have h2:x.len=kids.length:=hu.1;have h3:y.len=ky.length:=ht.1;omega
    have key:∀(b:List (Tm n)) (a:List (Tm m)),a.length=b.length→(∀z∈a,Wl z)→(∀z∈b,Wl z)→(∀z∈b,okT z=true)→a.flatMap code++r=(b.flatMap code).flatMap (subN fun N=>[varNd (f N)])++r'→a.flatMap code=(b.flatMap code).flatMap (subN fun N=>[varNd (f N)])∧r=r':=by
     intro b
     induction b with
     | nil=>
      intro a hl _ _ _ hh;obtain rfl:=List.length_eq_zero_iff.1 hl;exact⟨rfl,by simpa using hh⟩
     | cons v b ihb=>
      intro a hl ha hb ho hh;cases a with
      | nil=>simp at hl
      | cons w a=>
       simp only[List.flatMap_cons,List.flatMap_append,List.append_assoc] at hh⊢;obtain⟨k1,k2⟩:=ih v (hb v (by simp)) (ho v (by simp)) w (ha w (by simp)) _ _ hh;obtain⟨k3,k4⟩:=ihb a (by simpa using hl) (fun z hz=>ha z (by simp[hz])) (fun z hz=>hb z (by simp[hz])) (fun z hz=>ho z (by simp[hz])) k2;exact⟨by rw[k1,k3],k4⟩
    obtain⟨k1,k2⟩:=key kids ky hl ht.2 hu.2 hk.2 h.2;exact⟨⟨h.1,k1⟩,k2⟩
theorem nd_parts{x y:TV}(h:x.nd=y.nd):x.k=y.k∧x.N=y.N∧x.s.toList=y.s.toList∧x.len=y.len:=by
 simpa only[TV.nd,Prod.mk.injEq] using h
theorem isB_nd{x y:TV}(h:x.nd=y.nd)(s:List UInt8)(n:Int):isB x s n=isB y s n:=by
 obtain⟨h1,-,h3,h4⟩:=nd_parts h;unfold isB;rw[h1,h3,h4]
theorem junct_nd{x y:TV}(h:x.nd=y.nd):junct x=junct y:=by
 unfold junct;rw[isB_nd h,isB_nd h,isB_nd h]
/-- Parts renamed. -/
def renC(f:Int→Int)(c:List Nd):List Nd:=c.flatMap (subN fun N=>[varNd (f N)])
theorem renC_cons(f:Int→Int)(x:Nd)(c:List Nd)(h:x.1≠1):renC f (x::c)=x::renC f c:=by
 unfold renC;rw[List.flatMap_cons,ren_one f x h];rfl
theorem renC_append(f:Int→Int)(c d:List Nd):renC f (c++d)=renC f c++renC f d:=List.flatMap_append
theorem ren_two(f:Int→Int){n m:Nat}{u v:Tm n}{u' v':Tm m}(hu:Wl u)(oku:okT u=true)(hu':Wl u')(h:code u'++code v'=renC f (code u++code v)):code u'=renC f (code u)∧code v'=renC f (code v):=by
 rw[renC_append] at h;obtain⟨a1,a2⟩:=ren_parse f u hu oku u' hu' _ _ h;exact⟨a1,a2⟩
theorem var_kids{n:Nat}{x:TV}{kids:List (Tm n)}(hw:Wl (n:=n+1) ((x,kids):TV×List (Tm n)))(ok:okT (n:=n+1) ((x,kids):TV×List (Tm n))=true)(k1:x.k=1):kids=[]:=by
 have hk:=ok_kids ok;refine kids_nil hw ?_
 rcases wm_cases hk.1 with⟨_,_,_,_,h⟩ | ⟨h,_⟩ | ⟨h,_⟩
 ·exact h
 ·omega
 ·omega
theorem two_kids{n:Nat}{x:TV}{kids:List (Tm n)}(hw:Wl (n:=n+1) ((x,kids):TV×List (Tm n)))(hl:x.len=2):∃u v,kids=[u,v]:=by
 have hl2:x.len=kids.length:=hw.1
 match kids,(show kids.length=2 by omega) with
 | [u,v],_=>exact⟨u,v,rfl⟩
theorem body_ren(f:Int→Int):∀{n:Nat} (u:Tm n),Wl u→okT u=true→∀{m:Nat} (t:Tm m),Wl t→code t=renC f (code u)→bodyC t=(bodyC u).map (renC f):=by
 intro n
 induction n with
 | zero=>intro u;exact Empty.elim u
 | succ n ih=>
  intro u hu ok m t ht h;cases m with
  | zero=>exact Empty.elim t
  | succ m=>
   obtain⟨x,kids⟩:=u;obtain⟨y,ky⟩:=t;have hk:=ok_kids ok;rw[bodyC_succ,bodyC_succ]
   by_cases k1:x.k=1
   ·obtain rfl:=var_kids hu ok k1
    have e2:subN (fun N=>[varNd (f N)]) x.nd=[varNd (f x.N)]:=if_pos k1
    have e:renC f (code (n:=n+1) ((x,[]):TV×List (Tm n)))=[varNd (f x.N)]:=by
     unfold renC;rw[code_succ,List.flatMap_nil,List.flatMap_cons,List.flatMap_nil,e2];rfl
    have h2:=h;rw[e,code_succ] at h2;simp only[List.cons.injEq] at h2;have hy1:y.k=1:=congrArg (fun z:Nd=>z.1) h2.1;rw[if_pos k1,if_pos hy1,h];simp only[Option.map_some];rw[renC_cons f _ _ (by decide)]
   ·have hr:=h
    rw[code_succ,code_succ,renC_cons f _ _ (nd_one k1)] at hr;simp only[List.cons.injEq] at hr;have hn:=nd_parts hr.1;rw[if_neg k1,if_neg (by rw[hn.1];exact k1)]
    by_cases k2:x.k=2
    ·rw[if_pos k2,if_pos (by rw[hn.1];exact k2)]
     rfl
    ·rw[if_neg k2,if_neg (by rw[hn.1];exact k2)]
     rw[junct_nd hr.1];cases hj:junct x with
     | false=>
      rw[if_neg (by simp),if_neg (by simp),h];rfl
     | true=>
      rw[if_pos rfl,if_pos rfl];have hl:=junct_len hj;obtain⟨u,v,rfl⟩:=two_kids hu hl;obtain⟨u',v',rfl⟩:=two_kids ht (by rw[hn.2.2.2];exact hl);have hwk:∀z∈[u,v],Wl z:=hu.2;have hwk':∀z∈[u',v'],Wl z:=ht.2;have h2:=hr.2;simp only[List.flatMap_cons,List.flatMap_nil,List.append_nil] at h2;obtain⟨b1,b2⟩:=ren_two f (hwk u (by simp)) (hk.2 u (by simp)) (hwk' u' (by simp)) h2;have i1:=ih u (hwk u (by simp)) (hk.2 u (by simp)) u' (hwk' u' (by simp)) b1;have i2:=ih v (hwk v (by simp)) (hk.2 v (by simp)) v' (hwk' v' (by simp)) b2;simp only[List.map_cons,List.map_nil];rw[i1,i2,hn.2.2.1];cases bodyC u with
      | none=>rfl
      | some cu=>
       cases bodyC v with
       | none=>rfl
       | some cv=>
        show some _=some _
        rw[renC_cons f _ _ (by simp),renC_append]
theorem renC_id{c:List Nd}(h:c.all okM=true):renC (fun N=>N) c=c:=by
 unfold renC
 induction c with
 | nil=>rfl
 | cons x c ih=>
  rw[List.all_cons,Bool.and_eq_true] at h;rw[List.flatMap_cons,ih h.2]
  have:subN (fun N=>[varNd N]) x=[x]:=by
   unfold subN
   split
   ·rename_i hk
    obtain⟨k,N,s,len⟩:=x;simp only at hk;subst hk;have h1:=h.1;simp[okM] at h1;simp[varNd,h1.1.2,h1.2]
   ·rfl
  rw[this];rfl
theorem body_copy{n m:Nat}{u:Tm n}{t:Tm m}(hu:Wl u)(ok:okT u=true)(ht:Wl t)(h:code t=code u):bodyC t=bodyC u:=by
 rw[body_ren (fun N=>N) u hu ok t ht (by rw[h];exact(renC_id (by rw[←okT_m];exact ok)).symm)];cases hb:bodyC u with
 | none=>rfl
 | some c=>
  show some _=some _
  rw[renC_id (body_fine hu ok hb).1]
theorem body_vars:∀{n:Nat} (u:Tm n) {c:List Nd},Wl u→bodyC u=some c→∀s:List Int,stepsN stpN s c=stepsN stpN s (code u):=by
 intro n
 induction n with
 | zero=>intro u;exact Empty.elim u
 | succ n ih=>
  intro u c hu hb s;obtain⟨x,kids⟩:=u;rw[bodyC_succ] at hb
  by_cases k1:x.k=1
  ·rw[if_pos k1] at hb
   cases hb
   rfl
  ·rw[if_neg k1] at hb
   by_cases k2:x.k=2
   ·rw[if_pos k2] at hb;cases hb
   ·rw[if_neg k2] at hb
    cases hj:junct x with
    | false=>
     rw[hj,if_neg (by simp)] at hb;cases hb;rfl
    | true=>
     rw[hj,if_pos rfl] at hb;obtain⟨u,v,rfl⟩:=two_kids hu (junct_len hj);have hwk:∀z∈[u,v],Wl z:=hu.2;simp only[List.map_cons,List.map_nil] at hb;cases hcu:bodyC u with
     | none=>rw[hcu] at hb;cases hb
     | some cu=>
      cases hcv:bodyC v with
      | none=>rw[hcu,hcv] at hb;cases hb
      | some cv=>
       rw[hcu,hcv] at hb;cases(show some _=some c from hb);rw[code_succ]
       have e1:∀(y:Nd) (l:List Nd),y.1≠1→stepsN stpN s (y::l)=stepsN stpN s l:=fun y l hy=>by
        show stepsN stpN (if y.1=1 then _ else s) l=_
        rw[if_neg hy]
       rw[e1 _ _ (by simp),e1 _ _ (nd_one k1)];simp only[List.flatMap_cons,List.flatMap_nil,List.append_nil];rw[stepsN_append,stepsN_append,ih u (hwk u (by simp)) hcu,ih v (hwk v (by simp)) hcv]
theorem root_ren(f:Int→Int){n m:Nat}{t:Tm (n+1)}{o:Tm (m+1)}(hw:Wl t)(ok:okT t=true)(h:code o=renC f (code t)):(t.tv.k=1∧o.tv.k=1)∨(t.tv.k≠1∧o.tv.nd=t.tv.nd):=by
 obtain⟨x,kids⟩:=t;obtain⟨y,ky⟩:=o
 by_cases k1:x.k=1
 ·obtain rfl:=var_kids hw ok k1
  have e2:subN (fun N=>[varNd (f N)]) x.nd=[varNd (f x.N)]:=if_pos k1;unfold renC at h;rw[code_succ,code_succ,List.flatMap_nil,List.flatMap_cons,List.flatMap_nil,e2] at h;simp only[List.append_nil,List.cons.injEq] at h;exact .inl ⟨k1,congrArg (fun z:Nd=>z.1) h.1⟩
 ·rw[code_succ,code_succ,renC_cons f _ _ (nd_one k1)] at h
  simp only[List.cons.injEq] at h;exact .inr ⟨k1,h.1⟩
theorem isB_one{x:TV}(h:x.k=1)(s:List UInt8)(n:Int):isB x s n=false:=by simp[isB,h]
theorem isB_ren(f:Int→Int){n m:Nat}{t:Tm (n+1)}{o:Tm (m+1)}(hw:Wl t)(ok:okT t=true)(h:code o=renC f (code t))(s:List UInt8)(i:Int):isB o.tv s i=isB t.tv s i:=by
 rcases root_ren f hw ok h with⟨h1,h2⟩ | ⟨_,h2⟩
 ·rw[isB_one h1,isB_one h2]
 ·exact isB_nd h2 s i
set_option maxHeartbeats 8000000
set_option maxRecDepth 100000
theorem beq_turn(a b:List UInt8):(a == b)=(b == a):=by rw[Bool.eq_iff_iff,beq_iff_eq,beq_iff_eq];exact eq_comm
theorem res0_eq(l:List UInt8)(hc:(l == [99,97,108,108])=false):resB l 0=((l == [116,114,117,101]) || ((l == [102,97,105,108]) || ((l == [33]) || ((l == [110,108]))))):=by
 have e:resB l 0=resN0.any (fun x=>x.toList == l):=by unfold resB;rw[hc];rfl
 rw[e];simp only[resN0,List.any_cons,List.any_nil,Bool.or_false];rw[show(⟨#[116,114,117,101]⟩:ByteArray).toList=[116,114,117,101] by decide +kernel,beq_turn [116,114,117,101] l];rw[show(⟨#[102,97,105,108]⟩:ByteArray).toList=[102,97,105,108] by decide +kernel,beq_turn [102,97,105,108] l];rw[show(⟨#[33]⟩:ByteArray).toList=[33] by decide +kernel,beq_turn [33] l];rw[show(⟨#[110,108]⟩:ByteArray).toList=[110,108] by decide +kernel,beq_turn [110,108] l]
theorem res1_eq(l:List UInt8)(hc:(l == [99,97,108,108])=false):resB l 1=((l == [92,43]) || ((l == [116,104,114,111,119]) || ((l == [118,97,114]) || ((l == [110,111,110,118,97,114]) || ((l == [97,116,111,109]) || ((l == [105,110,116,101,103,101,114]) || ((l == [97,116,111,109,105,99]) || ((l == [99,111,109,112,111,117,110,100]) || ((l == [99,97,108,108,97,98,108,101]) || ((l == [103,114,111,117,110,100]) || ((l == [97,115,115,101,114,116,122]) || ((l == [97,115,115,101,114,116,97]) || ((l == [114,101,116,114,97,99,116]) || ((l == [112,114,105,110,116]) || ((l == [58,45])))))))))))))))):=by
 have e:resB l 1=resN1.any (fun x=>x.toList == l):=by unfold resB;rw[hc];rfl
 rw[e];simp only[resN1,List.any_cons,List.any_nil,Bool.or_false];rw[show(⟨#[92,43]⟩:ByteArray).toList=[92,43] by decide +kernel,beq_turn [92,43] l];rw[show(⟨#[116,104,114,111,119]⟩:ByteArray).toList=[116,104,114,111,119] by decide +kernel,beq_turn [116,104,114,111,119] l];rw[show(⟨#[118,97,114]⟩:ByteArray).toList=[118,97,114] by decide +kernel,beq_turn [118,97,114] l];rw[show(⟨#[110,111,110,118,97,114]⟩:ByteArray).toList=[110,111,110,118,97,114] by decide +kernel,beq_turn [110,111,110,118,97,114] l];rw[show(⟨#[97,116,111,109]⟩:ByteArray).toList=[97,116,111,109] by decide +kernel,beq_turn [97,116,111,109] l];rw[show(⟨#[105,110,116,101,103,101,114]⟩:ByteArray).toList=[105,110,116,101,103,101,114] by decide +kernel,beq_turn [105,110,116,101,103,101,114] l];rw[show(⟨#[97,116,111,109,105,99]⟩:ByteArray).toList=[97,116,111,109,105,99] by decide +kernel,beq_turn [97,116,111,109,105,99] l];rw[show(⟨#[99,111,109,112,111,117,110,100]⟩:ByteArray).toList=[99,111,109,112,111,117,110,100] by decide +kernel,beq_turn [99,111,109,112,111,117,110,100] l];rw[show(⟨#[99,97,108,108,97,98,108,101]⟩:ByteArray).toList=[99,97,108,108,97,98,108,101] by decide +kernel,beq_turn [99,97,108,108,97,98,108,101] l];rw[show(⟨#[103,114,111,117,110,100]⟩:ByteArray).toList=[103,114,111,117,110,100] by decide +kernel,beq_turn [103,114,111,117,110,100] l];rw[show(⟨#[97,115,115,101,114,116,122]⟩:ByteArray).toList=[97,115,115,101,114,116,122] by decide +kernel,beq_turn [97,115,115,101,114,116,122] l];rw[show(⟨#[97,115,115,101,114,116,97]⟩:ByteArray).toList=[97,115,115,101,114,116,97] by decide +kernel,beq_turn [97,115,115,101,114,116,97] l];rw[show(⟨#[114,101,116,114,97,99,116]⟩:ByteArray).toList=[114,101,116,114,97,99,116] by decide +kernel,beq_turn [114,101,116,114,97,99,116] l];rw[show(⟨#[112,114,105,110,116]⟩:ByteArray).toList=[112,114,105,110,116] by decide +kernel,beq_turn [112,114,105,110,116] l];rw[show(⟨#[58,45]⟩:ByteArray).toList=[58,45] by decide +kernel,beq_turn [58,45] l]
theorem res2_eq(l:List UInt8)(hc:(l == [99,97,108,108])=false):resB l 2=((l == [44]) || ((l == [59]) || ((l == [45,62]) || ((l == [61]) || ((l == [92,61]) || ((l == [61,61]) || ((l == [92,61,61]) || ((l == [64,60]) || ((l == [64,62]) || ((l == [64,61,60]) || ((l == [64,62,61]) || ((l == [61,46,46]) || ((l == [99,111,112,121,95,116,101,114,109]) || ((l == [105,115]) || ((l == [61,58,61]) || ((l == [61,92,61]) || ((l == [60]) || ((l == [62]) || ((l == [61,60]) || ((l == [62,61]) || ((l == [97,116,111,109,95,108,101,110,103,116,104]) || ((l == [97,116,111,109,95,99,104,97,114,115]) || ((l == [108,101,110,103,116,104]) || ((l == [115,111,114,116]) || ((l == [58,45]) || ((l == [45,45,62]))))))))))))))))))))))))))):=by
 have e:resB l 2=resN2.any (fun x=>x.toList == l):=by unfold resB;rw[hc];rfl
 rw[e];simp only[resN2,List.any_cons,List.any_nil,Bool.or_false];rw[show(⟨#[44]⟩:ByteArray).toList=[44] by decide +kernel,beq_turn [44] l];rw[show(⟨#[59]⟩:ByteArray).toList=[59] by decide +kernel,beq_turn [59] l];rw[show(⟨#[45,62]⟩:ByteArray).toList=[45,62] by decide +kernel,beq_turn [45,62] l];rw[show(⟨#[61]⟩:ByteArray).toList=[61] by decide +kernel,beq_turn [61] l];rw[show(⟨#[92,61]⟩:ByteArray).toList=[92,61] by decide +kernel,beq_turn [92,61] l];rw[show(⟨#[61,61]⟩:ByteArray).toList=[61,61] by decide +kernel,beq_turn [61,61] l];rw[show(⟨#[92,61,61]⟩:ByteArray).toList=[92,61,61] by decide +kernel,beq_turn [92,61,61] l];rw[show(⟨#[64,60]⟩:ByteArray).toList=[64,60] by decide +kernel,beq_turn [64,60] l];rw[show(⟨#[64,62]⟩:ByteArray).toList=[64,62] by decide +kernel,beq_turn [64,62] l];rw[show(⟨#[64,61,60]⟩:ByteArray).toList=[64,61,60] by decide +kernel,beq_turn [64,61,60] l];rw[show(⟨#[64,62,61]⟩:ByteArray).toList=[64,62,61] by decide +kernel,beq_turn [64,62,61] l];rw[show(⟨#[61,46,46]⟩:ByteArray).toList=[61,46,46] by decide +kernel,beq_turn [61,46,46] l];rw[show(⟨#[99,111,112,121,95,116,101,114,109]⟩:ByteArray).toList=[99,111,112,121,95,116,101,114,109] by decide +kernel,beq_turn [99,111,112,121,95,116,101,114,109] l];rw[show(⟨#[105,115]⟩:ByteArray).toList=[105,115] by decide +kernel,beq_turn [105,115] l];rw[show(⟨#[61,58,61]⟩:ByteArray).toList=[61,58,61] by decide +kernel,beq_turn [61,58,61] l];rw[show(⟨#[61,92,61]⟩:ByteArray).toList=[61,92,61] by decide +kernel,beq_turn [61,92,61] l];rw[show(⟨#[60]⟩:ByteArray).toList=[60] by decide +kernel,beq_turn [60] l];rw[show(⟨#[62]⟩:ByteArray).toList=[62] by decide +kernel,beq_turn [62] l];rw[show(⟨#[61,60]⟩:ByteArray).toList=[61,60] by decide +kernel,beq_turn [61,60] l];rw[show(⟨#[62,61]⟩:ByteArray).toList=[62,61] by decide +kernel,beq_turn [62,61] l];rw[show(⟨#[97,116,111,109,95,108,101,110,103,116,104]⟩:ByteArray).toList=[97,116,111,109,95,108,101,110,103,116,104] by decide +kernel,beq_turn [97,116,111,109,95,108,101,110,103,116,104] l];rw[show(⟨#[97,116,111,109,95,99,104,97,114,115]⟩:ByteArray).toList=[97,116,111,109,95,99,104,97,114,115] by decide +kernel,beq_turn [97,116,111,109,95,99,104,97,114,115] l];rw[show(⟨#[108,101,110,103,116,104]⟩:ByteArray).toList=[108,101,110,103,116,104] by decide +kernel,beq_turn [108,101,110,103,116,104] l];rw[show(⟨#[115,111,114,116]⟩:ByteArray).toList=[115,111,114,116] by decide +kernel,beq_turn [115,111,114,116] l];rw[show(⟨#[58,45]⟩:ByteArray).toList=[58,45] by decide +kernel,beq_turn [58,45] l];rw[show(⟨#[45,45,62]⟩:ByteArray).toList=[45,45,62] by decide +kernel,beq_turn [45,45,62] l]
theorem res3_eq(l:List UInt8)(hc:(l == [99,97,108,108])=false):resB l 3=((l == [99,97,116,99,104]) || ((l == [102,105,110,100,97,108,108]) || ((l == [99,111,109,112,97,114,101]) || ((l == [102,117,110,99,116,111,114]) || ((l == [97,114,103]) || ((l == [98,101,116,119,101,101,110]))))))):=by
 have e:resB l 3=resN3.any (fun x=>x.toList == l):=by unfold resB;rw[hc];rfl
 rw[e];simp only[resN3,List.any_cons,List.any_nil,Bool.or_false];rw[show(⟨#[99,97,116,99,104]⟩:ByteArray).toList=[99,97,116,99,104] by decide +kernel,beq_turn [99,97,116,99,104] l];rw[show(⟨#[102,105,110,100,97,108,108]⟩:ByteArray).toList=[102,105,110,100,97,108,108] by decide +kernel,beq_turn [102,105,110,100,97,108,108] l];rw[show(⟨#[99,111,109,112,97,114,101]⟩:ByteArray).toList=[99,111,109,112,97,114,101] by decide +kernel,beq_turn [99,111,109,112,97,114,101] l];rw[show(⟨#[102,117,110,99,116,111,114]⟩:ByteArray).toList=[102,117,110,99,116,111,114] by decide +kernel,beq_turn [102,117,110,99,116,111,114] l];rw[show(⟨#[97,114,103]⟩:ByteArray).toList=[97,114,103] by decide +kernel,beq_turn [97,114,103] l];rw[show(⟨#[98,101,116,119,101,101,110]⟩:ByteArray).toList=[98,101,116,119,101,101,110] by decide +kernel,beq_turn [98,101,116,119,101,101,110] l]
theorem bres_0(s:ByteArray)(w:World)(hc:(s.toList == [99,97,108,108])=false):
  Calls Tryd.prog 51 #[.string s,.int .i64 0] w fun e W'=>e=.returned (.bool (resB s.toList 0))∧Below w.heap.size w W':=by
 rw[res0_eq _ hc];go_enter Tryd.func51,Tryd.ntmps51
 go_wp2
 all_goals go_ret
 all_goals refine⟨?_,Below.refl _ _⟩
 all_goals simp_all
theorem bres_1(s:ByteArray)(w:World)(hc:(s.toList == [99,97,108,108])=false):
  Calls Tryd.prog 51 #[.string s,.int .i64 1] w fun e W'=>e=.returned (.bool (resB s.toList 1))∧Below w.heap.size w W':=by
 rw[res1_eq _ hc];go_enter Tryd.func51,Tryd.ntmps51
 go_wp2
 all_goals go_ret
 all_goals refine⟨?_,Below.refl _ _⟩
 all_goals simp_all
theorem bres_2(s:ByteArray)(w:World)(hc:(s.toList == [99,97,108,108])=false):
  Calls Tryd.prog 51 #[.string s,.int .i64 2] w fun e W'=>e=.returned (.bool (resB s.toList 2))∧Below w.heap.size w W':=by
 rw[res2_eq _ hc];go_enter Tryd.func51,Tryd.ntmps51
 go_wp2
 all_goals go_ret
 all_goals refine⟨?_,Below.refl _ _⟩
 all_goals simp_all
theorem bres_3(s:ByteArray)(w:World)(hc:(s.toList == [99,97,108,108])=false):
  Calls Tryd.prog 51 #[.string s,.int .i64 3] w fun e W'=>e=.returned (.bool (resB s.toList 3))∧Below w.heap.size w W':=by
 rw[res3_eq _ hc];go_enter Tryd.func51,Tryd.ntmps51
 go_wp2
 all_goals go_ret
 all_goals refine⟨?_,Below.refl _ _⟩
 all_goals simp_all
theorem bres_call(s:ByteArray)(n:Int)(w:World)(hc:(s.toList == [99,97,108,108])=true):
  Calls Tryd.prog 51 #[.string s,.int .i64 n] w fun e W'=>e=.returned (.bool (resB s.toList n))∧Below w.heap.size w W':=by
 have e:resB s.toList n=(decide (1≤n) && decide (n≤8)):=by unfold resB;rw[hc];rfl
 rw[e];clear e;go_enter Tryd.func51,Tryd.ntmps51
 go_wp2
 all_goals go_ret
 all_goals refine⟨?_,Below.refl _ _⟩
 all_goals first | (simp_all;done) | (simp_all;omega)
theorem bres_far(s:ByteArray)(n:Int)(w:World)(hc:(s.toList == [99,97,108,108])=false)(h0:(n == 0)=false)(h1:(n == 1)=false)(h2:(n == 2)=false)(h3:(n == 3)=false):
  Calls Tryd.prog 51 #[.string s,.int .i64 n] w fun e W'=>e=.returned (.bool (resB s.toList n))∧Below w.heap.size w W':=by
 have e:resB s.toList n=false:=by
  unfold resB;rw[hc,if_neg (by simp),if_neg (by simpa using h0),if_neg (by simpa using h1),if_neg (by simpa using h2),if_neg (by simpa using h3)]
 rw[e];clear e;go_enter Tryd.func51,Tryd.ntmps51
 go_wp2
 all_goals go_ret
 all_goals refine⟨?_,Below.refl _ _⟩
 all_goals simp_all
theorem bres_any(s:ByteArray)(n:Int)(w:World):
  Calls Tryd.prog 51 #[.string s,.int .i64 n] w fun e W'=>e=.returned (.bool (resB s.toList n))∧Below w.heap.size w W':=by
 cases hc:(s.toList == [99,97,108,108]) with
 | true=>exact bres_call s n w hc
 | false=>
  by_cases h0:n=0
  ·subst h0;exact bres_0 s w hc
  ·by_cases h1:n=1
   ·subst h1;exact bres_1 s w hc
   ·by_cases h2:n=2
    ·subst h2;exact bres_2 s w hc
    ·by_cases h3:n=3
     ·subst h3;exact bres_3 s w hc
     ·exact bres_far s n w hc (by simpa using h0) (by simpa using h1) (by simpa using h2) (by simpa using h3)
set_option maxHeartbeats 1000000
/-- A compound of a name with two Args? -/
def isC(x:TV)(s:List UInt8):Bool:=decide (x.k=4) && (decide (x.s.toList=s) && ((x.len:Int) == 2))
theorem isC_isB{x:TV}(h:wmB x.k x.N x.s x.len=true)(s:List UInt8):isC x s=isB x s 2:=by
 unfold isC isB
 by_cases k4:x.k=4
 ·simp[k4]
 ·have:(x.len:Int) == 2→x.k≠3:=fun hl hk=>by
   rcases wm_cases h with⟨h1,_⟩ | ⟨_,h1⟩ | ⟨h1,_⟩
   ·omega
   ·rw[h1] at hl;simp at hl
   ·exact k4 h1
  by_cases k3:x.k=3
  ·have hl:((x.len:Int) == 2)=false:=by
    cases he:((x.len:Int) == 2) with
    | false=>rfl
    | true=>exact(this he k3).elim
   simp[hl,k4]
  ·simp[k3,k4]
theorem isOfTwo_any(x:TV)(s:ByteArray)(w:World):Calls Tryd.prog 77 #[x.val,.string s] w fun e W'=>e=.returned (.bool (isC x s.toList))∧Below w.heap.size w W':=by
 obtain⟨k,N,xs,a,len,cap⟩:=x;simp only[TV.val]
 by_cases h4:k=4
 ·subst h4
  go_enter Tryd.func77,Tryd.ntmps77
  go_wp2
  all_goals go_ret
  all_goals refine⟨?_,(Below.refl _ w).alloc (Nat.le_refl _) _⟩
  all_goals simp_all [isC]
 ·have h4':(k == 4)=false:=by simp[h4]
  have HV:Hid (isC ⟨k,N,xs,a,len,cap⟩ s.toList=false):=by show isC _ _=_;simp[isC,h4]
  clear h4;go_enter Tryd.func77,Tryd.ntmps77
  go_wp2
  all_goals go_ret
  all_goals exact⟨by rw[HV.out];rfl,(Below.refl _ w).alloc (Nat.le_refl _) _⟩
end Go.Proofs.YtjbdkbaacjfecaaDoor
