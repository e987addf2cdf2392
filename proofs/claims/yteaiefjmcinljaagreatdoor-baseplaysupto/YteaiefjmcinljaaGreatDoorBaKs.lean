import Derived.Test.YteaiefjmcinljaaGreatDoorBaG
import Derived.Test.YteaiefjmcinljaaGreatDoorPs
import Derived.Test.YteaiefjmcinljaaGreatDoorOs
namespace Go.Proofs.YteaiefjmcinljaaGreatDoor
open Go.RowKit Go.Shelf
def TAns(k ns lo:Nat)(err:Int)(c:List Nd)(e:Ending)(W':World):Prop:= ∃(D:Upto k) (x:TV),e=.returned (.tuple #[x.val,.int .i64 err])∧HoldsS D.1 (Mix ns lo) W' x.val c
def CAns(k ns lo:Nat)(err:Int)(h b:List Nd)(e:Ending)(W':World):Prop:= ∃(D:Upto k) (x y:TV),e=.returned (.tuple #[clV x y,.int .i64 err])∧HoldsS D.1 (Mix ns lo) W' x.val h∧HoldsS D.1 (Mix ns lo) W' y.val b
def TYes(k ns lo:Nat)(ok:Bool)(c:List Nd)(e:Ending)(W':World):Prop:= ∃(D:Upto k) (x:TV),e=.returned (.tuple #[x.val,.bool ok])∧HoldsS D.1 (Mix ns lo) W' x.val c
def CYes(k ns lo:Nat)(ok:Bool)(h b:List Nd)(e:Ending)(W':World):Prop:= ∃(D:Upto k) (x y:TV),e=.returned (.tuple #[clV x y,.bool ok])∧HoldsS D.1 (Mix ns lo) W' x.val h∧HoldsS D.1 (Mix ns lo) W' y.val b
theorem no_shared(D ns lo:Nat)(hD:1≤D)(W:World):HoldsS D (Mix ns lo) W noTerm.val noC:=(no_holds D lo hD W).shared fun _ h=>.inr h
def orNo:Option (List Nd)→List Nd
 | some c=>c
 | none=>noC
def orNo2:Option (List Nd×List Nd)→List Nd×List Nd
 | some c=>c
 | none=>(noC,noC)
/-- Body, Make, Plain: the error and the answer (the zero term where there is none). -/
def bodyR{n:Nat}(t:Tm n):Int×List Nd:=if okT t=true then(if(bodyC t).isSome=true then 0 else 7,orNo (bodyC t)) else(2,noC)
def makeR{n:Nat}(t:Tm (n+1)):Int×List Nd×List Nd:=if okT t=true then(if(makeC t).isSome=true then 0 else 7,orNo2 (makeC t)) else(2,noC,noC)
def plainR{n:Nat}(th tb:Tm (n+1)):Int×List Nd:=
 if okT th=true∧okT tb=true then
  (if isB tb.tv trueL 0=true then(if plainE (makeC th.lift) (code th) (code tb)=0 then(0,code th) else(7,noC))
   else(if plainE (makeJ (headBad th.tv) (code th) (bodyC tb)) (code th) (code tb)=0 then(0,(4,0,[58,45],2)::(code th++code tb)) else(7,noC)))
 else(2,noC)
theorem plainE_two(r:Option (List Nd×List Nd))(h b:List Nd):plainE r h b=0∨plainE r h b=7:=by
 unfold plainE
 split
 ·split
  ·exact .inl rfl
  ·exact .inr rfl
 ·exact .inr rfl
theorem psays_ans{D ns lo:Nat}{k:Nat}(hD:1≤D)(hD2:D≤k){err:Int}{c:List Nd}{e:Ending}{W':World}(h:PSays D ns lo err c e W')(he:err=0∨err=7):TAns k ns lo (if err=0 then(0,c) else(7,noC):Int×List Nd).1 (if err=0 then(0,c) else(7,noC):Int×List Nd).2 e W':=by
 obtain⟨x,h1,h2,h3⟩:=h
 rcases he with rfl | rfl
 ·rw[if_pos rfl]
  exact⟨⟨D,hD2⟩,x,h1,h2 rfl⟩
 ·rw[if_neg (by omega)]
  obtain rfl:=h3 (by omega)
  exact⟨⟨D,hD2⟩,noTerm,h1,no_shared D ns lo hD W'⟩
theorem rplain_r{n:Nat}(th tb:Tm (n+1))(m:Int)(W:World)(hTH:IsT W.heap.size W th)(hTB:IsT W.heap.size W tb)(hl:2*((code th).length+(code tb).length+1)≤4194304)(hm:W.cell? ⟨splitLay_ren.g 1,0,none⟩=some (.int .i64 m))(hm0:splitLay_ren.g 1<W.heap.size)(hn38:n≤274877906944:=by omega):
  Calls Tryz.prog 27 #[clV th.tv tb.tv] W fun e W'=>TAns (2*n+8) W.heap.size W.heap.size (plainR th tb).1 (plainR th tb).2 e W'∧Below W.heap.size W W':=by
 unfold plainR
 cases okh:okT th with
 | false=>
  rw[if_neg (by simp)]
  refine(rplain_bad1 th tb W hTH okh).mono fun e W' h=>⟨?_,h.2⟩
  obtain⟨x,h1,-,h3⟩:=h.1
  obtain rfl:=h3 (by omega)
  exact⟨⟨1,by omega⟩,noTerm,h1,no_shared 1 _ _ (by omega) W'⟩
 | true=>
  cases okb:okT tb with
  | false=>
   rw[if_neg (by simp)]
   refine(rplain_bad2 th tb W hTH hTB okh okb).mono fun e W' h=>⟨?_,h.2⟩
   obtain⟨x,h1,-,h3⟩:=h.1
   obtain rfl:=h3 (by omega)
   exact⟨⟨1,by omega⟩,noTerm,h1,no_shared 1 _ _ (by omega) W'⟩
  | true=>
   rw[if_pos ⟨rfl,rfl⟩]
   cases hi:isB tb.tv trueL 0 with
   | true=>
    rw[if_pos rfl]
    refine(rplain_true th tb m W hTH hTB okh okb hi (by omega) hm hm0).mono fun e W' h=>⟨?_,h.2⟩
    have h1:=psays_ans (k:=2*n+8) (by omega) (by omega) h.1 (plainE_two _ _ _)
    rw[lift_code] at h1
    exact h1
   | false=>
    rw[if_neg (by simp)]
    exact(rplain_rule th tb m W hTH hTB okh okb hi hl hm hm0).mono fun e W' h=>⟨psays_ans (k:=2*n+8) (by omega) (by omega) h.1 (plainE_two _ _ _),h.2⟩
theorem none_ans{D ns lo:Nat}{W:World}{x:TV}(h:HoldsS D (Mix ns lo) W x.val noC)(w:World)(hD:D+1≤2199023255552:=by first | omega | exact upto_one _ (by omega)):Calls Tryz.prog 20 #[x.val] w fun e W'=>e=.returned (.bool true)∧Below w.heap.size w W':=by
 obtain⟨t,h1,h2,-,h4⟩:=h (D+1) (by omega) hD
 have hx:=tv_inj h1
 have hn:x.nd=(0,0,[],0):=by
  obtain⟨y,kids⟩:=t
  rw[code_succ] at h4
  have:y.nd=(0,0,[],0):=by
   unfold noC at h4
   simp only[List.cons.injEq] at h4
   exact h4.1
  rw[hx]
  exact this
 simp only[TV.nd,Prod.mk.injEq] at hn
 have hh:=none_any x w
 rw[hn.1,hn.2.1,hn.2.2.1,hn.2.2.2] at hh
 exact hh
theorem ren_one(f:Int→Int)(x:Nd)(h:x.1≠1):subN (fun N=>[varNd (f N)]) x=[x]:=if_neg h
theorem nd_one{x:TV}(h:x.k≠1):x.nd.1≠1:=h
theorem kids_nil{n:Nat}{x:TV}{kids:List (Tm n)}(hw:Wl (n:=n+1) ((x,kids):TV×List (Tm n)))(h:x.len=0):kids=[]:=by
 have:x.len=kids.length:=hw.1
 exact List.length_eq_zero_iff.1 (by omega)
theorem ren_parse(f:Int→Int):∀{n:Nat} (u:Tm n),Wl u→okT u=true→∀{m:Nat} (t:Tm m),Wl t→∀r r':List Nd,code t++r=(code u).flatMap (subN fun N=>[varNd (f N)])++r'→code t=(code u).flatMap (subN fun N=>[varNd (f N)])∧r=r':=by
 intro n
 induction n with
 | zero=>intro u;exact Empty.elim u
 | succ n ih=>
  intro u hu ok m t ht r r' h
  cases m with
  | zero=>exact Empty.elim t
  | succ m=>
   obtain⟨x,kids⟩:=u
   obtain⟨y,ky⟩:=t
   have hk:=ok_kids ok
   rw[code_succ,code_succ] at h⊢
   by_cases k1:x.k=1
   ·have hx0:x.len=0:=by
     rcases wm_cases hk.1 with⟨_,_,_,_,h⟩ | ⟨h,_⟩ | ⟨h,_⟩
     ·exact h
     ·omega
     ·omega
    obtain rfl:=kids_nil hu hx0
    have e:([x.nd]:List Nd).flatMap (subN fun N=>[varNd (f N)])=[varNd (f x.N)]:=by
     simp only[List.flatMap_cons,List.flatMap_nil,List.append_nil]
     exact if_pos k1
    rw[List.flatMap_nil,e] at h⊢
    simp only[List.cons_append,List.nil_append,List.cons.injEq] at h
    have hy0:y.len=0:=by
     have:=congrArg (fun z:Nd=>z.2.2.2) h.1
     exact this
    obtain rfl:=kids_nil ht hy0
    exact⟨by rw[h.1];rfl,by simpa using h.2⟩
   ·rw[List.flatMap_cons,ren_one f _ (nd_one k1)] at h⊢
    simp only[List.cons_append,List.nil_append,List.cons.injEq] at h⊢
    have hl:ky.length=kids.length:=by
     have h0:=congrArg (fun z:Nd=>z.2.2.2) h.1
     have h1:y.len=x.len:=h0
     have h2:x.len=kids.length:=hu.1
     have h3:y.len=ky.length:=ht.1
     omega
    have key:∀(b:List (Tm n)) (a:List (Tm m)),a.length=b.length→(∀z∈a,Wl z)→(∀z∈b,Wl z)→(∀z∈b,okT z=true)→a.flatMap code++r=(b.flatMap code).flatMap (subN fun N=>[varNd (f N)])++r'→a.flatMap code=(b.flatMap code).flatMap (subN fun N=>[varNd (f N)])∧r=r':=by
     intro b
     induction b with
     | nil=>
      intro a hl _ _ _ hh
      obtain rfl:=List.length_eq_zero_iff.1 hl
      exact⟨rfl,by simpa using hh⟩
     | cons v b ihb=>
      intro a hl ha hb ho hh
      cases a with
      | nil=>simp at hl
      | cons w a=>
       simp only[List.flatMap_cons,List.flatMap_append,List.append_assoc] at hh⊢
       obtain⟨k1,k2⟩:=ih v (hb v (by simp)) (ho v (by simp)) w (ha w (by simp)) _ _ hh
       obtain⟨k3,k4⟩:=ihb a (by simpa using hl) (fun z hz=>ha z (by simp[hz])) (fun z hz=>hb z (by simp[hz])) (fun z hz=>ho z (by simp[hz])) k2
       exact⟨by rw[k1,k3],k4⟩
    obtain⟨k1,k2⟩:=key kids ky hl ht.2 hu.2 hk.2 h.2
    exact⟨⟨h.1,k1⟩,k2⟩
theorem nd_parts{x y:TV}(h:x.nd=y.nd):x.k=y.k∧x.N=y.N∧x.s.toList=y.s.toList∧x.len=y.len:=by
 simpa only[TV.nd,Prod.mk.injEq] using h
theorem isB_nd{x y:TV}(h:x.nd=y.nd)(s:List UInt8)(n:Int):isB x s n=isB y s n:=by
 obtain⟨h1,-,h3,h4⟩:=nd_parts h
 unfold isB
 rw[h1,h3,h4]
theorem junct_nd{x y:TV}(h:x.nd=y.nd):junct x=junct y:=by
 unfold junct
 rw[isB_nd h,isB_nd h,isB_nd h]
theorem headBad_nd{x y:TV}(h:x.nd=y.nd):headBad x=headBad y:=by
 obtain⟨h1,-,h3,h4⟩:=nd_parts h
 unfold headBad
 rw[h1,h3,h4]
theorem clVars_eq(h b:List Nd):clVars h b=stepsN stpN [] (h++b):=(stepsN_append stpN [] h b).symm
theorem clRen_len(h b:List Nd):∀c:List Nd,(clRen h b c).length=c.length
 | []=>rfl
 | x::c=>by
  have e:clRen h b (x::c)=subN (renN 0 (clVars h b)) x++clRen h b c:=List.flatMap_cons ..
  have e2:(subN (renN 0 (clVars h b)) x).length=1:=by
   unfold subN
   split
   ·rfl
   ·rfl
  rw[e,List.length_append,e2,clRen_len h b c,List.length_cons]
  omega
theorem clRen_ok(h b c:List Nd)(hl:h.length+b.length≤1099511627776)(hc:c.all okM=true):(clRen h b c).all okM=true:=by
 rw[List.all_eq_true] at hc⊢
 intro y hy
 obtain⟨x,hx,hxy⟩:=List.mem_flatMap.1 hy
 unfold subN at hxy
 split at hxy
 ·have e:y=varNd (0+((clVars h b).idxOf x.2.1:Nat)):=by simpa[renN] using hxy
  have h1:=clVars_len h b
  have h2:=List.idxOf_le_length (a:=x.2.1) (l:=clVars h b)
  rw[e]
  unfold varNd okM
  simp
  omega
 ·have e:y=x:=by simpa using hxy
  rw[e]
  exact hc x hx
/-- Parts renamed. -/
def renC(f:Int→Int)(c:List Nd):List Nd:=c.flatMap (subN fun N=>[varNd (f N)])
theorem renC_cons(f:Int→Int)(x:Nd)(c:List Nd)(h:x.1≠1):renC f (x::c)=x::renC f c:=by
 unfold renC
 rw[List.flatMap_cons,ren_one f x h]
 rfl
theorem renC_append(f:Int→Int)(c d:List Nd):renC f (c++d)=renC f c++renC f d:=List.flatMap_append
theorem ren_two(f:Int→Int){n m:Nat}{u v:Tm n}{u' v':Tm m}(hu:Wl u)(oku:okT u=true)(hu':Wl u')(h:code u'++code v'=renC f (code u++code v)):code u'=renC f (code u)∧code v'=renC f (code v):=by
 rw[renC_append] at h
 obtain⟨a1,a2⟩:=ren_parse f u hu oku u' hu' _ _ h
 exact⟨a1,a2⟩
theorem var_kids{n:Nat}{x:TV}{kids:List (Tm n)}(hw:Wl (n:=n+1) ((x,kids):TV×List (Tm n)))(ok:okT (n:=n+1) ((x,kids):TV×List (Tm n))=true)(k1:x.k=1):kids=[]:=by
 have hk:=ok_kids ok
 refine kids_nil hw ?_
 rcases wm_cases hk.1 with⟨_,_,_,_,h⟩ | ⟨h,_⟩ | ⟨h,_⟩
 ·exact h
 ·omega
 ·omega
theorem two_kids{n:Nat}{x:TV}{kids:List (Tm n)}(hw:Wl (n:=n+1) ((x,kids):TV×List (Tm n)))(hl:x.len=2):∃u v,kids=[u,v]:=by
 have hl2:x.len=kids.length:=hw.1
 match kids,(show kids.length=2 by omega) with
 | [u,v],_=>exact⟨u,v,rfl⟩
theorem body_ren(f:Int→Int):∀{n:Nat} (u:Tm n),Wl u→okT u=true→∀{m:Nat} (t:Tm m),Wl t→code t=renC f (code u)→bodyC t=(bodyC u).map (renC f):=by
 intro n
 induction n with
 | zero=>intro u;exact Empty.elim u
 | succ n ih=>
  intro u hu ok m t ht h
  cases m with
  | zero=>exact Empty.elim t
  | succ m=>
   obtain⟨x,kids⟩:=u
   obtain⟨y,ky⟩:=t
   have hk:=ok_kids ok
   rw[bodyC_succ,bodyC_succ]
   by_cases k1:x.k=1
   ·obtain rfl:=var_kids hu ok k1
    have e2:subN (fun N=>[varNd (f N)]) x.nd=[varNd (f x.N)]:=if_pos k1
    have e:renC f (code (n:=n+1) ((x,[]):TV×List (Tm n)))=[varNd (f x.N)]:=by
     unfold renC
     rw[code_succ,List.flatMap_nil,List.flatMap_cons,List.flatMap_nil,e2]
     rfl
    have h2:=h
    rw[e,code_succ] at h2
    simp only[List.cons.injEq] at h2
    have hy1:y.k=1:=congrArg (fun z:Nd=>z.1) h2.1
    rw[if_pos k1,if_pos hy1,h]
    simp only[Option.map_some]
    rw[renC_cons f _ _ (by decide)]
   ·have hr:=h
    rw[code_succ,code_succ,renC_cons f _ _ (nd_one k1)] at hr
    simp only[List.cons.injEq] at hr
    have hn:=nd_parts hr.1
    rw[if_neg k1,if_neg (by rw[hn.1];exact k1)]
    by_cases k2:x.k=2
    ·rw[if_pos k2,if_pos (by rw[hn.1];exact k2)]
     rfl
    ·rw[if_neg k2,if_neg (by rw[hn.1];exact k2)]
     rw[junct_nd hr.1]
     cases hj:junct x with
     | false=>
      rw[if_neg (by simp),if_neg (by simp),h]
      rfl
     | true=>
      rw[if_pos rfl,if_pos rfl]
      have hl:=junct_len hj
      obtain⟨u,v,rfl⟩:=two_kids hu hl
      obtain⟨u',v',rfl⟩:=two_kids ht (by rw[hn.2.2.2];exact hl)
      have hwk:∀z∈[u,v],Wl z:=hu.2
      have hwk':∀z∈[u',v'],Wl z:=ht.2
      have h2:=hr.2
      simp only[List.flatMap_cons,List.flatMap_nil,List.append_nil] at h2
      obtain⟨b1,b2⟩:=ren_two f (hwk u (by simp)) (hk.2 u (by simp)) (hwk' u' (by simp)) h2
      have i1:=ih u (hwk u (by simp)) (hk.2 u (by simp)) u' (hwk' u' (by simp)) b1
      have i2:=ih v (hwk v (by simp)) (hk.2 v (by simp)) v' (hwk' v' (by simp)) b2
      simp only[List.map_cons,List.map_nil]
      rw[i1,i2,hn.2.2.1]
      cases bodyC u with
      | none=>rfl
      | some cu=>
       cases bodyC v with
       | none=>rfl
       | some cv=>
        show some _=some _
        rw[renC_cons f _ _ (by simp),renC_append]
theorem body_vars:∀{n:Nat} (u:Tm n) {c:List Nd},Wl u→bodyC u=some c→∀s:List Int,stepsN stpN s c=stepsN stpN s (code u):=by
 intro n
 induction n with
 | zero=>intro u;exact Empty.elim u
 | succ n ih=>
  intro u c hu hb s
  obtain⟨x,kids⟩:=u
  rw[bodyC_succ] at hb
  by_cases k1:x.k=1
  ·rw[if_pos k1] at hb
   cases hb
   rfl
  ·rw[if_neg k1] at hb
   by_cases k2:x.k=2
   ·rw[if_pos k2] at hb;cases hb
   ·rw[if_neg k2] at hb
    cases hj:junct x with
    | false=>
     rw[hj,if_neg (by simp)] at hb
     cases hb
     rfl
    | true=>
     rw[hj,if_pos rfl] at hb
     obtain⟨u,v,rfl⟩:=two_kids hu (junct_len hj)
     have hwk:∀z∈[u,v],Wl z:=hu.2
     simp only[List.map_cons,List.map_nil] at hb
     cases hcu:bodyC u with
     | none=>rw[hcu] at hb;cases hb
     | some cu=>
      cases hcv:bodyC v with
      | none=>rw[hcu,hcv] at hb;cases hb
      | some cv=>
       rw[hcu,hcv] at hb
       cases(show some _=some c from hb)
       rw[code_succ]
       have e1:∀(y:Nd) (l:List Nd),y.1≠1→stepsN stpN s (y::l)=stepsN stpN s l:=fun y l hy=>by
        show stepsN stpN (if y.1=1 then _ else s) l=_
        rw[if_neg hy]
       rw[e1 _ _ (by simp),e1 _ _ (nd_one k1)]
       simp only[List.flatMap_cons,List.flatMap_nil,List.append_nil]
       rw[stepsN_append,stepsN_append,ih u (hwk u (by simp)) hcu,ih v (hwk v (by simp)) hcv]
def numF(c:List Nd)(N:Int):Int:=0+((stepsN stpN [] c).idxOf N:Nat)
theorem canon_renC(c:List Nd):canon 0 c=renC (numF c) c:=rfl
theorem clRen_renC(h b c:List Nd):clRen h b c=c.flatMap (subN (renN 0 (stepsN stpN [] (h++b)))):=by rw[←clVars_eq];rfl
theorem steps_root(x:Nd)(c:List Nd)(h:x.1≠1)(s:List Int):stepsN stpN s (x::c)=stepsN stpN s c:=by
 show stepsN stpN (if x.1=1 then _ else s) c=_
 rw[if_neg h]
theorem root_ren(f:Int→Int){n m:Nat}{t:Tm (n+1)}{o:Tm (m+1)}(hw:Wl t)(ok:okT t=true)(h:code o=renC f (code t)):(t.tv.k=1∧o.tv.k=1)∨(t.tv.k≠1∧o.tv.nd=t.tv.nd):=by
 obtain⟨x,kids⟩:=t
 obtain⟨y,ky⟩:=o
 by_cases k1:x.k=1
 ·obtain rfl:=var_kids hw ok k1
  have e2:subN (fun N=>[varNd (f N)]) x.nd=[varNd (f x.N)]:=if_pos k1
  unfold renC at h
  rw[code_succ,code_succ,List.flatMap_nil,List.flatMap_cons,List.flatMap_nil,e2] at h
  simp only[List.append_nil,List.cons.injEq] at h
  exact .inl ⟨k1,congrArg (fun z:Nd=>z.1) h.1⟩
 ·rw[code_succ,code_succ,renC_cons f _ _ (nd_one k1)] at h
  simp only[List.cons.injEq] at h
  exact .inr ⟨k1,h.1⟩
theorem isB_one{x:TV}(h:x.k=1)(s:List UInt8)(n:Int):isB x s n=false:=by simp[isB,h]
theorem isB_ren(f:Int→Int){n m:Nat}{t:Tm (n+1)}{o:Tm (m+1)}(hw:Wl t)(ok:okT t=true)(h:code o=renC f (code t))(s:List UInt8)(i:Int):isB o.tv s i=isB t.tv s i:=by
 rcases root_ren f hw ok h with⟨h1,h2⟩ | ⟨_,h2⟩
 ·rw[isB_one h1,isB_one h2]
 ·exact isB_nd h2 s i
theorem headBad_one{x:TV}(h:x.k=1):headBad x=true:=by simp[headBad,h]
theorem headBad_ren(f:Int→Int){n m:Nat}{t:Tm (n+1)}{o:Tm (m+1)}(hw:Wl t)(ok:okT t=true)(h:code o=renC f (code t)):headBad o.tv=headBad t.tv:=by
 rcases root_ren f hw ok h with⟨h1,h2⟩ | ⟨_,h2⟩
 ·rw[headBad_one h1,headBad_one h2]
 ·exact headBad_nd h2
theorem make_head{n m:Nat}{t:Tm (n+1)}{o:Tm (m+1)}(hw:Wl t)(ok:okT t=true)(h:code o=canon 0 (code t))(hi:isB t.tv [58,45] 2=false):makeC t=if headBad o.tv=true then none else some (code o,atomC trueL):=by
 have hb:=headBad_ren _ hw ok (by rw[h,canon_renC])
 unfold makeC
 rw[hi,if_neg (by simp),hb]
 show(if headBad t.tv=true then none else some (clRen (code t) (atomC trueL) (code t),clRen (code t) (atomC trueL) (atomC trueL)))=_
 have e1:clRen (code t) (atomC trueL) (code t)=code o:=by
  rw[clRen_renC,stepsN_append]
  have:stepsN stpN (stepsN stpN [] (code t)) (atomC trueL)=stepsN stpN [] (code t):=steps_root _ [] (by decide) _
  rw[this,h]
  rfl
 have e2:clRen (code t) (atomC trueL) (atomC trueL)=atomC trueL:=rfl
 rw[e1,e2]
theorem make_rule{n m:Nat}{t:Tm (n+1)}{o:Tm (m+1)}(hw:Wl t)(ok:okT t=true)(hwo:Wl o)(h:code o=canon 0 (code t))(hi:isB t.tv [58,45] 2=true):
  ∃u' v',o.kids=[u',v']∧makeC t=if headBad u'.tv=true then none else(bodyC v').map fun b=>(code u',b):=by
 have hi':=isB_ren _ hw ok (by rw[h,canon_renC]) [58,45] 2
 rw[hi] at hi'
 have hl:t.tv.len=2:=by
  simp only[isB,Bool.and_eq_true,beq_iff_eq] at hi
  have:=hi.2.2;omega
 have hlo:o.tv.len=2:=by
  simp only[isB,Bool.and_eq_true,beq_iff_eq] at hi'
  have:=hi'.2.2;omega
 have k1:t.tv.k≠1:=by
  intro hk
  rw[isB_one hk] at hi
  cases hi
 obtain⟨x,kids⟩:=t
 obtain⟨y,ky⟩:=o
 obtain⟨u,v,rfl⟩:=two_kids hw hl
 obtain⟨u',v',rfl⟩:=two_kids hwo hlo
 have hk:=ok_kids ok
 have hwk:∀z∈[u,v],Wl z:=hw.2
 have hwk':∀z∈[u',v'],Wl z:=hwo.2
 have oku:=hk.2 u (by simp)
 have okv:=hk.2 v (by simp)
 refine⟨u',v',rfl,?_⟩
 have hcx:code (n:=n+1) ((x,[u,v]):TV×List (Tm n))=x.nd::(code u++code v):=by
  rw[code_succ]
  simp
 have hr:=h
 rw[canon_renC] at hr
 rw[hcx] at hr
 generalize hf:numF (x.nd::(code u++code v))=f at hr
 rw[code_succ,renC_cons f _ _ (nd_one (x:=x) k1)] at hr
 simp only[List.flatMap_cons,List.flatMap_nil,List.append_nil,List.cons.injEq] at hr
 obtain⟨b1,b2⟩:=ren_two f (hwk u (by simp)) oku (hwk' u' (by simp)) hr.2
 have hfm:∀bv,bodyC v=some bv→renN 0 (stepsN stpN [] (code u++bv))=fun N=>[varNd (f N)]:=fun bv hbv=>by
  rw[stepsN_append,body_vars v (hwk v (by simp)) hbv,←stepsN_append,←hf]
  funext N
  show _=[varNd (0+((stepsN stpN [] (x.nd::(code u++code v))).idxOf N:Nat))]
  rw[steps_root _ _ (nd_one (x:=x) k1)]
  rfl
 have hbv:=body_ren f v (hwk v (by simp)) okv v' (hwk' v' (by simp)) b2
 unfold makeC
 rw[if_pos hi]
 show makeJ (headBad u.tv) (code u) (bodyC v)=_
 cases n with
 | zero=>exact Empty.elim u
 | succ n=>
  cases m with
  | zero=>exact Empty.elim u'
  | succ m=>
   rw[headBad_ren f (hwk u (by simp)) oku b1,hbv]
   cases hc:bodyC v with
   | none=>
    show none=_
    split <;> rfl
   | some bv=>
    show(if headBad u.tv=true then none else some (clRen (code u) bv (code u),clRen (code u) bv bv))=_
    split
    ·rfl
    ·show _=some (code u',renC f bv)
     rw[clRen_renC,clRen_renC,hfm bv hc,b1]
     rfl
end Go.Proofs.YteaiefjmcinljaaGreatDoor
