import Derived.Test.YteaiefjmcinljaaGreatDoorBeHs
import Derived.Test.YteaiefjmcinljaaGreatDoorBdWs
import Derived.Shelf.Sort.Plain
import Derived.Test.YteaiefjmcinljaaGreatDoorProg
import Derived.Shelf.Slices.In.SortNone
namespace Go.Proofs.YteaiefjmcinljaaGreatDoor
open Go.RowKit Go.Shelf Go.Maps
theorem off_pls{n:Nat}{H:List (Hd n)}{j:Nat}{d:Hd n}(hd:H[j]?=some d):(offAt H j d).map Hd.pl=H.map Hd.pl:=by
 unfold offAt
 apply List.ext_getElem?
 intro i
 simp only[List.getElem?_map,List.getElem?_set]
 by_cases e:j=i
 ·subst e
  rw[if_pos rfl,hd,if_pos (List.getElem?_eq_some_iff.1 hd).1]
  rfl
 ·rw[if_neg e]
theorem pair_map{n:Nat}{R:Int→Int→Prop}{H:List (Hd n)}:H.Pairwise (fun a b=>R a.pl b.pl)↔(H.map Hd.pl).Pairwise R:=by
 rw[List.pairwise_map]
theorem off_filter{n:Nat}:∀{H:List (Hd n)} {j:Nat} {d:Hd n},H.Pairwise (fun a b=>a.pl<b.pl)→H[j]?=some d→(offAt H j d).filter (·.on)=(H.filter (·.on)).filter fun x=>decide (x.pl≠d.pl):=by
 intro H
 induction H with
 | nil=>intro j d _ h;simp at h
 | cons x H ih=>
  intro j d hs hd
  rw[List.pairwise_cons] at hs
  cases j with
  | zero=>
   simp at hd
   subst hd
   have h1:∀y∈H.filter (·.on),decide (y.pl≠x.pl)=true:=fun y hy=>by
    have:=hs.1 y (List.mem_filter.1 hy).1
    simp
    omega
   show(({x with on:=false}:Hd n)::H).filter (·.on)=_
   rw[List.filter_cons_of_neg (by simp)]
   cases ho:x.on
   ·rw[List.filter_cons_of_neg (by simp[ho]),List.filter_eq_self.2 h1]
   ·rw[List.filter_cons_of_pos (by simp[ho]),List.filter_cons_of_neg (by simp),List.filter_eq_self.2 h1]
  | succ j=>
   have hd':H[j]?=some d:=by simpa using hd
   have hlt:=hs.1 d (List.mem_of_getElem? hd')
   have h2:=ih hs.2 hd'
   show(x::offAt H j d).filter (·.on)=_
   cases ho:x.on
   ·rw[List.filter_cons_of_neg (by simp[ho]),List.filter_cons_of_neg (by simp[ho]),h2]
   ·rw[List.filter_cons_of_pos (by simp[ho]),List.filter_cons_of_pos (by simp[ho]),List.filter_cons_of_pos (by simp;omega),h2]
theorem Both.rem{n:Nat}{laid:Int}{E E':List En}{H H':List (Hd n)}{id r r':Int}(h:Both laid E H)(hE:RemIs E id r E')(hH:RemH H id r' H'):r=r'∧Both laid E' H':=by
 unfold RemIs at hE
 cases hf:E.find? (fun e=>decide (max e.pl (-e.pl)=id)) with
 | none=>
  rw[hf] at hE
  obtain⟨rfl,rfl⟩:=hE
  cases hH with
  | no _=>exact⟨rfl,h⟩
  | yes j d hd hh _=>
   exfalso
   simp only[hitB,Bool.and_eq_true,beq_iff_eq] at hh
   have h1:d.say∈(H.filter (·.on)).map Hd.say:=List.mem_map.2 ⟨d,List.mem_filter.2 ⟨List.mem_of_getElem? hd,hh.2⟩,rfl⟩
   rw[←h.says] at h1
   obtain⟨e,he,e1⟩:=List.mem_map.1 h1
   have hp:e.pl=d.pl:=congrArg (·.1) e1
   rw[List.find?_eq_none] at hf
   have:=hf e he
   simp only[decide_eq_true_eq] at this
   apply this
   rw[hp]
   exact hh.1
 | some x=>
  rw[hf] at hE
  obtain⟨rfl,rfl⟩:=hE
  have hx:x∈E:=List.mem_of_find?_eq_some hf
  have hxi:max x.pl (-x.pl)=id:=by simpa using List.find?_some hf
  obtain⟨d0,hd0,on0,pl0,-⟩:=h.pl_of hx
  cases hH with
  | no hno=>
   exfalso
   have:=List.any_eq_true.2 ⟨d0,hd0,show hitB id d0=true by simp[hitB,on0,Hd.id,pl0,hxi]⟩
   rw[hno] at this
   cases this
  | yes j d hd hh _=>
   refine⟨rfl,?_⟩
   simp only[hitB,Bool.and_eq_true,beq_iff_eq] at hh
   have hdm:=List.mem_of_getElem? hd
   have hpl:d.pl=x.pl:=by
    have h1:max d.pl (-d.pl)=max x.pl (-x.pl):=by rw[hxi];exact hh.1
    by_cases e:d.pl=x.pl
    ·exact e
    ·exfalso
     have h2:d.pl= -x.pl:=by omega
     have h0:=(h.pls d hdm).1
     have key:∀(a b:Hd n),a∈H→b∈H→a.pl= -b.pl→a.pl=b.pl:=by
      intro a b ha hb hab
      obtain⟨i,hi⟩:=List.mem_iff_getElem?.1 ha
      obtain⟨k,hk⟩:=List.mem_iff_getElem?.1 hb
      obtain⟨hil,hi'⟩:=List.getElem?_eq_some_iff.1 hi
      obtain⟨hkl,hk'⟩:=List.getElem?_eq_some_iff.1 hk
      have hp:=List.pairwise_iff_getElem.1 h.ids
      rcases Nat.lt_trichotomy i k with hlt | heq | hgt
      ·have:=hp i k hil hkl hlt
       rw[hi',hk'] at this
       exact(this hab).elim
      ·subst heq
       rw[hi'] at hk'
       rw[hk']
      ·have:=hp k i hkl hil hgt
       rw[hi',hk'] at this
       exact(this (by omega)).elim
     have:=key d d0 hdm hd0 (by omega)
     omega
   have hm:=off_pls hd
   have hlen:(offAt H j d).length=H.length:=by simp[offAt]
   refine⟨by rw[hlen];exact h.len,?_,?_,fun y hy=>?_,?_⟩
   ·rw[off_filter h.srt hd,hpl]
    have e1:(delE E x.pl).map En.say=(E.map En.say).filter fun s=>decide (s.1≠x.pl):=by
     unfold delE
     rw[List.filter_map]
     rfl
    rw[e1,h.says,List.filter_map]
    rfl
   ·rw[pair_map (R:=(· < ·)),hm,←pair_map]
    exact h.srt
   ·have h1:y.pl∈(offAt H j d).map Hd.pl:=List.mem_map.2 ⟨y,hy,rfl⟩
    rw[hm] at h1
    obtain⟨z,hz,e⟩:=List.mem_map.1 h1
    rw[←e]
    exact h.pls z hz
   ·rw[pair_map (R:=fun a b=>a≠ -b),hm,←pair_map]
    exact h.ids
/-- The first parts of two terms, by what View looks at. -/
def firstB{n:Nat}(g h:Tm (n+1)):Bool:=match g.kids,h.kids with
 | x::_,y::_=>decide (x.tv.k=1) || (decide (y.tv.k=1) || (decide (x.tv.k=y.tv.k∧x.tv.N=y.tv.N∧x.tv.s.toList=y.tv.s.toList) && ((x.tv.len:Int) == y.tv.len)))
 | _,_=>true
/-- Does View give it? -/
def viewB{n:Nat}(g:Tm (n+1))(d:Hd n):Bool:=d.on && (isB d.th.tv g.tv.s.toList g.tv.len && firstB g d.th)
theorem okM_key{x:Nd}(h:okM x=true)(hn: -9223372036854775808≤x.2.1∧x.2.1≤9223372036854775807):KeyW x∧x.1≠0:=by
 obtain⟨k,N,s,len⟩:=x
 unfold okM at h
 unfold KeyW maxLen
 simp only at h hn⊢
 split at h
 ·subst_vars
  simp at h
  obtain⟨⟨h1,rfl⟩,h3⟩:=h
  subst_vars
  refine⟨⟨⟨by omega,by omega⟩,hn,by simp,by omega⟩,by omega⟩
 ·split at h
  ·subst_vars
   simp at h
   obtain⟨rfl,h3⟩:=h
   subst_vars
   exact⟨⟨⟨by omega,by omega⟩,hn,by simp,by omega⟩,by omega⟩
  ·split at h
   ·subst_vars
    simp at h
    exact⟨⟨⟨by omega,by omega⟩,hn,by omega,by omega⟩,by omega⟩
   ·simp at h
    exact⟨⟨⟨by omega,by omega⟩,hn,by omega,by omega⟩,by omega⟩
theorem kid_code{n:Nat}(u:Tm n)(r:List (Tm n)):∃c,(u::r).flatMap code=u.tv.nd::c:=by
 cases n with
 | zero=>exact Empty.elim u
 | succ n=>exact⟨u.kids.flatMap code++r.flatMap code,by rw[List.flatMap_cons,code_kids u,List.cons_append]⟩
theorem first_is{n:Nat}(t:Tm (n+1))(hw:Wl t)(hok:(code t).all okM=true)(hn:numC (code t)):FirstIs (code t):=by
 have h1:t.tv.len=t.kids.length:=hw.1
 have hall:=List.all_eq_true.1 hok
 rw[code_kids t] at hall hn⊢
 refine⟨(okM_key (hall _ (by simp)) (hn _ (by simp))).1,fun h0=>?_,fun h0=>?_⟩
 ·have h2:t.kids=[]:=List.length_eq_zero_iff.1 (by rw[←h1];exact h0)
  rw[h2]
  rfl
 ·cases hk:t.kids with
  | nil=>rw[hk] at h1;exact(h0 h1).elim
  | cons u r=>
   rw[hk] at hall hn
   obtain⟨c,hc⟩:=kid_code u r
   rw[hc] at hall hn⊢
   have h3:=okM_key (hall u.tv.nd (by simp)) (hn u.tv.nd (by simp))
   exact⟨u.tv.nd,c,rfl,h3.1,h3.2⟩
theorem view_thr{n:Nat}(g:Tm (n+1))(d:Hd n)(wg:Wl g)(wd:Wl d.th)(hg:FirstIs (code g))(hd:FirstIs (code d.th))(hk:d.th.tv.k=3∨d.th.tv.k=4):viewB g d=true↔d.on=true∧Thr (code g) (code d.th):=by
 rw[thr_iff hg hd]
 unfold viewB
 rw[Bool.and_eq_true]
 refine and_congr Iff.rfl ?_
 have w1:g.tv.len=g.kids.length:=wg.1
 have w2:d.th.tv.len=d.th.kids.length:=wd.1
 have hkb:(decide (d.th.tv.k=3) || decide (d.th.tv.k=4))=true:=by simpa using hk
 rw[←Bool.eq_iff_iff,code_kids g,code_kids d.th]
 unfold isB thrB
 simp only[hkb,Bool.true_and,TV.nd]
 by_cases e1:d.th.tv.s.toList=g.tv.s.toList
 ·by_cases e2:d.th.tv.len=g.tv.len
  ·have e3:((d.th.tv.len:Int) == (g.tv.len:Int))=true:=by simp[e2]
   rw[e3]
   simp only[e1,e2,decide_true,Bool.true_and]
   unfold firstB
   cases kg:g.kids with
   | nil=>simp
   | cons x rg=>
    cases kh:d.th.kids with
    | nil=>
     rw[kg] at w1
     rw[kh] at w2
     simp at w1 w2
     omega
    | cons y rh=>
     obtain⟨c1,h1⟩:=kid_code x rg
     obtain⟨c2,h2⟩:=kid_code y rh
     rw[h1,h2]
     have h0:¬g.tv.len=0:=by rw[kg] at w1;simp at w1;omega
     rw[Bool.eq_iff_iff]
     simp only[Bool.or_eq_true,Bool.and_eq_true,decide_eq_true_eq,beq_iff_eq,TV.nd,Prod.mk.injEq]
     constructor
     ·rintro(h | h | ⟨⟨a,b,c⟩,e⟩)
      ·exact .inr (.inl (decide_eq_true h))
      ·exact .inr (.inr (.inl (decide_eq_true h)))
      ·exact .inr (.inr (.inr ⟨a,b,c,by omega⟩))
     ·rintro(h | h | h | ⟨a,b,c,e⟩)
      ·exact(h0 (of_decide_eq_true h)).elim
      ·exact .inl (of_decide_eq_true h)
      ·exact .inr (.inl (of_decide_eq_true h))
      ·exact .inr (.inr ⟨⟨a,b,c⟩,by omega⟩)
  ·have e3:((d.th.tv.len:Int) == (g.tv.len:Int))=false:=by simp;omega
   rw[e3]
   simp[e2]
 ·simp[e1]
theorem Both.view{n:Nat}{laid:Int}{E:List En}{H:List (Hd n)}(h:Both laid E H)(g:Tm (n+1))(wg:Wl g)(hg:FirstIs (code g))(hH:∀d∈H,Wl d.th∧FirstIs (code d.th)∧(d.th.tv.k=3∨d.th.tv.k=4)):(thrE E (code g)).map En.say=(H.filter (viewB g)).map Hd.say:=by
 classical
 have e1:(thrE E (code g)).map En.say=(E.map En.say).filter fun s=>decide (Thr (code g) s.2.1):=by
  unfold thrE
  rw[List.filter_map]
  rfl
 rw[e1,h.says,List.filter_map,List.filter_filter]
 congr 1
 apply List.filter_congr
 intro d hd
 have h1:=hH d hd
 have h2:=view_thr g d wg h1.1 hg h1.2.1 h1.2.2
 rw[Bool.eq_iff_iff,h2]
 simp[Hd.say,Function.comp,and_comm]
 exact fun _=>decide_eq_true_iff
def sortInt_ren:Go.Shelf.Ren:=⟨fun | 189=>21 | 125=>37 | 257=>36 | 128=>61 | 129=>62 | 294=>52 | 295=>53 | 296=>54 | 297=>55 | 298=>56 | 299=>57 | 216=>58 | 300=>59 | 301=>60 | 328=>80 | 329=>81 | 330=>82 | 331=>83 | 332=>84 | 215=>85 | 343=>101 | n=>n,fun | 28=>40 | 3=>3 | 46=>97 | 0=>0 | 51=>131 | 53=>133 | 4=>4 | 183=>123 | 182=>122 | 131=>128 | 5=>5 | 9=>9 | 218=>155 | 222=>159 | 228=>180 | 229=>181 | n=>n,fun | n=>n⟩
theorem sortInt:Go.Proofs.Lays.n189 Tryz.prog sortInt_ren:={
 mixed:=by kernel_rfl
 f125:=Tryz.func37.trans (congrArg some (by kernel_rfl))
 f128:=Tryz.func61.trans (congrArg some (by kernel_rfl))
 f129:=Tryz.func62.trans (congrArg some (by kernel_rfl))
 f189:=Tryz.func21.trans (congrArg some (by kernel_rfl))
 f215:=Tryz.func85.trans (congrArg some (by kernel_rfl))
 f216:=Tryz.func58.trans (congrArg some (by kernel_rfl))
 f257:=Tryz.func36.trans (congrArg some (by kernel_rfl))
 f294:=Tryz.func52.trans (congrArg some (by kernel_rfl))
 f295:=Tryz.func53.trans (congrArg some (by kernel_rfl))
 f296:=Tryz.func54.trans (congrArg some (by kernel_rfl))
 f297:=Tryz.func55.trans (congrArg some (by kernel_rfl))
 f298:=Tryz.func56.trans (congrArg some (by kernel_rfl))
 f299:=Tryz.func57.trans (congrArg some (by kernel_rfl))
 f300:=Tryz.func59.trans (congrArg some (by kernel_rfl))
 f301:=Tryz.func60.trans (congrArg some (by kernel_rfl))
 f328:=Tryz.func80.trans (congrArg some (by kernel_rfl))
 f329:=Tryz.func81.trans (congrArg some (by kernel_rfl))
 f330:=Tryz.func82.trans (congrArg some (by kernel_rfl))
 f331:=Tryz.func83.trans (congrArg some (by kernel_rfl))
 f332:=Tryz.func84.trans (congrArg some (by kernel_rfl))
 f343:=Tryz.func101.trans (congrArg some (by kernel_rfl))
 t0:=Tryz.underlying0
 a0:=Tryz.isAgg0
 z0:=Tryz.sizeOf0
 v0:=Tryz.zeroValue0
 t3:=Tryz.underlying3
 a3:=Tryz.isAgg3
 z3:=Tryz.sizeOf3
 v3:=Tryz.zeroValue3
 t4:=Tryz.underlying4
 a4:=Tryz.isAgg4
 z4:=Tryz.sizeOf4
 v4:=Tryz.zeroValue4
 t5:=Tryz.underlying5
 a5:=Tryz.isAgg5
 z5:=Tryz.sizeOf5
 v5:=Tryz.zeroValue5
 t9:=Tryz.underlying9
 a9:=Tryz.isAgg9
 z9:=Tryz.sizeOf9
 v9:=Tryz.zeroValue9
 t28:=Tryz.underlying40
 a28:=Tryz.isAgg40
 z28:=Tryz.sizeOf40
 v28:=Tryz.zeroValue40
 t46:=Tryz.underlying97
 a46:=Tryz.isAgg97
 z46:=Tryz.sizeOf97
 v46:=Tryz.zeroValue97
 t51:=Tryz.underlying131
 a51:=Tryz.isAgg131
 z51:=Tryz.sizeOf131
 v51:=Tryz.zeroValue131
 t53:=Tryz.underlying133
 a53:=Tryz.isAgg133
 z53:=Tryz.sizeOf133
 v53:=Tryz.zeroValue133
 t131:=Tryz.underlying128
 a131:=Tryz.isAgg128
 z131:=Tryz.sizeOf128
 v131:=Tryz.zeroValue128
 t182:=Tryz.underlying122
 a182:=Tryz.isAgg122
 z182:=Tryz.sizeOf122
 v182:=Tryz.zeroValue122
 t183:=Tryz.underlying123
 a183:=Tryz.isAgg123
 z183:=Tryz.sizeOf123
 v183:=Tryz.zeroValue123
 t218:=Tryz.underlying155
 a218:=Tryz.isAgg155
 z218:=Tryz.sizeOf155
 v218:=Tryz.zeroValue155
 t222:=Tryz.underlying159
 a222:=Tryz.isAgg159
 z222:=Tryz.sizeOf159
 v222:=Tryz.zeroValue159
 t228:=Tryz.underlying180
 a228:=Tryz.isAgg180
 z228:=Tryz.sizeOf180
 v228:=Tryz.zeroValue180
 t229:=Tryz.underlying181
 a229:=Tryz.isAgg181
 z229:=Tryz.sizeOf181
 v229:=Tryz.zeroValue181
}
open Go.Sort
def srtI(ns:List Int):List Int:=ns.mergeSort fun x y=>decide (x≤y)
theorem srtI_len(ns:List Int):(srtI ns).length=ns.length:=List.length_mergeSort ns
theorem sort_own{lo:Nat}(v:Value)(ns:List Int)(W:World)(h:OwnI lo W v ns)(hl:ns.length≤4194304):
  Calls Tryz.prog 21 #[v] W fun e W'=>e=.returned (.tuple #[])∧OwnI lo W' v (srtI ns)∧GrB (fun k=>v.ownBlock=some k) W.heap.size W W':=by
 rcases h.2 with⟨rfl,h0⟩ | ⟨g,cap,cur,rfl,hg,hb,hc1,hc2,hc3,htk⟩
 ·have hn:ns=[]:=List.length_eq_zero_iff.1 h0
  subst hn
  refine(Any.slices_Sort_int_none sortInt none 0 W).mono ?_
  rintro e W' ⟨rfl,rfl⟩
  exact⟨rfl,by simpa[srtI] using h,GrB.refl _ _ _⟩
 ·have hgl:g<W.heap.size:=(Array.getElem?_eq_some_iff.1 hb).1
  have hcell:∀j N,ns[j]?=some N→cur[j]?=some (Value.int .i64 N):=fun j N hj=>by
   have hjl:=(List.getElem?_eq_some_iff.1 hj).1
   have h3:(cur.toList.take (ns.length*1))[j]?=some (Value.int .i64 N):=by rw[htk];simp[i64s,hj]
   rw[List.getElem?_take,if_pos (by omega)] at h3
   simpa using h3
  have hH:Holds (Value.int .i64) W g 0 ns.toArray:=fun j hj=>by
   have hjl:j<ns.length:=by simpa using hj
   refine⟨?_,by simp[World.frozen?,hb]⟩
   rw[Nat.zero_add]
   have:=hcell j ns[j] (List.getElem?_eq_getElem hjl)
   simp[World.cell?,hb,this,hjl]
  refine(Any.slices_Sort_int sortInt g 0 cap ns W hH hgl (by omega)).mono ?_
  rintro e W' ⟨rfl,n,os,rfl⟩
  have hsz:(putRow (Value.int .i64) (Sort.ahead W n) g 0 (srtI ns).toArray).heap.size=W.heap.size:=by simp
  have hblk:∀k,k<W.heap.size→k≠g→(grow (putRow (Value.int .i64) (Sort.ahead W n) g 0 (srtI ns).toArray) os).heap[k]?=W.heap[k]?:=fun k hk hn=>by
   show((putRow (Value.int .i64) (Sort.ahead W n) g 0 (srtI ns).toArray).heap++os)[k]?=_
   rw[Array.getElem?_append_left (by rw[hsz];exact hk)]
   show(W.heap.modify g _)[k]?=_
   rw[Array.getElem?_modify,if_neg (fun e=>hn e.symm)]
  have hnew:(grow (putRow (Value.int .i64) (Sort.ahead W n) g 0 (srtI ns).toArray) os).heap[g]?=some (.cells (putCells (Value.int .i64) 0 (srtI ns).toArray cur) 3 (0,0)):=by
   show((putRow (Value.int .i64) (Sort.ahead W n) g 0 (srtI ns).toArray).heap++os)[g]?=_
   rw[Array.getElem?_append_left (by rw[hsz];exact hgl)]
   show(W.heap.modify g _)[g]?=_
   rw[Array.getElem?_modify,if_pos rfl,hb]
   rfl
  refine⟨rfl,⟨by simp[i64s],.inr ⟨g,cap,_,by rw[srtI_len],hg,hnew,by rw[srtI_len];exact hc1,hc2,by simp[putCells,hc3],?_⟩⟩,⟨rfl,rfl,rfl,?_,fun k hk hn=>hblk k hk (fun e=>hn (by rw[e];rfl))⟩⟩
  ·apply List.ext_getElem?
   intro j
   rw[List.getElem?_take]
   simp only[Nat.mul_one,srtI_len]
   by_cases hj:j<ns.length
   ·rw[if_pos hj]
    have hjs:j<(srtI ns).length:=by rw[srtI_len];exact hj
    have hcj:cur[j]?=some (Value.int .i64 ns[j]):=hcell j _ (List.getElem?_eq_getElem hj)
    simp[putCells,i64s,hcj,hjs]
   ·rw[if_neg hj]
    simp[i64s,List.getElem?_eq_none (show(srtI ns).length≤j by rw[srtI_len];omega)]
  ·show W.heap.size≤((putRow (Value.int .i64) (Sort.ahead W n) g 0 (srtI ns).toArray).heap++os).size
   rw[Array.size_append,hsz]
   omega
end Go.Proofs.YteaiefjmcinljaaGreatDoor
