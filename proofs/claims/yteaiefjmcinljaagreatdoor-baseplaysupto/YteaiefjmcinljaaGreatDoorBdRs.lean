import Derived.Test.YteaiefjmcinljaaGreatDoorBdOs
namespace Go.Proofs.YteaiefjmcinljaaGreatDoor
open Go.RowKit Go.Shelf Go.Maps
theorem EnBlk.ne{W:World}{eb k:Nat}{pl:Int}{hx bx:TV}(h:EnBlk W eb pl hx bx)(hk:NoFix W k):eb≠k:=fun e=>by
 subst e
 exact hk _ _ _ h (Or.inr (Or.inl rfl))
/-- The blocks of a base that its operations may change. -/
def Own(b me mf:Nat)(F:Lit→Option Fam)(k:Nat):Prop:=k=b∨k=me∨k=mf∨∃p f,F p=some f∧(k=f.fb∨k=f.km)
theorem EnIs.term{M:Nat→Prop}{W:World}{e:En}(h:EnIs M W e):∃(n:Nat) (t:Tm (n+1)),t.tv=e.hx∧IsT W.heap.size W t∧code t=e.ch∧BlkT (fun k=>k<W.heap.size∧¬M k) t:=by
 obtain⟨_,D,S,h1,_,h3⟩:=h
 obtain⟨t,e1,hT,hS,hc⟩:=h1 (D.1+1) (by omega) (by have:=D.2;omega)
 exact⟨D.1,t,(tv_inj e1).symm,hT,hc,hS.mono h3⟩
theorem rowP_in{E:List En}{x:En}(hx:x∈E):∃y∈rowP E (predC x.ch),y.2=x.pl:=⟨x.at,by unfold rowP;exact List.mem_map.2 ⟨x,List.mem_filter.2 ⟨hx,by simp⟩,rfl⟩,rfl⟩
theorem rowK_in{E:List En}{x:En}(hx:x∈E):∃y∈rowK E (predC x.ch) (keyC x.ch),y.2=x.pl:=⟨x.at,by unfold rowK;exact List.mem_map.2 ⟨x,List.mem_filter.2 ⟨hx,by simp⟩,rfl⟩,rfl⟩
theorem rowP_len(E:List En)(p:Lit):(rowP E p).length≤E.length:=by
 unfold rowP
 rw[List.length_map]
 exact List.length_filter_le _ _
theorem rowK_len(E:List En)(p k:Lit):(rowK E p k).length≤E.length:=by
 unfold rowK
 rw[List.length_map]
 exact List.length_filter_le _ _
theorem BOK.rowsP{M:Nat→Prop}{W:World}{b me mf:Nat}{laid:Int}{ce cf:Nat}{ge gf:Lit→Option Addr}{F:Lit→Option Fam}{E:List En}(h:BOK M W b me mf laid ce cf ge gf F E)(hbig:laid<1099511627776)(p:Lit):EnAll W (rowP E p)∧Srt (rowP E p)∧(∀y∈rowP E p,-laid≤y.2∧y.2≤laid)∧(rowP E p).length<1152921504606846976:=by
 refine⟨enAll_of h.ents (fun y hy=>rowP_mem hy),by unfold rowP;exact h.srt.row _,fun y hy=>?_,by have:=rowP_len E p;have:=h.cnt;omega⟩
 obtain⟨e,he,rfl⟩:=rowP_mem hy
 have:=h.pls e he
 exact⟨this.2.1,this.2.2⟩
theorem BOK.rowsK{M:Nat→Prop}{W:World}{b me mf:Nat}{laid:Int}{ce cf:Nat}{ge gf:Lit→Option Addr}{F:Lit→Option Fam}{E:List En}(h:BOK M W b me mf laid ce cf ge gf F E)(hbig:laid<1099511627776)(p k:Lit):EnAll W (rowK E p k)∧Srt (rowK E p k)∧(∀y∈rowK E p k,-laid≤y.2∧y.2≤laid)∧(rowK E p k).length<1152921504606846976:=by
 refine⟨enAll_of h.ents (fun y hy=>rowK_mem hy),by unfold rowK;exact h.srt.row _,fun y hy=>?_,by have:=rowK_len E p k;have:=h.cnt;omega⟩
 obtain⟨e,he,rfl⟩:=rowK_mem hy
 have:=h.pls e he
 exact⟨this.2.1,this.2.2⟩
theorem own_upd{b me mf:Nat}{F:Lit→Option Fam}{p:Lit}{f f':Fam}(hp:F p=some f)(h1:f'.fb=f.fb)(h2:f'.km=f.km){k:Nat}(h:Own b me mf (updF F p f') k):Own b me mf F k:=by
 rcases h with h | h | h | ⟨p',g,hg,hk⟩
 ·exact .inl h
 ·exact .inr (.inl h)
 ·exact .inr (.inr (.inl h))
 ·rcases updF_cases hg with⟨_,rfl⟩ | ⟨_,hF⟩
  ·exact .inr (.inr (.inr ⟨p,f,hp,by rw[←h1,←h2];exact hk⟩))
  ·exact .inr (.inr (.inr ⟨p',g,hF,hk⟩))
/-- What a Remove answers, and what is left. -/
def RemIs(E:List En)(id r:Int)(E':List En):Prop:=match E.find? (fun e=>decide (max e.pl (-e.pl)=id)) with
 | none=>r=8∧E'=E
 | some x=>r=0∧E'=delE E x.pl
theorem updF_has{F:Lit→Option Fam}{q:Lit}{f f':Fam}(hq:F q=some f)(p:Lit):(∃g,updF F q f' p=some g)↔∃g,F p=some g:=by
 unfold updF
 split
 ·rename_i e;subst e;exact⟨fun _=>⟨f,hq⟩,fun _=>⟨f',rfl⟩⟩
 ·exact Iff.rfl
theorem updF_more{F:Lit→Option Fam}{q:Lit}{f':Fam}(p:Lit):(∃g,updF F q f' p=some g)↔(∃g,F p=some g)∨p=q:=by
 unfold updF
 split
 ·rename_i e;subst e;exact⟨fun _=>.inr rfl,fun _=>⟨f',rfl⟩⟩
 ·rename_i e;exact⟨.inl,fun h=>h.resolve_right e⟩
/-- What drop leaves behind. -/
def DropIs(W:World)(pl:Int)(f:Fam)(kl:Lit)(V V':World):Prop:=W.heap.size≤V.heap.size∧∃q1 q2,FmBlk V' f.fb q1 f.km∧PM 106 V' f.km (f.ck+1) (setO f.gk kl q2)∧OR W pl f.all q1 V'∧OR W pl (f.gk kl) q2 V'∧GrB (fun k=>k=f.fb∨k=f.km) V.heap.size V V'
theorem remove_bok{M:Nat→Prop}{W:World}{b me mf:Nat}{laid:Int}{ce cf:Nat}{ge gf:Lit→Option Addr}{F:Lit→Option Fam}{E:List En}(h:BOK M W b me mf laid ce cf ge gf F E)(hM:Mut M W)(hbig:laid<1099511627776)(id:Int)(hid0: -9223372036854775808≤id)(hid1:id≤9223372036854775807):
  Calls Tryz.prog 11 #[.pointer (some ⟨b,0,none⟩),.int .i64 id] W fun e W'=> ∃r:Int,e=.returned (.int .i64 r)∧GrB (Own b me mf F) W.heap.size W W'∧Mut M W'∧∃ge' F' E',(∀k,Own b me mf F' k→Own b me mf F k)∧BOK M W' b me mf laid ce cf ge' gf F' E'∧RemIs E id r E'∧∀p,(∃f,F' p=some f)↔∃f,F p=some f:=by
 have hge:=h.get id
 cases hfi:E.find? (fun e=>decide (max e.pl (-e.pl)=id)) with
 | none=>
  rw[hfi] at hge
  refine(remove_absent b me mf laid id ce ge W h.base h.ent hid0 hid1 hge).mono ?_
  rintro e W' ⟨rfl,rfl⟩
  exact⟨8,rfl,GrB.refl _ _ _,hM,ge,F,E,fun _ h=>h,h,by unfold RemIs;rw[hfi];exact⟨rfl,rfl⟩,fun _=>Iff.rfl⟩
 | some x=>
  rw[hfi] at hge
  have hx:x∈E:=List.mem_of_find?_eq_some hfi
  have hxi:max x.pl (-x.pl)=id:=by simpa using List.find?_some hfi
  obtain⟨f,hp⟩:=h.has x hx
  have hen:=(h.ents x hx).1
  obtain⟨n,t,ht,hT,hc,hbt⟩:=(h.ents x hx).term
  have hok:=h.oks x hx
  have hkl:=keyOf_code t hT (by rw[okT_m,hc];exact hok.1) (by rw[hc];exact hok.2.2)
  rw[hc] at hkl
  obtain⟨f1,f2,f3,⟨t1,f4⟩,f5⟩:=h.fams _ f hp
  obtain⟨t2,f6⟩:=f5 (keyC x.ch)
  obtain⟨p1,p2,p3,p4⟩:=h.rowsP hbig (predC x.ch)
  obtain⟨r1,r2,r3,r4⟩:=h.rowsK hbig (predC x.ch) (keyC x.ch)
  have hpm:=h.mem.2.2.2 _ f hp
  have hfar:=h.farF _ f hp
  have h00:=h.far
  have hcn:=h.cnt
  have nf:=fun k (hk:M k)=>(hM k hk).2
  have hl1:=(hM b h.mem.1).1
  have hl2:=(hM f.fb hpm.1).1
  have hl3:=(hM f.km hpm.2).1
  have hel:=hen.lt
  have e1:x.eb≠me:=hen.ne (nf me h.mem.2.1)
  have e2:x.eb≠f.fb:=hen.ne (nf _ hpm.1)
  have e3:x.eb≠f.km:=hen.ne (nf _ hpm.2)
  have hgf:gf (predL t.tv.s t.tv.len)=some ⟨f.fb,0,none⟩:=by rw[predL_code,hc,h.gfs,hp];rfl
  refine(remove_there b me mf x.eb f.fb laid id x.pl ce cf ge gf t x.bx (DropIs W x.pl f (keyC x.ch)) W h.base h.ent h.fam hid0 hid1 hge (by rw[ht];exact hen) hT hgf h00.1 (by omega) e1 ?_ ?_).mono ?_
  ·intro V gV
   have fV:Fixed W V:=gV.fixed (fun k hk=>by rw[hk];exact nf me h.mem.2.1)
   have hTV:IsT V.heap.size V t:=(hT.fromS (fun k hk=>gV.block k hk.1 (fun e=>hk.2 (e▸h.mem.2.1))) hbt).mono gV.size
   have hd:=drop_any f.fb f.km x.eb f.all f.ck f.gk x.pl t x.bx (keyC x.ch) (OR W x.pl) V ((gV.block _ hl2 (by omega)).trans f1) (f2.kept (gV.block _ hl3 (by omega))) (by unfold maxLen;omega) (by rw[ht];exact hen.fixed fV) hTV hkl (by omega) e2
    (fun V2 g2=>withoutR f4 p1 p2 (rowP_in hx) (fun y hy=>by have:=p3 y hy;omega) p4 (fV.trans (Below.fixed g2)))
    (fun V2 g2 _=>withoutR f6 r1 r2 (rowK_in hx) (fun y hy=>by have:=r3 y hy;omega) r4 (fV.trans (g2.fixed (fun k hk=>by rw[hk];exact FmBlk.nofix ((gV.block _ hl2 (by omega)).trans f1)))))
    (fun p q V1 V2 hr _ g2 a1 a2=>hr.gr g2 a1 a2)
   unfold DropC
   refine hd.mono ?_
   rintro e V' ⟨rfl,q1,q2,a1,a2,a3,a4,a5⟩
   exact⟨rfl,gV.size,q1,q2,a1,a2,a3,a4,a5⟩
  ·rintro V V' ⟨s,q1,q2,_,_,_,_,a5⟩
   exact⟨a5.block b (by omega) (by omega),a5.block x.eb (by omega) (by omega)⟩
  ·rintro e W' ⟨rfl,V,gV,pV,s,q1,q2,a1,a2,a3,a4,a5⟩
   have g:GrB (fun k=>k=me∨k=f.fb∨k=f.km) W.heap.size W W':=⟨a5.os.trans gV.os,a5.tape.trans gV.tape,a5.output.trans gV.output,Nat.le_trans gV.size a5.size,fun k hk hn=>(a5.block k (by omega) (fun e=>hn (.inr e))).trans (gV.block k hk (fun e=>hn (.inl e)))⟩
   rw[←hxi] at pV
   have pV':=pV.kept (a5.block me pV.lt (by omega))
   obtain⟨hB,hM'⟩:=h.rem hM hx hp g pV' a1 a2 a3 a4
   refine⟨0,rfl,⟨g.os,g.tape,g.output,g.size,fun k hk hn=>g.block k hk (fun e=>hn ?_)⟩,hM',_,_,_,fun k hk=>own_upd hp (by rfl) (by rfl) hk,hB,by unfold RemIs;rw[hfi];exact⟨rfl,rfl⟩,fun p=>updF_has hp p⟩
   rcases e with e | e
   ·exact .inr (.inl e)
   ·exact .inr (.inr (.inr ⟨_,f,hp,e⟩))
/-- What stands behind an Add. -/
def Added(M:Nat→Prop)(W:World)(b me mf:Nat)(laid:Int)(F:Lit→Option Fam)(E:List En)(pl:Int)(ch cb:List Nd)(W':World):Prop:=
 ∃M':Nat→Prop,(∀k,M k→M' k)∧(∀k,M' k→M k∨W.heap.size≤k)∧Mut M' W'∧GrB (Own b me mf F) W.heap.size W W'∧∃(ce' cf':Nat) (ge' gf':Lit→Option Addr) (F':Lit→Option Fam) (x:En),x.pl=pl∧x.ch=ch∧x.cb=cb∧(∀k,Own b me mf F' k→Own b me mf F k∨W.heap.size≤k)∧BOK M' W' b me mf (laid+1) ce' cf' ge' gf' F' (insE E x)∧∀p,(∃f,F' p=some f)↔(∃f,F p=some f)∨p=predC ch
theorem own_new{b me mf:Nat}{F:Lit→Option Fam}{p:Lit}{f':Fam}{lo:Nat}(h1:lo≤f'.fb)(h2:lo≤f'.km){k:Nat}(h:Own b me mf (updF F p f') k):Own b me mf F k∨lo≤k:=by
 rcases h with h | h | h | ⟨p',g,hg,hk⟩
 ·exact .inl (.inl h)
 ·exact .inl (.inr (.inl h))
 ·exact .inl (.inr (.inr (.inl h)))
 ·rcases updF_cases hg with⟨_,rfl⟩ | ⟨_,hF⟩
  ·rcases hk with rfl | rfl
   ·exact .inr h1
   ·exact .inr h2
  ·exact .inl (.inr (.inr (.inr ⟨p',g,hF,hk⟩)))
theorem add_bok_last{M:Nat→Prop}{W:World}{b me mf:Nat}{laid:Int}{ce cf:Nat}{ge gf:Lit→Option Addr}{F:Lit→Option Fam}{E:List En}(h:BOK M W b me mf laid ce cf ge gf F E)(hM:Mut M W)(hbig:laid<1099511627776){n:Nat}(th tb:Tm (n+1))(hTH:IsT W.heap.size W th)(hTB:IsT W.heap.size W tb)(hl:2*((code th).length+(code tb).length+1)≤4194304)(hrem:remE th tb=0)(hnum:numC (code th))(hn38:n≤274877906944:=by omega):
  Calls Tryz.prog 9 #[.pointer (some ⟨b,0,none⟩),clV th.tv tb.tv,.bool false] W fun e W'=>e=.returned (.tuple #[.int .i64 (laid+1),.int .i64 0])∧Added M W b me mf laid F E (laid+1) (code th) (code tb) W':=by
 obtain⟨okh,okb⟩:okT th=true∧okT tb=true:=by
  unfold remE at hrem
  split at hrem
  ·assumption
  ·cases hrem
 have hcn:=h.cnt
 have hlow:=h.low
 have nf:=fun k (hk:M k)=>(hM k hk).2
 have ho:(code th).all okM=true∧(code tb).all okM=true∧numC (code th):=⟨by rw[←okT_m];exact okh,by rw[←okT_m];exact okb,hnum⟩
 have hgs:∀s:ByteArray,s.toList=th.tv.s.toList→predL s th.tv.len=predC (code th):=fun s hs=>by
  rw[←predL_code]
  unfold predL
  rw[←ByteArray.toList_eq,←ByteArray.toList_eq,hs]
 have hkey:∀{m:Nat} (t:Tm (m+1)) (V:World) (kl:Lit),code t=code th→IsT V.heap.size V t→keyOf Tryz.prog 106 (keyOfV t)=some kl→kl=keyC (code th):=fun t V kl hc hT hk=>by
  have:=keyOf_code t hT (by rw[okT_m,hc];exact ho.1) (by rw[hc];exact hnum)
  rw[hk,hc] at this
  exact Option.some.inj this
 cases hp:F (predC (code th)) with
 | none=>
  refine(add_last b me mf laid ce cf ge gf th tb W h.base h.ent h.fam (by unfold maxLen;omega) (by unfold maxLen;omega) hlow (by omega) h.far hTH hTB hl hrem hnum (fun s hs=>by rw[hgs s hs,h.gfs,hp];rfl)).mono ?_
  rintro e W' ⟨rfl,eb,fb,km,q1,q2,hx,bx,kl,A,g⟩
  obtain⟨m,t,V,k1,k2,k3,k4⟩:=A.key
  obtain rfl:=hkey t V kl k2 k3 k4
  have hpr:predL hx.s hx.len=predC (code th):=by rw[←k1,predL_code,k2]
  obtain⟨hB,hM'⟩:=h.addN hM (x:=⟨eb,laid+1,hx,bx,code th,code tb⟩) hp (by simp) hpr A g ho
  refine⟨rfl,_,fun k hk=>.inl hk,fun k hk=>?_,hM',⟨g.os,g.tape,g.output,g.size,fun k hk hn=>g.block k hk (fun e=>hn ?_)⟩,_,_,_,_,_,_,rfl,rfl,rfl,fun k hk=>own_new A.los.2.1 A.los.2.2.1 hk,hB,fun p=>updF_more p⟩
  ·rcases hk with hk | rfl | rfl
   ·exact .inl hk
   ·exact .inr A.los.2.1
   ·exact .inr A.los.2.2.1
  ·rcases e with e | e | e
   ·exact .inl e
   ·exact .inr (.inl e)
   ·exact .inr (.inr (.inl e))
 | some f=>
  obtain⟨f1,f2,f3,⟨t1,f4⟩,f5⟩:=h.fams _ f hp
  obtain⟨p1,p2,p3,p4⟩:=h.rowsP hbig (predC (code th))
  have hpm:=h.mem.2.2.2 _ f hp
  have hfar:=h.farF _ f hp
  refine(addk_last b me mf laid ce cf ge gf f.fb f.km f.ck f.all f.gk (fun eb=>WR W (laid+1) eb) th tb W h.base h.ent h.fam (by unfold maxLen;omega) (by unfold maxLen;omega) hlow (by omega) h.far hTH hTB hl hrem hnum (fun s hs=>by rw[hgs s hs,h.gfs,hp];rfl) f1 f2 (by unfold maxLen;omega) hfar ?_ ?_ ?_).mono ?_
  ·intro eb hx bx V _ hen gV
   exact withR f4 p1 p2 (fun y hy=>by have:=p3 y hy;omega) p4 (gV.fixed (fun k hk=>by rcases hk with rfl | rfl;exact nf _ h.mem.1;exact nf _ h.mem.2.1)) hen
  ·intro eb hx bx V kl _ hen gV _ _ _
   obtain⟨t2,f6⟩:=f5 kl
   obtain⟨r1,r2,r3,r4⟩:=h.rowsK hbig (predC (code th)) kl
   exact withR f6 r1 r2 (fun y hy=>by have:=r3 y hy;omega) r4 (gV.fixed (fun k hk=>by rcases hk with rfl | rfl | rfl;exact nf _ h.mem.1;exact nf _ h.mem.2.1;exact nf _ hpm.1)) hen
  ·intro eb p q V V' hr _ gV a1 a2
   exact hr.gr gV a1 a2
  ·rintro e W' ⟨rfl,eb,q1,q2,hx,bx,kl,A,⟨m,t,V,k1,k2,k3,k4⟩,R1,R2,g⟩
   obtain rfl:=hkey t V kl k2 k3 k4
   obtain⟨hB,hM'⟩:=h.addK hM (x:=⟨eb,laid+1,hx,bx,code th,code tb⟩) hp (by simp) A R1 R2 g ho
   refine⟨rfl,M,fun k hk=>hk,fun k hk=>.inl hk,hM',⟨g.os,g.tape,g.output,g.size,fun k hk hn=>g.block k hk (fun e=>hn ?_)⟩,_,_,_,_,_,_,rfl,rfl,rfl,?_,hB,fun p=>updF_more p⟩
   ·rcases e with e | e | e
    ·exact .inl e
    ·exact .inr (.inl e)
    ·exact .inr (.inr (.inr ⟨_,f,hp,e⟩))
   ·exact fun k hk=>.inl (own_upd hp (by rfl) (by rfl) hk)
theorem add_bok_first{M:Nat→Prop}{W:World}{b me mf:Nat}{laid:Int}{ce cf:Nat}{ge gf:Lit→Option Addr}{F:Lit→Option Fam}{E:List En}(h:BOK M W b me mf laid ce cf ge gf F E)(hM:Mut M W)(hbig:laid<1099511627776){n:Nat}(th tb:Tm (n+1))(hTH:IsT W.heap.size W th)(hTB:IsT W.heap.size W tb)(hl:2*((code th).length+(code tb).length+1)≤4194304)(hrem:remE th tb=0)(hnum:numC (code th))(hn38:n≤274877906944:=by omega):
  Calls Tryz.prog 9 #[.pointer (some ⟨b,0,none⟩),clV th.tv tb.tv,.bool true] W fun e W'=>e=.returned (.tuple #[.int .i64 (laid+1),.int .i64 0])∧Added M W b me mf laid F E (-(laid+1)) (code th) (code tb) W':=by
 obtain⟨okh,okb⟩:okT th=true∧okT tb=true:=by
  unfold remE at hrem
  split at hrem
  ·assumption
  ·cases hrem
 have hcn:=h.cnt
 have hlow:=h.low
 have nf:=fun k (hk:M k)=>(hM k hk).2
 have ho:(code th).all okM=true∧(code tb).all okM=true∧numC (code th):=⟨by rw[←okT_m];exact okh,by rw[←okT_m];exact okb,hnum⟩
 have hgs:∀s:ByteArray,s.toList=th.tv.s.toList→predL s th.tv.len=predC (code th):=fun s hs=>by
  rw[←predL_code]
  unfold predL
  rw[←ByteArray.toList_eq,←ByteArray.toList_eq,hs]
 have hkey:∀{m:Nat} (t:Tm (m+1)) (V:World) (kl:Lit),code t=code th→IsT V.heap.size V t→keyOf Tryz.prog 106 (keyOfV t)=some kl→kl=keyC (code th):=fun t V kl hc hT hk=>by
  have:=keyOf_code t hT (by rw[okT_m,hc];exact ho.1) (by rw[hc];exact hnum)
  rw[hk,hc] at this
  exact Option.some.inj this
 cases hp:F (predC (code th)) with
 | none=>
  refine(add_first b me mf laid ce cf ge gf th tb W h.base h.ent h.fam (by unfold maxLen;omega) (by unfold maxLen;omega) hlow (by omega) h.far hTH hTB hl hrem hnum (fun s hs=>by rw[hgs s hs,h.gfs,hp];rfl)).mono ?_
  rintro e W' ⟨rfl,eb,fb,km,q1,q2,hx,bx,kl,A,g⟩
  obtain⟨m,t,V,k1,k2,k3,k4⟩:=A.key
  obtain rfl:=hkey t V kl k2 k3 k4
  have hpr:predL hx.s hx.len=predC (code th):=by rw[←k1,predL_code,k2]
  obtain⟨hB,hM'⟩:=h.addN hM (x:=⟨eb,-(laid+1),hx,bx,code th,code tb⟩) hp (by simp) hpr A g ho
  refine⟨rfl,_,fun k hk=>.inl hk,fun k hk=>?_,hM',⟨g.os,g.tape,g.output,g.size,fun k hk hn=>g.block k hk (fun e=>hn ?_)⟩,_,_,_,_,_,_,rfl,rfl,rfl,fun k hk=>own_new A.los.2.1 A.los.2.2.1 hk,hB,fun p=>updF_more p⟩
  ·rcases hk with hk | rfl | rfl
   ·exact .inl hk
   ·exact .inr A.los.2.1
   ·exact .inr A.los.2.2.1
  ·rcases e with e | e | e
   ·exact .inl e
   ·exact .inr (.inl e)
   ·exact .inr (.inr (.inl e))
 | some f=>
  obtain⟨f1,f2,f3,⟨t1,f4⟩,f5⟩:=h.fams _ f hp
  obtain⟨p1,p2,p3,p4⟩:=h.rowsP hbig (predC (code th))
  have hpm:=h.mem.2.2.2 _ f hp
  have hfar:=h.farF _ f hp
  refine(addk_first b me mf laid ce cf ge gf f.fb f.km f.ck f.all f.gk (fun eb=>WR W (-(laid+1)) eb) th tb W h.base h.ent h.fam (by unfold maxLen;omega) (by unfold maxLen;omega) hlow (by omega) h.far hTH hTB hl hrem hnum (fun s hs=>by rw[hgs s hs,h.gfs,hp];rfl) f1 f2 (by unfold maxLen;omega) hfar ?_ ?_ ?_).mono ?_
  ·intro eb hx bx V _ hen gV
   exact withR f4 p1 p2 (fun y hy=>by have:=p3 y hy;omega) p4 (gV.fixed (fun k hk=>by rcases hk with rfl | rfl;exact nf _ h.mem.1;exact nf _ h.mem.2.1)) hen
  ·intro eb hx bx V kl _ hen gV _ _ _
   obtain⟨t2,f6⟩:=f5 kl
   obtain⟨r1,r2,r3,r4⟩:=h.rowsK hbig (predC (code th)) kl
   exact withR f6 r1 r2 (fun y hy=>by have:=r3 y hy;omega) r4 (gV.fixed (fun k hk=>by rcases hk with rfl | rfl | rfl;exact nf _ h.mem.1;exact nf _ h.mem.2.1;exact nf _ hpm.1)) hen
  ·intro eb p q V V' hr _ gV a1 a2
   exact hr.gr gV a1 a2
  ·rintro e W' ⟨rfl,eb,q1,q2,hx,bx,kl,A,⟨m,t,V,k1,k2,k3,k4⟩,R1,R2,g⟩
   obtain rfl:=hkey t V kl k2 k3 k4
   obtain⟨hB,hM'⟩:=h.addK hM (x:=⟨eb,-(laid+1),hx,bx,code th,code tb⟩) hp (by simp) A R1 R2 g ho
   refine⟨rfl,M,fun k hk=>hk,fun k hk=>.inl hk,hM',⟨g.os,g.tape,g.output,g.size,fun k hk hn=>g.block k hk (fun e=>hn ?_)⟩,_,_,_,_,_,_,rfl,rfl,rfl,?_,hB,fun p=>updF_more p⟩
   ·rcases e with e | e | e
    ·exact .inl e
    ·exact .inr (.inl e)
    ·exact .inr (.inr (.inr ⟨_,f,hp,e⟩))
   ·exact fun k hk=>.inl (own_upd hp (by rfl) (by rfl) hk)
end Go.Proofs.YteaiefjmcinljaaGreatDoor
