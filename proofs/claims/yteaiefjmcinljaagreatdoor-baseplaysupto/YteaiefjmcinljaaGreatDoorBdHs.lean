import Derived.Test.YteaiefjmcinljaaGreatDoorTks
import Derived.Test.YteaiefjmcinljaaGreatDoorBdEs
namespace Go.Proofs.YteaiefjmcinljaaGreatDoor
set_option maxHeartbeats 1000000
set_option maxRecDepth 100000
open Go.RowKit Go.Shelf Go.Maps
open Classical in
noncomputable def setO (g:Lit→Option Addr) (kl:Lit) (q:Option Addr):Lit→Option Addr:=fun x=>if x=kl then q else g x
theorem turned_gr{W W':World}{b:Nat}(h:W.mapTurned W' b):GrB (fun k=>k=b) W.heap.size W W':=by
 obtain⟨es,clock,es',clock',hb,rfl⟩:=h
 exact⟨rfl,rfl,rfl,by simp[ChangeMaps.setBlock],fun k hk hx=>ChangeMaps.heap_setBlock_other hb _ hx⟩
theorem PM.cut{t k e:TypeId}{W:World}{b n:Nat}{g:Lit→Option Addr}(h:PM k W b n g)(K:Keyed Tryz.prog k)(ht:Tryz.prog.underlying t=some (.map k e)){key:Value}{kl:Lit}(hkey:keyOf Tryz.prog k key=some kl)(ty:TypeId):
  ∃W',(Builtin.delete_ #[t,k] ty #[.map (some b),key]).run Tryz.prog W=.ok (.tuple #[]) W'∧PM k W' b n (setO g kl none)∧GrB (fun k=>k=b) W.heap.size W W':=by
 obtain⟨E,h1,h2⟩:=h
 obtain⟨W',hrun,f1,f2⟩:=h1.drop K ht hkey ty
 refine⟨W',hrun,⟨_,f1,fun x=>?_⟩,turned_gr f2⟩
 unfold setO
 by_cases e:x=kl
 ·subst e
  rw[if_pos rfl,has_del_same]
  exact⟨rfl,fun a' h=>by cases h⟩
 ·rw[if_neg e,has_del_other e]
  refine⟨(h2 x).1,fun a' h z=>?_⟩
  rw[atKey_del_other e]
  exact(h2 x).2 a' h z
/-- A map of pointers in which one key leads to a pointer that may be nil. -/
def PMo(k:TypeId)(W:World)(b n:Nat)(g:Lit→Option Addr)(kl:Lit)(q:Option Addr):Prop:=
 ∃E:DataW (Option Addr),W.ownsMap Tryz.prog k ptrElem b n E∧(Maps.has E kl=true∧∀z,E.atKey kl z=.held q)∧∀x,x≠kl→Maps.has E x=(g x).isSome∧∀a,g x=some a→∀z,E.atKey x z=.held (some a)
theorem PMo.kept{k:TypeId}{A W:World}{b n:Nat}{g:Lit→Option Addr}{kl:Lit}{q:Option Addr}(h:PMo k A b n g kl q)(hb:W.heap[b]?=A.heap[b]?):PMo k W b n g kl q:=by
 obtain⟨E,⟨es,clock,e1,e2⟩,h2⟩:=h
 exact⟨E,⟨es,clock,hb.trans e1,e2⟩,h2⟩
theorem PMo.mapB{k:TypeId}{W:World}{b n:Nat}{g:Lit→Option Addr}{kl:Lit}{q:Option Addr}(h:PMo k W b n g kl q):MapB W b:=by
 obtain⟨E,⟨es,clock,e1,_⟩,_⟩:=h
 exact⟨es,clock,e1⟩
theorem PMo.lt{k:TypeId}{W:World}{b n:Nat}{g:Lit→Option Addr}{kl:Lit}{q:Option Addr}(h:PMo k W b n g kl q):b<W.heap.size:=by obtain⟨E,h1,_⟩:=h;exact h1.lt
theorem PM.putO{t k e:TypeId}{W:World}{b n:Nat}{g:Lit→Option Addr}(h:PM k W b n g)(K:Keyed Tryz.prog k)(ht:Tryz.prog.underlying t=some (.map k e))(hn:n<maxLen){key:Value}{kl:Lit}(hkey:keyOf Tryz.prog k key=some kl)(q:Option Addr):
  ∃W',(Instr.mapUpdate t (.map (some b)) key (.pointer q)).run Tryz.prog W=.ok () W'∧PMo k W' b (n+1) g kl q∧GrB (fun k=>k=b) W.heap.size W W':=by
 obtain⟨E,h1,h2⟩:=h
 have hm:=h1.isMap
 have hkl:WideAt.IsKeyLit kl:=K.key hkey
 obtain⟨W',hrun,f1,f2⟩:=h1.store K ht hn (val:=.pointer q) (d:=.held q) (ps:=[]) hkey rfl
 refine⟨W',hrun,⟨_,f1,⟨has_put_same hm hkl _,fun z=>atKey_put_same hm hkl _ _⟩,fun x e=>?_⟩,turned_gr f2⟩
 rw[has_put_other e]
 refine⟨(h2 x).1,fun a' h z=>?_⟩
 rw[atKey_put_other e]
 exact(h2 x).2 a' h z
theorem PMo.look1{t k e:TypeId}{W:World}{b n:Nat}{g:Lit→Option Addr}{kl:Lit}{q:Option Addr}(h:PMo k W b n g kl q)(K:Keyed Tryz.prog k)(ht:Tryz.prog.underlying t=some (.map k e))(hz:(zeroValue e).run Tryz.prog W=.ok (.pointer none) W){key:Value}(hkey:keyOf Tryz.prog k key=some kl):
  (Instr.lookup t (.map (some b)) key false).run Tryz.prog W=.ok (.pointer q) W:=by
 obtain⟨E,h1,h2,_⟩:=h
 obtain⟨v,ps,hrun,hv⟩:=h1.lookup K ht hz (zd:=.held none) (zp:=[]) rfl hkey
 obtain⟨p,rfl,hp⟩:=ptrElem_inv hv
 rw[h2.2] at hp
 simp at hp
 rw[hrun,←hp.1]
theorem PMo.cut{t k e:TypeId}{W:World}{b n:Nat}{g:Lit→Option Addr}{kl:Lit}{q:Option Addr}(h:PMo k W b n g kl q)(K:Keyed Tryz.prog k)(ht:Tryz.prog.underlying t=some (.map k e)){key:Value}(hkey:keyOf Tryz.prog k key=some kl)(ty:TypeId):
  ∃W',(Builtin.delete_ #[t,k] ty #[.map (some b),key]).run Tryz.prog W=.ok (.tuple #[]) W'∧PM k W' b n (setO g kl none)∧GrB (fun k=>k=b) W.heap.size W W':=by
 obtain⟨E,h1,_,h2⟩:=h
 obtain⟨W',hrun,f1,f2⟩:=h1.drop K ht hkey ty
 refine⟨W',hrun,⟨_,f1,fun x=>?_⟩,turned_gr f2⟩
 unfold setO
 by_cases e:x=kl
 ·subst e
  rw[if_pos rfl,has_del_same]
  exact⟨rfl,fun a' h=>by cases h⟩
 ·rw[if_neg e,has_del_other e]
  refine⟨(h2 x e).1,fun a' h z=>?_⟩
  rw[atKey_del_other e]
  exact(h2 x e).2 a' h z
theorem PMo.some{k:TypeId}{W:World}{b n:Nat}{g:Lit→Option Addr}{kl:Lit}{a:Addr}(h:PMo k W b n g kl (some a)):PM k W b n (setO g kl (some a)):=by
 obtain⟨E,h1,h2,h3⟩:=h
 refine⟨E,h1,fun x=>?_⟩
 unfold setO
 by_cases e:x=kl
 ·subst e
  rw[if_pos rfl]
  exact⟨h2.1,fun a' h z=>by cases h;exact h2.2 z⟩
 ·rw[if_neg e]
  exact h3 x e
/-- What base's without answers, of a tree's pointer and a place; only new memory. -/
def WoutC(pl:Int)(R:Option Addr→Option Addr→World→Prop)(p:Option Addr)(V:World):Prop:=Calls Tryz.prog 46 #[.pointer p,.int .i64 pl] V fun e V'=> ∃q,e=.returned (.pointer q)∧Below V.heap.size V V'∧R p q V'
theorem drop_any(fb km eb:Nat)(all:Option Addr)(cnt:Nat)(gk:Lit→Option Addr)(pl:Int){n:Nat}(th:Tm (n+1))(bx:TV)(kl:Lit)(R:Option Addr→Option Addr→World→Prop)(W:World)
  (hf:FmBlk W fb all km) (hm:PM 106 W km cnt gk) (hcnt:cnt<maxLen) (he:EnBlk W eb pl th.tv bx) (hT:IsT W.heap.size W th) (hkl:keyOf Tryz.prog 106 (keyOfV th)=some kl) (hne:fb≠km) (hef:eb≠fb)
  (hW1:∀V,Below W.heap.size W V→WoutC pl R all V) (hW2:∀V,GrB (fun k=>k=fb) W.heap.size W V→(∃a,FmBlk V fb a km)→WoutC pl R (gk kl) V)
  (hR:∀p q V V',R p q V→W.heap.size≤V.heap.size→GrB (fun k=>k=fb∨k=km) V.heap.size V V'→(∃a,FmBlk V fb a km)→MapB V km→R p q V'):
  Calls Tryz.prog 28 #[.pointer (some ⟨fb,0,none⟩),.pointer (some ⟨eb,0,none⟩)] W fun e W'=>e=.returned (.tuple #[])∧∃q1 q2,FmBlk W' fb q1 km∧PM 106 W' km (cnt+1) (setO gk kl q2)∧R all q1 W'∧R (gk kl) q2 W'∧GrB (fun k=>k=fb∨k=km) W.heap.size W W':=by
 have hk0:=keyOf_any th W hT
 obtain⟨e0,⟨e1,e2,e3,e4⟩,-⟩:=he.cs
 have hfl:=hf.lt
 have hml:=hm.lt
 have hel:=he.lt
 unfold keyOfV at hk0 hkl
 generalize (keyOfT th).1=k1 at *
 generalize (keyOfT th).2.1=k2 at *
 generalize (keyOfT th).2.2.1=k3 at *
 generalize (keyOfT th).2.2.2=k4 at *
 have HH:=hide (And.intro hf (And.intro hm (And.intro hcnt (And.intro hne (And.intro hkl (And.intro e0 hef))))))
 have HW1:=hide hW1
 have HW2:=hide hW2
 have HR:=hide hR
 clear hf hm hcnt he hT hkl hne hW1 hW2 hR e0 hef
 simp only[keyV,TV.val] at hk0
 go_enter Tryz.func28,Tryz.ntmps28
 go_wp2_with fail
 refine hk0.mono ?_
 clear hk0 e1 e2 e3 e4
 rintro e V1 ⟨rfl,b1⟩
 have hb2:Below V1.heap.size V1 (V1.alloc (.cells #[.int .i64 k1,.int .i64 k2,.string k3,.int .i64 (k4:Int)] 106)):=(Below.refl _ V1).alloc (Nat.le_refl _) _
 have hkb:=World.alloc_heap_new V1 (.cells #[.int .i64 k1,.int .i64 k2,.string k3,.int .i64 (k4:Int)] 106)
 have hB2:Below W.heap.size W (V1.alloc (.cells #[.int .i64 k1,.int .i64 k2,.string k3,.int .i64 (k4:Int)] 106)):=b1.trans (hb2.mono b1.size)
 have hs2:(V1.alloc (.cells #[.int .i64 k1,.int .i64 k2,.string k3,.int .i64 (k4:Int)] 106)).heap.size=V1.heap.size+1:=by simp
 have hs1:=b1.size
 have H2:=hide (And.intro hB2 (And.intro hkb hs2))
 clear hb2 hkb hB2 b1 hs2
 go_wp2_with fail
 have Q2:=unhide H2
 clear H2
 obtain⟨V2,hV2⟩:∃V2,(V1.alloc (.cells #[.int .i64 k1,.int .i64 k2,.string k3,.int .i64 (k4:Int)] 106))=V2:=⟨_,rfl⟩
 rw[hV2] at Q2
 try rw[hV2]
 clear hV2
 obtain⟨hB2,hkb,hs2⟩:=Q2
 obtain⟨kb,hkbE⟩:∃kb,V1.heap.size=kb:=⟨_,rfl⟩
 rw[hkbE] at hkb hs2 hs1
 try rw[hkbE]
 clear hkbE V1
 have hf2:FmBlk V2 fb all km:=(hB2.block fb hfl).trans (unhide HH).1
 have he2:V2.cell? ⟨eb,0,none⟩=some (.int .i64 pl):=(hB2.cell (p:=⟨eb,0,none⟩) hel).trans (unhide HH).2.2.2.2.2.1
 have hw1:=(unhide HW1) V2.drew hB2.drew
 unfold WoutC at hw1
 have KEEP:V2.cell? ⟨eb,0,none⟩=some (.int .i64 pl):=he2
 have f0:=hf2.cs.1
 have HV2:=hide (And.intro hB2 (And.intro hkb hf2))
 clear hB2 hkb hf2 he2 HW1
 refine wp_region_noPanic ?_
 refine wp_region_held_drew (S:=(fun w'=>w'.cell? ⟨eb,0,none⟩=some (.int .i64 pl))) (by kernel_rfl) ?_ (fun hHeld=>?_)
 ·exact KEEP
 refine tk 0 rfl hHeld ?_
 refine tk 1 rfl hHeld ?_
 refine tk 2 rfl hHeld ?_
 refine tk 3 rfl hHeld ?_
 refine tk 5 rfl hHeld ?_
 refine tk 6 rfl hHeld ?_
 refine tk 7 rfl hHeld ?_
 refine tk 8 rfl hHeld ?_
 refine rd 4 rfl fun K hK=>?_
 have hHold:=hHeld
 clear hHeld
 go_simp
 refine hK.out _ _ ?_ (fun hHeld=>?_)
 ·((try dsimp only);exact KEEP)
 clear hK K hHold
 try simp only[pu]
 refine rd 9 rfl fun K hK=>?_
 have hHold:=hHeld
 clear hHeld
 go_simp
 refine hw1.mono ?_
 clear hw1
 rintro e V3 ⟨q1,rfl,b3,r1⟩
 have s3:V2.heap.size≤V3.heap.size:=b3.size
 have hf3:FmBlk V3 fb all km:=(b3.block fb (show fb<V2.heap.size by omega)).trans (unhide HV2).2.2
 clear f0
 obtain⟨f0,f1,fz⟩:=hf3.cs
 have KEEP:V3.cell? ⟨eb,0,none⟩=some (.int .i64 pl):=(World.cell?_of_block (a:=⟨eb,0,none⟩) (w:=V2) (b3.block eb (show eb<V2.heap.size by omega))).trans KEEP
 have HF3:=hide hf3
 clear hf3
 go_wp2_with fail
 refine hK.out _ _ ?_ (fun hHeld=>?_)
 ·((try dsimp only);exact KEEP)
 clear hK K hHold
 try simp only[pu]
 refine tk 10 rfl hHeld ?_
 refine tk 11 rfl hHeld ?_
 refine rd 12 rfl fun K hK=>?_
 have hHold:=hHeld
 clear hHeld
 go_simp
 refine hK.out _ _ ?_ (fun hHeld=>?_)
 ·((try dsimp only);exact(World.cell?_setCell_other _ _ _ _ (by simp;exact fun e=>(unhide HH).2.2.2.2.2.2 e.symm)).trans KEEP)
 clear hK K hHold
 try simp only[pu]
 refine wpAnyH_done (by kernel_rfl) ?_ _
 refine NoPanic.normal ?_
 clear hHeld KEEP
 obtain⟨hB2,hkb,-⟩:=unhide HV2
 have hne:=(unhide HH).2.2.2.1
 have hef:=(unhide HH).2.2.2.2.2.2
 have hf4:=(unhide HF3).set q1
 have hB3:Below W.heap.size W V3:=hB2.trans (show Below W.heap.size V2 V3 from⟨b3.os,b3.tape,b3.output,b3.size,fun k hk=>b3.block k (show k<V2.heap.size by omega)⟩)
 have hm4:=((unhide HH).2.1.kept (hB3.block km hml)).kept (W:=V3.setCell ⟨fb,0,none⟩ (.pointer q1)) (Below.heap_setCell _ _ _ _ (by simpa using hne.symm))
 have hkb4:(V3.setCell ⟨fb,0,none⟩ (.pointer q1)).heap[kb]?=_:=(Below.heap_setCell _ _ _ _ (by simp;omega)).trans ((b3.block kb (show kb<V2.heap.size by omega)).trans hkb)
 have he4:(V3.setCell ⟨fb,0,none⟩ (.pointer q1)).cell? ⟨eb,0,none⟩=some (.int .i64 pl):=(World.cell?_setCell_other _ _ _ _ (fun e=>hef (by cases e;rfl))).trans ((hB3.cell (p:=⟨eb,0,none⟩) hel).trans (unhide HH).2.2.2.2.2.1)
 have hg4:GrB (fun k=>k=fb) W.heap.size W (V3.setCell ⟨fb,0,none⟩ (.pointer q1)):=⟨hB3.os,hB3.tape,hB3.output,by have:=hB3.size;simpa using this,fun k hk hx=>(Below.heap_setCell _ _ _ _ (by simpa using hx)).trans (hB3.block k hk)⟩
 have r1':=(unhide HR) all q1 V3 (V3.setCell ⟨fb,0,none⟩ (.pointer q1)) r1 (by omega) ⟨rfl,rfl,rfl,by simp,fun k hk hx=>Below.heap_setCell _ _ _ _ (by simp;exact fun e=>hx (.inl e))⟩ ⟨_,unhide HF3⟩ ((unhide HH).2.1.kept (hB3.block km hml)).mapB
 have hs4:V3.heap.size≤(V3.setCell ⟨fb,0,none⟩ (.pointer q1)).heap.size:=by simp
 have H4:=hide (And.intro hf4 (And.intro hm4 (And.intro hkb4 (And.intro he4 (And.intro hg4 (And.intro r1' hs4))))))
 clear hB2 hkb hne hef hf4 hB3 hm4 hkb4 he4 hg4 r1' hs4 r1 b3 f0 f1 fz HF3 HV2
 go_wp2_with fail
 obtain⟨V4,hV4⟩:∃V4,V3.setCell ⟨fb,0,none⟩ (.pointer q1)=V4:=⟨_,rfl⟩
 have Q4:=unhide H4
 rw[hV4] at Q4
 try rw[hV4]
 clear H4 hV4
 obtain⟨hf4,hm4,hkb4,he4,hg4,r1',hs4⟩:=Q4
 have hkl:=(unhide HH).2.2.2.2.1
 simp only[keyV] at hkl
 have hlk4:(Instr.lookup 101 (.map (some km)) (.agg #[.int .i64 k1,.int .i64 k2,.string k3,.int .i64 (k4:Int)]) false).run Tryz.prog V4.drew=.ok (.pointer (gk kl)) V4.drew:=(hm4.kept (W:=V4.drew) rfl).look1 Tryz.keyedKey Tryz.underlying101 (Tryz.zeroPtr71 _) hkl
 have hw2:=(unhide HW2) V4.drew ⟨hg4.os,hg4.tape,hg4.output,hg4.size,hg4.block⟩ ⟨_,hf4⟩
 unfold WoutC at hw2
 obtain⟨_,f1,_⟩:=hf4.cs
 have KEEP:V4.cell? ⟨fb,1,none⟩=some (.map (some km))∧V4.cell? ⟨eb,0,none⟩=some (.int .i64 pl)∧V4.cell? ⟨kb,0,none⟩=some (.int .i64 k1)∧V4.cell? ⟨kb,1,none⟩=some (.int .i64 k2)∧V4.cell? ⟨kb,2,none⟩=some (.string k3)∧V4.cell? ⟨kb,3,none⟩=some (.int .i64 (k4:Int)):=⟨f1,he4,by simp[World.cell?,hkb4],by simp[World.cell?,hkb4],by simp[World.cell?,hkb4],by simp[World.cell?,hkb4]⟩
 have hkbl:kb<V4.heap.size:=(Array.getElem?_eq_some_iff.1 hkb4).1
 have hfl4:fb<V4.heap.size:=hf4.lt
 have hml4:km<V4.heap.size:=hm4.lt
 have hel4:eb<V4.heap.size:=by omega
 have HV:=hide (And.intro hf4 (And.intro hm4 (And.intro hkb4 (And.intro hg4 (And.intro r1' hs4)))))
 have HKL:=hide hkl
 clear hf4 hm4 hkb4 he4 hg4 r1' f1 hkl hs4 HW2
 refine wp_region_noPanic ?_
 refine wp_region_held_drew (S:=(fun w'=>w'.cell? ⟨fb,1,none⟩=some (.map (some km))∧w'.cell? ⟨eb,0,none⟩=some (.int .i64 pl)∧w'.cell? ⟨kb,0,none⟩=some (.int .i64 k1)∧w'.cell? ⟨kb,1,none⟩=some (.int .i64 k2)∧w'.cell? ⟨kb,2,none⟩=some (.string k3)∧w'.cell? ⟨kb,3,none⟩=some (.int .i64 (k4:Int)))) (by kernel_rfl) ?_ (fun hHeld=>?_)
 ·exact KEEP
 refine tk 0 rfl hHeld ?_
 refine tk 1 rfl hHeld ?_
 refine tk 2 rfl hHeld ?_
 refine tk 3 rfl hHeld ?_
 refine tk 4 rfl hHeld ?_
 refine tk 5 rfl hHeld ?_
 refine tk 6 rfl hHeld ?_
 refine tk 7 rfl hHeld ?_
 refine tk 8 rfl hHeld ?_
 refine tk 9 rfl hHeld ?_
 refine tk 11 rfl hHeld ?_
 refine tk 12 rfl hHeld ?_
 refine tk 13 rfl hHeld ?_
 refine tk 14 rfl hHeld ?_
 refine rd 10 rfl fun K hK=>?_
 have hHold:=hHeld
 clear hHeld
 go_simp
 refine hK.out _ _ ?_ (fun hHeld=>?_)
 ·((try dsimp only);exact KEEP)
 clear hK K hHold
 try simp only[pu]
 refine rd 15 rfl fun K hK=>?_
 have hHold:=hHeld
 clear hHeld
 go_simp
 refine hw2.mono ?_
 clear hw2 hlk4
 rintro e V5 ⟨q2,rfl,b5,r2⟩
 have s5:V4.heap.size≤V5.heap.size:=b5.size
 have kc:∀k o,k<V4.heap.size→V5.cell? ⟨k,o,none⟩=V4.cell? ⟨k,o,none⟩:=fun k o hk=>World.cell?_of_block (a:=⟨k,o,none⟩) (w:=V4) (b5.block k hk)
 have KEEP:V5.cell? ⟨fb,1,none⟩=some (.map (some km))∧V5.cell? ⟨eb,0,none⟩=some (.int .i64 pl)∧V5.cell? ⟨kb,0,none⟩=some (.int .i64 k1)∧V5.cell? ⟨kb,1,none⟩=some (.int .i64 k2)∧V5.cell? ⟨kb,2,none⟩=some (.string k3)∧V5.cell? ⟨kb,3,none⟩=some (.int .i64 (k4:Int)):=⟨(kc _ _ hfl4).trans KEEP.1,(kc _ _ hel4).trans KEEP.2.1,(kc _ _ hkbl).trans KEEP.2.2.1,(kc _ _ hkbl).trans KEEP.2.2.2.1,(kc _ _ hkbl).trans KEEP.2.2.2.2.1,(kc _ _ hkbl).trans KEEP.2.2.2.2.2⟩
 clear kc
 go_wp2_with fail
 refine hK.out _ _ ?_ (fun hHeld=>?_)
 ·((try dsimp only);exact KEEP)
 clear hK K hHold
 try simp only[pu]
 refine rd 16 rfl fun K hK=>?_
 have hHold:=hHeld
 clear hHeld
 obtain⟨W',hup,hpm,hgr⟩:=((unhide HV).2.1.kept (b5.block km hml4)).putO Tryz.keyedKey Tryz.underlying101 (unhide HH).2.2.1 (unhide HKL) q2
 have kc:∀k o,k<V5.heap.size→k≠km→W'.cell? ⟨k,o,none⟩=V5.cell? ⟨k,o,none⟩:=fun k o hk hx=>World.cell?_of_block (a:=⟨k,o,none⟩) (w:=V5) (hgr.block k hk hx)
 have hx1:kb≠km:=by omega
 have hx2:eb≠km:=fun e=>by
  have h:=(unhide HV).2.1.kept (b5.block km hml4)
  have h5:=KEEP.2.1
  rw[e] at h5
  obtain⟨E,⟨es,clock,e1,_⟩,_⟩:=h
  have e1':V5.heap[km]?=_:=e1
  simp[World.cell?,e1'] at h5
 have KEEP:W'.cell? ⟨fb,1,none⟩=some (.map (some km))∧W'.cell? ⟨eb,0,none⟩=some (.int .i64 pl)∧W'.cell? ⟨kb,0,none⟩=some (.int .i64 k1)∧W'.cell? ⟨kb,1,none⟩=some (.int .i64 k2)∧W'.cell? ⟨kb,2,none⟩=some (.string k3)∧W'.cell? ⟨kb,3,none⟩=some (.int .i64 (k4:Int)):=⟨(kc _ _ (by omega) (unhide HH).2.2.2.1).trans KEEP.1,(kc _ _ (by omega) hx2).trans KEEP.2.1,(kc _ _ (by omega) hx1).trans KEEP.2.2.1,(kc _ _ (by omega) hx1).trans KEEP.2.2.2.1,(kc _ _ (by omega) hx1).trans KEEP.2.2.2.2.1,(kc _ _ (by omega) hx1).trans KEEP.2.2.2.2.2⟩
 go_simp
 refine hK.out _ _ ?_ (fun hHeld=>?_)
 ·((try dsimp only);exact KEEP)
 clear hK K hHold
 try simp only[pu]
 refine wpAnyH_done (by kernel_rfl) ?_ _
 refine NoPanic.normal ?_
 clear hHeld kc hup
 obtain⟨hf4,hm4,hkb4,hg4,r1',hs4⟩:=unhide HV
 have hne:=(unhide HH).2.2.2.1
 have hf6:FmBlk W' fb q1 km:=(hgr.block fb (by omega) hne).trans ((b5.block fb hfl4).trans hf4)
 have g56:GrB (fun k=>k=fb∨k=km) V5.heap.size V5 W':=⟨hgr.os,hgr.tape,hgr.output,hgr.size,fun k hk hx=>hgr.block k hk (fun e=>hx (.inr e))⟩
 have g45:GrB (fun k=>k=fb∨k=km) V4.heap.size V4 V5:=⟨b5.os,b5.tape,b5.output,b5.size,fun k hk _=>b5.block k hk⟩
 have rr1:=(unhide HR) all q1 V4 W' r1' (by omega) (g45.trans (g56.mono (by omega))) ⟨_,hf4⟩ hm4.mapB
 have rr2:=(unhide HR) (gk kl) q2 V5 W' r2 (by omega) g56 ⟨_,(b5.block fb hfl4).trans hf4⟩ (hm4.kept (b5.block km hml4)).mapB
 have hgf:GrB (fun k=>k=fb∨k=km) W.heap.size W W':=⟨(hgr.os.trans b5.os).trans hg4.os,(hgr.tape.trans b5.tape).trans hg4.tape,(hgr.output.trans b5.output).trans hg4.output,by have:=hgr.size;have:=hg4.size;omega,fun k hk hx=>(hgr.block k (by have:=hg4.size;omega) (fun e=>hx (.inr e))).trans ((b5.block k (by have:=hg4.size;show k<V4.heap.size;omega)).trans (hg4.block k hk (fun e=>hx (.inl e))))⟩
 have hsW:W.heap.size≤W'.heap.size:=hgf.size
 have HF:=hide (And.intro hf6 (And.intro hpm (And.intro rr1 (And.intro rr2 hgf))))
 have hlk6:(Instr.lookup 101 (.map (some km)) (.agg #[.int .i64 k1,.int .i64 k2,.string k3,.int .i64 (k4:Int)]) false).run Tryz.prog W'.drew=.ok (.pointer q2) W'.drew:=(hpm.kept (W:=W'.drew) rfl).look1 Tryz.keyedKey Tryz.underlying101 (Tryz.zeroPtr71 _) (unhide HKL)
 clear hf4 hm4 hkb4 hg4 r1' hs4 hf6 g56 g45 rr1 rr2 hgf hpm hgr b5 r2 hne
 cases q2 with
 | some a=>
  go_wp2_with fail
  refine wp_region_noPanic ?_
  refine wp_region_held_drew (S:=(fun w'=>w'.cell? ⟨fb,1,none⟩=some (.map (some km))∧w'.cell? ⟨eb,0,none⟩=some (.int .i64 pl)∧w'.cell? ⟨kb,0,none⟩=some (.int .i64 k1)∧w'.cell? ⟨kb,1,none⟩=some (.int .i64 k2)∧w'.cell? ⟨kb,2,none⟩=some (.string k3)∧w'.cell? ⟨kb,3,none⟩=some (.int .i64 (k4:Int)))) (by kernel_rfl) ?_ (fun hHeld=>?_)
  ·exact KEEP
  refine tk 0 rfl hHeld ?_
  refine tk 1 rfl hHeld ?_
  refine tk 2 rfl hHeld ?_
  refine tk 3 rfl hHeld ?_
  refine tk 4 rfl hHeld ?_
  refine rd 5 rfl fun K hK=>?_
  have hHold:=hHeld
  clear hHeld
  go_simp
  refine hK.out _ _ ?_ (fun hHeld=>?_)
  ·((try dsimp only);exact KEEP)
  clear hK K hHold
  try simp only[pu]
  refine tk 6 rfl hHeld ?_
  refine wpAnyH_done (by kernel_rfl) ?_ _
  refine NoPanic.normal ?_
  go_wp2_with fail
  all_goals go_end0
  all_goals exact⟨rfl,q1,some a,HF.out.1,HF.out.2.1.some,(unhide HR) _ _ _ _ HF.out.2.2.1 hsW (GrB.of_below (Below.refl _ W').drew) ⟨_,HF.out.1⟩ HF.out.2.1.mapB,(unhide HR) _ _ _ _ HF.out.2.2.2.1 hsW (GrB.of_below (Below.refl _ W').drew) ⟨_,HF.out.1⟩ HF.out.2.1.mapB,HF.out.2.2.2.2.trans (GrB.of_below (Below.refl _ W').drew)⟩
 | none=>
  go_wp2_with fail
  refine wp_region_noPanic ?_
  refine wp_region_held_drew (S:=(fun w'=>w'.cell? ⟨fb,1,none⟩=some (.map (some km))∧w'.cell? ⟨eb,0,none⟩=some (.int .i64 pl)∧w'.cell? ⟨kb,0,none⟩=some (.int .i64 k1)∧w'.cell? ⟨kb,1,none⟩=some (.int .i64 k2)∧w'.cell? ⟨kb,2,none⟩=some (.string k3)∧w'.cell? ⟨kb,3,none⟩=some (.int .i64 (k4:Int)))) (by kernel_rfl) ?_ (fun hHeld=>?_)
  ·exact KEEP
  refine tk 0 rfl hHeld ?_
  refine tk 1 rfl hHeld ?_
  refine tk 2 rfl hHeld ?_
  refine tk 3 rfl hHeld ?_
  refine tk 4 rfl hHeld ?_
  refine rd 5 rfl fun K hK=>?_
  have hHold:=hHeld
  clear hHeld
  go_simp
  refine hK.out _ _ ?_ (fun hHeld=>?_)
  ·((try dsimp only);exact KEEP)
  clear hK K hHold
  try simp only[pu]
  refine tk 6 rfl hHeld ?_
  refine wpAnyH_done (by kernel_rfl) ?_ _
  refine NoPanic.normal ?_
  have hsk:kb<W'.heap.size:=by have:=s5;have:=HF.out.2.1.lt;exact cell_in KEEP.2.2.1
  clear hHeld hlk6
  go_wp2_with fail
  refine wp_region_noPanic ?_
  refine wp_region_held_drew (S:=(fun w'=>w'.cell? ⟨fb,1,none⟩=some (.map (some km))∧w'.cell? ⟨eb,0,none⟩=some (.int .i64 pl)∧w'.cell? ⟨kb,0,none⟩=some (.int .i64 k1)∧w'.cell? ⟨kb,1,none⟩=some (.int .i64 k2)∧w'.cell? ⟨kb,2,none⟩=some (.string k3)∧w'.cell? ⟨kb,3,none⟩=some (.int .i64 (k4:Int)))) (by kernel_rfl) ?_ (fun hHeld=>?_)
  ·exact KEEP
  refine tk 0 rfl hHeld ?_
  refine tk 1 rfl hHeld ?_
  refine tk 2 rfl hHeld ?_
  refine tk 3 rfl hHeld ?_
  refine tk 4 rfl hHeld ?_
  refine rd 5 rfl fun K hK=>?_
  have hHold:=hHeld
  clear hHeld
  obtain⟨W7,hdel,hpm7,hg7⟩:=(HF.out.2.1.kept (W:=W'.drew.drew) rfl).cut Tryz.keyedKey Tryz.underlying101 (unhide HKL) 0
  have kc:∀k o,k<W'.heap.size→k≠km→W7.cell? ⟨k,o,none⟩=W'.cell? ⟨k,o,none⟩:=fun k o hk hx=>World.cell?_of_block (a:=⟨k,o,none⟩) (w:=W') (hg7.block k hk hx)
  have KEEP:W7.cell? ⟨fb,1,none⟩=some (.map (some km))∧W7.cell? ⟨eb,0,none⟩=some (.int .i64 pl)∧W7.cell? ⟨kb,0,none⟩=some (.int .i64 k1)∧W7.cell? ⟨kb,1,none⟩=some (.int .i64 k2)∧W7.cell? ⟨kb,2,none⟩=some (.string k3)∧W7.cell? ⟨kb,3,none⟩=some (.int .i64 (k4:Int)):=⟨(kc _ _ (by omega) (unhide HH).2.2.2.1).trans KEEP.1,(kc _ _ (by omega) hx2).trans KEEP.2.1,(kc _ _ (by omega) hx1).trans KEEP.2.2.1,(kc _ _ (by omega) hx1).trans KEEP.2.2.2.1,(kc _ _ (by omega) hx1).trans KEEP.2.2.2.2.1,(kc _ _ (by omega) hx1).trans KEEP.2.2.2.2.2⟩
  go_simp
  refine hK.out _ _ ?_ (fun hHeld=>?_)
  ·((try dsimp only);exact KEEP)
  clear hK K hHold
  try simp only[pu]
  refine wpAnyH_done (by kernel_rfl) ?_ _
  refine NoPanic.normal ?_
  clear hHeld KEEP kc hdel
  have g67:GrB (fun k=>k=fb∨k=km) W'.heap.size W' W7:=⟨hg7.os,hg7.tape,hg7.output,hg7.size,fun k hk hx=>hg7.block k hk (fun e=>hx (.inr e))⟩
  have HE:Hid (FmBlk W7 fb q1 km∧PM 106 W7 km (cnt+1) (setO gk kl none)∧R all q1 W7∧R (gk kl) none W7∧GrB (fun k=>k=fb∨k=km) W.heap.size W W7):=⟨(hg7.block fb (show fb<W'.heap.size by omega) (unhide HH).2.2.2.1).trans HF.out.1,hpm7,(unhide HR) _ _ _ _ HF.out.2.2.1 hsW g67 ⟨_,HF.out.1⟩ HF.out.2.1.mapB,(unhide HR) _ _ _ _ HF.out.2.2.2.1 hsW g67 ⟨_,HF.out.1⟩ HF.out.2.1.mapB,HF.out.2.2.2.2.trans (g67.mono hsW)⟩
  clear g67 hg7 hpm7 HF
  go_wp2_with fail
  all_goals go_end0
  all_goals exact⟨rfl,q1,none,HE.out⟩
set_option maxHeartbeats 1000000
set_option maxRecDepth 100000
theorem remove_absent(b me mf:Nat)(laid id:Int)(ce:Nat)(ge:Lit→Option Addr)(W:World)(hb:BsBlk W b laid me mf)(hme:PM 3 W me ce ge)(hid0: -9223372036854775808≤id)(hid1:id≤9223372036854775807)(hge:ge (.int .i64 id)=none):
  Calls Tryz.prog 11 #[.pointer (some ⟨b,0,none⟩),.int .i64 id] W fun e W'=>e=.returned (.int .i64 8)∧W'=W:=by
 have hki:keyOf Tryz.prog 3 (.int .i64 id)=some (.int .i64 id):=keyOf_int_mk Tryz.underlying3 (by simp[Lit.wf,IntKind.min,IntKind.max,IntKind.signed,IntKind.bits];omega)
 have hlk:=hme.look Tryz.keyed3 Tryz.underlying43 (Tryz.zeroPtr61 _) hki
 rw[hge] at hlk
 simp only[Option.isSome_none] at hlk
 obtain⟨c0,c1,c2,-⟩:=hb.cs
 clear hb hme hki hge c0 c2
 go_enter Tryz.func11,Tryz.ntmps11
 go_wp2_with fail
 all_goals go_ret
 all_goals exact⟨rfl,rfl⟩
/-- What base's drop does, of a family and an entry. -/
def DropC(fb eb:Nat)(Pd:World→World→Prop)(V:World):Prop:=Calls Tryz.prog 28 #[.pointer (some ⟨fb,0,none⟩),.pointer (some ⟨eb,0,none⟩)] V fun e V'=>e=.returned (.tuple #[])∧Pd V V'
theorem remove_there(b me mf eb fb:Nat)(laid id pl:Int)(ce cf:Nat)(ge gf:Lit→Option Addr){n:Nat}(th:Tm (n+1))(bx:TV)(Pd:World→World→Prop)(W:World)(hb:BsBlk W b laid me mf)(hme:PM 3 W me ce ge)(hmf:PM 80 W mf cf gf)(hid0: -9223372036854775808≤id)(hid1:id≤9223372036854775807)(hge:ge (.int .i64 id)=some ⟨eb,0,none⟩)
  (hen:EnBlk W eb pl th.tv bx) (hT:IsT W.heap.size W th) (hgf:gf (predL th.tv.s th.tv.len)=some ⟨fb,0,none⟩) (hbm:b≠me) (hmm:mf≠me) (hem:eb≠me) (hdr:∀V,GrB (fun k=>k=me) W.heap.size W V→DropC fb eb Pd V) (hPd:∀V V',Pd V V'→V'.heap[b]?=V.heap[b]?∧V'.heap[eb]?=V.heap[eb]?):
  Calls Tryz.prog 11 #[.pointer (some ⟨b,0,none⟩),.int .i64 id] W fun e W'=>e=.returned (.int .i64 0)∧∃V,GrB (fun k=>k=me) W.heap.size W V∧PM 3 V me ce (setO ge (.int .i64 id) none)∧Pd V W':=by
 have hki:keyOf Tryz.prog 3 (.int .i64 id)=some (.int .i64 id):=keyOf_int_mk Tryz.underlying3 (by simp[Lit.wf,IntKind.min,IntKind.max,IntKind.signed,IntKind.bits];omega)
 have hlk:=hme.look Tryz.keyed3 Tryz.underlying43 (Tryz.zeroPtr61 _) hki
 rw[hge] at hlk
 simp only[Option.isSome_some] at hlk
 obtain⟨V1,hdel,hpm1,hg1⟩:=hme.cut Tryz.keyed3 Tryz.underlying43 hki 0
 obtain⟨c0,c1,c2,-⟩:=hb.cs
 have hbl:=hb.lt
 have hel:=hen.lt
 have hml:=hmf.lt
 have hpr:=predicateOf_any th.tv
 have hsl:th.tv.s.size≤maxLen:=hT.2.2.1
 have hl50:th.tv.len≤9223372036854775807:=hT.2.1.1
 have hb1:BsBlk V1 b laid me mf:=(hg1.block b hbl hbm).trans hb
 have he1:EnBlk V1 eb pl th.tv bx:=(hg1.block eb hel hem).trans hen
 have hmf1:=hmf.kept (hg1.block mf hml hmm)
 have hpk:=pred_key th.tv.s th.tv.len hsl hl50
 have HH:=hide (And.intro hpm1 (And.intro hg1 (And.intro hb1 (And.intro he1 (And.intro hmf1 (And.intro hgf hpk))))))
 have HD:=hide hdr
 have HP:=hide hPd
 simp only[predV,TV.val] at hpr
 clear hb hme hmf hge hen hT hgf hpm1 hg1 hb1 he1 hmf1 hki c0 c2 hdr hPd hpk hsl hl50
 go_enter Tryz.func11,Tryz.ntmps11
 go_wp2_with fail
 clear hlk hdel c1
 obtain⟨hpm1,hg1,hb1,he1,hmf1,hgf,hpk⟩:=unhide HH
 have KEEP:V1.cell? ⟨b,2,none⟩=some (.map (some mf))∧V1.cell? ⟨eb,1,none⟩=some (.int .i64 th.tv.k)∧V1.cell? ⟨eb,2,none⟩=some (.int .i64 th.tv.N)∧V1.cell? ⟨eb,3,none⟩=some (.string th.tv.s)∧V1.cell? ⟨eb,4,none⟩=some (.slice th.tv.a th.tv.len th.tv.cap):=⟨hb1.cs.2.2.1,he1.cs.2.1.1,he1.cs.2.1.2.1,he1.cs.2.1.2.2.1,he1.cs.2.1.2.2.2⟩
 have hs1:=hg1.size
 clear hpm1 hg1 hb1 he1 hmf1 hgf hpk
 refine wp_region_noPanic ?_
 refine wp_region_held_drew (S:=(fun w'=>w'.cell? ⟨b,2,none⟩=some (.map (some mf))∧w'.cell? ⟨eb,1,none⟩=some (.int .i64 th.tv.k)∧w'.cell? ⟨eb,2,none⟩=some (.int .i64 th.tv.N)∧w'.cell? ⟨eb,3,none⟩=some (.string th.tv.s)∧w'.cell? ⟨eb,4,none⟩=some (.slice th.tv.a th.tv.len th.tv.cap))) (by kernel_rfl) ?_ (fun hHeld=>?_)
 ·exact KEEP
 refine tk 0 rfl hHeld ?_
 refine tk 1 rfl hHeld ?_
 refine tk 2 rfl hHeld ?_
 refine tk 3 rfl hHeld ?_
 refine tk 4 rfl hHeld ?_
 refine tk 5 rfl hHeld ?_
 refine tk 6 rfl hHeld ?_
 refine tk 7 rfl hHeld ?_
 refine tk 8 rfl hHeld ?_
 refine tk 11 rfl hHeld ?_
 refine rd 9 rfl fun K hK=>?_
 have hHold:=hHeld
 clear hHeld
 go_simp
 refine(hpr _).mono ?_
 clear hpr
 rintro e V2 ⟨rfl,g2⟩
 have s2:V1.heap.size≤V2.heap.size:=g2.size
 have kc:∀k o,k<V1.heap.size→V2.cell? ⟨k,o,none⟩=V1.cell? ⟨k,o,none⟩:=fun k o hk=>World.cell?_of_block (a:=⟨k,o,none⟩) (w:=V1) (g2.block k hk)
 have KEEP:V2.cell? ⟨b,2,none⟩=some (.map (some mf))∧V2.cell? ⟨eb,1,none⟩=some (.int .i64 th.tv.k)∧V2.cell? ⟨eb,2,none⟩=some (.int .i64 th.tv.N)∧V2.cell? ⟨eb,3,none⟩=some (.string th.tv.s)∧V2.cell? ⟨eb,4,none⟩=some (.slice th.tv.a th.tv.len th.tv.cap):=⟨(kc _ _ (by omega)).trans KEEP.1,(kc _ _ (by omega)).trans KEEP.2.1,(kc _ _ (by omega)).trans KEEP.2.2.1,(kc _ _ (by omega)).trans KEEP.2.2.2.1,(kc _ _ (by omega)).trans KEEP.2.2.2.2⟩
 have hlk2:(Instr.lookup 44 (.map (some mf)) (.agg #[.string th.tv.s,.int .i64 (th.tv.len:Int)]) false).run Tryz.prog V2=.ok (.pointer (some ⟨fb,0,none⟩)) V2:=by
  have h:=((unhide HH).2.2.2.2.1.kept (g2.block mf (show mf<V1.heap.size by omega))).look1 Tryz.keyedPred Tryz.underlying44 (Tryz.zeroPtr64 _) (unhide HH).2.2.2.2.2.2
  rw[(unhide HH).2.2.2.2.2.1] at h
  exact h
 have gV2:GrB (fun k=>k=me) W.heap.size W V2:=(unhide HH).2.1.trans ⟨g2.os,g2.tape,g2.output,s2,fun k hk _=>g2.block k (show k<V1.heap.size by omega)⟩
 have hdc:=(unhide HD) V2 gV2
 unfold DropC at hdc
 have hpm2:=(unhide HH).1.kept (g2.block me (unhide HH).1.lt)
 have HF:=hide (And.intro gV2 hpm2)
 clear kc gV2 hpm2 g2
 go_wp2_with fail
 refine hK.out _ _ ?_ (fun hHeld=>?_)
 ·((try dsimp only);exact KEEP)
 clear hK K hHold
 try simp only[pu]
 refine rd 10 rfl fun K hK=>?_
 have hHold:=hHeld
 clear hHeld
 go_simp
 refine hK.out _ _ ?_ (fun hHeld=>?_)
 ·((try dsimp only);exact KEEP)
 clear hK K hHold
 try simp only[pu]
 refine rd 12 rfl fun K hK=>?_
 have hHold:=hHeld
 clear hHeld
 go_simp
 refine hdc.mono ?_
 clear hdc hlk2
 rintro e V3 ⟨rfl,p3⟩
 have kp:=(unhide HP) _ _ p3
 have KEEP:V3.cell? ⟨b,2,none⟩=some (.map (some mf))∧V3.cell? ⟨eb,1,none⟩=some (.int .i64 th.tv.k)∧V3.cell? ⟨eb,2,none⟩=some (.int .i64 th.tv.N)∧V3.cell? ⟨eb,3,none⟩=some (.string th.tv.s)∧V3.cell? ⟨eb,4,none⟩=some (.slice th.tv.a th.tv.len th.tv.cap):=⟨(World.cell?_of_block (a:=⟨b,2,none⟩) (w:=V2) kp.1).trans KEEP.1,(World.cell?_of_block (a:=⟨eb,1,none⟩) (w:=V2) kp.2).trans KEEP.2.1,(World.cell?_of_block (a:=⟨eb,2,none⟩) (w:=V2) kp.2).trans KEEP.2.2.1,(World.cell?_of_block (a:=⟨eb,3,none⟩) (w:=V2) kp.2).trans KEEP.2.2.2.1,(World.cell?_of_block (a:=⟨eb,4,none⟩) (w:=V2) kp.2).trans KEEP.2.2.2.2⟩
 clear kp
 go_wp2_with fail
 refine hK.out _ _ ?_ (fun hHeld=>?_)
 ·((try dsimp only);exact KEEP)
 clear hK K hHold
 try simp only[pu]
 refine wpAnyH_done (by kernel_rfl) ?_ _
 refine NoPanic.normal ?_
 clear hHeld KEEP
 have HP3:=hide p3
 clear p3
 go_wp2_with fail
 all_goals go_ret
 all_goals exact⟨rfl,V2,HF.out.1,HF.out.2,unhide HP3⟩
/-- The kinds of block that are never changed once they are made. -/
def FixK(t:TypeId):Prop:=t=145∨t=73∨t=34
/-- A block that may be changed: it is of another kind. -/
def NoFix(W:World)(k:Nat):Prop:= ∀(c:Array Value) (t:TypeId) (o:Nat×Nat),W.heap[k]?=some (.cells c t o)→¬FixK t
def Fixed(W W':World):Prop:=W.heap.size≤W'.heap.size∧∀(k:Nat) (c:Array Value) (t:TypeId) (o:Nat×Nat),W.heap[k]?=some (.cells c t o)→FixK t→W'.heap[k]?=W.heap[k]?
theorem Fixed.trans{W W' W'':World}(h:Fixed W W')(h':Fixed W' W''):Fixed W W'':=⟨Nat.le_trans h.1 h'.1,fun k c t o hk ht=>(h'.2 k c t o ((h.2 k c t o hk ht).trans hk) ht).trans (h.2 k c t o hk ht)⟩
theorem GrB.fixed{X:Nat→Prop}{W W':World}(g:GrB X W.heap.size W W')(hX:∀k,X k→NoFix W k):Fixed W W':=
 ⟨g.size,fun k c t o hk ht=>g.block k (Array.getElem?_eq_some_iff.1 hk).1 (fun hx=>hX k hx c t o hk ht)⟩
theorem Below.fixed{W W':World}(g:Below W.heap.size W W'):Fixed W W':=GrB.fixed (X:=fun _=>False) (GrB.of_below g) (fun _ h=>h.elim)
theorem MapB.nofix{W:World}{k:Nat}(h:MapB W k):NoFix W k:=fun c t o hk=>by
 obtain⟨es,cl,e⟩:=h
 rw[e] at hk
 cases hk
theorem FmBlk.nofix{W:World}{fb:Nat}{all:Option Addr}{km:Nat}(h:FmBlk W fb all km):NoFix W fb:=fun c t o hk=>by
 have h':W.heap[fb]?=_:=h
 rw[h'] at hk
 cases hk
 unfold FixK
 decide
theorem BsBlk.nofix{W:World}{b:Nat}{laid:Int}{me mf:Nat}(h:BsBlk W b laid me mf):NoFix W b:=fun c t o hk=>by
 have h':W.heap[b]?=_:=h
 rw[h'] at hk
 cases hk
 unfold FixK
 decide
theorem VwBlk.nofix{W:World}{vb:Nat}{p q:Option Addr}{last:Int}(h:VwBlk W vb p q last):NoFix W vb:=fun c t o hk=>by
 have h':W.heap[vb]?=_:=h
 rw[h'] at hk
 cases hk
 unfold FixK
 decide
/-- Entries of a row, each a block of its kind, with its place. -/
def EnAll(W:World)(L:List (Nat×Int)):Prop:= ∀y∈L,∃hx bx,EnBlk W y.1 y.2 hx bx
theorem EnBlk.fixed{W W':World}{eb:Nat}{pl:Int}{hx bx:TV}(h:EnBlk W eb pl hx bx)(f:Fixed W W'):EnBlk W' eb pl hx bx:=(f.2 eb _ _ _ h (Or.inr (Or.inl rfl))).trans h
theorem EnAll.fixed{W W':World}{L:List (Nat×Int)}(h:EnAll W L)(f:Fixed W W'):EnAll W' L:=fun y hy=>by
 obtain⟨hx,bx,e⟩:=h y hy
 exact⟨hx,bx,e.fixed f⟩
theorem TrL.fixed{W W':World}{p:Option Addr}{L:List (Nat×Int)}{h:Int}(ht:TrL W p L h)(he:EnAll W L)(f:Fixed W W'):TrL W' p L h:=by
 refine TrL.ind (P:=fun p L h=>EnAll W L→TrL W' p L h) (fun _=>TrL.nil _) ?_ ht he
 intro tb eb pl lp rp Ll Lr hl hr hb hc _ _ i1 i2 he
 refine(i1 (fun y hy=>he y (by simp[hy]))).node (i2 (fun y hy=>he y (by simp[hy]))) ((f.2 tb _ _ _ hb (Or.inl rfl)).trans hb) ?_
 obtain⟨hx,bx,e⟩:=he (eb,pl) (by simp)
 exact(e.fixed f).cs.1
theorem TrL.uniq{W:World}{p:Option Addr}{L L':List (Nat×Int)}{h h':Int}(ht:TrL W p L h)(ht':TrL W p L' h'):L=L'∧h=h':=by
 refine TrL.ind (P:=fun p L h=> ∀L' h',TrL W p L' h'→L=L'∧h=h') ?_ ?_ ht L' h' ht'
 ·intro L' h' k
  rcases k.cases with⟨_,rfl,rfl⟩ | ⟨tb,xb,xl,lp,rp,Ll,Lr,hl,hr,e,_⟩
  ·exact⟨rfl,rfl⟩
  ·cases e
 ·intro tb eb pl lp rp Ll Lr hl hr hb hc _ _ i1 i2 L' h' k
  rcases k.cases with⟨e,_⟩ | ⟨tb',xb,xl,lp',rp',Ll',Lr',hl',hr',e,hb',hx,k1,k2,rfl,rfl⟩
  ·cases e
  ·cases e
   rw[hb] at hb'
   simp at hb'
   obtain⟨rfl,rfl,rfl,hh⟩:=hb'
   rw[hc] at hx
   simp at hx
   subst hx
   obtain⟨rfl,rfl⟩:=i1 _ _ k1
   obtain⟨rfl,rfl⟩:=i2 _ _ k2
   exact⟨rfl,rfl⟩
theorem insL_mem{L:List (Nat×Int)}{x y:Nat×Int}(h:y∈insL L x):y=x∨y∈L:=by
 unfold insL at h
 simp at h
 rcases h with h | h | h
 ·exact .inr h.1
 ·exact .inl h
 ·exact .inr h.1
end Go.Proofs.YteaiefjmcinljaaGreatDoor
