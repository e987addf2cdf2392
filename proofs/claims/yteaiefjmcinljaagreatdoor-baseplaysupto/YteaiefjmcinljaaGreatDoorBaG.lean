import Derived.Test.YteaiefjmcinljaaGreatDoorBaF
namespace Go.Proofs.YteaiefjmcinljaaGreatDoor
set_option maxHeartbeats 4000000
set_option maxRecDepth 100000
open Go.RowKit Go.Shelf
/-- A number of storeys, no greater than k. -/
abbrev Upto(k:Nat):Type:={D:Nat // D≤k}
theorem same_shared{D D':Nat}{S S':Nat→Prop}{W:World}{v v':Value}{c c':List Nd}(h:HoldsS D S W v c)(h':HoldsS D' S' W v' c')(hD:D+D'≤2199023255552:=by first | omega | exact upto_two _ _ (by omega) | exact upto_left _ (by omega) | exact upto_right _ (by omega)):
  Calls Tryz.prog 15 #[v,v'] W fun e W'=>e=.returned (.bool (decide (c=c')))∧Below W.heap.size W W':=by
 obtain⟨t,rfl,hT,-,hc⟩:=h (D+D') (by omega) hD
 obtain⟨t',rfl,hT',-,hc'⟩:=h' (D+D') (by omega) hD
 have hs:=same_any _ t t' W hT hT'
 rw[sameT_code hT.wl hT'.wl,hc,hc'] at hs
 exact hs
theorem box_plain(W:World)(x y:TV):∃W2,(W.alloc (.cells #[.int .i64 x.k,.int .i64 x.N,.string x.s,.slice x.a x.len x.cap,.int .i64 y.k,.int .i64 y.N,.string y.s,.slice y.a y.len y.cap] 36)).alloc (.cells #[.int .i64 0,.int .i64 0,.string ⟨#[]⟩,.slice none 0 0] 34)=W2∧Below W.heap.size W W2∧W.heap.size+2≤W2.heap.size∧BoxC W2 W.heap.size x y∧BoxT W2 (W.heap.size+1) noTerm:=by
 refine⟨_,rfl,((Below.refl _ W).alloc (Nat.le_refl _) _).alloc (by simp) _,by simp,(Below.heap_alloc _ _ _ (by simp)).trans (BoxC.new W x y),?_⟩
 have h:=BoxT.new (W.alloc (.cells #[.int .i64 x.k,.int .i64 x.N,.string x.s,.slice x.a x.len x.cap,.int .i64 y.k,.int .i64 y.N,.string y.s,.slice y.a y.len y.cap] 36)) noTerm
 rw[World.size_alloc] at h
 exact h
/-- What Plain answers beside an error or none. -/
def PSays(D ns lo:Nat)(err:Int)(c:List Nd)(e:Ending)(W':World):Prop:= ∃x:TV,e=.returned (.tuple #[x.val,.int .i64 err])∧(err=0→HoldsS D (Mix ns lo) W' x.val c)∧(err≠0→x=noTerm)
def plainE(r:Option (List Nd×List Nd))(h b:List Nd):Int:=
 match r with
 | some (h',b')=>if h'=h∧b'=b then 0 else 7
 | none=>7
theorem rplain_bad1{n:Nat}(th tb:Tm (n+1))(W:World)(hTH:IsT W.heap.size W th)(okh:okT th=false):
  Calls Tryz.prog 27 #[clV th.tv tb.tv] W fun e W'=>PSays 0 0 0 2 [] e W'∧Below W.heap.size W W':=by
 have Hth:Hid (∀V,Below W.heap.size W V→Calls Tryz.prog 31 #[th.tv.val] V fun e W'=>e=.returned (.bool false)∧Below V.heap.size V W'):=fun V hb=>by have h:=formed_any _ th V ((hTH.below hb).mono hb.size);rw[okh] at h;exact h
 obtain⟨W2,hW2,hb2,hs2,bC,bZ⟩:=box_plain W th.tv tb.tv
 obtain⟨⟨c0,c1,c2,c3⟩,c4,c5,c6,c7⟩:=bC.cs
 have hf:=Hth.out W2 hb2
 simp only[TV.val] at hf
 simp only[clV]
 clear hTH Hth okh
 have HZ:=hide bZ
 clear bZ bC
 go_enter Tryz.func27,Tryz.ntmps27
 go_wp2_with fail
 try rw[hW2]
 refine hf.mono ?_
 rintro e V ⟨rfl,g⟩
 try rw[hW2] at g
 clear hf hW2 c0 c1 c2 c3 c4 c5 c6 c7
 have s1:=g.size
 have bZ:=(unhide HZ).below g (by omega)
 have hB:Below W.heap.size W V:=hb2.trans (g.mono (by omega))
 clear g
 have z0:=bZ.c0
 have z1:=bZ.c1
 have z2:=bZ.c2
 have z3:=bZ.c3
 obtain⟨f0,f1,f2,f3⟩:=bZ.frz
 have HF:Hid (Below W.heap.size W (set4 V (W.heap.size+1) 0 noTerm)):=set4_below hB (by omega) 0 _
 clear bZ hB
 go_wp2_with fail
 refine bodyPost_ret (v:=.tuple #[noTerm.val,.int .i64 2]) (by simp[results,Tryz.results27,go_sem,TV.val,noTerm,z0,z1,z2,z3]) rfl ⟨?_,HF.out⟩
 exact⟨noTerm,rfl,fun h=>by omega,fun _=>rfl⟩
theorem rplain_bad2{n:Nat}(th tb:Tm (n+1))(W:World)(hTH:IsT W.heap.size W th)(hTB:IsT W.heap.size W tb)(okh:okT th=true)(okb:okT tb=false):
  Calls Tryz.prog 27 #[clV th.tv tb.tv] W fun e W'=>PSays 0 0 0 2 [] e W'∧Below W.heap.size W W':=by
 have Hth:Hid (∀V,Below W.heap.size W V→Calls Tryz.prog 31 #[th.tv.val] V fun e W'=>e=.returned (.bool true)∧Below V.heap.size V W'):=fun V hb=>by have h:=formed_any _ th V ((hTH.below hb).mono hb.size);rw[okh] at h;exact h
 have Htb:Hid (∀V,Below W.heap.size W V→Calls Tryz.prog 31 #[tb.tv.val] V fun e W'=>e=.returned (.bool false)∧Below V.heap.size V W'):=fun V hb=>by have h:=formed_any _ tb V ((hTB.below hb).mono hb.size);rw[okb] at h;exact h
 obtain⟨W2,hW2,hb2,hs2,bC,bZ⟩:=box_plain W th.tv tb.tv
 obtain⟨⟨c0,c1,c2,c3⟩,c4,c5,c6,c7⟩:=bC.cs
 have hf:=Hth.out W2 hb2
 simp only[TV.val] at hf Htb
 simp only[clV]
 clear hTH hTB Hth okh okb
 have HZ:=hide bZ
 have HC:=hide bC
 clear bZ bC
 go_enter Tryz.func27,Tryz.ntmps27
 go_wp2_with fail
 try rw[hW2]
 refine hf.mono ?_
 rintro e V0 ⟨rfl,g0⟩
 try rw[hW2] at g0
 clear hf hW2 c0 c1 c2 c3 c4 c5 c6 c7
 have s0:=g0.size
 have bC:=(unhide HC).below g0 (by omega)
 obtain⟨⟨c0,c1,c2,c3⟩,c4,c5,c6,c7⟩:=bC.cs
 have hB0:Below W.heap.size W V0:=hb2.trans (g0.mono (by omega))
 have hf:=Htb.out V0 hB0
 clear bC
 go_wp2_with fail
 refine hf.mono ?_
 rintro e V ⟨rfl,g⟩
 clear hf c0 c1 c2 c3 c4 c5 c6 c7
 have s1:=g.size
 have bZ:=((unhide HZ).below g0 (by omega)).below g (by omega)
 have hB:Below W.heap.size W V:=hB0.trans (g.mono (by omega))
 clear g g0
 have z0:=bZ.c0
 have z1:=bZ.c1
 have z2:=bZ.c2
 have z3:=bZ.c3
 obtain⟨f0,f1,f2,f3⟩:=bZ.frz
 have HF:Hid (Below W.heap.size W (set4 V (W.heap.size+1) 0 noTerm)):=set4_below hB (by omega) 0 _
 clear bZ hB
 go_wp2_with fail
 refine bodyPost_ret (v:=.tuple #[noTerm.val,.int .i64 2]) (by simp[results,Tryz.results27,go_sem,TV.val,noTerm,z0,z1,z2,z3]) rfl ⟨?_,HF.out⟩
 exact⟨noTerm,rfl,fun h=>by omega,fun _=>rfl⟩
theorem rplain_true{n:Nat}(th tb:Tm (n+1))(m:Int)(W:World)(hTH:IsT W.heap.size W th)(hTB:IsT W.heap.size W tb)(okh:okT th=true)(okb:okT tb=true)(hi:isB tb.tv trueL 0=true)(hl:2*(code th).length≤4194304)(hm:W.cell? ⟨splitLay_ren.g 1,0,none⟩=some (.int .i64 m))(hm0:splitLay_ren.g 1<W.heap.size)(hn38:n≤274877906944:=by omega):
  Calls Tryz.prog 27 #[clV th.tv tb.tv] W fun e W'=>PSays (n+3) W.heap.size W.heap.size (plainE (makeC th.lift) (code th) (code tb)) (code th.lift) e W'∧Below W.heap.size W W':=by
 have HM:Hid (∀V,Below W.heap.size W V→V.cell? ⟨splitLay_ren.g 1,0,none⟩=some (.int .i64 m)∧splitLay_ren.g 1<V.heap.size):=fun V hb=>⟨(hb.cell (p:=⟨splitLay_ren.g 1,0,none⟩) hm0).trans hm,Nat.lt_of_lt_of_le hm0 hb.size⟩
 clear hm hm0
 obtain⟨tt,htt⟩:∃tt:Tm (n+2),tt=th.lift:=⟨_,rfl⟩
 have HXT0:Hid (tt.tv=th.tv):=by show tt.tv=th.tv;rw[htt];exact lift_tv th
 have HCT:Hid (code tt=code th):=by show code tt=_;rw[htt];exact lift_code th
 have HTL:Hid (∀V:World,IsT V.heap.size V th→IsT V.heap.size V tt):=fun V h=>by rw[htt];exact lift_isT h (by omega)
 have HOT:Hid (okT tt=true):=by show okT tt=true;rw[okT_m,HCT.out,←okT_m];exact okh
 have hlt:2*(code tt).length≤4194304:=by rw[HCT.out];exact hl
 rw[←htt]
 clear htt hl
 have Hth:Hid (∀V,Below W.heap.size W V→Calls Tryz.prog 31 #[th.tv.val] V fun e W'=>e=.returned (.bool true)∧Below V.heap.size V W'):=fun V hb=>by have h:=formed_any _ th V ((hTH.below hb).mono hb.size);rw[okh] at h;exact h
 have Htb:Hid (∀V,Below W.heap.size W V→Calls Tryz.prog 31 #[tb.tv.val] V fun e W'=>e=.returned (.bool true)∧Below V.heap.size V W'):=fun V hb=>by have h:=formed_any _ tb V ((hTB.below hb).mono hb.size);rw[okb] at h;exact h
 have i1:=ris_any tb.tv ⟨#[116,114,117,101]⟩ 0
 rw[show(⟨#[116,114,117,101]⟩:ByteArray).toList=trueL by decide +kernel,hi] at i1
 obtain⟨W2,hW2,hb2,hs2,bC,bZ⟩:=box_plain W th.tv tb.tv
 obtain⟨⟨c0,c1,c2,c3⟩,c4,c5,c6,c7⟩:=bC.cs
 have hf:=Hth.out W2 hb2
 simp only[TV.val] at hf Htb i1
 have HTH0:Hid (IsT W.heap.size W th):=hTH
 have HTB0:Hid (IsT W.heap.size W tb):=hTB
 have HOH:Hid (okT th=true):=okh
 have HOB:Hid (okT tb=true):=okb
 simp only[clV]
 clear hTH hTB Hth okh okb hi
 have HZ:=hide bZ
 have HC:=hide bC
 clear bZ bC
 go_enter Tryz.func27,Tryz.ntmps27
 go_wp2_with fail
 try rw[hW2]
 refine hf.mono ?_
 rintro e V0 ⟨rfl,g0⟩
 try rw[hW2] at g0
 clear hf hW2 c0 c1 c2 c3 c4 c5 c6 c7
 have s0:=g0.size
 have bC:=(unhide HC).below g0 (by omega)
 obtain⟨⟨c0,c1,c2,c3⟩,c4,c5,c6,c7⟩:=bC.cs
 have hB0:Below W.heap.size W V0:=hb2.trans (g0.mono (by omega))
 have hf:=Htb.out V0 hB0
 clear bC
 go_wp2_with fail
 refine hf.mono ?_
 rintro e V1 ⟨rfl,g1⟩
 clear hf c0 c1 c2 c3 c4 c5 c6 c7 Htb
 have s1:=g1.size
 have bC1:=((unhide HC).below g0 (by omega)).below g1 (by omega)
 have bZ1:=((unhide HZ).below g0 (by omega)).below g1 (by omega)
 have hB1:Below W.heap.size W V1:=hB0.trans (g1.mono (by omega))
 obtain⟨V2,e2,g2,s2,bR2⟩:∃V2,V1.alloc (.cells #[.int .i64 th.tv.k,.int .i64 th.tv.N,.string th.tv.s,.slice th.tv.a th.tv.len th.tv.cap] 34)=V2∧Below V1.heap.size V1 V2∧V1.heap.size+1≤V2.heap.size∧BoxT V2 V1.heap.size th.tv:=⟨_,rfl,(Below.refl _ _).alloc (Nat.le_refl _) _,by simp,BoxT.new V1 th.tv⟩
 have bC2:=bC1.below g2 (by omega)
 have bZ2:=bZ1.below g2 (by omega)
 have hB2:Below W.heap.size W V2:=hB1.trans (g2.mono (by omega))
 obtain⟨⟨c0,c1,c2,c3⟩,c4,c5,c6,c7⟩:=bC1.cs
 have HC2:=hide bC2
 have HZ2:=hide bZ2
 have HR2:=hide bR2
 clear bC1 bZ1 bC2 bZ2 bR2 HC HZ
 go_upto_region 4 with fail
 try rw[e2]
 clear e2 c0 c1 c2 c3 c4 c5 c6 c7
 have bC2:=unhide HC2
 obtain⟨⟨c0,c1,c2,c3⟩,c4,c5,c6,c7⟩:=bC2.cs
 clear bC2
 go_wp2_with fail
 refine(i1 _).mono ?_
 rintro e V3 ⟨rfl,g3⟩
 clear i1 c0 c1 c2 c3 c4 c5 c6 c7
 have s3:=g3.size
 have bC3:=(unhide HC2).below g3 (by omega)
 have bZ3:=(unhide HZ2).below g3 (by omega)
 have bR3:=(unhide HR2).below g3 (by omega)
 have hB3:Below W.heap.size W V3:=hB2.trans (g3.mono (by omega))
 clear HC2 HZ2 HR2 g0 g1 g2 g3
 obtain⟨xt,hxt⟩:∃xt,xt=th.tv:=⟨_,rfl⟩
 rw[←hxt] at bR3
 have HXT:Hid (tt.tv=xt):=by show tt.tv=xt;rw[HXT0.out,hxt]
 have HTT:Hid (IsT V3.heap.size V3 tt):=HTL.out V3 ((IsT.below hB3 HTH0.out).mono hB3.size)
 have HST:Hid (HoldsS (n+3) (Mix W.heap.size (W.heap.size+2)) V3 xt.val (code tt)):=by
  have h:=mix_of (IsT.below hB3 HTH0.out) hB3.size (W.heap.size+2)
  rw[←hxt,←HCT.out] at h
  exact mix_mono h (by omega) (Nat.le_refl _)
 clear hxt HXT0 HCT HTL HOH HOB
 have hp:W.heap.size+2≤V1.heap.size:=by omega
 have hpV:V1.heap.size<V3.heap.size:=by omega
 have sV:W.heap.size+2≤V3.heap.size:=by omega
 have hmk:=rmake_any tt m V3 HTT.out HOT.out hlt (HM.out V3 hB3).1 (HM.out V3 hB3).2
 rw[HXT.out] at hmk
 simp only[TV.val] at hmk
 have x0:=bR3.c0
 have x1:=bR3.c1
 have x2:=bR3.c2
 have x3:=bR3.c3
 have HC:=hide bC3
 have HZ:=hide bZ3
 have HRR:=hide bR3
 clear bC3 bZ3 bR3 HTT HOT HM hlt
 go_wp2_with fail
 refine hmk.mono ?_
 rintro e V6 ⟨⟨x',y',rfl,hcl⟩,g6⟩
 clear hmk x0 x1 x2 x3
 have s6:=g6.size
 simp only[clV]
 obtain⟨V7,e7,g7,s7,bD7⟩:∃V7,V6.alloc (.cells #[.int .i64 x'.k,.int .i64 x'.N,.string x'.s,.slice x'.a x'.len x'.cap,.int .i64 y'.k,.int .i64 y'.N,.string y'.s,.slice y'.a y'.len y'.cap] 36)=V7∧Below V6.heap.size V6 V7∧V6.heap.size+1≤V7.heap.size∧BoxC V7 V6.heap.size x' y':=⟨_,rfl,(Below.refl _ _).alloc (Nat.le_refl _) _,by simp,BoxC.new V6 x' y'⟩
 have bC7:=((unhide HC).below g6 (by omega)).below g7 (by omega)
 have bZ7:=((unhide HZ).below g6 (by omega)).below g7 (by omega)
 have bR7:=((unhide HRR).below g6 (by omega)).below g7 (by omega)
 have hB7:Below W.heap.size W V7:=(hB3.trans (g6.mono (by omega))).trans (g7.mono (by omega))
 have HS7:Hid (HoldsS (n+3) (Mix W.heap.size (W.heap.size+2)) V7 xt.val (code tt)):=((show HoldsS _ _ _ _ _ from HST.out).below g6).below g7
 clear HC HZ HRR HST
 have HC7:=hide bC7
 have HZ7:=hide bZ7
 have HR7:=hide bR7
 have HD7:=hide bD7
 have HCL:=hide hcl
 clear bC7 bZ7 bR7 bD7 hcl
 cases hmc:makeC tt with
 | none=>
  have HE:Hid (plainE (makeC tt) (code th) (code tb)=7):=by show plainE _ _ _=7;rw[hmc];rfl
  simp only[Option.isSome_none]
  clear hmc
  go_upto_region 7 with fail
  try rw[e7]
  clear e7
  have bZ:=unhide HZ7
  have z0:=bZ.c0
  have z1:=bZ.c1
  have z2:=bZ.c2
  have z3:=bZ.c3
  obtain⟨f0,f1,f2,f3⟩:=bZ.frz
  have HF:Hid (Below W.heap.size W (set4 V7 (W.heap.size+1) 0 noTerm)):=set4_below hB7 (by omega) 0 _
  clear bZ
  go_wp2_with fail
  refine bodyPost_ret (v:=.tuple #[noTerm.val,.int .i64 7]) (by simp[results,Tryz.results27,go_sem,TV.val,noTerm,z0,z1,z2,z3]) rfl ⟨?_,HF.out⟩
  rw[HE.out]
  exact⟨noTerm,rfl,fun h=>by omega,fun _=>rfl⟩
 | some hb'=>
  obtain⟨h',b'⟩:=hb'
  have hcl:=unhide HCL
  rw[hmc] at hcl
  obtain⟨hx,hy⟩:=hcl
  simp only[Option.isSome_some]
  have HMC:Hid (makeC tt=some (h',b')):=hmc
  clear hmc HCL
  have hs1:=same_shared ((show HoldsS _ _ _ _ _ from hx).below g7) (mix_of (IsT.below hB7 HTH0.out) hB7.size 0)
  have HY7:Hid (HoldsS (n+1+3) (Mix 0 V3.heap.size) V7 y'.val b'):=(show HoldsS _ _ _ _ _ from hy).below g7
  simp only[TV.val] at hs1
  clear hx hy
  go_upto_region 7 with fail
  try rw[e7]
  clear e7
  have bD:=unhide HD7
  obtain⟨⟨c0,c1,c2,c3⟩,-⟩:=bD.cs
  have bC:=unhide HC7
  obtain⟨⟨d0,d1,d2,d3⟩,-⟩:=bC.cs
  clear bD bC
  by_cases hh:h'=code th
  ·rw[decide_eq_true hh] at hs1
   go_wp2_with fail
   refine hs1.mono ?_
   rintro e V8 ⟨rfl,g8⟩
   clear hs1 c0 c1 c2 c3 d0 d1 d2 d3
   have s8:=g8.size
   have bD:=(unhide HD7).below g8 (by omega)
   obtain⟨-,c4,c5,c6,c7⟩:=bD.cs
   have bC:=(unhide HC7).below g8 (by omega)
   obtain⟨-,d4,d5,d6,d7⟩:=bC.cs
   have bZ8:=(unhide HZ7).below g8 (by omega)
   have bR8:=(unhide HR7).below g8 (by omega)
   have HZ8:=hide bZ8
   have HR8:=hide bR8
   have hB8:Below W.heap.size W V8:=hB7.trans (g8.mono (by omega))
   have hs2:=same_shared ((show HoldsS _ _ _ _ _ from HY7.out).below g8) (mix_of (IsT.below hB8 HTB0.out) hB8.size 0)
   simp only[TV.val] at hs2
   have HS8:Hid (HoldsS (n+3) (Mix W.heap.size (W.heap.size+2)) V8 xt.val (code tt)):=(show HoldsS _ _ _ _ _ from HS7.out).below g8
   clear bD bC bZ8 bR8 HY7 HS7
   by_cases hbb:b'=code tb
   ·have HE:Hid (plainE (makeC tt) (code th) (code tb)=0):=by show plainE _ _ _=0;rw[HMC.out];exact if_pos ⟨hh,hbb⟩
    rw[decide_eq_true hbb] at hs2
    clear hh hbb
    go_wp2_with fail
    refine hs2.mono ?_
    rintro e V9 ⟨rfl,g9⟩
    clear hs2 c4 c5 c6 c7 d4 d5 d6 d7
    have s9:=g9.size
    have bZ:=(unhide HZ8).below g9 (by omega)
    have bR:=(unhide HR8).below g9 (by omega)
    have hB9:Below W.heap.size W V9:=hB8.trans (g9.mono (by omega))
    have z0:=bZ.c0
    have z1:=bZ.c1
    have z2:=bZ.c2
    have z3:=bZ.c3
    obtain⟨f0,f1,f2,f3⟩:=bZ.frz
    have x0:=bR.c0
    have x1:=bR.c1
    have x2:=bR.c2
    have x3:=bR.c3
    have HF:Hid (Below W.heap.size W (set4 V9 (W.heap.size+1) 0 xt)∧HoldsS (n+3) (Mix W.heap.size (W.heap.size+2)) (set4 V9 (W.heap.size+1) 0 xt) xt.val (code tt)):=⟨set4_below hB9 (by omega) 0 _,mix_set4 ((show HoldsS _ _ _ _ _ from HS8.out).below g9) (by omega) (by omega) 0 _⟩
    clear bZ bR HS8
    go_wp2_with fail
    refine bodyPost_ret (v:=.tuple #[xt.val,.int .i64 0]) (by simp[results,Tryz.results27,go_sem,TV.val,noTerm,z0,z1,z2,z3]) rfl ⟨?_,HF.out.1⟩
    rw[HE.out]
    exact⟨xt,rfl,fun _=>mix_mono HF.out.2 (Nat.le_refl _) (by omega),fun h=>absurd rfl h⟩
   ·have HE:Hid (plainE (makeC tt) (code th) (code tb)=7):=by show plainE _ _ _=7;rw[HMC.out];exact if_neg fun h=>hbb h.2
    rw[decide_eq_false hbb] at hs2
    clear hh hbb
    go_wp2_with fail
    refine hs2.mono ?_
    rintro e V9 ⟨rfl,g9⟩
    clear hs2 c4 c5 c6 c7 d4 d5 d6 d7
    have s9:=g9.size
    have hB9:Below W.heap.size W V9:=hB8.trans (g9.mono (by omega))
    have bZ:=(unhide HZ8).below g9 (by omega)
    have z0:=bZ.c0
    have z1:=bZ.c1
    have z2:=bZ.c2
    have z3:=bZ.c3
    obtain⟨f0,f1,f2,f3⟩:=bZ.frz
    have HF:Hid (Below W.heap.size W (set4 V9 (W.heap.size+1) 0 noTerm)):=set4_below hB9 (by omega) 0 _
    clear bZ
    go_wp2_with fail
    refine bodyPost_ret (v:=.tuple #[noTerm.val,.int .i64 7]) (by simp[results,Tryz.results27,go_sem,TV.val,noTerm,z0,z1,z2,z3]) rfl ⟨?_,HF.out⟩
    rw[HE.out]
    exact⟨noTerm,rfl,fun h=>by omega,fun _=>rfl⟩
  ·have HE:Hid (plainE (makeC tt) (code th) (code tb)=7):=by show plainE _ _ _=7;rw[HMC.out];exact if_neg fun h=>hh h.1
   rw[decide_eq_false hh] at hs1
   clear hh
   go_wp2_with fail
   refine hs1.mono ?_
   rintro e V9 ⟨rfl,g9⟩
   clear hs1 c0 c1 c2 c3 d0 d1 d2 d3
   have s9:=g9.size
   have hB9:Below W.heap.size W V9:=hB7.trans (g9.mono (by omega))
   have bZ:=(unhide HZ7).below g9 (by omega)
   have z0:=bZ.c0
   have z1:=bZ.c1
   have z2:=bZ.c2
   have z3:=bZ.c3
   obtain⟨f0,f1,f2,f3⟩:=bZ.frz
   have HF:Hid (Below W.heap.size W (set4 V9 (W.heap.size+1) 0 noTerm)):=set4_below hB9 (by omega) 0 _
   clear bZ
   go_wp2_with fail
   refine bodyPost_ret (v:=.tuple #[noTerm.val,.int .i64 7]) (by simp[results,Tryz.results27,go_sem,TV.val,noTerm,z0,z1,z2,z3]) rfl ⟨?_,HF.out⟩
   rw[HE.out]
   exact⟨noTerm,rfl,fun h=>by omega,fun _=>rfl⟩
theorem colonL:(⟨#[58,45]⟩:ByteArray).toList=[58,45]:=by decide +kernel
/-- The term of a rule. -/
def ruleT{n:Nat}(blk:Nat)(th tb:Tm n):Tm (n+1):=((compV ⟨#[58,45]⟩ (some ⟨blk,0,none⟩) 2 2,[th,tb]):TV×List (Tm n))
theorem rule_code{n:Nat}(blk:Nat)(th tb:Tm n):code (ruleT blk th tb)=(4,0,[58,45],2)::(code th++code tb):=by
 unfold ruleT
 rw[code_succ]
 simp[TV.nd,compV]
theorem rule_make{n:Nat}(blk:Nat)(th tb:Tm n):makeC (ruleT blk th tb)=makeJ (headBad th.tv) (code th) (bodyC tb):=by
 have h:isB (compV ⟨#[58,45]⟩ (some ⟨blk,0,none⟩) 2 2) [58,45] 2=true:=by simp[isB,compV]
 exact if_pos h
theorem rplain_rule{n:Nat}(th tb:Tm (n+1))(m:Int)(W:World)(hTH:IsT W.heap.size W th)(hTB:IsT W.heap.size W tb)(okh:okT th=true)(okb:okT tb=true)(hi:isB tb.tv trueL 0=false)(hl:2*((code th).length+(code tb).length+1)≤4194304)(hm:W.cell? ⟨splitLay_ren.g 1,0,none⟩=some (.int .i64 m))(hm0:splitLay_ren.g 1<W.heap.size)(hn38:n≤274877906944:=by omega):
  Calls Tryz.prog 27 #[clV th.tv tb.tv] W fun e W'=>PSays (n+3) W.heap.size W.heap.size (plainE (makeJ (headBad th.tv) (code th) (bodyC tb)) (code th) (code tb)) ((4,0,[58,45],2)::(code th++code tb)) e W'∧Below W.heap.size W W':=by
 have HM:Hid (∀V,Below W.heap.size W V→V.cell? ⟨splitLay_ren.g 1,0,none⟩=some (.int .i64 m)∧splitLay_ren.g 1<V.heap.size):=fun V hb=>⟨(hb.cell (p:=⟨splitLay_ren.g 1,0,none⟩) hm0).trans hm,Nat.lt_of_lt_of_le hm0 hb.size⟩
 clear hm hm0
 have hcc:=rcompound_any ⟨#[58,45]⟩
 simp only[compV,TV.val] at hcc
 have Hth:Hid (∀V,Below W.heap.size W V→Calls Tryz.prog 31 #[th.tv.val] V fun e W'=>e=.returned (.bool true)∧Below V.heap.size V W'):=fun V hb=>by have h:=formed_any _ th V ((hTH.below hb).mono hb.size);rw[okh] at h;exact h
 have Htb:Hid (∀V,Below W.heap.size W V→Calls Tryz.prog 31 #[tb.tv.val] V fun e W'=>e=.returned (.bool true)∧Below V.heap.size V W'):=fun V hb=>by have h:=formed_any _ tb V ((hTB.below hb).mono hb.size);rw[okb] at h;exact h
 have i1:=ris_any tb.tv ⟨#[116,114,117,101]⟩ 0
 rw[show(⟨#[116,114,117,101]⟩:ByteArray).toList=trueL by decide +kernel,hi] at i1
 obtain⟨W2,hW2,hb2,hs2,bC,bZ⟩:=box_plain W th.tv tb.tv
 obtain⟨⟨c0,c1,c2,c3⟩,c4,c5,c6,c7⟩:=bC.cs
 have hf:=Hth.out W2 hb2
 simp only[TV.val] at hf Htb i1
 have HTH0:Hid (IsT W.heap.size W th):=hTH
 have HTB0:Hid (IsT W.heap.size W tb):=hTB
 have HOH:Hid (okT th=true):=okh
 have HOB:Hid (okT tb=true):=okb
 simp only[clV]
 clear hTH hTB Hth okh okb hi
 have HZ:=hide bZ
 have HC:=hide bC
 clear bZ bC
 go_enter Tryz.func27,Tryz.ntmps27
 go_wp2_with fail
 try rw[hW2]
 refine hf.mono ?_
 rintro e V0 ⟨rfl,g0⟩
 try rw[hW2] at g0
 clear hf hW2 c0 c1 c2 c3 c4 c5 c6 c7
 have s0:=g0.size
 have bC:=(unhide HC).below g0 (by omega)
 obtain⟨⟨c0,c1,c2,c3⟩,c4,c5,c6,c7⟩:=bC.cs
 have hB0:Below W.heap.size W V0:=hb2.trans (g0.mono (by omega))
 have hf:=Htb.out V0 hB0
 clear bC
 go_wp2_with fail
 refine hf.mono ?_
 rintro e V1 ⟨rfl,g1⟩
 clear hf c0 c1 c2 c3 c4 c5 c6 c7 Htb
 have s1:=g1.size
 have bC1:=((unhide HC).below g0 (by omega)).below g1 (by omega)
 have bZ1:=((unhide HZ).below g0 (by omega)).below g1 (by omega)
 have hB1:Below W.heap.size W V1:=hB0.trans (g1.mono (by omega))
 obtain⟨V2,e2,g2,s2,bR2⟩:∃V2,V1.alloc (.cells #[.int .i64 th.tv.k,.int .i64 th.tv.N,.string th.tv.s,.slice th.tv.a th.tv.len th.tv.cap] 34)=V2∧Below V1.heap.size V1 V2∧V1.heap.size+1≤V2.heap.size∧BoxT V2 V1.heap.size th.tv:=⟨_,rfl,(Below.refl _ _).alloc (Nat.le_refl _) _,by simp,BoxT.new V1 th.tv⟩
 have bC2:=bC1.below g2 (by omega)
 have bZ2:=bZ1.below g2 (by omega)
 have hB2:Below W.heap.size W V2:=hB1.trans (g2.mono (by omega))
 obtain⟨⟨c0,c1,c2,c3⟩,c4,c5,c6,c7⟩:=bC1.cs
 have HC2:=hide bC2
 have HZ2:=hide bZ2
 have HR2:=hide bR2
 clear bC1 bZ1 bC2 bZ2 bR2 HC HZ
 go_upto_region 4 with fail
 try rw[e2]
 clear e2 c0 c1 c2 c3 c4 c5 c6 c7
 have bC2:=unhide HC2
 obtain⟨⟨c0,c1,c2,c3⟩,c4,c5,c6,c7⟩:=bC2.cs
 clear bC2
 go_wp2_with fail
 refine(i1 _).mono ?_
 rintro e V3 ⟨rfl,g3⟩
 clear i1 c0 c1 c2 c3 c4 c5 c6 c7
 have s3:=g3.size
 have bC3:=(unhide HC2).below g3 (by omega)
 have bZ3:=(unhide HZ2).below g3 (by omega)
 have bR3:=(unhide HR2).below g3 (by omega)
 have hB3:Below W.heap.size W V3:=hB2.trans (g3.mono (by omega))
 clear HC2 HZ2 HR2 g0 g1 g2 g3
 obtain⟨⟨c0,c1,c2,c3⟩,c4,c5,c6,c7⟩:=bC3.cs
 obtain⟨V4,e4,g4,s4,blk⟩:∃V4,V3.alloc (.cells #[.int .i64 th.tv.k,.int .i64 th.tv.N,.string th.tv.s,.slice th.tv.a th.tv.len th.tv.cap,.int .i64 tb.tv.k,.int .i64 tb.tv.N,.string tb.tv.s,.slice tb.tv.a tb.tv.len tb.tv.cap] 34)=V4∧Below V3.heap.size V3 V4∧V3.heap.size+1≤V4.heap.size∧V4.heap[V3.heap.size]?=some (.cells #[.int .i64 th.tv.k,.int .i64 th.tv.N,.string th.tv.s,.slice th.tv.a th.tv.len th.tv.cap,.int .i64 tb.tv.k,.int .i64 tb.tv.N,.string tb.tv.s,.slice tb.tv.a tb.tv.len tb.tv.cap] 34 (0,0)):=⟨_,rfl,(Below.refl _ _).alloc (Nat.le_refl _) _,by simp,World.alloc_heap_new _ _⟩
 have HC3:=hide bC3
 have HZ3:=hide bZ3
 have HR3:=hide bR3
 have HBL:=hide blk
 clear bC3 bZ3 bR3 blk
 go_wp2_with fail
 try rw[e4]
 refine(hcc _ _ _ _).mono ?_
 rintro e V5 ⟨rfl,g5⟩
 try rw[e4] at g5
 clear hcc e4 c0 c1 c2 c3 c4 c5 c6 c7
 have s5:=g5.size
 have bC5:=((unhide HC3).below g4 (by omega)).below g5 (by omega)
 have bZ5:=((unhide HZ3).below g4 (by omega)).below g5 (by omega)
 have bR5:=((unhide HR3).below g4 (by omega)).below g5 (by omega)
 have hbl:V5.heap[V3.heap.size]?=_:=(g5.block _ (by omega)).trans (unhide HBL)
 have hB5:Below W.heap.size W V5:=(hB3.trans (g4.mono (by omega))).trans (g5.mono (by omega))
 clear HC3 HZ3 HR3 HBL
 have z0:=bR5.c0
 have z1:=bR5.c1
 have z2:=bR5.c2
 have z3:=bR5.c3
 obtain⟨f0,f1,f2,f3⟩:=bR5.frz
 obtain⟨xt,hxt⟩:∃xt,xt=compV ⟨#[58,45]⟩ (some ⟨V3.heap.size,0,none⟩) 2 2:=⟨_,rfl⟩
 obtain⟨VR,eR⟩:∃VR,set4 V5 V1.heap.size 0 xt=VR:=⟨_,rfl⟩
 have hBVR:Below W.heap.size W VR:=by rw[←eR];exact set4_below hB5 (by omega) 0 _
 have sR:V5.heap.size≤VR.heap.size:=by rw[←eR,set4_size];exact Nat.le_refl _
 have bCVR:BoxC VR W.heap.size th.tv tb.tv:=by rw[←eR];exact bC5.set4 (by omega) _
 have bZVR:BoxT VR (W.heap.size+1) noTerm:=by rw[←eR];exact bZ5.set4 (by omega) _
 have bRVR:BoxT VR V1.heap.size xt:=by rw[←eR];exact set4_box bR5 _
 have hblR:VR.heap[V3.heap.size]?=some (.cells #[.int .i64 th.tv.k,.int .i64 th.tv.N,.string th.tv.s,.slice th.tv.a th.tv.len th.tv.cap,.int .i64 tb.tv.k,.int .i64 tb.tv.N,.string tb.tv.s,.slice tb.tv.a tb.tv.len tb.tv.cap] 34 (0,0)):=by rw[←eR];exact(set4_other V5 V1.heap.size 0 xt (by omega)).trans hbl
 obtain⟨tt,htt⟩:∃tt:Tm (n+2),tt=ruleT V3.heap.size th tb:=⟨_,rfl⟩
 have HXT:Hid (tt.tv=xt):=by show tt.tv=xt;rw[htt,hxt];rfl
 have HCT:Hid (code tt=(4,0,[58,45],2)::(code th++code tb)):=by show code tt=_;rw[htt];exact rule_code _ _ _
 have HMT:Hid (makeC tt=makeJ (headBad th.tv) (code th) (bodyC tb)):=by show makeC tt=_;rw[htt];exact rule_make _ _ _
 have hTHR:IsT VR.heap.size VR th:=(IsT.below hBVR HTH0.out).mono hBVR.size
 have hTBR:IsT VR.heap.size VR tb:=(IsT.below hBVR HTB0.out).mono hBVR.size
 have hc8:cellsAt VR V3.heap.size 0 th.tv∧cellsAt VR V3.heap.size 4 tb.tv:=by
  refine⟨⟨?_,?_,?_,?_⟩,?_,?_,?_,?_⟩ <;> simp[World.cell?,hblR]
 have HTT:Hid (IsT VR.heap.size VR tt):=by
  show IsT VR.heap.size VR tt
  rw[htt]
  refine⟨rfl,⟨by simp[ruleT,Tm.tv,compV],by simp[ruleT,Tm.tv,compV],by omega⟩,by show(2:Nat)≤_;omega,.inr ⟨V3.heap.size,0,rfl,by omega,fun j w hw=>?_⟩⟩
  match j,hw with
  | 0,hw=>
   obtain rfl:=Option.some.inj (show some th=some w from hw)
   exact⟨hc8.1,hTHR⟩
  | 1,hw=>
   obtain rfl:=Option.some.inj (show some tb=some w from hw)
   exact⟨hc8.2,hTBR⟩
  | k+2,hw=>cases(show none=some w from hw)
 have HOT:Hid (okT tt=true):=by
  show okT tt=true
  rw[okT_m,HCT.out]
  have h1:=HOH.out
  have h2:=HOB.out
  rw[okT_m] at h1 h2
  simp only[List.all_cons,List.all_append,h1,h2,Bool.and_true]
  decide +kernel
 have hlt:2*(code tt).length≤4194304:=by rw[HCT.out];simp only[List.length_cons,List.length_append];omega
 have HST:Hid (HoldsS (n+3) (Mix W.heap.size (W.heap.size+2)) VR xt.val (code tt)):=by
  have h:=holdsS_two (x:=th.tv) (y:=tb.tv) (mix_mono (mix_of (IsT.below hBVR HTH0.out) hBVR.size (W.heap.size+2)) (Nat.le_refl _) (Nat.le_refl _)) (mix_mono (mix_of (IsT.below hBVR HTB0.out) hBVR.size (W.heap.size+2)) (Nat.le_refl _) (Nat.le_refl _)) (b:=V3.heap.size) (by unfold Mix;omega) hblR ⟨#[58,45]⟩ (by show(2:Nat)≤_;omega)
  rw[colonL,←hxt,←HCT.out] at h
  exact mix_mono h (by omega) (Nat.le_refl _)
 have HFE:Hid (PSays (n+3) W.heap.size W.heap.size (plainE (makeJ (headBad th.tv) (code th) (bodyC tb)) (code th) (code tb)) ((4,0,[58,45],2)::(code th++code tb))=PSays (n+3) W.heap.size W.heap.size (plainE (makeC tt) (code th) (code tb)) (code tt)):=by show PSays _ _ _ _ _=PSays _ _ _ _ _;rw[HMT.out,HCT.out]
 have HHX:=hide hxt
 have hxc:=hxt
 clear hTHR hTBR hc8 hblR hbl htt HMT hl HOH HOB bC5 bZ5 bR5 hxt
 unfold set4 at eR
 rw[hxc] at eR
 simp only[compV,Nat.zero_add] at eR
 clear hxc
 have HC6:=hide bCVR
 have HZ6:=hide bZVR
 have HR6:=hide bRVR
 clear bCVR bZVR bRVR
 go_upto_region 6 with fail
 try rw[eR]
 clear eR z0 z1 z2 z3 f0 f1 f2 f3
 have bCVR:=unhide HC6
 have bZVR:=unhide HZ6
 have bRVR:=unhide HR6
 clear HC6 HZ6 HR6 HHX
 have hp:W.heap.size+2≤V1.heap.size:=by omega
 have hpV:V1.heap.size<VR.heap.size:=by omega
 have sV:W.heap.size+2≤VR.heap.size:=by omega
 have hmk:=rmake_any tt m VR HTT.out HOT.out hlt (HM.out VR hBVR).1 (HM.out VR hBVR).2
 rw[HXT.out] at hmk
 simp only[TV.val] at hmk
 have x0:=bRVR.c0
 have x1:=bRVR.c1
 have x2:=bRVR.c2
 have x3:=bRVR.c3
 have HC:=hide bCVR
 have HZ:=hide bZVR
 have HRR:=hide bRVR
 clear bCVR bZVR bRVR HTT HOT HM hlt
 go_wp2_with fail
 refine hmk.mono ?_
 rintro e V6 ⟨⟨x',y',rfl,hcl⟩,g6⟩
 clear hmk x0 x1 x2 x3
 have s6:=g6.size
 simp only[clV]
 obtain⟨V7,e7,g7,s7,bD7⟩:∃V7,V6.alloc (.cells #[.int .i64 x'.k,.int .i64 x'.N,.string x'.s,.slice x'.a x'.len x'.cap,.int .i64 y'.k,.int .i64 y'.N,.string y'.s,.slice y'.a y'.len y'.cap] 36)=V7∧Below V6.heap.size V6 V7∧V6.heap.size+1≤V7.heap.size∧BoxC V7 V6.heap.size x' y':=⟨_,rfl,(Below.refl _ _).alloc (Nat.le_refl _) _,by simp,BoxC.new V6 x' y'⟩
 have bC7:=((unhide HC).below g6 (by omega)).below g7 (by omega)
 have bZ7:=((unhide HZ).below g6 (by omega)).below g7 (by omega)
 have bR7:=((unhide HRR).below g6 (by omega)).below g7 (by omega)
 have hB7:Below W.heap.size W V7:=(hBVR.trans (g6.mono (by omega))).trans (g7.mono (by omega))
 have HS7:Hid (HoldsS (n+3) (Mix W.heap.size (W.heap.size+2)) V7 xt.val (code tt)):=((show HoldsS _ _ _ _ _ from HST.out).below g6).below g7
 clear HC HZ HRR HST
 have HC7:=hide bC7
 have HZ7:=hide bZ7
 have HR7:=hide bR7
 have HD7:=hide bD7
 have HCL:=hide hcl
 clear bC7 bZ7 bR7 bD7 hcl
 cases hmc:makeC tt with
 | none=>
  have HE:Hid (plainE (makeC tt) (code th) (code tb)=7):=by show plainE _ _ _=7;rw[hmc];rfl
  simp only[Option.isSome_none]
  clear hmc
  go_upto_region 7 with fail
  try rw[e7]
  clear e7
  have bZ:=unhide HZ7
  have z0:=bZ.c0
  have z1:=bZ.c1
  have z2:=bZ.c2
  have z3:=bZ.c3
  obtain⟨f0,f1,f2,f3⟩:=bZ.frz
  have HF:Hid (Below W.heap.size W (set4 V7 (W.heap.size+1) 0 noTerm)):=set4_below hB7 (by omega) 0 _
  clear bZ
  go_wp2_with fail
  refine bodyPost_ret (v:=.tuple #[noTerm.val,.int .i64 7]) (by simp[results,Tryz.results27,go_sem,TV.val,noTerm,z0,z1,z2,z3]) rfl ⟨?_,HF.out⟩
  rw[HFE.out,HE.out]
  exact⟨noTerm,rfl,fun h=>by omega,fun _=>rfl⟩
 | some hb'=>
  obtain⟨h',b'⟩:=hb'
  have hcl:=unhide HCL
  rw[hmc] at hcl
  obtain⟨hx,hy⟩:=hcl
  simp only[Option.isSome_some]
  have HMC:Hid (makeC tt=some (h',b')):=hmc
  clear hmc HCL
  have hs1:=same_shared ((show HoldsS _ _ _ _ _ from hx).below g7) (mix_of (IsT.below hB7 HTH0.out) hB7.size 0)
  have HY7:Hid (HoldsS (n+1+3) (Mix 0 VR.heap.size) V7 y'.val b'):=(show HoldsS _ _ _ _ _ from hy).below g7
  simp only[TV.val] at hs1
  clear hx hy
  go_upto_region 7 with fail
  try rw[e7]
  clear e7
  have bD:=unhide HD7
  obtain⟨⟨c0,c1,c2,c3⟩,-⟩:=bD.cs
  have bC:=unhide HC7
  obtain⟨⟨d0,d1,d2,d3⟩,-⟩:=bC.cs
  clear bD bC
  by_cases hh:h'=code th
  ·rw[decide_eq_true hh] at hs1
   go_wp2_with fail
   refine hs1.mono ?_
   rintro e V8 ⟨rfl,g8⟩
   clear hs1 c0 c1 c2 c3 d0 d1 d2 d3
   have s8:=g8.size
   have bD:=(unhide HD7).below g8 (by omega)
   obtain⟨-,c4,c5,c6,c7⟩:=bD.cs
   have bC:=(unhide HC7).below g8 (by omega)
   obtain⟨-,d4,d5,d6,d7⟩:=bC.cs
   have bZ8:=(unhide HZ7).below g8 (by omega)
   have bR8:=(unhide HR7).below g8 (by omega)
   have HZ8:=hide bZ8
   have HR8:=hide bR8
   have hB8:Below W.heap.size W V8:=hB7.trans (g8.mono (by omega))
   have hs2:=same_shared ((show HoldsS _ _ _ _ _ from HY7.out).below g8) (mix_of (IsT.below hB8 HTB0.out) hB8.size 0)
   simp only[TV.val] at hs2
   have HS8:Hid (HoldsS (n+3) (Mix W.heap.size (W.heap.size+2)) V8 xt.val (code tt)):=(show HoldsS _ _ _ _ _ from HS7.out).below g8
   clear bD bC bZ8 bR8 HY7 HS7
   by_cases hbb:b'=code tb
   ·have HE:Hid (plainE (makeC tt) (code th) (code tb)=0):=by show plainE _ _ _=0;rw[HMC.out];exact if_pos ⟨hh,hbb⟩
    rw[decide_eq_true hbb] at hs2
    clear hh hbb
    go_wp2_with fail
    refine hs2.mono ?_
    rintro e V9 ⟨rfl,g9⟩
    clear hs2 c4 c5 c6 c7 d4 d5 d6 d7
    have s9:=g9.size
    have bZ:=(unhide HZ8).below g9 (by omega)
    have bR:=(unhide HR8).below g9 (by omega)
    have hB9:Below W.heap.size W V9:=hB8.trans (g9.mono (by omega))
    have z0:=bZ.c0
    have z1:=bZ.c1
    have z2:=bZ.c2
    have z3:=bZ.c3
    obtain⟨f0,f1,f2,f3⟩:=bZ.frz
    have x0:=bR.c0
    have x1:=bR.c1
    have x2:=bR.c2
    have x3:=bR.c3
    have HF:Hid (Below W.heap.size W (set4 V9 (W.heap.size+1) 0 xt)∧HoldsS (n+3) (Mix W.heap.size (W.heap.size+2)) (set4 V9 (W.heap.size+1) 0 xt) xt.val (code tt)):=⟨set4_below hB9 (by omega) 0 _,mix_set4 ((show HoldsS _ _ _ _ _ from HS8.out).below g9) (by omega) (by omega) 0 _⟩
    clear bZ bR HS8
    go_wp2_with fail
    refine bodyPost_ret (v:=.tuple #[xt.val,.int .i64 0]) (by simp[results,Tryz.results27,go_sem,TV.val,noTerm,z0,z1,z2,z3]) rfl ⟨?_,HF.out.1⟩
    rw[HFE.out,HE.out]
    exact⟨xt,rfl,fun _=>mix_mono HF.out.2 (Nat.le_refl _) (by omega),fun h=>absurd rfl h⟩
   ·have HE:Hid (plainE (makeC tt) (code th) (code tb)=7):=by show plainE _ _ _=7;rw[HMC.out];exact if_neg fun h=>hbb h.2
    rw[decide_eq_false hbb] at hs2
    clear hh hbb
    go_wp2_with fail
    refine hs2.mono ?_
    rintro e V9 ⟨rfl,g9⟩
    clear hs2 c4 c5 c6 c7 d4 d5 d6 d7
    have s9:=g9.size
    have hB9:Below W.heap.size W V9:=hB8.trans (g9.mono (by omega))
    have bZ:=(unhide HZ8).below g9 (by omega)
    have z0:=bZ.c0
    have z1:=bZ.c1
    have z2:=bZ.c2
    have z3:=bZ.c3
    obtain⟨f0,f1,f2,f3⟩:=bZ.frz
    have HF:Hid (Below W.heap.size W (set4 V9 (W.heap.size+1) 0 noTerm)):=set4_below hB9 (by omega) 0 _
    clear bZ
    go_wp2_with fail
    refine bodyPost_ret (v:=.tuple #[noTerm.val,.int .i64 7]) (by simp[results,Tryz.results27,go_sem,TV.val,noTerm,z0,z1,z2,z3]) rfl ⟨?_,HF.out⟩
    rw[HFE.out,HE.out]
    exact⟨noTerm,rfl,fun h=>by omega,fun _=>rfl⟩
  ·have HE:Hid (plainE (makeC tt) (code th) (code tb)=7):=by show plainE _ _ _=7;rw[HMC.out];exact if_neg fun h=>hh h.1
   rw[decide_eq_false hh] at hs1
   clear hh
   go_wp2_with fail
   refine hs1.mono ?_
   rintro e V9 ⟨rfl,g9⟩
   clear hs1 c0 c1 c2 c3 d0 d1 d2 d3
   have s9:=g9.size
   have hB9:Below W.heap.size W V9:=hB7.trans (g9.mono (by omega))
   have bZ:=(unhide HZ7).below g9 (by omega)
   have z0:=bZ.c0
   have z1:=bZ.c1
   have z2:=bZ.c2
   have z3:=bZ.c3
   obtain⟨f0,f1,f2,f3⟩:=bZ.frz
   have HF:Hid (Below W.heap.size W (set4 V9 (W.heap.size+1) 0 noTerm)):=set4_below hB9 (by omega) 0 _
   clear bZ
   go_wp2_with fail
   refine bodyPost_ret (v:=.tuple #[noTerm.val,.int .i64 7]) (by simp[results,Tryz.results27,go_sem,TV.val,noTerm,z0,z1,z2,z3]) rfl ⟨?_,HF.out⟩
   rw[HFE.out,HE.out]
   exact⟨noTerm,rfl,fun h=>by omega,fun _=>rfl⟩
end Go.Proofs.YteaiefjmcinljaaGreatDoor
