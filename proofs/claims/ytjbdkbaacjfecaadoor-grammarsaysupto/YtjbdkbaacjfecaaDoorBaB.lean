import Derived.Test.YtjbdkbaacjfecaaDoorVss
namespace Go.Proofs.YtjbdkbaacjfecaaDoor
set_option maxHeartbeats 2000000
set_option maxRecDepth 100000
open Go.RowKit Go.Shelf
theorem rbody_j1{n:Nat}
  (ih:∀(u:Tm n) (ns:Nat) (W:World),IsT ns W u→ns≤W.heap.size→okT u=true→Calls Tryd.prog 42 #[u.tv.val] W fun e W'=>BSays (n+1) ns W.heap.size (bodyC u) e W'∧Below W.heap.size W W')
  (k N:Int) (s:ByteArray) (b off cap:Nat) (u v:Tm n) (ns:Nat) (W:World) (hns:ns≤W.heap.size) (hbk:b<ns) (hcu:cellsAt W b off u.tv) (hcv:cellsAt W b (off+4) v.tv) (hTu:IsT ns W u) (hTv:IsT ns W v) (oku:okT u=true) (okv:okT v=true) (hk1:k≠1) (hk2:k≠2) (hs:s.size≤9223372036854775807)
  (j1:isB ⟨k,N,s,some ⟨b,off,none⟩,2,cap⟩ [44] 2=true):
  Calls Tryd.prog 42 #[.agg #[.int .i64 k,.int .i64 N,.string s,.slice (some ⟨b,off,none⟩) 2 cap]] W fun e W'=>BSays (n+2) ns W.heap.size (bodyJ s.toList [bodyC u,bodyC v]) e W'∧Below W.heap.size W W':=by
 have i1:=ris_any ⟨k,N,s,some ⟨b,off,none⟩,2,cap⟩ ⟨#[44]⟩ 2;rw[show(⟨#[44]⟩:ByteArray).toList=[44] by decide +kernel,j1] at i1;clear j1;simp only[TV.val] at i1;obtain⟨W2,hW2,hb2,hs2,bT,hz⟩:=box_zero W ⟨k,N,s,some ⟨b,off,none⟩,2,cap⟩;simp only at hW2;have hk1':(k == 1)=false:=by simp[hk1]
 have hk2':(k == 2)=false:=by simp[hk2]
 clear hk1 hk2;have bZ:BoxT W2 (W.heap.size+1) noTerm:=hz;have HBZ:=hide bZ;have HBT:Hid (BoxT W2 W.heap.size ⟨k,N,s,some ⟨b,off,none⟩,2,cap⟩):=bT;have c0:=bT.c0;have c1:=bT.c1;have c2:=bT.c2;have c3:=bT.c3;simp only at c0 c1 c2 c3;clear hz bZ bT;have HU:Hid (∀V,Below W.heap.size W V→W.heap.size≤V.heap.size→_):=fun V (hb:Below W.heap.size W V) (hs:W.heap.size≤V.heap.size)=>ih u ns V (hTu.below (hb.mono hns)) (by omega) oku;have HV:Hid (∀V,Below W.heap.size W V→W.heap.size≤V.heap.size→_):=fun V (hb:Below W.heap.size W V) (hs:W.heap.size≤V.heap.size)=>ih v ns V (hTv.below (hb.mono hns)) (by omega) okv;generalize bodyC u=r1 at HU⊢;generalize bodyC v=r2 at HV⊢;simp only[TV.val,BSays] at HU HV;have HCU:=hide hcu;have HCV:=hide hcv;clear ih hTu hTv oku okv hcu hcv;go_enter Tryd.func42,Tryd.ntmps42
 go_wp2_with fail
 refine(i1 _).mono ?_;rintro e V1 ⟨rfl,hv1⟩;try rw[hW2] at hv1
 clear hW2;clear i1 c0 c1 c2 c3;have sv1:=hv1.size;have bTV1:BoxT V1 W.heap.size ⟨k,N,s,some ⟨b,off,none⟩,2,cap⟩:=(uh HBT).below hv1 (by omega);have bZV1:BoxT V1 (W.heap.size+1) noTerm:=(uh HBZ).below hv1 (by omega);have hBV1:Below W.heap.size W V1:=hb2.trans (hv1.mono (by omega));have c0:=bTV1.c0;have c1:=bTV1.c1;have c2:=bTV1.c2;have c3:=bTV1.c3;simp only at c0 c1 c2 c3;have HBT5:=hide bTV1;have HBZ5:=hide bZV1;clear bTV1 bZV1 HBT HBZ;obtain⟨d0,d1,d2,d3⟩:=uh HCU;replace d0:=(hBV1.cell (p:=⟨b,off,none⟩) (by show b<_;omega)).trans d0;replace d1:=(hBV1.cell (p:=⟨b,off+1,none⟩) (by show b<_;omega)).trans d1;replace d2:=(hBV1.cell (p:=⟨b,off+2,none⟩) (by show b<_;omega)).trans d2;replace d3:=(hBV1.cell (p:=⟨b,off+3,none⟩) (by show b<_;omega)).trans d3;have hu:=HU.out V1 hBV1 (by omega);go_wp2_with fail
 refine hu.mono ?_;rintro e W6 ⟨⟨x1,rfl,hx1⟩,hb6⟩;clear hu c0 c1 c2 c3 d0 d1 d2 d3;have s6:=hb6.size;obtain⟨W7,hW7,hb7,s7,bX7⟩:∃W7,W6.alloc (.cells #[.int .i64 x1.k,.int .i64 x1.N,.string x1.s,.slice x1.a x1.len x1.cap] 24)=W7∧Below W6.heap.size W6 W7∧W6.heap.size+1≤W7.heap.size∧BoxT W7 W6.heap.size x1:=⟨_,rfl,(Below.refl _ _).alloc (Nat.le_refl _) _,by simp,BoxT.new W6 x1⟩;have bT7:BoxT W7 W.heap.size ⟨k,N,s,some ⟨b,off,none⟩,2,cap⟩:=((uh HBT5).below hb6 (by omega)).below hb7 (by omega);have bZ7:=((uh HBZ5).below hb6 (by omega)).below hb7 (by omega);have hB7:Below W.heap.size W W7:=(hBV1.trans (hb6.mono (by omega))).trans (hb7.mono (by omega));have c0:=bT7.c0;have c1:=bT7.c1;have c2:=bT7.c2;have c3:=bT7.c3;simp only at c0 c1 c2 c3;obtain⟨d0,d1,d2,d3⟩:=uh HCV;replace d0:=(hB7.cell (p:=⟨b,off+4,none⟩) (by show b<_;omega)).trans d0;replace d1:W7.cell? ⟨b,off+5,none⟩=_:=(hB7.cell (p:=⟨b,off+4+1,none⟩) (by show b<_;omega)).trans d1;replace d2:W7.cell? ⟨b,off+6,none⟩=_:=(hB7.cell (p:=⟨b,off+4+2,none⟩) (by show b<_;omega)).trans d2;replace d3:W7.cell? ⟨b,off+7,none⟩=_:=(hB7.cell (p:=⟨b,off+4+3,none⟩) (by show b<_;omega)).trans d3;have hv:=HV.out W7 hB7 (by omega);have HBT7:=hide bT7;have HBZ7:=hide bZ7;have HBX7:=hide bX7;clear bT7 bZ7 bX7 HBT5 HBZ5;have HX1:=hide hx1;clear hx1;go_wp2_with fail
 try rw[hW7]
 refine hv.mono ?_;rintro e W8 ⟨⟨x2,rfl,hx2⟩,hb8⟩;clear hv hW7 c0 c1 c2 c3 d0 d1 d2 d3;have s8:=hb8.size;have HX2:=hide hx2;clear hx2;obtain⟨W9,hW9,hb9,s9,bY9⟩:∃W9,W8.alloc (.cells #[.int .i64 x2.k,.int .i64 x2.N,.string x2.s,.slice x2.a x2.len x2.cap] 24)=W9∧Below W8.heap.size W8 W9∧W8.heap.size+1≤W9.heap.size∧BoxT W9 W8.heap.size x2:=⟨_,rfl,(Below.refl _ _).alloc (Nat.le_refl _) _,by simp,BoxT.new W8 x2⟩;have bT9:BoxT W9 W.heap.size ⟨k,N,s,some ⟨b,off,none⟩,2,cap⟩:=((uh HBT7).below hb8 (by omega)).below hb9 (by omega);have bZ9:=((uh HBZ7).below hb8 (by omega)).below hb9 (by omega);have bX9:=((uh HBX7).below hb8 (by omega)).below hb9 (by omega);have hB9:Below W.heap.size W W9:=(hB7.trans (hb8.mono (by omega))).trans (hb9.mono (by omega));clear HBT7 HBZ7 HBX7;cases r1 with
 | none=>
  have z0:=bZ9.c0;have z1:=bZ9.c1;have z2:=bZ9.c2;have z3:=bZ9.c3;obtain⟨f0,f1,f2,f3⟩:=bZ9.frz;have HF:Hid (Below W.heap.size W (set4 W9 (W.heap.size+1) 0 noTerm)):=set4_below hB9 (by omega) 0 _;clear bT9 bZ9 bX9 bY9;generalize r2.isSome=bb;simp only[Option.isSome_none];go_wp2_with fail
  try rw[hW9]
  exact bodyPost_ret (v:=.tuple #[noTerm.val,.bool false]) (by simp[results,Tryd.results42,go_sem,TV.val,noTerm,z0,z1,z2,z3]) rfl ⟨⟨noTerm,rfl,rfl⟩,HF.out⟩
 | some c1=>
  cases r2 with
  | none=>
   have z0:=bZ9.c0;have z1:=bZ9.c1;have z2:=bZ9.c2;have z3:=bZ9.c3;obtain⟨f0,f1,f2,f3⟩:=bZ9.frz;have HF:Hid (Below W.heap.size W (set4 W9 (W.heap.size+1) 0 noTerm)):=set4_below hB9 (by omega) 0 _;clear bT9 bZ9 bX9 bY9;simp only[Option.isSome];go_wp2_with fail
   try rw[hW9]
   exact bodyPost_ret (v:=.tuple #[noTerm.val,.bool false]) (by simp[results,Tryd.results42,go_sem,TV.val,noTerm,z0,z1,z2,z3]) rfl ⟨⟨noTerm,rfl,rfl⟩,HF.out⟩
  | some c2=>
   have HP:Hid (HoldsS (n+1) (Mix ns V1.heap.size) W9 x1.val c1∧HoldsS (n+1) (Mix ns V1.heap.size) W9 x2.val c2):=⟨((((show HoldsS _ _ _ _ _ from HX1.out).below hb7).below hb8).below hb9),mix_mono ((show HoldsS _ _ _ _ _ from HX2.out).below hb9) (Nat.le_refl _) (by omega)⟩;have hc:=rcompound_any s;simp only[compV,TV.val] at hc;have c0:=bT9.c0;have c1:=bT9.c1;have c2:=bT9.c2;have c3:=bT9.c3;simp only at c0 c1 c2 c3;have q0:=bX9.c0;have q1:=bX9.c1;have q2:=bX9.c2;have q3:=bX9.c3;have y0:=bY9.c0;have y1:=bY9.c1;have y2:=bY9.c2;have y3:=bY9.c3;have HBZ9:=hide bZ9;clear bT9 bZ9 bX9 bY9;simp only[Option.isSome];go_wp2_with fail
   try rw[hW9]
   refine(hc _ _ _ _).mono ?_;rintro e W11 ⟨rfl,hb11⟩;try rw[hW9] at hb11
   clear hc c0 c1 c2 c3 q0 q1 q2 q3 y0 y1 y2 y3;have s11:=hb11.size;simp only[World.size_alloc] at s11;have hb10:Below W9.heap.size W9 W11:=((Below.refl _ W9).alloc (Nat.le_refl _) _).trans (hb11.mono (by simp));have hblk:W11.heap[W9.heap.size]?=some (.cells #[.int .i64 x1.k,.int .i64 x1.N,.string x1.s,.slice x1.a x1.len x1.cap,.int .i64 x2.k,.int .i64 x2.N,.string x2.s,.slice x2.a x2.len x2.cap] 24 (0,0)):=(hb11.block _ (by simp)).trans (World.alloc_heap_new _ _);have bZ11:=(uh HBZ9).below hb10 (by omega);have z0:=bZ11.c0;have z1:=bZ11.c1;have z2:=bZ11.c2;have z3:=bZ11.c3;obtain⟨f0,f1,f2,f3⟩:=bZ11.frz;have h2:=holdsS_two (HP.out.1.below hb10) (HP.out.2.below hb10) (b:=W9.heap.size) (by unfold Mix;omega) hblk s hs
   have HF:Hid (HoldsS (n+2) (Mix ns W.heap.size) (set4 W11 (W.heap.size+1) 0 (compV s (some ⟨W9.heap.size,0,none⟩) 2 2)) (compV s (some ⟨W9.heap.size,0,none⟩) 2 2).val ((4,0,s.toList,2)::(c1++c2))∧Below W.heap.size W (set4 W11 (W.heap.size+1) 0 (compV s (some ⟨W9.heap.size,0,none⟩) 2 2))):=
    ⟨mix_mono (mix_set4 h2 (by omega) (by omega) 0 _) (Nat.le_refl _) (by omega),set4_below (hB9.trans (hb10.mono (by omega))) (by omega) 0 _⟩
   clear h2 hblk bZ11 hb10 hb11 s9;go_wp2_with fail
   exact bodyPost_ret (v:=.tuple #[(compV s (some ⟨W9.heap.size,0,none⟩) 2 2).val,.bool true]) (by simp[results,Tryd.results42,go_sem,TV.val,compV,noTerm,z0,z1,z2,z3]) rfl ⟨⟨_,rfl,HF.out.1⟩,HF.out.2⟩
theorem rbody_j2{n:Nat}
  (ih:∀(u:Tm n) (ns:Nat) (W:World),IsT ns W u→ns≤W.heap.size→okT u=true→Calls Tryd.prog 42 #[u.tv.val] W fun e W'=>BSays (n+1) ns W.heap.size (bodyC u) e W'∧Below W.heap.size W W')
  (k N:Int) (s:ByteArray) (b off cap:Nat) (u v:Tm n) (ns:Nat) (W:World) (hns:ns≤W.heap.size) (hbk:b<ns) (hcu:cellsAt W b off u.tv) (hcv:cellsAt W b (off+4) v.tv) (hTu:IsT ns W u) (hTv:IsT ns W v) (oku:okT u=true) (okv:okT v=true) (hk1:k≠1) (hk2:k≠2) (hs:s.size≤9223372036854775807)
  (j1:isB ⟨k,N,s,some ⟨b,off,none⟩,2,cap⟩ [44] 2=false) (j2:isB ⟨k,N,s,some ⟨b,off,none⟩,2,cap⟩ [59] 2=true):
  Calls Tryd.prog 42 #[.agg #[.int .i64 k,.int .i64 N,.string s,.slice (some ⟨b,off,none⟩) 2 cap]] W fun e W'=>BSays (n+2) ns W.heap.size (bodyJ s.toList [bodyC u,bodyC v]) e W'∧Below W.heap.size W W':=by
 have i1:=ris_any ⟨k,N,s,some ⟨b,off,none⟩,2,cap⟩ ⟨#[44]⟩ 2;have i2:=ris_any ⟨k,N,s,some ⟨b,off,none⟩,2,cap⟩ ⟨#[59]⟩ 2;rw[show(⟨#[44]⟩:ByteArray).toList=[44] by decide +kernel,j1] at i1;rw[show(⟨#[59]⟩:ByteArray).toList=[59] by decide +kernel,j2] at i2;clear j1 j2;simp only[TV.val] at i1 i2;obtain⟨W2,hW2,hb2,hs2,bT,hz⟩:=box_zero W ⟨k,N,s,some ⟨b,off,none⟩,2,cap⟩;simp only at hW2;have hk1':(k == 1)=false:=by simp[hk1]
 have hk2':(k == 2)=false:=by simp[hk2]
 clear hk1 hk2;have bZ:BoxT W2 (W.heap.size+1) noTerm:=hz;have HBZ:=hide bZ;have HBT:Hid (BoxT W2 W.heap.size ⟨k,N,s,some ⟨b,off,none⟩,2,cap⟩):=bT;have c0:=bT.c0;have c1:=bT.c1;have c2:=bT.c2;have c3:=bT.c3;simp only at c0 c1 c2 c3;clear hz bZ bT;have HU:Hid (∀V,Below W.heap.size W V→W.heap.size≤V.heap.size→_):=fun V (hb:Below W.heap.size W V) (hs:W.heap.size≤V.heap.size)=>ih u ns V (hTu.below (hb.mono hns)) (by omega) oku;have HV:Hid (∀V,Below W.heap.size W V→W.heap.size≤V.heap.size→_):=fun V (hb:Below W.heap.size W V) (hs:W.heap.size≤V.heap.size)=>ih v ns V (hTv.below (hb.mono hns)) (by omega) okv;generalize bodyC u=r1 at HU⊢;generalize bodyC v=r2 at HV⊢;simp only[TV.val,BSays] at HU HV;have HCU:=hide hcu;have HCV:=hide hcv;clear ih hTu hTv oku okv hcu hcv;go_enter Tryd.func42,Tryd.ntmps42
 go_wp2_with fail
 refine(i1 _).mono ?_;rintro e V1 ⟨rfl,hv1⟩;try rw[hW2] at hv1
 clear hW2;clear i1 c0 c1 c2 c3;have sv1:=hv1.size;have bTV1:BoxT V1 W.heap.size ⟨k,N,s,some ⟨b,off,none⟩,2,cap⟩:=(uh HBT).below hv1 (by omega);have bZV1:BoxT V1 (W.heap.size+1) noTerm:=(uh HBZ).below hv1 (by omega);have hBV1:Below W.heap.size W V1:=hb2.trans (hv1.mono (by omega));have c0:=bTV1.c0;have c1:=bTV1.c1;have c2:=bTV1.c2;have c3:=bTV1.c3;simp only at c0 c1 c2 c3;go_wp2_with fail
 refine(i2 _).mono ?_;rintro e V2 ⟨rfl,hv2⟩;clear i2 c0 c1 c2 c3;have sv2:=hv2.size;have bTV2:BoxT V2 W.heap.size ⟨k,N,s,some ⟨b,off,none⟩,2,cap⟩:=bTV1.below hv2 (by omega);have bZV2:BoxT V2 (W.heap.size+1) noTerm:=bZV1.below hv2 (by omega);have hBV2:Below W.heap.size W V2:=hBV1.trans (hv2.mono (by omega));have c0:=bTV2.c0;have c1:=bTV2.c1;have c2:=bTV2.c2;have c3:=bTV2.c3;simp only at c0 c1 c2 c3;have HBT5:=hide bTV2;have HBZ5:=hide bZV2;clear bTV1 bZV1 bTV2 bZV2 HBT HBZ;obtain⟨d0,d1,d2,d3⟩:=uh HCU;replace d0:=(hBV2.cell (p:=⟨b,off,none⟩) (by show b<_;omega)).trans d0;replace d1:=(hBV2.cell (p:=⟨b,off+1,none⟩) (by show b<_;omega)).trans d1;replace d2:=(hBV2.cell (p:=⟨b,off+2,none⟩) (by show b<_;omega)).trans d2;replace d3:=(hBV2.cell (p:=⟨b,off+3,none⟩) (by show b<_;omega)).trans d3;have hu:=HU.out V2 hBV2 (by omega);go_wp2_with fail
 refine hu.mono ?_;rintro e W6 ⟨⟨x1,rfl,hx1⟩,hb6⟩;clear hu c0 c1 c2 c3 d0 d1 d2 d3;have s6:=hb6.size;obtain⟨W7,hW7,hb7,s7,bX7⟩:∃W7,W6.alloc (.cells #[.int .i64 x1.k,.int .i64 x1.N,.string x1.s,.slice x1.a x1.len x1.cap] 24)=W7∧Below W6.heap.size W6 W7∧W6.heap.size+1≤W7.heap.size∧BoxT W7 W6.heap.size x1:=⟨_,rfl,(Below.refl _ _).alloc (Nat.le_refl _) _,by simp,BoxT.new W6 x1⟩;have bT7:BoxT W7 W.heap.size ⟨k,N,s,some ⟨b,off,none⟩,2,cap⟩:=((uh HBT5).below hb6 (by omega)).below hb7 (by omega);have bZ7:=((uh HBZ5).below hb6 (by omega)).below hb7 (by omega);have hB7:Below W.heap.size W W7:=(hBV2.trans (hb6.mono (by omega))).trans (hb7.mono (by omega));have c0:=bT7.c0;have c1:=bT7.c1;have c2:=bT7.c2;have c3:=bT7.c3;simp only at c0 c1 c2 c3;obtain⟨d0,d1,d2,d3⟩:=uh HCV;replace d0:=(hB7.cell (p:=⟨b,off+4,none⟩) (by show b<_;omega)).trans d0;replace d1:W7.cell? ⟨b,off+5,none⟩=_:=(hB7.cell (p:=⟨b,off+4+1,none⟩) (by show b<_;omega)).trans d1;replace d2:W7.cell? ⟨b,off+6,none⟩=_:=(hB7.cell (p:=⟨b,off+4+2,none⟩) (by show b<_;omega)).trans d2;replace d3:W7.cell? ⟨b,off+7,none⟩=_:=(hB7.cell (p:=⟨b,off+4+3,none⟩) (by show b<_;omega)).trans d3;have hv:=HV.out W7 hB7 (by omega);have HBT7:=hide bT7;have HBZ7:=hide bZ7;have HBX7:=hide bX7;clear bT7 bZ7 bX7 HBT5 HBZ5;have HX1:=hide hx1;clear hx1;go_wp2_with fail
 try rw[hW7]
 refine hv.mono ?_;rintro e W8 ⟨⟨x2,rfl,hx2⟩,hb8⟩;clear hv hW7 c0 c1 c2 c3 d0 d1 d2 d3;have s8:=hb8.size;have HX2:=hide hx2;clear hx2;obtain⟨W9,hW9,hb9,s9,bY9⟩:∃W9,W8.alloc (.cells #[.int .i64 x2.k,.int .i64 x2.N,.string x2.s,.slice x2.a x2.len x2.cap] 24)=W9∧Below W8.heap.size W8 W9∧W8.heap.size+1≤W9.heap.size∧BoxT W9 W8.heap.size x2:=⟨_,rfl,(Below.refl _ _).alloc (Nat.le_refl _) _,by simp,BoxT.new W8 x2⟩;have bT9:BoxT W9 W.heap.size ⟨k,N,s,some ⟨b,off,none⟩,2,cap⟩:=((uh HBT7).below hb8 (by omega)).below hb9 (by omega);have bZ9:=((uh HBZ7).below hb8 (by omega)).below hb9 (by omega);have bX9:=((uh HBX7).below hb8 (by omega)).below hb9 (by omega);have hB9:Below W.heap.size W W9:=(hB7.trans (hb8.mono (by omega))).trans (hb9.mono (by omega));clear HBT7 HBZ7 HBX7;cases r1 with
 | none=>
  have z0:=bZ9.c0;have z1:=bZ9.c1;have z2:=bZ9.c2;have z3:=bZ9.c3;obtain⟨f0,f1,f2,f3⟩:=bZ9.frz;have HF:Hid (Below W.heap.size W (set4 W9 (W.heap.size+1) 0 noTerm)):=set4_below hB9 (by omega) 0 _;clear bT9 bZ9 bX9 bY9;generalize r2.isSome=bb;simp only[Option.isSome_none];go_wp2_with fail
  try rw[hW9]
  exact bodyPost_ret (v:=.tuple #[noTerm.val,.bool false]) (by simp[results,Tryd.results42,go_sem,TV.val,noTerm,z0,z1,z2,z3]) rfl ⟨⟨noTerm,rfl,rfl⟩,HF.out⟩
 | some c1=>
  cases r2 with
  | none=>
   have z0:=bZ9.c0;have z1:=bZ9.c1;have z2:=bZ9.c2;have z3:=bZ9.c3;obtain⟨f0,f1,f2,f3⟩:=bZ9.frz;have HF:Hid (Below W.heap.size W (set4 W9 (W.heap.size+1) 0 noTerm)):=set4_below hB9 (by omega) 0 _;clear bT9 bZ9 bX9 bY9;simp only[Option.isSome];go_wp2_with fail
   try rw[hW9]
   exact bodyPost_ret (v:=.tuple #[noTerm.val,.bool false]) (by simp[results,Tryd.results42,go_sem,TV.val,noTerm,z0,z1,z2,z3]) rfl ⟨⟨noTerm,rfl,rfl⟩,HF.out⟩
  | some c2=>
   have HP:Hid (HoldsS (n+1) (Mix ns V2.heap.size) W9 x1.val c1∧HoldsS (n+1) (Mix ns V2.heap.size) W9 x2.val c2):=⟨((((show HoldsS _ _ _ _ _ from HX1.out).below hb7).below hb8).below hb9),mix_mono ((show HoldsS _ _ _ _ _ from HX2.out).below hb9) (Nat.le_refl _) (by omega)⟩;have hc:=rcompound_any s;simp only[compV,TV.val] at hc;have c0:=bT9.c0;have c1:=bT9.c1;have c2:=bT9.c2;have c3:=bT9.c3;simp only at c0 c1 c2 c3;have q0:=bX9.c0;have q1:=bX9.c1;have q2:=bX9.c2;have q3:=bX9.c3;have y0:=bY9.c0;have y1:=bY9.c1;have y2:=bY9.c2;have y3:=bY9.c3;have HBZ9:=hide bZ9;clear bT9 bZ9 bX9 bY9;simp only[Option.isSome];go_wp2_with fail
   try rw[hW9]
   refine(hc _ _ _ _).mono ?_;rintro e W11 ⟨rfl,hb11⟩;try rw[hW9] at hb11
   clear hc c0 c1 c2 c3 q0 q1 q2 q3 y0 y1 y2 y3;have s11:=hb11.size;simp only[World.size_alloc] at s11;have hb10:Below W9.heap.size W9 W11:=((Below.refl _ W9).alloc (Nat.le_refl _) _).trans (hb11.mono (by simp));have hblk:W11.heap[W9.heap.size]?=some (.cells #[.int .i64 x1.k,.int .i64 x1.N,.string x1.s,.slice x1.a x1.len x1.cap,.int .i64 x2.k,.int .i64 x2.N,.string x2.s,.slice x2.a x2.len x2.cap] 24 (0,0)):=(hb11.block _ (by simp)).trans (World.alloc_heap_new _ _);have bZ11:=(uh HBZ9).below hb10 (by omega);have z0:=bZ11.c0;have z1:=bZ11.c1;have z2:=bZ11.c2;have z3:=bZ11.c3;obtain⟨f0,f1,f2,f3⟩:=bZ11.frz;have h2:=holdsS_two (HP.out.1.below hb10) (HP.out.2.below hb10) (b:=W9.heap.size) (by unfold Mix;omega) hblk s hs
   have HF:Hid (HoldsS (n+2) (Mix ns W.heap.size) (set4 W11 (W.heap.size+1) 0 (compV s (some ⟨W9.heap.size,0,none⟩) 2 2)) (compV s (some ⟨W9.heap.size,0,none⟩) 2 2).val ((4,0,s.toList,2)::(c1++c2))∧Below W.heap.size W (set4 W11 (W.heap.size+1) 0 (compV s (some ⟨W9.heap.size,0,none⟩) 2 2))):=
    ⟨mix_mono (mix_set4 h2 (by omega) (by omega) 0 _) (Nat.le_refl _) (by omega),set4_below (hB9.trans (hb10.mono (by omega))) (by omega) 0 _⟩
   clear h2 hblk bZ11 hb10 hb11 s9;go_wp2_with fail
   exact bodyPost_ret (v:=.tuple #[(compV s (some ⟨W9.heap.size,0,none⟩) 2 2).val,.bool true]) (by simp[results,Tryd.results42,go_sem,TV.val,compV,noTerm,z0,z1,z2,z3]) rfl ⟨⟨_,rfl,HF.out.1⟩,HF.out.2⟩
theorem rbody_j3{n:Nat}
  (ih:∀(u:Tm n) (ns:Nat) (W:World),IsT ns W u→ns≤W.heap.size→okT u=true→Calls Tryd.prog 42 #[u.tv.val] W fun e W'=>BSays (n+1) ns W.heap.size (bodyC u) e W'∧Below W.heap.size W W')
  (k N:Int) (s:ByteArray) (b off cap:Nat) (u v:Tm n) (ns:Nat) (W:World) (hns:ns≤W.heap.size) (hbk:b<ns) (hcu:cellsAt W b off u.tv) (hcv:cellsAt W b (off+4) v.tv) (hTu:IsT ns W u) (hTv:IsT ns W v) (oku:okT u=true) (okv:okT v=true) (hk1:k≠1) (hk2:k≠2) (hs:s.size≤9223372036854775807)
  (j1:isB ⟨k,N,s,some ⟨b,off,none⟩,2,cap⟩ [44] 2=false) (j2:isB ⟨k,N,s,some ⟨b,off,none⟩,2,cap⟩ [59] 2=false) (j3:isB ⟨k,N,s,some ⟨b,off,none⟩,2,cap⟩ [45,62] 2=true):
  Calls Tryd.prog 42 #[.agg #[.int .i64 k,.int .i64 N,.string s,.slice (some ⟨b,off,none⟩) 2 cap]] W fun e W'=>BSays (n+2) ns W.heap.size (bodyJ s.toList [bodyC u,bodyC v]) e W'∧Below W.heap.size W W':=by
 have i1:=ris_any ⟨k,N,s,some ⟨b,off,none⟩,2,cap⟩ ⟨#[44]⟩ 2;have i2:=ris_any ⟨k,N,s,some ⟨b,off,none⟩,2,cap⟩ ⟨#[59]⟩ 2;have i3:=ris_any ⟨k,N,s,some ⟨b,off,none⟩,2,cap⟩ ⟨#[45,62]⟩ 2;rw[show(⟨#[44]⟩:ByteArray).toList=[44] by decide +kernel,j1] at i1;rw[show(⟨#[59]⟩:ByteArray).toList=[59] by decide +kernel,j2] at i2;rw[show(⟨#[45,62]⟩:ByteArray).toList=[45,62] by decide +kernel,j3] at i3;clear j1 j2 j3;simp only[TV.val] at i1 i2 i3;obtain⟨W2,hW2,hb2,hs2,bT,hz⟩:=box_zero W ⟨k,N,s,some ⟨b,off,none⟩,2,cap⟩;simp only at hW2;have hk1':(k == 1)=false:=by simp[hk1]
 have hk2':(k == 2)=false:=by simp[hk2]
 clear hk1 hk2;have bZ:BoxT W2 (W.heap.size+1) noTerm:=hz;have HBZ:=hide bZ;have HBT:Hid (BoxT W2 W.heap.size ⟨k,N,s,some ⟨b,off,none⟩,2,cap⟩):=bT;have c0:=bT.c0;have c1:=bT.c1;have c2:=bT.c2;have c3:=bT.c3;simp only at c0 c1 c2 c3;clear hz bZ bT;have HU:Hid (∀V,Below W.heap.size W V→W.heap.size≤V.heap.size→_):=fun V (hb:Below W.heap.size W V) (hs:W.heap.size≤V.heap.size)=>ih u ns V (hTu.below (hb.mono hns)) (by omega) oku;have HV:Hid (∀V,Below W.heap.size W V→W.heap.size≤V.heap.size→_):=fun V (hb:Below W.heap.size W V) (hs:W.heap.size≤V.heap.size)=>ih v ns V (hTv.below (hb.mono hns)) (by omega) okv;generalize bodyC u=r1 at HU⊢;generalize bodyC v=r2 at HV⊢;simp only[TV.val,BSays] at HU HV;have HCU:=hide hcu;have HCV:=hide hcv;clear ih hTu hTv oku okv hcu hcv;go_enter Tryd.func42,Tryd.ntmps42
 go_wp2_with fail
 refine(i1 _).mono ?_;rintro e V1 ⟨rfl,hv1⟩;try rw[hW2] at hv1
 clear hW2;clear i1 c0 c1 c2 c3;have sv1:=hv1.size;have bTV1:BoxT V1 W.heap.size ⟨k,N,s,some ⟨b,off,none⟩,2,cap⟩:=(uh HBT).below hv1 (by omega);have bZV1:BoxT V1 (W.heap.size+1) noTerm:=(uh HBZ).below hv1 (by omega);have hBV1:Below W.heap.size W V1:=hb2.trans (hv1.mono (by omega));have c0:=bTV1.c0;have c1:=bTV1.c1;have c2:=bTV1.c2;have c3:=bTV1.c3;simp only at c0 c1 c2 c3;go_wp2_with fail
 refine(i2 _).mono ?_;rintro e V2 ⟨rfl,hv2⟩;clear i2 c0 c1 c2 c3;have sv2:=hv2.size;have bTV2:BoxT V2 W.heap.size ⟨k,N,s,some ⟨b,off,none⟩,2,cap⟩:=bTV1.below hv2 (by omega);have bZV2:BoxT V2 (W.heap.size+1) noTerm:=bZV1.below hv2 (by omega);have hBV2:Below W.heap.size W V2:=hBV1.trans (hv2.mono (by omega));have c0:=bTV2.c0;have c1:=bTV2.c1;have c2:=bTV2.c2;have c3:=bTV2.c3;simp only at c0 c1 c2 c3;go_wp2_with fail
 refine(i3 _).mono ?_;rintro e V3 ⟨rfl,hv3⟩;clear i3 c0 c1 c2 c3;have sv3:=hv3.size;have bTV3:BoxT V3 W.heap.size ⟨k,N,s,some ⟨b,off,none⟩,2,cap⟩:=bTV2.below hv3 (by omega);have bZV3:BoxT V3 (W.heap.size+1) noTerm:=bZV2.below hv3 (by omega);have hBV3:Below W.heap.size W V3:=hBV2.trans (hv3.mono (by omega));have c0:=bTV3.c0;have c1:=bTV3.c1;have c2:=bTV3.c2;have c3:=bTV3.c3;simp only at c0 c1 c2 c3;have HBT5:=hide bTV3;have HBZ5:=hide bZV3;clear bTV1 bZV1 bTV2 bZV2 bTV3 bZV3 HBT HBZ;obtain⟨d0,d1,d2,d3⟩:=uh HCU;replace d0:=(hBV3.cell (p:=⟨b,off,none⟩) (by show b<_;omega)).trans d0;replace d1:=(hBV3.cell (p:=⟨b,off+1,none⟩) (by show b<_;omega)).trans d1;replace d2:=(hBV3.cell (p:=⟨b,off+2,none⟩) (by show b<_;omega)).trans d2;replace d3:=(hBV3.cell (p:=⟨b,off+3,none⟩) (by show b<_;omega)).trans d3;have hu:=HU.out V3 hBV3 (by omega);go_wp2_with fail
 refine hu.mono ?_;rintro e W6 ⟨⟨x1,rfl,hx1⟩,hb6⟩;clear hu c0 c1 c2 c3 d0 d1 d2 d3;have s6:=hb6.size;obtain⟨W7,hW7,hb7,s7,bX7⟩:∃W7,W6.alloc (.cells #[.int .i64 x1.k,.int .i64 x1.N,.string x1.s,.slice x1.a x1.len x1.cap] 24)=W7∧Below W6.heap.size W6 W7∧W6.heap.size+1≤W7.heap.size∧BoxT W7 W6.heap.size x1:=⟨_,rfl,(Below.refl _ _).alloc (Nat.le_refl _) _,by simp,BoxT.new W6 x1⟩;have bT7:BoxT W7 W.heap.size ⟨k,N,s,some ⟨b,off,none⟩,2,cap⟩:=((uh HBT5).below hb6 (by omega)).below hb7 (by omega);have bZ7:=((uh HBZ5).below hb6 (by omega)).below hb7 (by omega);have hB7:Below W.heap.size W W7:=(hBV3.trans (hb6.mono (by omega))).trans (hb7.mono (by omega));have c0:=bT7.c0;have c1:=bT7.c1;have c2:=bT7.c2;have c3:=bT7.c3;simp only at c0 c1 c2 c3;obtain⟨d0,d1,d2,d3⟩:=uh HCV;replace d0:=(hB7.cell (p:=⟨b,off+4,none⟩) (by show b<_;omega)).trans d0;replace d1:W7.cell? ⟨b,off+5,none⟩=_:=(hB7.cell (p:=⟨b,off+4+1,none⟩) (by show b<_;omega)).trans d1;replace d2:W7.cell? ⟨b,off+6,none⟩=_:=(hB7.cell (p:=⟨b,off+4+2,none⟩) (by show b<_;omega)).trans d2;replace d3:W7.cell? ⟨b,off+7,none⟩=_:=(hB7.cell (p:=⟨b,off+4+3,none⟩) (by show b<_;omega)).trans d3;have hv:=HV.out W7 hB7 (by omega);have HBT7:=hide bT7;have HBZ7:=hide bZ7;have HBX7:=hide bX7;clear bT7 bZ7 bX7 HBT5 HBZ5;have HX1:=hide hx1;clear hx1;go_wp2_with fail
 try rw[hW7]
 refine hv.mono ?_;rintro e W8 ⟨⟨x2,rfl,hx2⟩,hb8⟩;clear hv hW7 c0 c1 c2 c3 d0 d1 d2 d3;have s8:=hb8.size;have HX2:=hide hx2;clear hx2;obtain⟨W9,hW9,hb9,s9,bY9⟩:∃W9,W8.alloc (.cells #[.int .i64 x2.k,.int .i64 x2.N,.string x2.s,.slice x2.a x2.len x2.cap] 24)=W9∧Below W8.heap.size W8 W9∧W8.heap.size+1≤W9.heap.size∧BoxT W9 W8.heap.size x2:=⟨_,rfl,(Below.refl _ _).alloc (Nat.le_refl _) _,by simp,BoxT.new W8 x2⟩;have bT9:BoxT W9 W.heap.size ⟨k,N,s,some ⟨b,off,none⟩,2,cap⟩:=((uh HBT7).below hb8 (by omega)).below hb9 (by omega);have bZ9:=((uh HBZ7).below hb8 (by omega)).below hb9 (by omega);have bX9:=((uh HBX7).below hb8 (by omega)).below hb9 (by omega);have hB9:Below W.heap.size W W9:=(hB7.trans (hb8.mono (by omega))).trans (hb9.mono (by omega));clear HBT7 HBZ7 HBX7;cases r1 with
 | none=>
  have z0:=bZ9.c0;have z1:=bZ9.c1;have z2:=bZ9.c2;have z3:=bZ9.c3;obtain⟨f0,f1,f2,f3⟩:=bZ9.frz;have HF:Hid (Below W.heap.size W (set4 W9 (W.heap.size+1) 0 noTerm)):=set4_below hB9 (by omega) 0 _;clear bT9 bZ9 bX9 bY9;generalize r2.isSome=bb;simp only[Option.isSome_none];go_wp2_with fail
  try rw[hW9]
  exact bodyPost_ret (v:=.tuple #[noTerm.val,.bool false]) (by simp[results,Tryd.results42,go_sem,TV.val,noTerm,z0,z1,z2,z3]) rfl ⟨⟨noTerm,rfl,rfl⟩,HF.out⟩
 | some c1=>
  cases r2 with
  | none=>
   have z0:=bZ9.c0;have z1:=bZ9.c1;have z2:=bZ9.c2;have z3:=bZ9.c3;obtain⟨f0,f1,f2,f3⟩:=bZ9.frz;have HF:Hid (Below W.heap.size W (set4 W9 (W.heap.size+1) 0 noTerm)):=set4_below hB9 (by omega) 0 _;clear bT9 bZ9 bX9 bY9;simp only[Option.isSome];go_wp2_with fail
   try rw[hW9]
   exact bodyPost_ret (v:=.tuple #[noTerm.val,.bool false]) (by simp[results,Tryd.results42,go_sem,TV.val,noTerm,z0,z1,z2,z3]) rfl ⟨⟨noTerm,rfl,rfl⟩,HF.out⟩
  | some c2=>
   have HP:Hid (HoldsS (n+1) (Mix ns V3.heap.size) W9 x1.val c1∧HoldsS (n+1) (Mix ns V3.heap.size) W9 x2.val c2):=⟨((((show HoldsS _ _ _ _ _ from HX1.out).below hb7).below hb8).below hb9),mix_mono ((show HoldsS _ _ _ _ _ from HX2.out).below hb9) (Nat.le_refl _) (by omega)⟩;have hc:=rcompound_any s;simp only[compV,TV.val] at hc;have c0:=bT9.c0;have c1:=bT9.c1;have c2:=bT9.c2;have c3:=bT9.c3;simp only at c0 c1 c2 c3;have q0:=bX9.c0;have q1:=bX9.c1;have q2:=bX9.c2;have q3:=bX9.c3;have y0:=bY9.c0;have y1:=bY9.c1;have y2:=bY9.c2;have y3:=bY9.c3;have HBZ9:=hide bZ9;clear bT9 bZ9 bX9 bY9;simp only[Option.isSome];go_wp2_with fail
   try rw[hW9]
   refine(hc _ _ _ _).mono ?_;rintro e W11 ⟨rfl,hb11⟩;try rw[hW9] at hb11
   clear hc c0 c1 c2 c3 q0 q1 q2 q3 y0 y1 y2 y3;have s11:=hb11.size;simp only[World.size_alloc] at s11;have hb10:Below W9.heap.size W9 W11:=((Below.refl _ W9).alloc (Nat.le_refl _) _).trans (hb11.mono (by simp));have hblk:W11.heap[W9.heap.size]?=some (.cells #[.int .i64 x1.k,.int .i64 x1.N,.string x1.s,.slice x1.a x1.len x1.cap,.int .i64 x2.k,.int .i64 x2.N,.string x2.s,.slice x2.a x2.len x2.cap] 24 (0,0)):=(hb11.block _ (by simp)).trans (World.alloc_heap_new _ _);have bZ11:=(uh HBZ9).below hb10 (by omega);have z0:=bZ11.c0;have z1:=bZ11.c1;have z2:=bZ11.c2;have z3:=bZ11.c3;obtain⟨f0,f1,f2,f3⟩:=bZ11.frz;have h2:=holdsS_two (HP.out.1.below hb10) (HP.out.2.below hb10) (b:=W9.heap.size) (by unfold Mix;omega) hblk s hs
   have HF:Hid (HoldsS (n+2) (Mix ns W.heap.size) (set4 W11 (W.heap.size+1) 0 (compV s (some ⟨W9.heap.size,0,none⟩) 2 2)) (compV s (some ⟨W9.heap.size,0,none⟩) 2 2).val ((4,0,s.toList,2)::(c1++c2))∧Below W.heap.size W (set4 W11 (W.heap.size+1) 0 (compV s (some ⟨W9.heap.size,0,none⟩) 2 2))):=
    ⟨mix_mono (mix_set4 h2 (by omega) (by omega) 0 _) (Nat.le_refl _) (by omega),set4_below (hB9.trans (hb10.mono (by omega))) (by omega) 0 _⟩
   clear h2 hblk bZ11 hb10 hb11 s9;go_wp2_with fail
   exact bodyPost_ret (v:=.tuple #[(compV s (some ⟨W9.heap.size,0,none⟩) 2 2).val,.bool true]) (by simp[results,Tryd.results42,go_sem,TV.val,compV,noTerm,z0,z1,z2,z3]) rfl ⟨⟨_,rfl,HF.out.1⟩,HF.out.2⟩
theorem bodyC_succ{n:Nat}(x:TV)(kids:List (Tm n)):bodyC (n:=n+1) ((x,kids):TV×List (Tm n))=if x.k=1 then some ((4,0,callL,1)::code (n:=n+1) ((x,kids):TV×List (Tm n))) else if x.k=2 then none else if junct x=true then bodyJ x.s.toList (kids.map bodyC) else some (code (n:=n+1) ((x,kids):TV×List (Tm n))):=rfl
theorem junct_len{x:TV}(h:junct x=true):x.len=2:=by
 simp only[junct,isB,Bool.or_eq_true,Bool.and_eq_true,beq_iff_eq] at h
 rcases h with h | h | h
 ·have:=h.2.2;omega
 ·have:=h.2.2;omega
 ·have:=h.2.2;omega
theorem rbody_any:∀{n:Nat} (t:Tm n) (ns:Nat) (W:World),IsT ns W t→ns≤W.heap.size→okT t=true→
  Calls Tryd.prog 42 #[t.tv.val] W fun e W'=>BSays (n+1) ns W.heap.size (bodyC t) e W'∧Below W.heap.size W W':=by
 intro n
 induction n with
 | zero=>intro t;exact Empty.elim t
 | succ n ih=>
  intro t ns W hT hns hok;have hT0:=hT;obtain⟨x,kids⟩:=t;obtain⟨-,hk⟩:=ok_kids hok;obtain⟨h1,h2,h3,h4⟩:=hT;simp only[Tm.tv,Tm.kids] at h1 h2 h3 h4;rw[bodyC_succ]
  by_cases k1:x.k=1
  ·rw[if_pos k1]
   exact(rbody_var _ ns W hT0 hns k1).mono fun e W' h=>h
  rw[if_neg k1]
  by_cases k2:x.k=2
  ·rw[if_pos k2]
   obtain⟨k,N,s,a,len,cap⟩:=x;simp only at k2;subst k2
   exact(rbody_int ns W.heap.size N s a len cap W).mono fun e W' h=>by
    obtain⟨⟨y,he,hy⟩,hb⟩:=h;exact⟨⟨y,he,hy⟩,hb⟩
  rw[if_neg k2];cases hj:junct x with
  | false=>
   rw[if_neg (by simp)]
   exact(rbody_else _ ns W hT0 hns k1 k2 hj).mono fun e W' h=>by
    obtain⟨⟨y,he,hy⟩,hb⟩:=h;exact⟨⟨y,he,mix_mono hy (by omega) (Nat.le_refl _)⟩,hb⟩
  | true=>
   rw[if_pos rfl];have hl:=junct_len hj;obtain⟨k,N,s,a,len,cap⟩:=x;simp only at hl h1 h2 h3 h4 k1 k2⊢;subst hl
   obtain⟨u,v,rfl⟩:∃u v,kids=[u,v]:=by
    match kids,h1 with
    | [u,v],_=>exact⟨u,v,rfl⟩
   obtain⟨b,off,rfl,hb,hkk⟩:=h4.resolve_left (by simp);obtain⟨hcu,hTu⟩:=hkk 0 u rfl;obtain⟨hcv,hTv⟩:=hkk 1 v rfl;rw[Nat.zero_mul,Nat.add_zero] at hcu;rw[Nat.one_mul] at hcv;have oku:=hk u (by simp);have okv:=hk v (by simp)
   show Calls _ _ _ _ fun e W'=>BSays (n+2) ns W.heap.size (bodyJ s.toList [bodyC u,bodyC v]) e W'∧_
   cases j1:isB ⟨k,N,s,some ⟨b,off,none⟩,2,cap⟩ [44] 2 with
   | true=>exact rbody_j1 ih k N s b off cap u v ns W hns hb hcu hcv hTu hTv oku okv k1 k2 h3 j1
   | false=>
    cases j2:isB ⟨k,N,s,some ⟨b,off,none⟩,2,cap⟩ [59] 2 with
    | true=>exact rbody_j2 ih k N s b off cap u v ns W hns hb hcu hcv hTu hTv oku okv k1 k2 h3 j1 j2
    | false=>
     have j3:isB ⟨k,N,s,some ⟨b,off,none⟩,2,cap⟩ [45,62] 2=true:=by simpa[junct,j1,j2] using hj
     exact rbody_j3 ih k N s b off cap u v ns W hns hb hcu hcv hTu hTv oku okv k1 k2 h3 j1 j2 j3
end Go.Proofs.YtjbdkbaacjfecaaDoor
