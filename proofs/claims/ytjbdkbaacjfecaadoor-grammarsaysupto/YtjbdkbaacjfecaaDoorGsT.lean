import Derived.Test.YtjbdkbaacjfecaaDoorTks
import Derived.Test.YtjbdkbaacjfecaaDoorGsRs
namespace Go.Proofs.YtjbdkbaacjfecaaDoor
set_option maxHeartbeats 8000000
set_option maxRecDepth 100000
open Go.RowKit Go.Shelf Go.Maps
theorem wp_rtr11{tb Bk off oc D ns M:Nat}{b:TV}{n0 er:Int}{c:List Nd}{v0 v2 v3 v4 v6 v7 v8 v9 v10 v11 v12 v13 v14 v15 v16 v17 v18 v19 v20 v21 v22 v23 v24 v25 v26 v27 v28 v29 v30 v31 v32 v33 v34 v35 v36 v37 v38 v39 v40 v41 v42 v43 v44 v45 v46 v47 v48 v49 v50 v51 v52 v53 v54 v55 v56 v57 v58 v59 v60 v61 v62 v63 v64 v65 v66 v67 v68 v69 v70 v71 v72 v73 v74 v75 v76 v77 v78 v79 v80 v81:Value}{d:List Deferred}{W0:World}{Q:Exit→Act→World→Prop}(htb:tb<W0.heap.size)(hBk:Bk<W0.heap.size)(hns:ns≤W0.heap.size)(hb1: -1152921504606846976≤n0∧n0≤1152921504606846976)
  (hc:W0.cell? ⟨tb,3,none⟩=some (.slice (some ⟨Bk,off,none⟩) 2 oc)∧W0.cell? ⟨Bk,off+4,none⟩=some (.int .i64 b.k)∧W0.cell? ⟨Bk,off+4+1,none⟩=some (.int .i64 b.N)∧W0.cell? ⟨Bk,off+4+2,none⟩=some (.string b.s)∧W0.cell? ⟨Bk,off+4+3,none⟩=some (.slice b.a b.len b.cap))
  (HB0:∀U,Below W0.heap.size W0 U→Calls Tryd.prog 24 #[.agg #[.int .i64 b.k,.int .i64 b.N,.string b.s,.slice b.a b.len b.cap],.agg #[.int .i64 1,.int .i64 n0,.string ⟨#[]⟩,.slice none 0 0],.agg #[.int .i64 1,.int .i64 (n0+1),.string ⟨#[]⟩,.slice none 0 0],.int .i64 (n0+2)] U fun e U'=> ∃(y:TV) (m:Int),e=.returned (.tuple #[y.val,.int .i64 m,.int .i64 er])∧Below U.heap.size U U'∧BtwP D ns M er c U.heap.size y m U')
  (hQ:∀(W:World) (bx:Nat) (y:TV) (m:Int) (u44 u45 u46 u47 u48 u49 u50 u51 u52 u53 u54 u55 u56 u57 u58 u59:Value),Below W0.heap.size W0 W→W0.heap.size≤bx→BoxT W bx y→BtwP D ns M er c W0.heap.size y m W→Q .normal ⟨#[v0,.pointer (some ⟨tb,0,none⟩),v2,v3,v4,.int .i64 n0,.pointer (some ⟨bx,0,none⟩),.int .i64 m,.int .i64 er,v9,v10,v11,v12,v13,v14,v15,v16,v17,v18,v19,v20,v21,v22,v23,v24,v25,v26,v27,v28,v29,v30,v31,v32,v33,v34,v35,v36,v37,v38,v39,v40,v41,v42,v43,u44,u45,u46,u47,u48,u49,u50,u51,u52,u53,u54,u55,u56,u57,u58,u59,v60,v61,v62,v63,v64,v65,v66,v67,v68,v69,v70,v71,v72,v73,v74,v75,v76,v77,v78,v79,v80,v81],d⟩ W):
  (Code.region 11 #[{dst:=some 45,op:=Op.fieldAddr 24 (Operand.tmp 1) 3,type:=0,pos:= "grammar.go:84",after:=#[],guard:=none},{dst:=some 46,op:=Op.load 22 (Operand.tmp 45),type:=22,pos:= "grammar.go:84",after:=#[{on:=0,ground:=Ground.data}],guard:=none},{dst:=some 47,op:=Op.indexAddr 22 (Operand.tmp 46) (Operand.const (Value.int IntKind.i64 1)),type:=0,pos:= "grammar.go:84",after:=#[{on:=1,ground:=Ground.data}],guard:=none},{dst:=some 48,op:=Op.load 24 (Operand.tmp 47),type:=24,pos:= "grammar.go:84",after:=#[{on:=2,ground:=Ground.data}],guard:=none},{dst:=some 49,op:=Op.move (Operand.tmp 5),type:=2,pos:= "grammar.go:84",after:=#[],guard:=none},{dst:=some 50,op:=Op.call {callee:=Callee.value (Operand.func 25),args:=#[Operand.tmp 49],argTypes:=#[2]},type:=24,pos:= "grammar.go:84",after:=#[{on:=4,ground:=Ground.data}],guard:=none},{dst:=some 51,op:=Op.move (Operand.tmp 5),type:=2,pos:= "grammar.go:84",after:=#[],guard:=none},{dst:=some 52,op:=Op.binOp BinOp.add 2 (Operand.tmp 51) (Operand.const (Value.int IntKind.i64 1)) 2,type:=2,pos:= "grammar.go:84",after:=#[{on:=6,ground:=Ground.data}],guard:=none},{dst:=some 53,op:=Op.call {callee:=Callee.value (Operand.func 25),args:=#[Operand.tmp 52],argTypes:=#[2]},type:=24,pos:= "grammar.go:84",after:=#[{on:=7,ground:=Ground.data},{on:=5,ground:=Ground.chain}],guard:=none},{dst:=some 54,op:=Op.move (Operand.tmp 5),type:=2,pos:= "grammar.go:84",after:=#[],guard:=none},{dst:=some 55,op:=Op.binOp BinOp.add 2 (Operand.tmp 54) (Operand.const (Value.int IntKind.i64 2)) 2,type:=2,pos:= "grammar.go:84",after:=#[{on:=9,ground:=Ground.data}],guard:=none},{dst:=some 56,op:=Op.call {callee:=Callee.value (Operand.func 24),args:=#[Operand.tmp 48,Operand.tmp 50,Operand.tmp 53,Operand.tmp 55],argTypes:=#[24,24,24,2]},type:=32,pos:= "grammar.go:84",after:=#[{on:=3,ground:=Ground.data},{on:=5,ground:=Ground.data},{on:=8,ground:=Ground.data},{on:=10,ground:=Ground.data},{on:=8,ground:=Ground.chain}],guard:=none},{dst:=some 44,op:=Op.move (Operand.tmp 56),type:=32,pos:= "grammar.go:84",after:=#[{on:=11,ground:=Ground.data}],guard:=none},{dst:=some 57,op:=Op.extract (Operand.tmp 44) 0,type:=24,pos:= "grammar.go:84",after:=#[{on:=12,ground:=Ground.data}],guard:=none},{dst:=some 58,op:=Op.extract (Operand.tmp 44) 1,type:=2,pos:= "grammar.go:84",after:=#[{on:=12,ground:=Ground.data},{on:=17,ground:=Ground.gcOnly Departure.lateStores}],guard:=none},{dst:=some 59,op:=Op.extract (Operand.tmp 44) 2,type:=25,pos:= "grammar.go:84",after:=#[{on:=12,ground:=Ground.data},{on:=18,ground:=Ground.gcOnly Departure.lateStores}],guard:=none},{dst:=some 6,op:=Op.alloc 24,type:=0,pos:= "grammar.go:84",after:=#[],guard:=none},{dst:=none,op:=Op.store 24 (Operand.tmp 6) (Operand.tmp 57),type:=0,pos:= "grammar.go:84",after:=#[{on:=16,ground:=Ground.data},{on:=13,ground:=Ground.data},{on:=11,ground:=Ground.chain},{on:=0,ground:=Ground.phase},{on:=1,ground:=Ground.phase},{on:=2,ground:=Ground.phase},{on:=3,ground:=Ground.phase},{on:=4,ground:=Ground.phase},{on:=5,ground:=Ground.phase},{on:=6,ground:=Ground.phase},{on:=7,ground:=Ground.phase},{on:=8,ground:=Ground.phase},{on:=9,ground:=Ground.phase},{on:=10,ground:=Ground.phase},{on:=11,ground:=Ground.phase},{on:=12,ground:=Ground.phase},{on:=13,ground:=Ground.phase},{on:=14,ground:=Ground.textOnly Departure.lateStores},{on:=15,ground:=Ground.textOnly Departure.lateStores},{on:=16,ground:=Ground.phase}],guard:=none},{dst:=some 7,op:=Op.assign (Operand.tmp 58),type:=2,pos:= "grammar.go:84",after:=#[{on:=14,ground:=Ground.data},{on:=17,ground:=Ground.chain},{on:=0,ground:=Ground.phase},{on:=1,ground:=Ground.phase},{on:=2,ground:=Ground.phase},{on:=3,ground:=Ground.phase},{on:=4,ground:=Ground.phase},{on:=5,ground:=Ground.phase},{on:=6,ground:=Ground.phase},{on:=7,ground:=Ground.phase},{on:=8,ground:=Ground.phase},{on:=9,ground:=Ground.phase},{on:=10,ground:=Ground.phase},{on:=11,ground:=Ground.phase},{on:=12,ground:=Ground.phase},{on:=13,ground:=Ground.phase},{on:=14,ground:=Ground.phase},{on:=15,ground:=Ground.textOnly Departure.lateStores},{on:=16,ground:=Ground.phase},{on:=17,ground:=Ground.phase}],guard:=none},{dst:=some 8,op:=Op.assign (Operand.tmp 59),type:=25,pos:= "grammar.go:84",after:=#[{on:=15,ground:=Ground.data},{on:=18,ground:=Ground.chain},{on:=0,ground:=Ground.phase},{on:=1,ground:=Ground.phase},{on:=2,ground:=Ground.phase},{on:=3,ground:=Ground.phase},{on:=4,ground:=Ground.phase},{on:=5,ground:=Ground.phase},{on:=6,ground:=Ground.phase},{on:=7,ground:=Ground.phase},{on:=8,ground:=Ground.phase},{on:=9,ground:=Ground.phase},{on:=10,ground:=Ground.phase},{on:=11,ground:=Ground.phase},{on:=12,ground:=Ground.phase},{on:=13,ground:=Ground.phase},{on:=14,ground:=Ground.phase},{on:=15,ground:=Ground.phase},{on:=16,ground:=Ground.phase},{on:=17,ground:=Ground.phase},{on:=18,ground:=Ground.phase}],guard:=none}] true).wp Tryd.prog Q ⟨#[v0,.pointer (some ⟨tb,0,none⟩),v2,v3,v4,.int .i64 n0,v6,v7,v8,v9,v10,v11,v12,v13,v14,v15,v16,v17,v18,v19,v20,v21,v22,v23,v24,v25,v26,v27,v28,v29,v30,v31,v32,v33,v34,v35,v36,v37,v38,v39,v40,v41,v42,v43,v44,v45,v46,v47,v48,v49,v50,v51,v52,v53,v54,v55,v56,v57,v58,v59,v60,v61,v62,v63,v64,v65,v66,v67,v68,v69,v70,v71,v72,v73,v74,v75,v76,v77,v78,v79,v80,v81],d⟩ W0:=by
 obtain⟨D1,hD1⟩:∃D1,W0.drew=D1:=⟨_,rfl⟩;have l0:Below W0.heap.size W0 D1:=by rw[←hD1];exact(Below.refl _ W0).drew
 have hDs:D1.heap.size=W0.heap.size:=by rw[←hD1];rfl
 have hDl:W0.heap.size≤D1.heap.size∧D1.heap.size≤W0.heap.size:=by omega
 have KEEP:Hid (∀U:World,(∀k,k<W0.heap.size→U.heap[k]?=W0.heap[k]?)→(U.cell? ⟨tb,3,none⟩=some (.slice (some ⟨Bk,off,none⟩) 2 oc)∧U.cell? ⟨Bk,off+4,none⟩=some (.int .i64 b.k)∧U.cell? ⟨Bk,off+4+1,none⟩=some (.int .i64 b.N)∧U.cell? ⟨Bk,off+4+2,none⟩=some (.string b.s)∧U.cell? ⟨Bk,off+4+3,none⟩=some (.slice b.a b.len b.cap))):=hide fun U hU=>by
  have e1:∀j,U.cell? ⟨tb,j,none⟩=W0.cell? ⟨tb,j,none⟩:=fun j=>World.cell?_of_block (hU tb htb);have e2:∀j,U.cell? ⟨Bk,j,none⟩=W0.cell? ⟨Bk,j,none⟩:=fun j=>World.cell?_of_block (hU Bk hBk);obtain⟨c0,c1,c2,c3,c4⟩:=hc;exact⟨(e1 _).trans c0,(e2 _).trans c1,(e2 _).trans c2,(e2 _).trans c3,(e2 _).trans c4⟩
 have kD:=(uh KEEP) D1 (fun k hk=>l0.block k hk);have HB:=hide HB0;have HW1:Hid (IntKind.i64.wrap (n0+1)=n0+1):=hide (by simp[IntKind.wrap,IntKind.bits,IntKind.signed];omega);have HW2:Hid (IntKind.i64.wrap (n0+2)=n0+2):=hide (by simp[IntKind.wrap,IntKind.bits,IntKind.signed];omega);clear hc HB0 hDs;refine wp_region_noPanic ?_;refine wp_region_held_drew (S:=fun w'=>w'.cell? ⟨tb,3,none⟩=some (.slice (some ⟨Bk,off,none⟩) 2 oc)∧w'.cell? ⟨Bk,off+4,none⟩=some (.int .i64 b.k)∧w'.cell? ⟨Bk,off+4+1,none⟩=some (.int .i64 b.N)∧w'.cell? ⟨Bk,off+4+2,none⟩=some (.string b.s)∧w'.cell? ⟨Bk,off+4+3,none⟩=some (.slice b.a b.len b.cap)) (by kernel_rfl) ?_ (fun hHeld=>?_)
 ·(try rw[hD1]);exact kD
 rw[hD1] at hHeld⊢;clear hD1 kD;refine tk 0 rfl hHeld ?_;refine tk 1 rfl hHeld ?_;refine tk 2 rfl hHeld ?_;refine tk 3 rfl hHeld ?_;refine tk 4 rfl hHeld ?_;refine tk 6 rfl hHeld ?_;refine tk 7 rfl hHeld ?_;refine tk 9 rfl hHeld ?_;refine tk 10 rfl hHeld ?_;refine wpAnyH_ready (rs:=[5,16]) (by kernel_rfl) (by simp) ?_;refine rc 5 rfl (fun K hK=>?_) ?_
 ·have hHold:=hHeld
  clear hHeld;go_simp;try rw[uh HW1]
  refine(v_any n0 D1).mono ?_;rintro e X1 ⟨rfl,h1⟩;have l1:Below W0.heap.size W0 X1:=l0.trans (h1.mono l0.size);simp only[TV.val,varV];go_wp2_with fail
  refine hK.out _ _ ?_ (fun hHeld=>?_)
  ·((try dsimp only);exact(uh KEEP) _ (fun k hk=>l1.block k hk))
  clear hK K hHold;try simp only[pu]
  refine wpAnyH_ready (rs:=[8,16]) (by kernel_rfl) (by simp) ?_;refine rc 8 rfl (fun K hK=>?_) ?_
  ·have hHold:=hHeld
   clear hHeld;go_simp;try rw[uh HW1]
   refine(v_any (n0+1) X1).mono ?_;rintro e X2 ⟨rfl,h2⟩;have l2:Below W0.heap.size W0 X2:=l1.trans (h2.mono l1.size);simp only[TV.val,varV];go_wp2_with fail
   refine hK.out _ _ ?_ (fun hHeld=>?_)
   ·((try dsimp only);exact(uh KEEP) _ (fun k hk=>l2.block k hk))
   clear hK K hHold;try simp only[pu]
   refine wpAnyH_ready (rs:=[11,16]) (by kernel_rfl) (by simp) ?_;refine rc 11 rfl (fun K hK=>?_) ?_
   ·have hHold:=hHeld
    clear hHeld;go_simp;try rw[uh HW2]
    try rw[uh HW1]
    refine((uh HB) X2 l2).mono ?_;rintro e X3 ⟨y,m,rfl,h3,hP⟩;have l3:Below W0.heap.size W0 X3:=l2.trans (h3.mono l2.size);have hws:=l2.size;have hxs:=h3.size;simp only[TV.val];go_wp2_with fail
    refine hK.out _ _ ?_ (fun hHeld=>?_)
    ·((try dsimp only);exact(uh KEEP) _ (fun k hk=>l3.block k hk))
    clear hK K hHold;try simp only[pu]
    refine tk 12 rfl hHeld ?_;refine tk 13 rfl hHeld ?_;refine tk 14 rfl hHeld ?_;refine tk 15 rfl hHeld ?_;have hwz:=l3.size;refine rd 16 rfl fun K hK=>?_;have hHold:=hHeld;clear hHeld;go_simp;obtain⟨X4,hw4⟩:∃Y,X3.alloc (.cells #[.int .i64 0,.int .i64 0,.string ⟨#[]⟩,.slice none 0 0] 24)=Y:=⟨_,rfl⟩;obtain⟨bx,hbx'⟩:∃bx,X3.heap.size=bx:=⟨_,rfl⟩;have g4:Below X3.heap.size X3 X4:=by rw[←hw4];exact(Below.refl _ X3).alloc (Nat.le_refl _) _
    have s4:X4.heap.size=bx+1:=by rw[←hw4,←hbx'];simp
    have z4:BoxT X4 bx noTerm:=by rw[←hw4,←hbx'];exact BoxT.new X3 noTerm
    have l4:Below W0.heap.size W0 X4:=l3.trans (g4.mono l3.size);have hbx:W0.heap.size≤bx:=by have:=l3.size;omega
    try rw[hbx']
    try rw[hw4]
    clear hw4;refine hK.out _ _ ?_ (fun hHeld=>?_)
    ·((try dsimp only);exact(uh KEEP) _ (fun k hk=>l4.block k hk))
    clear hK K hHold;try simp only[pu]
    obtain⟨WF,hWF⟩:∃WF,set4 X4 bx 0 y=WF:=⟨_,rfl⟩;have oF:∀k,k≠bx→WF.heap[k]?=X4.heap[k]?:=fun k hk=>by rw[←hWF];exact set4_other _ _ _ _ hk
    have sF:WF.heap.size=X4.heap.size:=by rw[←hWF,set4_size]
    have bF:BoxT WF bx y:=by rw[←hWF];exact set4_box z4 y
    have lF:Below W0.heap.size W0 WF:=by rw[←hWF];exact set4_below l4 hbx 0 y
    obtain⟨q0,q1,q2,q3⟩:=z4.frz;have p0:=z4.c0;have p1:=z4.c1;have p2:=z4.c2;have p3:=z4.c3;have HKF:=hide lF;have hfin:BtwP D ns M er c W0.heap.size y m WF:=hP.box hns (by omega) hbx (fun k hk hne=>(oF k hne).trans (g4.block k hk)) (.inr (by omega)) (by rw[sF];exact g4.size);have HQF:=hide (fun u44 u45 u46 u47 u48 u49 u50 u51 u52 u53 u54 u55 u56 u57 u58 u59=>hQ WF bx y m u44 u45 u46 u47 u48 u49 u50 u51 u52 u53 u54 u55 u56 u57 u58 u59 lF hbx bF hfin);unfold set4 at hWF;simp only[Nat.zero_add] at hWF;clear hfin lF bF oF sF hP z4;refine rd 17 rfl fun K hK=>?_;have hHold:=hHeld;clear hHeld;go_simp;try rw[hWF]
    refine hK.out _ _ ?_ (fun hHeld=>?_)
    ·((try dsimp only);exact(uh KEEP) _ (fun k hk=>(uh HKF).block k hk))
    clear hK K hHold;try simp only[pu]
    refine tk 18 rfl hHeld ?_;refine tk 19 rfl hHeld ?_;refine wpAnyH_done (by kernel_rfl) ?_ _;exact NoPanic.normal ((uh HQF) _ _ _ _ _ _ _ _ _ _ _ _ _ _ _ _)
   refine rc 16 rfl (fun K hK=>?_) AllReadyH.nil;have hHold:=hHeld;clear hHeld;go_simp;obtain⟨X5,hw5⟩:∃Y,X2.alloc (.cells #[.int .i64 0,.int .i64 0,.string ⟨#[]⟩,.slice none 0 0] 24)=Y:=⟨_,rfl⟩;obtain⟨bx,hbx'⟩:∃bx,X2.heap.size=bx:=⟨_,rfl⟩;have g5:Below X2.heap.size X2 X5:=by rw[←hw5];exact(Below.refl _ X2).alloc (Nat.le_refl _) _
   have s5:X5.heap.size=bx+1:=by rw[←hw5,←hbx'];simp
   have z5:BoxT X5 bx noTerm:=by rw[←hw5,←hbx'];exact BoxT.new X2 noTerm
   have l5:Below W0.heap.size W0 X5:=l2.trans (g5.mono l2.size);have hbx:W0.heap.size≤bx:=by have:=l2.size;omega
   try rw[hbx']
   try rw[hw5]
   clear hw5;refine hK.out _ _ ?_ (fun hHeld=>?_)
   ·((try dsimp only);exact(uh KEEP) _ (fun k hk=>l5.block k hk))
   clear hK K hHold;try simp only[pu]
   refine rd 11 rfl fun K hK=>?_;have hHold:=hHeld;clear hHeld;go_simp;try rw[uh HW2]
   try rw[uh HW1]
   refine((uh HB) X5 l5).mono ?_;rintro e X6 ⟨y,m,rfl,h6,hP⟩;have l6:Below W0.heap.size W0 X6:=l5.trans (h6.mono l5.size);have hws:=l5.size;have hxs:=h6.size;have z6:BoxT X6 bx noTerm:=z5.below h6 z5.lt;have hbl:=z5.lt;simp only[TV.val];go_wp2_with fail
   refine hK.out _ _ ?_ (fun hHeld=>?_)
   ·((try dsimp only);exact(uh KEEP) _ (fun k hk=>l6.block k hk))
   clear hK K hHold;try simp only[pu]
   refine tk 12 rfl hHeld ?_;refine tk 13 rfl hHeld ?_;refine tk 14 rfl hHeld ?_;refine tk 15 rfl hHeld ?_;obtain⟨WF,hWF⟩:∃WF,set4 X6 bx 0 y=WF:=⟨_,rfl⟩;have oF:∀k,k≠bx→WF.heap[k]?=X6.heap[k]?:=fun k hk=>by rw[←hWF];exact set4_other _ _ _ _ hk
   have sF:WF.heap.size=X6.heap.size:=by rw[←hWF,set4_size]
   have bF:BoxT WF bx y:=by rw[←hWF];exact set4_box z6 y
   have lF:Below W0.heap.size W0 WF:=by rw[←hWF];exact set4_below l6 hbx 0 y
   obtain⟨q0,q1,q2,q3⟩:=z6.frz;have p0:=z6.c0;have p1:=z6.c1;have p2:=z6.c2;have p3:=z6.c3;have HKF:=hide lF;have hfin:BtwP D ns M er c W0.heap.size y m WF:=hP.box hns (by omega) hbx (fun k hk hne=>oF k hne) (.inl (by omega)) (by rw[sF];exact Nat.le_refl _);have HQF:=hide (fun u44 u45 u46 u47 u48 u49 u50 u51 u52 u53 u54 u55 u56 u57 u58 u59=>hQ WF bx y m u44 u45 u46 u47 u48 u49 u50 u51 u52 u53 u54 u55 u56 u57 u58 u59 lF hbx bF hfin);unfold set4 at hWF;simp only[Nat.zero_add] at hWF;clear hfin lF bF oF sF hP z6;refine rd 17 rfl fun K hK=>?_;have hHold:=hHeld;clear hHeld;go_simp;try rw[hWF]
   refine hK.out _ _ ?_ (fun hHeld=>?_)
   ·((try dsimp only);exact(uh KEEP) _ (fun k hk=>(uh HKF).block k hk))
   clear hK K hHold;try simp only[pu]
   refine tk 18 rfl hHeld ?_;refine tk 19 rfl hHeld ?_;refine wpAnyH_done (by kernel_rfl) ?_ _;exact NoPanic.normal ((uh HQF) _ _ _ _ _ _ _ _ _ _ _ _ _ _ _ _)
  refine rc 16 rfl (fun K hK=>?_) AllReadyH.nil;have hHold:=hHeld;clear hHeld;go_simp;obtain⟨X7,hw7⟩:∃Y,X1.alloc (.cells #[.int .i64 0,.int .i64 0,.string ⟨#[]⟩,.slice none 0 0] 24)=Y:=⟨_,rfl⟩;obtain⟨bx,hbx'⟩:∃bx,X1.heap.size=bx:=⟨_,rfl⟩;have g7:Below X1.heap.size X1 X7:=by rw[←hw7];exact(Below.refl _ X1).alloc (Nat.le_refl _) _
  have s7:X7.heap.size=bx+1:=by rw[←hw7,←hbx'];simp
  have z7:BoxT X7 bx noTerm:=by rw[←hw7,←hbx'];exact BoxT.new X1 noTerm
  have l7:Below W0.heap.size W0 X7:=l1.trans (g7.mono l1.size);have hbx:W0.heap.size≤bx:=by have:=l1.size;omega
  try rw[hbx']
  try rw[hw7]
  clear hw7;refine hK.out _ _ ?_ (fun hHeld=>?_)
  ·((try dsimp only);exact(uh KEEP) _ (fun k hk=>l7.block k hk))
  clear hK K hHold;try simp only[pu]
  refine rd 8 rfl fun K hK=>?_;have hHold:=hHeld;clear hHeld;go_simp;try rw[uh HW1]
  refine(v_any (n0+1) X7).mono ?_;rintro e X8 ⟨rfl,h8⟩;have l8:Below W0.heap.size W0 X8:=l7.trans (h8.mono l7.size);have z8:BoxT X8 bx noTerm:=z7.below h8 z7.lt;have hbl:=z7.lt;simp only[TV.val,varV];go_wp2_with fail
  refine hK.out _ _ ?_ (fun hHeld=>?_)
  ·((try dsimp only);exact(uh KEEP) _ (fun k hk=>l8.block k hk))
  clear hK K hHold;try simp only[pu]
  refine rd 11 rfl fun K hK=>?_;have hHold:=hHeld;clear hHeld;go_simp;try rw[uh HW2]
  try rw[uh HW1]
  refine((uh HB) X8 l8).mono ?_;rintro e X9 ⟨y,m,rfl,h9,hP⟩;have l9:Below W0.heap.size W0 X9:=l8.trans (h9.mono l8.size);have hws:=l8.size;have hxs:=h9.size;have z9:BoxT X9 bx noTerm:=z8.below h9 z8.lt;have hbl:=z8.lt;simp only[TV.val];go_wp2_with fail
  refine hK.out _ _ ?_ (fun hHeld=>?_)
  ·((try dsimp only);exact(uh KEEP) _ (fun k hk=>l9.block k hk))
  clear hK K hHold;try simp only[pu]
  refine tk 12 rfl hHeld ?_;refine tk 13 rfl hHeld ?_;refine tk 14 rfl hHeld ?_;refine tk 15 rfl hHeld ?_;obtain⟨WF,hWF⟩:∃WF,set4 X9 bx 0 y=WF:=⟨_,rfl⟩;have oF:∀k,k≠bx→WF.heap[k]?=X9.heap[k]?:=fun k hk=>by rw[←hWF];exact set4_other _ _ _ _ hk
  have sF:WF.heap.size=X9.heap.size:=by rw[←hWF,set4_size]
  have bF:BoxT WF bx y:=by rw[←hWF];exact set4_box z9 y
  have lF:Below W0.heap.size W0 WF:=by rw[←hWF];exact set4_below l9 hbx 0 y
  obtain⟨q0,q1,q2,q3⟩:=z9.frz;have p0:=z9.c0;have p1:=z9.c1;have p2:=z9.c2;have p3:=z9.c3;have HKF:=hide lF;have hfin:BtwP D ns M er c W0.heap.size y m WF:=hP.box hns (by omega) hbx (fun k hk hne=>oF k hne) (.inl (by omega)) (by rw[sF];exact Nat.le_refl _);have HQF:=hide (fun u44 u45 u46 u47 u48 u49 u50 u51 u52 u53 u54 u55 u56 u57 u58 u59=>hQ WF bx y m u44 u45 u46 u47 u48 u49 u50 u51 u52 u53 u54 u55 u56 u57 u58 u59 lF hbx bF hfin);unfold set4 at hWF;simp only[Nat.zero_add] at hWF;clear hfin lF bF oF sF hP z9;refine rd 17 rfl fun K hK=>?_;have hHold:=hHeld;clear hHeld;go_simp;try rw[hWF]
  refine hK.out _ _ ?_ (fun hHeld=>?_)
  ·((try dsimp only);exact(uh KEEP) _ (fun k hk=>(uh HKF).block k hk))
  clear hK K hHold;try simp only[pu]
  refine tk 18 rfl hHeld ?_;refine tk 19 rfl hHeld ?_;refine wpAnyH_done (by kernel_rfl) ?_ _;exact NoPanic.normal ((uh HQF) _ _ _ _ _ _ _ _ _ _ _ _ _ _ _ _)
 refine rc 16 rfl (fun K hK=>?_) AllReadyH.nil;have hHold:=hHeld;clear hHeld;go_simp;obtain⟨X10,hw10⟩:∃Y,D1.alloc (.cells #[.int .i64 0,.int .i64 0,.string ⟨#[]⟩,.slice none 0 0] 24)=Y:=⟨_,rfl⟩;obtain⟨bx,hbx'⟩:∃bx,D1.heap.size=bx:=⟨_,rfl⟩;have g10:Below D1.heap.size D1 X10:=by rw[←hw10];exact(Below.refl _ D1).alloc (Nat.le_refl _) _
 have s10:X10.heap.size=bx+1:=by rw[←hw10,←hbx'];simp
 have z10:BoxT X10 bx noTerm:=by rw[←hw10,←hbx'];exact BoxT.new D1 noTerm
 have l10:Below W0.heap.size W0 X10:=l0.trans (g10.mono l0.size);have hbx:W0.heap.size≤bx:=by have:=l0.size;omega
 try rw[hbx']
 try rw[hw10]
 clear hw10;refine hK.out _ _ ?_ (fun hHeld=>?_)
 ·((try dsimp only);exact(uh KEEP) _ (fun k hk=>l10.block k hk))
 clear hK K hHold;try simp only[pu]
 refine rd 5 rfl fun K hK=>?_;have hHold:=hHeld;clear hHeld;go_simp;try rw[uh HW1]
 refine(v_any n0 X10).mono ?_;rintro e X11 ⟨rfl,h11⟩;have l11:Below W0.heap.size W0 X11:=l10.trans (h11.mono l10.size);have z11:BoxT X11 bx noTerm:=z10.below h11 z10.lt;have hbl:=z10.lt;simp only[TV.val,varV];go_wp2_with fail
 refine hK.out _ _ ?_ (fun hHeld=>?_)
 ·((try dsimp only);exact(uh KEEP) _ (fun k hk=>l11.block k hk))
 clear hK K hHold;try simp only[pu]
 refine rd 8 rfl fun K hK=>?_;have hHold:=hHeld;clear hHeld;go_simp;try rw[uh HW1]
 refine(v_any (n0+1) X11).mono ?_;rintro e X12 ⟨rfl,h12⟩;have l12:Below W0.heap.size W0 X12:=l11.trans (h12.mono l11.size);have z12:BoxT X12 bx noTerm:=z11.below h12 z11.lt;have hbl:=z11.lt;simp only[TV.val,varV];go_wp2_with fail
 refine hK.out _ _ ?_ (fun hHeld=>?_)
 ·((try dsimp only);exact(uh KEEP) _ (fun k hk=>l12.block k hk))
 clear hK K hHold;try simp only[pu]
 refine rd 11 rfl fun K hK=>?_;have hHold:=hHeld;clear hHeld;go_simp;try rw[uh HW2]
 try rw[uh HW1]
 refine((uh HB) X12 l12).mono ?_;rintro e X13 ⟨y,m,rfl,h13,hP⟩;have l13:Below W0.heap.size W0 X13:=l12.trans (h13.mono l12.size);have hws:=l12.size;have hxs:=h13.size;have z13:BoxT X13 bx noTerm:=z12.below h13 z12.lt;have hbl:=z12.lt;simp only[TV.val];go_wp2_with fail
 refine hK.out _ _ ?_ (fun hHeld=>?_)
 ·((try dsimp only);exact(uh KEEP) _ (fun k hk=>l13.block k hk))
 clear hK K hHold;try simp only[pu]
 refine tk 12 rfl hHeld ?_;refine tk 13 rfl hHeld ?_;refine tk 14 rfl hHeld ?_;refine tk 15 rfl hHeld ?_;obtain⟨WF,hWF⟩:∃WF,set4 X13 bx 0 y=WF:=⟨_,rfl⟩;have oF:∀k,k≠bx→WF.heap[k]?=X13.heap[k]?:=fun k hk=>by rw[←hWF];exact set4_other _ _ _ _ hk
 have sF:WF.heap.size=X13.heap.size:=by rw[←hWF,set4_size]
 have bF:BoxT WF bx y:=by rw[←hWF];exact set4_box z13 y
 have lF:Below W0.heap.size W0 WF:=by rw[←hWF];exact set4_below l13 hbx 0 y
 obtain⟨q0,q1,q2,q3⟩:=z13.frz;have p0:=z13.c0;have p1:=z13.c1;have p2:=z13.c2;have p3:=z13.c3;have HKF:=hide lF;have hfin:BtwP D ns M er c W0.heap.size y m WF:=hP.box hns (by omega) hbx (fun k hk hne=>oF k hne) (.inl (by omega)) (by rw[sF];exact Nat.le_refl _);have HQF:=hide (fun u44 u45 u46 u47 u48 u49 u50 u51 u52 u53 u54 u55 u56 u57 u58 u59=>hQ WF bx y m u44 u45 u46 u47 u48 u49 u50 u51 u52 u53 u54 u55 u56 u57 u58 u59 lF hbx bF hfin);unfold set4 at hWF;simp only[Nat.zero_add] at hWF;clear hfin lF bF oF sF hP z13;refine rd 17 rfl fun K hK=>?_;have hHold:=hHeld;clear hHeld;go_simp;try rw[hWF]
 refine hK.out _ _ ?_ (fun hHeld=>?_)
 ·((try dsimp only);exact(uh KEEP) _ (fun k hk=>(uh HKF).block k hk))
 clear hK K hHold;try simp only[pu]
 refine tk 18 rfl hHeld ?_;refine tk 19 rfl hHeld ?_;refine wpAnyH_done (by kernel_rfl) ?_ _;exact NoPanic.normal ((uh HQF) _ _ _ _ _ _ _ _ _ _ _ _ _ _ _ _)
end Go.Proofs.YtjbdkbaacjfecaaDoor
