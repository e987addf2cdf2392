import Derived.Test.YtjbdkbaacjfecaaDoorTks
import Derived.Test.YtjbdkbaacjfecaaDoorGsBs
namespace Go.Proofs.YtjbdkbaacjfecaaDoor
set_option maxHeartbeats 4000000
set_option maxRecDepth 100000
open Go.RowKit Go.Shelf Go.Maps
theorem wp_btw11{tb Bk off oc sb D ns M:Nat}{a xs:TV}{f1 er:Int}{c:List Nd}{v0 v1 v2 v6 v7 v8 v9 v10 v11 v12 v13 v14 v15 v16 v17 v18 v19 v20 v21 v22 v23 v24 v25 v26 v27 v28 v29 v30 v31 v32 v33 v34 v35 v36 v37 v38 v39 v40 v41 v42 v43 v44 v45 v46 v47 v48 v49 v50 v51 v52 v53 v54 v55 v56 v57 v58 v59 v60 v61 v62 v63 v64 v65 v66 v67 v68 v69 v70 v71 v72 v73 v74 v75 v76 v77 v78 v79 v80 v81 v82 v83 v84 v85 v86 v87 v88 v89 v90 v91 v92 v93 v94 v95 v96 v97 v98 v99 v100 v101 v102 v103 v104 v105 v106 v107 v108 v109 v110 v111 v112 v113 v114 v115 v116 v117 v118 v119 v120 v121 v122 v123 v124 v125 v126 v127 v128 v129 v130 v131 v132 v133 v134 v135 v136 v137 v138 v139 v140 v141 v142 v143 v144 v145 v146 v147 v148 v149 v150 v151 v152 v153 v154 v155 v156 v157 v158 v159 v160 v161 v162 v163 v164 v165 v166 v167 v168 v169 v170 v171 v172 v173 v174 v175 v176 v177 v178 v179 v180 v181 v182 v183 v184 v185 v186 v187 v188 v189 v190 v191:Value}{d:List Deferred}{W0:World}{Q:Exit→Act→World→Prop}(htb:tb<W0.heap.size)(hBk:Bk<W0.heap.size)(hsb:sb<W0.heap.size)(hns:ns≤W0.heap.size)(hb1: -1152921504606846976≤f1∧f1≤1152921504606846976)
  (hc:W0.cell? ⟨tb,3,none⟩=some (.slice (some ⟨Bk,off,none⟩) 1 oc)∧W0.cell? ⟨Bk,off,none⟩=some (.int .i64 a.k)∧W0.cell? ⟨Bk,off+1,none⟩=some (.int .i64 a.N)∧W0.cell? ⟨Bk,off+2,none⟩=some (.string a.s)∧W0.cell? ⟨Bk,off+3,none⟩=some (.slice a.a a.len a.cap)∧W0.cell? ⟨sb,0,none⟩=some (.int .i64 xs.k)∧W0.cell? ⟨sb,1,none⟩=some (.int .i64 xs.N)∧W0.cell? ⟨sb,2,none⟩=some (.string xs.s)∧W0.cell? ⟨sb,3,none⟩=some (.slice xs.a xs.len xs.cap))
  (HB0:∀U,Below W0.heap.size W0 U→Calls Tryd.prog 24 #[.agg #[.int .i64 a.k,.int .i64 a.N,.string a.s,.slice a.a a.len a.cap],.agg #[.int .i64 xs.k,.int .i64 xs.N,.string xs.s,.slice xs.a xs.len xs.cap],.agg #[.int .i64 1,.int .i64 f1,.string ⟨#[]⟩,.slice none 0 0],.int .i64 (f1+1)] U fun e U'=> ∃(y:TV) (m:Int),e=.returned (.tuple #[y.val,.int .i64 m,.int .i64 er])∧Below U.heap.size U U'∧BtwP D ns M er c U.heap.size y m U')
  (hQ:∀(W:World) (bx:Nat) (y:TV) (m:Int) (u75 u76 u77 u78 u79 u80 u81 u82 u83 u84 u85 u86 u87 u88:Value),Below W0.heap.size W0 W→W0.heap.size≤bx→BoxT W bx y→BtwP D ns M er c W0.heap.size y m W→Q .normal ⟨#[v0,v1,v2,.int .i64 f1,.pointer (some ⟨tb,0,none⟩),.pointer (some ⟨sb,0,none⟩),v6,v7,v8,v9,v10,v11,.pointer (some ⟨bx,0,none⟩),.int .i64 m,.int .i64 er,v15,v16,v17,v18,v19,v20,v21,v22,v23,v24,v25,v26,v27,v28,v29,v30,v31,v32,v33,v34,v35,v36,v37,v38,v39,v40,v41,v42,v43,v44,v45,v46,v47,v48,v49,v50,v51,v52,v53,v54,v55,v56,v57,v58,v59,v60,v61,v62,v63,v64,v65,v66,v67,v68,v69,v70,v71,v72,v73,v74,u75,u76,u77,u78,u79,u80,u81,u82,u83,u84,u85,u86,u87,u88,v89,v90,v91,v92,v93,v94,v95,v96,v97,v98,v99,v100,v101,v102,v103,v104,v105,v106,v107,v108,v109,v110,v111,v112,v113,v114,v115,v116,v117,v118,v119,v120,v121,v122,v123,v124,v125,v126,v127,v128,v129,v130,v131,v132,v133,v134,v135,v136,v137,v138,v139,v140,v141,v142,v143,v144,v145,v146,v147,v148,v149,v150,v151,v152,v153,v154,v155,v156,v157,v158,v159,v160,v161,v162,v163,v164,v165,v166,v167,v168,v169,v170,v171,v172,v173,v174,v175,v176,v177,v178,v179,v180,v181,v182,v183,v184,v185,v186,v187,v188,v189,v190,v191],d⟩ W):
  (Code.region 11 #[{dst:=some 76,op:=Op.fieldAddr 24 (Operand.tmp 4) 3,type:=0,pos:= "grammar.go:18",after:=#[],guard:=none},{dst:=some 77,op:=Op.load 22 (Operand.tmp 76),type:=22,pos:= "grammar.go:18",after:=#[{on:=0,ground:=Ground.data}],guard:=none},{dst:=some 78,op:=Op.indexAddr 22 (Operand.tmp 77) (Operand.const (Value.int IntKind.i64 0)),type:=0,pos:= "grammar.go:18",after:=#[{on:=1,ground:=Ground.data}],guard:=none},{dst:=some 79,op:=Op.load 24 (Operand.tmp 78),type:=24,pos:= "grammar.go:18",after:=#[{on:=2,ground:=Ground.data}],guard:=none},{dst:=some 80,op:=Op.load 24 (Operand.tmp 5),type:=24,pos:= "grammar.go:18",after:=#[],guard:=none},{dst:=some 81,op:=Op.move (Operand.tmp 3),type:=2,pos:= "grammar.go:18",after:=#[],guard:=none},{dst:=some 82,op:=Op.call {callee:=Callee.value (Operand.func 25),args:=#[Operand.tmp 81],argTypes:=#[2]},type:=24,pos:= "grammar.go:18",after:=#[{on:=5,ground:=Ground.data}],guard:=none},{dst:=some 83,op:=Op.move (Operand.tmp 3),type:=2,pos:= "grammar.go:18",after:=#[],guard:=none},{dst:=some 84,op:=Op.binOp BinOp.add 2 (Operand.tmp 83) (Operand.const (Value.int IntKind.i64 1)) 2,type:=2,pos:= "grammar.go:18",after:=#[{on:=7,ground:=Ground.data}],guard:=none},{dst:=some 85,op:=Op.call {callee:=Callee.value (Operand.func 24),args:=#[Operand.tmp 79,Operand.tmp 80,Operand.tmp 82,Operand.tmp 84],argTypes:=#[24,24,24,2]},type:=32,pos:= "grammar.go:18",after:=#[{on:=3,ground:=Ground.data},{on:=4,ground:=Ground.data},{on:=6,ground:=Ground.data},{on:=8,ground:=Ground.data},{on:=6,ground:=Ground.chain}],guard:=none},{dst:=some 75,op:=Op.move (Operand.tmp 85),type:=32,pos:= "grammar.go:18",after:=#[{on:=9,ground:=Ground.data}],guard:=none},{dst:=some 86,op:=Op.extract (Operand.tmp 75) 0,type:=24,pos:= "grammar.go:18",after:=#[{on:=10,ground:=Ground.data}],guard:=none},{dst:=some 87,op:=Op.extract (Operand.tmp 75) 1,type:=2,pos:= "grammar.go:18",after:=#[{on:=10,ground:=Ground.data},{on:=15,ground:=Ground.gcOnly Departure.lateStores}],guard:=none},{dst:=some 88,op:=Op.extract (Operand.tmp 75) 2,type:=25,pos:= "grammar.go:18",after:=#[{on:=10,ground:=Ground.data},{on:=16,ground:=Ground.gcOnly Departure.lateStores}],guard:=none},{dst:=some 12,op:=Op.alloc 24,type:=0,pos:= "grammar.go:18",after:=#[],guard:=none},{dst:=none,op:=Op.store 24 (Operand.tmp 12) (Operand.tmp 86),type:=0,pos:= "grammar.go:18",after:=#[{on:=14,ground:=Ground.data},{on:=11,ground:=Ground.data},{on:=9,ground:=Ground.chain},{on:=0,ground:=Ground.phase},{on:=1,ground:=Ground.phase},{on:=2,ground:=Ground.phase},{on:=3,ground:=Ground.phase},{on:=4,ground:=Ground.phase},{on:=5,ground:=Ground.phase},{on:=6,ground:=Ground.phase},{on:=7,ground:=Ground.phase},{on:=8,ground:=Ground.phase},{on:=9,ground:=Ground.phase},{on:=10,ground:=Ground.phase},{on:=11,ground:=Ground.phase},{on:=12,ground:=Ground.textOnly Departure.lateStores},{on:=13,ground:=Ground.textOnly Departure.lateStores},{on:=14,ground:=Ground.phase}],guard:=none},{dst:=some 13,op:=Op.assign (Operand.tmp 87),type:=2,pos:= "grammar.go:18",after:=#[{on:=12,ground:=Ground.data},{on:=15,ground:=Ground.chain},{on:=0,ground:=Ground.phase},{on:=1,ground:=Ground.phase},{on:=2,ground:=Ground.phase},{on:=3,ground:=Ground.phase},{on:=4,ground:=Ground.phase},{on:=5,ground:=Ground.phase},{on:=6,ground:=Ground.phase},{on:=7,ground:=Ground.phase},{on:=8,ground:=Ground.phase},{on:=9,ground:=Ground.phase},{on:=10,ground:=Ground.phase},{on:=11,ground:=Ground.phase},{on:=12,ground:=Ground.phase},{on:=13,ground:=Ground.textOnly Departure.lateStores},{on:=14,ground:=Ground.phase},{on:=15,ground:=Ground.phase}],guard:=none},{dst:=some 14,op:=Op.assign (Operand.tmp 88),type:=25,pos:= "grammar.go:18",after:=#[{on:=13,ground:=Ground.data},{on:=16,ground:=Ground.chain},{on:=0,ground:=Ground.phase},{on:=1,ground:=Ground.phase},{on:=2,ground:=Ground.phase},{on:=3,ground:=Ground.phase},{on:=4,ground:=Ground.phase},{on:=5,ground:=Ground.phase},{on:=6,ground:=Ground.phase},{on:=7,ground:=Ground.phase},{on:=8,ground:=Ground.phase},{on:=9,ground:=Ground.phase},{on:=10,ground:=Ground.phase},{on:=11,ground:=Ground.phase},{on:=12,ground:=Ground.phase},{on:=13,ground:=Ground.phase},{on:=14,ground:=Ground.phase},{on:=15,ground:=Ground.phase},{on:=16,ground:=Ground.phase}],guard:=none}] true).wp Tryd.prog Q ⟨#[v0,v1,v2,.int .i64 f1,.pointer (some ⟨tb,0,none⟩),.pointer (some ⟨sb,0,none⟩),v6,v7,v8,v9,v10,v11,v12,v13,v14,v15,v16,v17,v18,v19,v20,v21,v22,v23,v24,v25,v26,v27,v28,v29,v30,v31,v32,v33,v34,v35,v36,v37,v38,v39,v40,v41,v42,v43,v44,v45,v46,v47,v48,v49,v50,v51,v52,v53,v54,v55,v56,v57,v58,v59,v60,v61,v62,v63,v64,v65,v66,v67,v68,v69,v70,v71,v72,v73,v74,v75,v76,v77,v78,v79,v80,v81,v82,v83,v84,v85,v86,v87,v88,v89,v90,v91,v92,v93,v94,v95,v96,v97,v98,v99,v100,v101,v102,v103,v104,v105,v106,v107,v108,v109,v110,v111,v112,v113,v114,v115,v116,v117,v118,v119,v120,v121,v122,v123,v124,v125,v126,v127,v128,v129,v130,v131,v132,v133,v134,v135,v136,v137,v138,v139,v140,v141,v142,v143,v144,v145,v146,v147,v148,v149,v150,v151,v152,v153,v154,v155,v156,v157,v158,v159,v160,v161,v162,v163,v164,v165,v166,v167,v168,v169,v170,v171,v172,v173,v174,v175,v176,v177,v178,v179,v180,v181,v182,v183,v184,v185,v186,v187,v188,v189,v190,v191],d⟩ W0:=by
 obtain⟨D1,hD1⟩:∃D1,W0.drew=D1:=⟨_,rfl⟩;have l0:Below W0.heap.size W0 D1:=by rw[←hD1];exact(Below.refl _ W0).drew
 have hDs:D1.heap.size=W0.heap.size:=by rw[←hD1];rfl
 have hDl:W0.heap.size≤D1.heap.size∧D1.heap.size≤W0.heap.size:=by omega
 have KEEP:Hid (∀U:World,(∀k,k<W0.heap.size→U.heap[k]?=W0.heap[k]?)→(U.cell? ⟨tb,3,none⟩=some (.slice (some ⟨Bk,off,none⟩) 1 oc)∧U.cell? ⟨Bk,off,none⟩=some (.int .i64 a.k)∧U.cell? ⟨Bk,off+1,none⟩=some (.int .i64 a.N)∧U.cell? ⟨Bk,off+2,none⟩=some (.string a.s)∧U.cell? ⟨Bk,off+3,none⟩=some (.slice a.a a.len a.cap)∧U.cell? ⟨sb,0,none⟩=some (.int .i64 xs.k)∧U.cell? ⟨sb,1,none⟩=some (.int .i64 xs.N)∧U.cell? ⟨sb,2,none⟩=some (.string xs.s)∧U.cell? ⟨sb,3,none⟩=some (.slice xs.a xs.len xs.cap))):=hide fun U hU=>by
  have e1:∀j,U.cell? ⟨tb,j,none⟩=W0.cell? ⟨tb,j,none⟩:=fun j=>World.cell?_of_block (hU tb htb);have e2:∀j,U.cell? ⟨Bk,j,none⟩=W0.cell? ⟨Bk,j,none⟩:=fun j=>World.cell?_of_block (hU Bk hBk);have e3:∀j,U.cell? ⟨sb,j,none⟩=W0.cell? ⟨sb,j,none⟩:=fun j=>World.cell?_of_block (hU sb hsb);obtain⟨c0,c1,c2,c3,c4,c5,c6,c7,c8⟩:=hc;exact⟨(e1 _).trans c0,(e2 _).trans c1,(e2 _).trans c2,(e2 _).trans c3,(e2 _).trans c4,(e3 _).trans c5,(e3 _).trans c6,(e3 _).trans c7,(e3 _).trans c8⟩
 have kD:=(uh KEEP) D1 (fun k hk=>l0.block k hk);have HB:=hide HB0;have HWR:Hid (IntKind.i64.wrap (f1+1)=f1+1):=hide (by simp[IntKind.wrap,IntKind.bits,IntKind.signed];omega);clear hc HB0 hDs;refine wp_region_noPanic ?_;refine wp_region_held_drew (S:=fun w'=>w'.cell? ⟨tb,3,none⟩=some (.slice (some ⟨Bk,off,none⟩) 1 oc)∧w'.cell? ⟨Bk,off,none⟩=some (.int .i64 a.k)∧w'.cell? ⟨Bk,off+1,none⟩=some (.int .i64 a.N)∧w'.cell? ⟨Bk,off+2,none⟩=some (.string a.s)∧w'.cell? ⟨Bk,off+3,none⟩=some (.slice a.a a.len a.cap)∧w'.cell? ⟨sb,0,none⟩=some (.int .i64 xs.k)∧w'.cell? ⟨sb,1,none⟩=some (.int .i64 xs.N)∧w'.cell? ⟨sb,2,none⟩=some (.string xs.s)∧w'.cell? ⟨sb,3,none⟩=some (.slice xs.a xs.len xs.cap)) (by kernel_rfl) ?_ (fun hHeld=>?_)
 ·(try rw[hD1]);exact kD
 rw[hD1] at hHeld⊢;clear hD1 kD;refine tk 0 rfl hHeld ?_;refine tk 1 rfl hHeld ?_;refine tk 2 rfl hHeld ?_;refine tk 3 rfl hHeld ?_;refine tk 4 rfl hHeld ?_;refine tk 5 rfl hHeld ?_;refine tk 7 rfl hHeld ?_;refine tk 8 rfl hHeld ?_;refine wpAnyH_ready (rs:=[6,14]) (by kernel_rfl) (by simp) ?_;refine rc 6 rfl (fun K hK=>?_) ?_
 ·have hHold:=hHeld
  clear hHeld;go_simp;refine(v_any f1 D1).mono ?_;rintro e X1 ⟨rfl,hX1⟩;have l1:Below W0.heap.size W0 X1:=l0.trans (hX1.mono l0.size);simp only[TV.val,varV];go_wp2_with fail
  refine hK.out _ _ ?_ (fun hHeld=>?_)
  ·((try dsimp only);exact(uh KEEP) _ (fun k hk=>l1.block k hk))
  clear hK K hHold;try simp only[pu]
  refine wpAnyH_ready (rs:=[9,14]) (by kernel_rfl) (by simp) ?_;refine rc 9 rfl (fun K hK=>?_) ?_
  ·have hHold:=hHeld
   clear hHeld;go_simp;try rw[uh HWR]
   refine((uh HB) X1 l1).mono ?_;rintro e X2 ⟨y,m,rfl,hX2,hP⟩;have l2:Below W0.heap.size W0 X2:=l1.trans (hX2.mono l1.size);simp only[TV.val];go_wp2_with fail
   refine hK.out _ _ ?_ (fun hHeld=>?_)
   ·((try dsimp only);exact(uh KEEP) _ (fun k hk=>l2.block k hk))
   clear hK K hHold;try simp only[pu]
   refine tk 10 rfl hHeld ?_;refine tk 11 rfl hHeld ?_;refine tk 12 rfl hHeld ?_;refine tk 13 rfl hHeld ?_;have hX2s:=hX2.size;have l1s:=l1.size;refine rd 14 rfl fun K hK=>?_;have hHold:=hHeld;clear hHeld;go_simp;obtain⟨X3,hwX3⟩:∃Y,X2.alloc (.cells #[.int .i64 0,.int .i64 0,.string ⟨#[]⟩,.slice none 0 0] 24)=Y:=⟨_,rfl⟩;obtain⟨bx,hbx'⟩:∃bx,X2.heap.size=bx:=⟨_,rfl⟩;have gX3:Below X2.heap.size X2 X3:=by rw[←hwX3];exact(Below.refl _ X2).alloc (Nat.le_refl _) _
   have sX3:X3.heap.size=bx+1:=by rw[←hwX3,←hbx'];simp
   have zX3:BoxT X3 bx noTerm:=by rw[←hwX3,←hbx'];exact BoxT.new X2 noTerm
   have l3:Below W0.heap.size W0 X3:=l2.trans (gX3.mono l2.size);have hbx:W0.heap.size≤bx:=by have:=l2.size;omega
   try rw[hbx']
   try rw[hwX3]
   refine hK.out _ _ ?_ (fun hHeld=>?_)
   ·((try dsimp only);exact(uh KEEP) _ (fun k hk=>l3.block k hk))
   clear hK K hHold;try simp only[pu]
   obtain⟨WF,hWF⟩:∃WF,set4 X3 bx 0 y=WF:=⟨_,rfl⟩;have oF:∀k,k≠bx→WF.heap[k]?=X3.heap[k]?:=fun k hk=>by rw[←hWF];exact set4_other _ _ _ _ hk
   have sF:WF.heap.size=X3.heap.size:=by rw[←hWF,set4_size]
   have bF:BoxT WF bx y:=by rw[←hWF];exact set4_box zX3 y
   have lF:Below W0.heap.size W0 WF:=by rw[←hWF];exact set4_below l3 hbx 0 y
   obtain⟨q0,q1,q2,q3⟩:=zX3.frz;have p0:=zX3.c0;have p1:=zX3.c1;have p2:=zX3.c2;have p3:=zX3.c3;have HKF:=hide lF;have hfin:BtwP D ns M er c W0.heap.size y m WF:=hP.box hns (by omega) hbx (fun k hk hne=>(oF k hne).trans (gX3.block k hk)) (.inr (by omega)) (by rw[sF];exact gX3.size);have HQF:=hide (fun u75 u76 u77 u78 u79 u80 u81 u82 u83 u84 u85 u86 u87 u88=>hQ WF bx y m u75 u76 u77 u78 u79 u80 u81 u82 u83 u84 u85 u86 u87 u88 lF hbx bF hfin);unfold set4 at hWF;simp only[Nat.zero_add] at hWF;clear hfin lF bF oF sF hP zX3;refine rd 15 rfl fun K hK=>?_;have hHold:=hHeld;clear hHeld;go_simp;try rw[hWF]
   refine hK.out _ _ ?_ (fun hHeld=>?_)
   ·((try dsimp only);exact(uh KEEP) _ (fun k hk=>(uh HKF).block k hk))
   clear hK K hHold;try simp only[pu]
   refine tk 16 rfl hHeld ?_;refine tk 17 rfl hHeld ?_;refine wpAnyH_done (by kernel_rfl) ?_ _;exact NoPanic.normal ((uh HQF) _ _ _ _ _ _ _ _ _ _ _ _ _ _)
  refine rc 14 rfl (fun K hK=>?_) AllReadyH.nil;have hHold:=hHeld;clear hHeld;go_simp;obtain⟨X2,hwX2⟩:∃Y,X1.alloc (.cells #[.int .i64 0,.int .i64 0,.string ⟨#[]⟩,.slice none 0 0] 24)=Y:=⟨_,rfl⟩;obtain⟨bx,hbx'⟩:∃bx,X1.heap.size=bx:=⟨_,rfl⟩;have gX2:Below X1.heap.size X1 X2:=by rw[←hwX2];exact(Below.refl _ X1).alloc (Nat.le_refl _) _
  have sX2:X2.heap.size=bx+1:=by rw[←hwX2,←hbx'];simp
  have zX2:BoxT X2 bx noTerm:=by rw[←hwX2,←hbx'];exact BoxT.new X1 noTerm
  have l2:Below W0.heap.size W0 X2:=l1.trans (gX2.mono l1.size);have hbx:W0.heap.size≤bx:=by have:=l1.size;omega
  try rw[hbx']
  try rw[hwX2]
  refine hK.out _ _ ?_ (fun hHeld=>?_)
  ·((try dsimp only);exact(uh KEEP) _ (fun k hk=>l2.block k hk))
  clear hK K hHold;try simp only[pu]
  clear hwX2;refine rd 9 rfl fun K hK=>?_;have hHold:=hHeld;clear hHeld;go_simp;try rw[uh HWR]
  refine((uh HB) X2 l2).mono ?_;rintro e X3 ⟨y,m,rfl,hX3,hP⟩;have l3:Below W0.heap.size W0 X3:=l2.trans (hX3.mono l2.size);have zX3:BoxT X3 bx noTerm:=zX2.below hX3 (by omega);simp only[TV.val];go_wp2_with fail
  refine hK.out _ _ ?_ (fun hHeld=>?_)
  ·((try dsimp only);exact(uh KEEP) _ (fun k hk=>l3.block k hk))
  clear hK K hHold;try simp only[pu]
  refine tk 10 rfl hHeld ?_;refine tk 11 rfl hHeld ?_;refine tk 12 rfl hHeld ?_;refine tk 13 rfl hHeld ?_;have l2s:=l2.size;obtain⟨WF,hWF⟩:∃WF,set4 X3 bx 0 y=WF:=⟨_,rfl⟩;have oF:∀k,k≠bx→WF.heap[k]?=X3.heap[k]?:=fun k hk=>by rw[←hWF];exact set4_other _ _ _ _ hk
  have sF:WF.heap.size=X3.heap.size:=by rw[←hWF,set4_size]
  have bF:BoxT WF bx y:=by rw[←hWF];exact set4_box zX3 y
  have lF:Below W0.heap.size W0 WF:=by rw[←hWF];exact set4_below l3 hbx 0 y
  obtain⟨q0,q1,q2,q3⟩:=zX3.frz;have p0:=zX3.c0;have p1:=zX3.c1;have p2:=zX3.c2;have p3:=zX3.c3;have HKF:=hide lF;have hfin:BtwP D ns M er c W0.heap.size y m WF:=hP.box hns (by omega) hbx (fun k hk hne=>oF k hne) (.inl (by omega)) (by rw[sF];exact Nat.le_refl _);have HQF:=hide (fun u75 u76 u77 u78 u79 u80 u81 u82 u83 u84 u85 u86 u87 u88=>hQ WF bx y m u75 u76 u77 u78 u79 u80 u81 u82 u83 u84 u85 u86 u87 u88 lF hbx bF hfin);unfold set4 at hWF;simp only[Nat.zero_add] at hWF;clear hfin lF bF oF sF hP zX3;refine rd 15 rfl fun K hK=>?_;have hHold:=hHeld;clear hHeld;go_simp;try rw[hWF]
  refine hK.out _ _ ?_ (fun hHeld=>?_)
  ·((try dsimp only);exact(uh KEEP) _ (fun k hk=>(uh HKF).block k hk))
  clear hK K hHold;try simp only[pu]
  refine tk 16 rfl hHeld ?_;refine tk 17 rfl hHeld ?_;refine wpAnyH_done (by kernel_rfl) ?_ _;exact NoPanic.normal ((uh HQF) _ _ _ _ _ _ _ _ _ _ _ _ _ _)
 refine rc 14 rfl (fun K hK=>?_) AllReadyH.nil;have hHold:=hHeld;clear hHeld;go_simp;obtain⟨X1,hwX1⟩:∃Y,D1.alloc (.cells #[.int .i64 0,.int .i64 0,.string ⟨#[]⟩,.slice none 0 0] 24)=Y:=⟨_,rfl⟩;obtain⟨bx,hbx'⟩:∃bx,D1.heap.size=bx:=⟨_,rfl⟩;have gX1:Below D1.heap.size D1 X1:=by rw[←hwX1];exact(Below.refl _ D1).alloc (Nat.le_refl _) _
 have sX1:X1.heap.size=bx+1:=by rw[←hwX1,←hbx'];simp
 have zX1:BoxT X1 bx noTerm:=by rw[←hwX1,←hbx'];exact BoxT.new D1 noTerm
 have l1:Below W0.heap.size W0 X1:=l0.trans (gX1.mono l0.size);have hbx:W0.heap.size≤bx:=by have:=l0.size;omega
 try rw[hbx']
 try rw[hwX1]
 refine hK.out _ _ ?_ (fun hHeld=>?_)
 ·((try dsimp only);exact(uh KEEP) _ (fun k hk=>l1.block k hk))
 clear hK K hHold;try simp only[pu]
 clear hwX1;refine rd 6 rfl fun K hK=>?_;have hHold:=hHeld;clear hHeld;go_simp;refine(v_any f1 X1).mono ?_;rintro e X2 ⟨rfl,hX2⟩;have l2:Below W0.heap.size W0 X2:=l1.trans (hX2.mono l1.size);simp only[TV.val,varV];go_wp2_with fail
 refine hK.out _ _ ?_ (fun hHeld=>?_)
 ·((try dsimp only);exact(uh KEEP) _ (fun k hk=>l2.block k hk))
 clear hK K hHold;try simp only[pu]
 have zX2:BoxT X2 bx noTerm:=zX1.below hX2 (by omega);have hX2s:=hX2.size;refine rd 9 rfl fun K hK=>?_;have hHold:=hHeld;clear hHeld;go_simp;try rw[uh HWR]
 refine((uh HB) X2 l2).mono ?_;rintro e X3 ⟨y,m,rfl,hX3,hP⟩;have l3:Below W0.heap.size W0 X3:=l2.trans (hX3.mono l2.size);have zX3:BoxT X3 bx noTerm:=zX2.below hX3 (by omega);simp only[TV.val];go_wp2_with fail
 refine hK.out _ _ ?_ (fun hHeld=>?_)
 ·((try dsimp only);exact(uh KEEP) _ (fun k hk=>l3.block k hk))
 clear hK K hHold;try simp only[pu]
 refine tk 10 rfl hHeld ?_;refine tk 11 rfl hHeld ?_;refine tk 12 rfl hHeld ?_;refine tk 13 rfl hHeld ?_;have l2s:=l2.size;obtain⟨WF,hWF⟩:∃WF,set4 X3 bx 0 y=WF:=⟨_,rfl⟩;have oF:∀k,k≠bx→WF.heap[k]?=X3.heap[k]?:=fun k hk=>by rw[←hWF];exact set4_other _ _ _ _ hk
 have sF:WF.heap.size=X3.heap.size:=by rw[←hWF,set4_size]
 have bF:BoxT WF bx y:=by rw[←hWF];exact set4_box zX3 y
 have lF:Below W0.heap.size W0 WF:=by rw[←hWF];exact set4_below l3 hbx 0 y
 obtain⟨q0,q1,q2,q3⟩:=zX3.frz;have p0:=zX3.c0;have p1:=zX3.c1;have p2:=zX3.c2;have p3:=zX3.c3;have HKF:=hide lF;have hfin:BtwP D ns M er c W0.heap.size y m WF:=hP.box hns (by omega) hbx (fun k hk hne=>oF k hne) (.inl (by omega)) (by rw[sF];exact Nat.le_refl _);have HQF:=hide (fun u75 u76 u77 u78 u79 u80 u81 u82 u83 u84 u85 u86 u87 u88=>hQ WF bx y m u75 u76 u77 u78 u79 u80 u81 u82 u83 u84 u85 u86 u87 u88 lF hbx bF hfin);unfold set4 at hWF;simp only[Nat.zero_add] at hWF;clear hfin lF bF oF sF hP zX3;refine rd 15 rfl fun K hK=>?_;have hHold:=hHeld;clear hHeld;go_simp;try rw[hWF]
 refine hK.out _ _ ?_ (fun hHeld=>?_)
 ·((try dsimp only);exact(uh KEEP) _ (fun k hk=>(uh HKF).block k hk))
 clear hK K hHold;try simp only[pu]
 refine tk 16 rfl hHeld ?_;refine tk 17 rfl hHeld ?_;refine wpAnyH_done (by kernel_rfl) ?_ _;exact NoPanic.normal ((uh HQF) _ _ _ _ _ _ _ _ _ _ _ _ _ _)
end Go.Proofs.YtjbdkbaacjfecaaDoor
