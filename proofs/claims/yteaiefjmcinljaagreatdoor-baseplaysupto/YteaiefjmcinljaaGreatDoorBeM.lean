import Derived.Test.YteaiefjmcinljaaGreatDoorTks
import Derived.Test.YteaiefjmcinljaaGreatDoorBeS
namespace Go.Proofs.YteaiefjmcinljaaGreatDoor
set_option maxHeartbeats 4000000
set_option maxRecDepth 100000
open Go.RowKit Go.Shelf Go.Maps
theorem filter_take{α:Type}{p:α→Bool}{l:List α}{j:Nat}{d:α}(hd:l[j]?=some d):(l.take (j+1)).filter p=if p d=true then(l.take j).filter p++[d] else(l.take j).filter p:=by
 rw[List.take_add_one,hd,List.filter_append]
 cases h:p d <;> simp[h]
def leafV(x:TV):TV:=⟨x.k,x.N,x.s,none,0,0⟩
def leafT(x:TV):Tm 1:=(leafV x,[])
theorem leafT_is(n₀:Nat)(W:World)(x:TV)(hs:x.s.size≤9223372036854775807):IsT n₀ W (leafT x):=⟨rfl,⟨Nat.zero_le _,Nat.le_refl _,by decide⟩,hs,.inl rfl⟩
theorem leaf_same(x y:TV)(W:World)(hx:x.s.size≤9223372036854775807)(hy:y.s.size≤9223372036854775807):Calls Tryz.prog 15 #[(leafV x).val,(leafV y).val] W fun e W'=>e=.returned (.bool (decide (x.k=y.k∧x.N=y.N∧x.s.toList=y.s.toList)))∧Below W.heap.size W W':=by
 refine(same_any 1 (leafT x) (leafT y) W (leafT_is _ _ x hx) (leafT_is _ _ y hy)).mono fun e W' h=>⟨?_,h.2⟩
 rw[h.1,sameT_code (leafT_is W.heap.size W x hx).wl (leafT_is W.heap.size W y hy).wl]
 have e1:∀z:TV,code (leafT z)=[(z.k,z.N,z.s.toList,0)]:=fun z=>by
  rw[show leafT z=((leafV z,[]):TV×List (Tm 0)) from rfl,code_succ]
  simp[leafV,TV.nd]
 rw[e1,e1]
 simp
theorem box_frz{W:World}{B:Nat}{x:TV}(h:BoxT W B x)(o:Nat):W.frozen? ⟨B,o,none⟩=false:=by simp[World.frozen?,show W.heap[B]?=_ from h]
theorem box_nil{W:World}{B:Nat}{x:TV}(h:BoxT W B x):BoxT (W.setCell ⟨B,3,none⟩ (.slice none 0 0)) B (leafV x):=by
 obtain⟨hlt,hk⟩:=Array.getElem?_eq_some_iff.1 h
 show(W.heap.modify B _)[B]?=_
 rw[Array.getElem?_eq_getElem (by rw[Array.size_modify];exact hlt),Array.getElem_modify_self,hk]
 rfl
theorem hd_new{n:Nat}(W:World)(d:Hd n):∀j u,d.row[j]?=some u→(W.alloc (.cells d.row.toArray 63)).cell? ((⟨W.heap.size,0,none⟩:Addr).add j)=some u:=fun j u hu=>by
 rw[addr_add,Nat.zero_add]
 have h:=World.alloc_heap_new W (.cells d.row.toArray 63)
 unfold World.cell?
 simp only[h]
 simpa using hu
theorem first_cells{n n₀:Nat}{W:World}{t:Tm (n+1)}(h:IsT n₀ W t)(hl:t.tv.len≠0):∃(x:Tm n) (r:List (Tm n)) (b off:Nat),t.kids=x::r∧t.tv.a=some ⟨b,off,none⟩∧b<n₀∧cellsAt W b off x.tv∧x.tv.s.size≤9223372036854775807:=by
 obtain⟨x,kids⟩:=t
 obtain⟨h1,-,-,h4⟩:=h
 cases kids with
 | nil=>exact(hl h1).elim
 | cons u r=>
  rcases h4 with h4 | ⟨b,off,ea,hb,hk⟩
  ·cases h4
  ·obtain⟨k1,k2⟩:=hk 0 u rfl
   rw[Nat.zero_mul,Nat.add_zero] at k1
   refine⟨u,r,b,off,rfl,ea,hb,k1,?_⟩
   cases n with
   | zero=>exact Empty.elim u
   | succ n=>exact k2.2.2.1
theorem wp_firsts{gb hb bx ox by' oy lg cg lh ch:Nat}{x y:TV}{q:Bool}{v0 v1 v2 v4 v5 v6 v8 v9 v10 v11 v12 v13 v14 v15 v16 v17 v18 v19 v20 v21 v22 v23 v24 v25 v26 v27 v28 v29 v30 v31 v32 v33 v34 v35 v36 v37 v38 v39 v40 v41 v42 v43 v44 v45 v46 v47 v48 v49 v50 v51 v52 v53 v54 v55 v56 v57 v58 v59 v60 v61 v62 v63 v64 v65 v66 v67 v68 v69 v70 v71 v72 v73 v74 v75 v76 v77 v78 v79 v80 v81 v82 v83 v84 v85 v86 v87 v88 v89 v90 v91 v92 v93 v94 v95 v96 v97 v98 v99 v100 v101 v102 v103:Value}{dd:List Deferred}{W3:World}{K:Act→World→Prop}{Q:Exit→Act→World→Prop}(hK:∀(a:Act) (w:World),(Code.seq (Code.region 10 #[{dst:=some 61,op:=Op.fieldAddr 34 (Operand.tmp 9) 3,type:=0,pos:= "base.go:159",after:=#[],guard:=none},{dst:=none,op:=Op.store 32 (Operand.tmp 61) (Operand.const (Value.slice none 0 0)),type:=0,pos:= "base.go:159",after:=#[{on:=0,ground:=Ground.data}],guard:=none},{dst:=some 62,op:=Op.fieldAddr 34 (Operand.tmp 10) 3,type:=0,pos:= "base.go:159",after:=#[{on:=0,ground:=Ground.phase},{on:=1,ground:=Ground.phase}],guard:=none},{dst:=none,op:=Op.store 32 (Operand.tmp 62) (Operand.const (Value.slice none 0 0)),type:=0,pos:= "base.go:159",after:=#[{on:=2,ground:=Ground.data},{on:=1,ground:=Ground.chain},{on:=0,ground:=Ground.phase},{on:=1,ground:=Ground.phase}],guard:=none}] false) (Code.seq (Code.region 11 #[{dst:=some 63,op:=Op.load 34 (Operand.tmp 9),type:=34,pos:= "base.go:160",after:=#[],guard:=none},{dst:=some 64,op:=Op.load 34 (Operand.tmp 10),type:=34,pos:= "base.go:160",after:=#[],guard:=none},{dst:=some 65,op:=Op.call {callee:=Callee.value (Operand.func 15),args:=#[Operand.tmp 63,Operand.tmp 64],argTypes:=#[34,34]},type:=4,pos:= "base.go:160",after:=#[{on:=0,ground:=Ground.data},{on:=1,ground:=Ground.data}],guard:=none},{dst:=some 66,op:=Op.move (Operand.tmp 65),type:=4,pos:= "base.go:160",after:=#[{on:=2,ground:=Ground.data},{on:=2,ground:=Ground.chain}],guard:=none},{dst:=some 67,op:=Op.fieldAddr 34 (Operand.tmp 3) 3,type:=0,pos:= "base.go:160",after:=#[{on:=3,ground:=Ground.guard}],guard:=some (3,true)},{dst:=some 68,op:=Op.load 32 (Operand.tmp 67),type:=32,pos:= "base.go:160",after:=#[{on:=4,ground:=Ground.data},{on:=3,ground:=Ground.guard}],guard:=some (3,true)},{dst:=some 69,op:=Op.indexAddr 32 (Operand.tmp 68) (Operand.const (Value.int IntKind.i64 0)),type:=0,pos:= "base.go:160",after:=#[{on:=5,ground:=Ground.data},{on:=3,ground:=Ground.guard}],guard:=some (3,true)},{dst:=some 70,op:=Op.fieldAddr 34 (Operand.tmp 69) 3,type:=0,pos:= "base.go:160",after:=#[{on:=6,ground:=Ground.data},{on:=3,ground:=Ground.guard}],guard:=some (3,true)},{dst:=some 71,op:=Op.load 32 (Operand.tmp 70),type:=32,pos:= "base.go:160",after:=#[{on:=7,ground:=Ground.data},{on:=3,ground:=Ground.guard}],guard:=some (3,true)},{dst:=some 72,op:=Op.call {callee:=Callee.builtin Builtin.len,args:=#[Operand.tmp 71],argTypes:=#[32]},type:=3,pos:= "base.go:160",after:=#[{on:=8,ground:=Ground.data},{on:=3,ground:=Ground.guard}],guard:=some (3,true)},{dst:=some 73,op:=Op.fieldAddr 34 (Operand.tmp 7) 3,type:=0,pos:= "base.go:160",after:=#[{on:=3,ground:=Ground.guard}],guard:=some (3,true)},{dst:=some 74,op:=Op.load 32 (Operand.tmp 73),type:=32,pos:= "base.go:160",after:=#[{on:=10,ground:=Ground.data},{on:=3,ground:=Ground.guard}],guard:=some (3,true)},{dst:=some 75,op:=Op.indexAddr 32 (Operand.tmp 74) (Operand.const (Value.int IntKind.i64 0)),type:=0,pos:= "base.go:160",after:=#[{on:=11,ground:=Ground.data},{on:=3,ground:=Ground.guard}],guard:=some (3,true)},{dst:=some 76,op:=Op.fieldAddr 34 (Operand.tmp 75) 3,type:=0,pos:= "base.go:160",after:=#[{on:=12,ground:=Ground.data},{on:=3,ground:=Ground.guard}],guard:=some (3,true)},{dst:=some 77,op:=Op.load 32 (Operand.tmp 76),type:=32,pos:= "base.go:160",after:=#[{on:=13,ground:=Ground.data},{on:=3,ground:=Ground.guard}],guard:=some (3,true)},{dst:=some 78,op:=Op.call {callee:=Callee.builtin Builtin.len,args:=#[Operand.tmp 77],argTypes:=#[32]},type:=3,pos:= "base.go:160",after:=#[{on:=14,ground:=Ground.data},{on:=3,ground:=Ground.guard}],guard:=some (3,true)},{dst:=some 79,op:=Op.binOp BinOp.eql 3 (Operand.tmp 72) (Operand.tmp 78) 3,type:=4,pos:= "base.go:160",after:=#[{on:=9,ground:=Ground.data},{on:=15,ground:=Ground.data},{on:=3,ground:=Ground.guard}],guard:=some (3,true)},{dst:=some 80,op:=Op.pick (Operand.tmp 66) (Operand.tmp 79) (Operand.const (Value.bool false)),type:=4,pos:= "base.go:160",after:=#[{on:=3,ground:=Ground.data},{on:=16,ground:=Ground.data}],guard:=none},{dst:=some 11,op:=Op.assign (Operand.tmp 80),type:=4,pos:= "base.go:160",after:=#[{on:=17,ground:=Ground.data},{on:=3,ground:=Ground.chain},{on:=0,ground:=Ground.phase},{on:=1,ground:=Ground.phase},{on:=2,ground:=Ground.phase},{on:=3,ground:=Ground.phase},{on:=4,ground:=Ground.phase},{on:=5,ground:=Ground.phase},{on:=6,ground:=Ground.phase},{on:=7,ground:=Ground.phase},{on:=8,ground:=Ground.phase},{on:=9,ground:=Ground.phase},{on:=10,ground:=Ground.phase},{on:=11,ground:=Ground.phase},{on:=12,ground:=Ground.phase},{on:=13,ground:=Ground.phase},{on:=14,ground:=Ground.phase},{on:=15,ground:=Ground.phase},{on:=16,ground:=Ground.phase},{on:=17,ground:=Ground.phase}],guard:=none}] true) (Code.region 12 #[{dst:=some 81,op:=Op.fieldAddr 34 (Operand.tmp 9) 0,type:=0,pos:= "base.go:161",after:=#[],guard:=none},{dst:=some 82,op:=Op.load 3 (Operand.tmp 81),type:=3,pos:= "base.go:161",after:=#[{on:=0,ground:=Ground.data}],guard:=none},{dst:=some 83,op:=Op.binOp BinOp.eql 3 (Operand.tmp 82) (Operand.const (Value.int IntKind.i64 1)) 3,type:=4,pos:= "base.go:161",after:=#[{on:=1,ground:=Ground.data}],guard:=none},{dst:=some 84,op:=Op.move (Operand.tmp 83),type:=4,pos:= "base.go:161",after:=#[{on:=2,ground:=Ground.data}],guard:=none},{dst:=some 85,op:=Op.fieldAddr 34 (Operand.tmp 10) 0,type:=0,pos:= "base.go:161",after:=#[{on:=3,ground:=Ground.guard}],guard:=some (3,false)},{dst:=some 86,op:=Op.load 3 (Operand.tmp 85),type:=3,pos:= "base.go:161",after:=#[{on:=4,ground:=Ground.data},{on:=3,ground:=Ground.guard}],guard:=some (3,false)},{dst:=some 87,op:=Op.binOp BinOp.eql 3 (Operand.tmp 86) (Operand.const (Value.int IntKind.i64 1)) 3,type:=4,pos:= "base.go:161",after:=#[{on:=5,ground:=Ground.data},{on:=3,ground:=Ground.guard}],guard:=some (3,false)},{dst:=some 88,op:=Op.pick (Operand.tmp 84) (Operand.const (Value.bool true)) (Operand.tmp 87),type:=4,pos:= "base.go:161",after:=#[{on:=3,ground:=Ground.data},{on:=6,ground:=Ground.data}],guard:=none},{dst:=some 89,op:=Op.move (Operand.tmp 88),type:=4,pos:= "base.go:161",after:=#[{on:=7,ground:=Ground.data},{on:=3,ground:=Ground.chain}],guard:=none},{dst:=some 90,op:=Op.move (Operand.tmp 11),type:=4,pos:= "base.go:161",after:=#[{on:=8,ground:=Ground.guard}],guard:=some (8,false)},{dst:=some 91,op:=Op.pick (Operand.tmp 89) (Operand.const (Value.bool true)) (Operand.tmp 90),type:=4,pos:= "base.go:161",after:=#[{on:=8,ground:=Ground.data},{on:=9,ground:=Ground.data}],guard:=none},{dst:=some 8,op:=Op.assign (Operand.tmp 91),type:=4,pos:= "base.go:161",after:=#[{on:=10,ground:=Ground.data},{on:=8,ground:=Ground.chain},{on:=0,ground:=Ground.phase},{on:=1,ground:=Ground.phase},{on:=2,ground:=Ground.phase},{on:=3,ground:=Ground.phase},{on:=4,ground:=Ground.phase},{on:=5,ground:=Ground.phase},{on:=6,ground:=Ground.phase},{on:=7,ground:=Ground.phase},{on:=8,ground:=Ground.phase},{on:=9,ground:=Ground.phase},{on:=10,ground:=Ground.phase}],guard:=none}] false))).wp Tryz.prog Q a w→K a w)
  (kk3:W3.cell? ⟨gb,3,none⟩=some (.slice (some ⟨bx,ox,none⟩) lg cg)) (x3:W3.cell? ⟨hb,3,none⟩=some (.slice (some ⟨by',oy,none⟩) lh ch)) (hl5:gb<W3.heap.size) (hl6:hb<W3.heap.size) (hlx:bx<W3.heap.size) (hly:by'<W3.heap.size)
  (p0:W3.cell? ⟨bx,ox,none⟩=some (.int .i64 x.k)) (p1:W3.cell? ⟨bx,ox+1,none⟩=some (.int .i64 x.N)) (p2:W3.cell? ⟨bx,ox+2,none⟩=some (.string x.s)) (p3:W3.cell? ⟨bx,ox+3,none⟩=some (.slice x.a x.len x.cap))
  (q0:W3.cell? ⟨by',oy,none⟩=some (.int .i64 y.k)) (q1:W3.cell? ⟨by',oy+1,none⟩=some (.int .i64 y.N)) (q2:W3.cell? ⟨by',oy+2,none⟩=some (.string y.s)) (q3:W3.cell? ⟨by',oy+3,none⟩=some (.slice y.a y.len y.cap))
  (sx:x.s.size≤9223372036854775807) (sy:y.s.size≤9223372036854775807) (hz1:(0:Int)<(lg:Int)) (hz2:(0:Int)<(lh:Int))
  (hq:(decide (x.k=1) || (decide (y.k=1) || (decide (x.k=y.k∧x.N=y.N∧x.s.toList=y.s.toList) && ((x.len:Int) == y.len))))=q)
  (hQ:∀(W:World) (u9 u10 u11 u53 u54 u55 u56 u57 u58 u59 u60 u61 u62 u63 u64 u65 u66 u67 u68 u69 u70 u71 u72 u73 u74 u75 u76 u77 u78 u79 u80 u81 u82 u83 u84 u85 u86 u87 u88 u89 u90 u91:Value),Below W3.heap.size W3 W→Q .normal ⟨#[v0,v1,v2,.pointer (some ⟨gb,0,none⟩),v4,v5,v6,.pointer (some ⟨hb,0,none⟩),.bool q,u9,u10,u11,v12,v13,v14,v15,v16,v17,v18,v19,v20,v21,v22,v23,v24,v25,v26,v27,v28,v29,v30,v31,v32,v33,v34,v35,v36,v37,v38,v39,v40,v41,v42,v43,v44,v45,v46,v47,v48,v49,v50,v51,v52,u53,u54,u55,u56,u57,u58,u59,u60,u61,u62,u63,u64,u65,u66,u67,u68,u69,u70,u71,u72,u73,u74,u75,u76,u77,u78,u79,u80,u81,u82,u83,u84,u85,u86,u87,u88,u89,u90,u91,v92,v93,v94,v95,v96,v97,v98,v99,v100,v101,v102,v103],dd⟩ W):
  (Code.region 9 #[{dst:=some 53,op:=Op.fieldAddr 34 (Operand.tmp 3) 3,type:=0,pos:= "base.go:158",after:=#[],guard:=none},{dst:=some 54,op:=Op.load 32 (Operand.tmp 53),type:=32,pos:= "base.go:158",after:=#[{on:=0,ground:=Ground.data}],guard:=none},{dst:=some 55,op:=Op.indexAddr 32 (Operand.tmp 54) (Operand.const (Value.int IntKind.i64 0)),type:=0,pos:= "base.go:158",after:=#[{on:=1,ground:=Ground.data}],guard:=none},{dst:=some 56,op:=Op.load 34 (Operand.tmp 55),type:=34,pos:= "base.go:158",after:=#[{on:=2,ground:=Ground.data}],guard:=none},{dst:=some 57,op:=Op.fieldAddr 34 (Operand.tmp 7) 3,type:=0,pos:= "base.go:158",after:=#[{on:=10,ground:=Ground.gcOnly Departure.lateStores}],guard:=none},{dst:=some 58,op:=Op.load 32 (Operand.tmp 57),type:=32,pos:= "base.go:158",after:=#[{on:=4,ground:=Ground.data},{on:=10,ground:=Ground.gcOnly Departure.lateStores}],guard:=none},{dst:=some 59,op:=Op.indexAddr 32 (Operand.tmp 58) (Operand.const (Value.int IntKind.i64 0)),type:=0,pos:= "base.go:158",after:=#[{on:=5,ground:=Ground.data},{on:=10,ground:=Ground.gcOnly Departure.lateStores}],guard:=none},{dst:=some 60,op:=Op.load 34 (Operand.tmp 59),type:=34,pos:= "base.go:158",after:=#[{on:=6,ground:=Ground.data},{on:=10,ground:=Ground.gcOnly Departure.lateStores}],guard:=none},{dst:=some 9,op:=Op.alloc 34,type:=0,pos:= "base.go:158",after:=#[],guard:=none},{dst:=some 10,op:=Op.alloc 34,type:=0,pos:= "base.go:158",after:=#[],guard:=none},{dst:=none,op:=Op.store 34 (Operand.tmp 9) (Operand.tmp 56),type:=0,pos:= "base.go:158",after:=#[{on:=8,ground:=Ground.data},{on:=3,ground:=Ground.data},{on:=0,ground:=Ground.phase},{on:=1,ground:=Ground.phase},{on:=2,ground:=Ground.phase},{on:=3,ground:=Ground.phase},{on:=4,ground:=Ground.textOnly Departure.lateStores},{on:=5,ground:=Ground.textOnly Departure.lateStores},{on:=6,ground:=Ground.textOnly Departure.lateStores},{on:=7,ground:=Ground.textOnly Departure.lateStores},{on:=8,ground:=Ground.phase},{on:=9,ground:=Ground.phase}],guard:=none},{dst:=none,op:=Op.store 34 (Operand.tmp 10) (Operand.tmp 60),type:=0,pos:= "base.go:158",after:=#[{on:=9,ground:=Ground.data},{on:=7,ground:=Ground.data},{on:=10,ground:=Ground.chain},{on:=0,ground:=Ground.phase},{on:=1,ground:=Ground.phase},{on:=2,ground:=Ground.phase},{on:=3,ground:=Ground.phase},{on:=4,ground:=Ground.phase},{on:=5,ground:=Ground.phase},{on:=6,ground:=Ground.phase},{on:=7,ground:=Ground.phase},{on:=8,ground:=Ground.phase},{on:=9,ground:=Ground.phase},{on:=10,ground:=Ground.phase}],guard:=none}] true).wp Tryz.prog (Exit.then K Q) ⟨#[v0,v1,v2,.pointer (some ⟨gb,0,none⟩),v4,v5,v6,.pointer (some ⟨hb,0,none⟩),v8,v9,v10,v11,v12,v13,v14,v15,v16,v17,v18,v19,v20,v21,v22,v23,v24,v25,v26,v27,v28,v29,v30,v31,v32,v33,v34,v35,v36,v37,v38,v39,v40,v41,v42,v43,v44,v45,v46,v47,v48,v49,v50,v51,v52,v53,v54,v55,v56,v57,v58,v59,v60,v61,v62,v63,v64,v65,v66,v67,v68,v69,v70,v71,v72,v73,v74,v75,v76,v77,v78,v79,v80,v81,v82,v83,v84,v85,v86,v87,v88,v89,v90,v91,v92,v93,v94,v95,v96,v97,v98,v99,v100,v101,v102,v103],dd⟩ W3:=by
 have HQ:=hide hq
 have HQC:=hide hQ
 have HK:=hide hK
 have hn1:0<lg:=by omega
 have hn2:0<lh:=by omega
 clear hq hQ hK
 refine wp_nine gb hb bx ox by' oy lg cg lh ch x y _ W3 _ rfl rfl rfl kk3 x3 hl5 hl6 hlx hly p0 p1 p2 p3 q0 q1 q2 q3 hz1 hz2 hn1 hn2 ?_
 intro f W4 b1 b2 hb4 k1 k2 hb12 ha4 hc4 e9 e10
 show K ⟨#[v0,v1,v2,.pointer (some ⟨gb,0,none⟩),v4,v5,v6,.pointer (some ⟨hb,0,none⟩),v8,f 9,f 10,v11,v12,v13,v14,v15,v16,v17,v18,v19,v20,v21,v22,v23,v24,v25,v26,v27,v28,v29,v30,v31,v32,v33,v34,v35,v36,v37,v38,v39,v40,v41,v42,v43,v44,v45,v46,v47,v48,v49,v50,v51,v52,f 53,f 54,f 55,f 56,f 57,f 58,f 59,f 60,v61,v62,v63,v64,v65,v66,v67,v68,v69,v70,v71,v72,v73,v74,v75,v76,v77,v78,v79,v80,v81,v82,v83,v84,v85,v86,v87,v88,v89,v90,v91,v92,v93,v94,v95,v96,v97,v98,v99,v100,v101,v102,v103],dd⟩ W4
 rw[e9,e10]
 clear e9 e10
 generalize f 53=w53
 generalize f 54=w54
 generalize f 55=w55
 generalize f 56=w56
 generalize f 57=w57
 generalize f 58=w58
 generalize f 59=w59
 generalize f 60=w60
 refine(unhide HK) _ _ ?_
 clear HK
 have m0:=ha4.c0
 have m1:=ha4.c1
 have m2:=ha4.c2
 have m3:=ha4.c3
 have mf:W4.frozen? ⟨b1,3,none⟩=false:=box_frz ha4 3
 have n0:=hc4.c0
 have n1:=hc4.c1
 have n2:=hc4.c2
 have n3:=hc4.c3
 have nf:W4.frozen? ⟨b2,3,none⟩=false:=box_frz hc4 3
 have hne:b1≠b2:=hb12
 have hne':b2≠b1:=fun e=>hb12 e.symm
 have hx5:BoxT ((W4.setCell ⟨b1,3,none⟩ (.slice none 0 0)).setCell ⟨b2,3,none⟩ (.slice none 0 0)) b1 (leafV x):=(Below.heap_setCell _ _ _ b1 (show b1≠b2 by omega)).trans (box_nil ha4)
 have hy5:BoxT ((W4.setCell ⟨b1,3,none⟩ (.slice none 0 0)).setCell ⟨b2,3,none⟩ (.slice none 0 0)) b2 (leafV y):=box_nil (show BoxT _ b2 y from(Below.heap_setCell _ _ _ b2 (show b2≠b1 by omega)).trans hc4)
 have hb5:Below W3.heap.size W3 ((W4.setCell ⟨b1,3,none⟩ (.slice none 0 0)).setCell ⟨b2,3,none⟩ (.slice none 0 0)):=⟨hb4.os,hb4.tape,hb4.output,by simpa using hb4.size,fun k hk=>(Below.heap_setCell _ _ _ k (show k≠b2 by omega)).trans ((Below.heap_setCell _ _ _ k (show k≠b1 by omega)).trans (hb4.block k hk))⟩
 have HX5:=hide hx5
 have HY5:=hide hy5
 have HB5:=hide hb5
 clear hx5 hy5 hb5 hb4 ha4 hc4
 go_wp2_with fail
 obtain⟨W5,hW5⟩:∃W5,(W4.setCell ⟨b1,3,none⟩ (.slice none 0 0)).setCell ⟨b2,3,none⟩ (.slice none 0 0)=W5:=⟨_,rfl⟩
 rw[hW5] at HX5 HY5 HB5⊢
 clear hW5
 have hx5:=unhide HX5
 have hy5:=unhide HY5
 have hb5:=unhide HB5
 have s5:=hb5.size
 have l51:=hx5.lt
 have l52:=hy5.lt
 have KEEP:W5.cell? ⟨b1,0,none⟩=some (.int .i64 x.k)∧W5.cell? ⟨b1,1,none⟩=some (.int .i64 x.N)∧W5.cell? ⟨b1,2,none⟩=some (.string x.s)∧W5.cell? ⟨b1,3,none⟩=some (.slice none 0 0)∧W5.cell? ⟨b2,0,none⟩=some (.int .i64 y.k)∧W5.cell? ⟨b2,1,none⟩=some (.int .i64 y.N)∧W5.cell? ⟨b2,2,none⟩=some (.string y.s)∧W5.cell? ⟨b2,3,none⟩=some (.slice none 0 0)∧W5.cell? ⟨gb,3,none⟩=some (.slice (some ⟨bx,ox,none⟩) lg cg)∧W5.cell? ⟨hb,3,none⟩=some (.slice (some ⟨by',oy,none⟩) lh ch)∧W5.cell? ⟨bx,ox+3,none⟩=some (.slice x.a x.len x.cap)∧W5.cell? ⟨by',oy+3,none⟩=some (.slice y.a y.len y.cap):=⟨hx5.c0,hx5.c1,hx5.c2,hx5.c3,hy5.c0,hy5.c1,hy5.c2,hy5.c3,(hb5.cell (p:=⟨gb,3,none⟩) hl5).trans kk3,(hb5.cell (p:=⟨hb,3,none⟩) hl6).trans x3,(hb5.cell (p:=⟨bx,ox+3,none⟩) hlx).trans p3,(hb5.cell (p:=⟨by',oy+3,none⟩) hly).trans q3⟩
 have hsm:=leaf_same x y W5.drew sx sy
 simp only[leafV,TV.val] at hsm
 clear HX5 HY5 HB5 hx5 hy5 m0 m1 m2 m3 n0 n1 n2 n3 mf nf
 cases hSM:decide (x.k=y.k∧x.N=y.N∧x.s.toList=y.s.toList) with
 | true=>
  rw[hSM] at hsm
  refine wp_region_noPanic ?_
  refine wp_region_held_drew (S:=(fun w'=>w'.cell? ⟨b1,0,none⟩=some (.int .i64 x.k)∧w'.cell? ⟨b1,1,none⟩=some (.int .i64 x.N)∧w'.cell? ⟨b1,2,none⟩=some (.string x.s)∧w'.cell? ⟨b1,3,none⟩=some (.slice none 0 0)∧w'.cell? ⟨b2,0,none⟩=some (.int .i64 y.k)∧w'.cell? ⟨b2,1,none⟩=some (.int .i64 y.N)∧w'.cell? ⟨b2,2,none⟩=some (.string y.s)∧w'.cell? ⟨b2,3,none⟩=some (.slice none 0 0)∧w'.cell? ⟨gb,3,none⟩=some (.slice (some ⟨bx,ox,none⟩) lg cg)∧w'.cell? ⟨hb,3,none⟩=some (.slice (some ⟨by',oy,none⟩) lh ch)∧w'.cell? ⟨bx,ox+3,none⟩=some (.slice x.a x.len x.cap)∧w'.cell? ⟨by',oy+3,none⟩=some (.slice y.a y.len y.cap))) (by kernel_rfl) ?_ (fun hHeld=>?_)
  ·exact KEEP
  refine tk 0 rfl hHeld ?_
  refine tk 1 rfl hHeld ?_
  refine rd 2 rfl fun K hK=>?_
  have hHold:=hHeld
  clear hHeld
  go_simp
  refine hsm.mono ?_
  clear hsm
  rintro e W6 ⟨rfl,b6'⟩
  have b6:Below W5.heap.size W5 W6:=(Below.refl _ W5).drew.trans b6'
  have KEEP:W6.cell? ⟨b1,0,none⟩=some (.int .i64 x.k)∧W6.cell? ⟨b1,1,none⟩=some (.int .i64 x.N)∧W6.cell? ⟨b1,2,none⟩=some (.string x.s)∧W6.cell? ⟨b1,3,none⟩=some (.slice none 0 0)∧W6.cell? ⟨b2,0,none⟩=some (.int .i64 y.k)∧W6.cell? ⟨b2,1,none⟩=some (.int .i64 y.N)∧W6.cell? ⟨b2,2,none⟩=some (.string y.s)∧W6.cell? ⟨b2,3,none⟩=some (.slice none 0 0)∧W6.cell? ⟨gb,3,none⟩=some (.slice (some ⟨bx,ox,none⟩) lg cg)∧W6.cell? ⟨hb,3,none⟩=some (.slice (some ⟨by',oy,none⟩) lh ch)∧W6.cell? ⟨bx,ox+3,none⟩=some (.slice x.a x.len x.cap)∧W6.cell? ⟨by',oy+3,none⟩=some (.slice y.a y.len y.cap):=⟨(b6.cell (p:=⟨b1,0,none⟩) (show b1<W5.heap.size by omega)).trans KEEP.1,(b6.cell (p:=⟨b1,1,none⟩) (show b1<W5.heap.size by omega)).trans KEEP.2.1,(b6.cell (p:=⟨b1,2,none⟩) (show b1<W5.heap.size by omega)).trans KEEP.2.2.1,(b6.cell (p:=⟨b1,3,none⟩) (show b1<W5.heap.size by omega)).trans KEEP.2.2.2.1,(b6.cell (p:=⟨b2,0,none⟩) (show b2<W5.heap.size by omega)).trans KEEP.2.2.2.2.1,(b6.cell (p:=⟨b2,1,none⟩) (show b2<W5.heap.size by omega)).trans KEEP.2.2.2.2.2.1,(b6.cell (p:=⟨b2,2,none⟩) (show b2<W5.heap.size by omega)).trans KEEP.2.2.2.2.2.2.1,(b6.cell (p:=⟨b2,3,none⟩) (show b2<W5.heap.size by omega)).trans KEEP.2.2.2.2.2.2.2.1,(b6.cell (p:=⟨gb,3,none⟩) (show gb<W5.heap.size by omega)).trans KEEP.2.2.2.2.2.2.2.2.1,(b6.cell (p:=⟨hb,3,none⟩) (show hb<W5.heap.size by omega)).trans KEEP.2.2.2.2.2.2.2.2.2.1,(b6.cell (p:=⟨bx,ox+3,none⟩) (show bx<W5.heap.size by omega)).trans KEEP.2.2.2.2.2.2.2.2.2.2.1,(b6.cell (p:=⟨by',oy+3,none⟩) (show by'<W5.heap.size by omega)).trans KEEP.2.2.2.2.2.2.2.2.2.2.2⟩
  go_wp2_with fail
  refine hK.out _ _ ?_ (fun hHeld=>?_)
  ·((try dsimp only);exact KEEP)
  clear hK K hHold
  try simp only[pu]
  refine tk 3 rfl hHeld ?_
  refine tk 4 rfl hHeld ?_
  refine tk 5 rfl hHeld ?_
  refine tk 6 rfl hHeld ?_
  refine tk 7 rfl hHeld ?_
  refine tk 8 rfl hHeld ?_
  refine tk 9 rfl hHeld ?_
  refine tk 10 rfl hHeld ?_
  refine tk 11 rfl hHeld ?_
  refine tk 12 rfl hHeld ?_
  refine tk 13 rfl hHeld ?_
  refine tk 14 rfl hHeld ?_
  refine tk 15 rfl hHeld ?_
  refine tk 16 rfl hHeld ?_
  refine tk 17 rfl hHeld ?_
  refine tk 18 rfl hHeld ?_
  refine wpAnyH_done (by kernel_rfl) ?_ _
  refine NoPanic.normal ?_
  have B36:Below W3.heap.size W3 W6:=hb5.trans (b6.mono s5)
  have HB36:=hide B36
  obtain⟨y0,-,-,-,y4,-⟩:=KEEP
  clear b6 b6' hb5 B36 x3 p0 p1 p2 p3 q0 q1 q2 q3 kk3
  have HSM:=hide hSM
  clear hSM
  cases hk1:(x.k == 1) with
  | true=>
   have hqv:q=true:=by
    rw[←unhide HQ,unhide HSM]
    simp[show x.k=1 by simpa using hk1]
   subst hqv
   go_wp2_with fail
   exact(unhide HQC) _ _ _ _ _ _ _ _ _ _ _ _ _ _ _ _ _ _ _ _ _ _ _ _ _ _ _ _ _ _ _ _ _ _ _ _ _ _ _ _ _ _ _ (unhide HB36)
  | false=>
   cases hk2:(y.k == 1) with
   | true=>
    have hqv:q=true:=by
     rw[←unhide HQ,unhide HSM]
     simp[show y.k=1 by simpa using hk2]
    subst hqv
    go_wp2_with fail
    exact(unhide HQC) _ _ _ _ _ _ _ _ _ _ _ _ _ _ _ _ _ _ _ _ _ _ _ _ _ _ _ _ _ _ _ _ _ _ _ _ _ _ _ _ _ _ _ (unhide HB36)
   | false=>
    cases hl:((x.len:Int) == (y.len:Int)) with
    | true=>
     have hqv:q=true:=by
      rw[←unhide HQ,unhide HSM]
      simp only[hl,Bool.and_self,Bool.or_true]
     subst hqv
     go_wp2_with fail
     exact(unhide HQC) _ _ _ _ _ _ _ _ _ _ _ _ _ _ _ _ _ _ _ _ _ _ _ _ _ _ _ _ _ _ _ _ _ _ _ _ _ _ _ _ _ _ _ (unhide HB36)
    | false=>
     have hqv:q=false:=by
      rw[←unhide HQ,unhide HSM]
      simp only[hl,Bool.and_false,Bool.or_false,show decide (x.k=1)=false by simpa using hk1,show decide (y.k=1)=false by simpa using hk2]
     subst hqv
     go_wp2_with fail
     exact(unhide HQC) _ _ _ _ _ _ _ _ _ _ _ _ _ _ _ _ _ _ _ _ _ _ _ _ _ _ _ _ _ _ _ _ _ _ _ _ _ _ _ _ _ _ _ (unhide HB36)
 | false=>
  rw[hSM] at hsm
  refine wp_region_noPanic ?_
  refine wp_region_held_drew (S:=(fun w'=>w'.cell? ⟨b1,0,none⟩=some (.int .i64 x.k)∧w'.cell? ⟨b1,1,none⟩=some (.int .i64 x.N)∧w'.cell? ⟨b1,2,none⟩=some (.string x.s)∧w'.cell? ⟨b1,3,none⟩=some (.slice none 0 0)∧w'.cell? ⟨b2,0,none⟩=some (.int .i64 y.k)∧w'.cell? ⟨b2,1,none⟩=some (.int .i64 y.N)∧w'.cell? ⟨b2,2,none⟩=some (.string y.s)∧w'.cell? ⟨b2,3,none⟩=some (.slice none 0 0)∧w'.cell? ⟨gb,3,none⟩=some (.slice (some ⟨bx,ox,none⟩) lg cg)∧w'.cell? ⟨hb,3,none⟩=some (.slice (some ⟨by',oy,none⟩) lh ch)∧w'.cell? ⟨bx,ox+3,none⟩=some (.slice x.a x.len x.cap)∧w'.cell? ⟨by',oy+3,none⟩=some (.slice y.a y.len y.cap))) (by kernel_rfl) ?_ (fun hHeld=>?_)
  ·exact KEEP
  refine tk 0 rfl hHeld ?_
  refine tk 1 rfl hHeld ?_
  refine rd 2 rfl fun K hK=>?_
  have hHold:=hHeld
  clear hHeld
  go_simp
  refine hsm.mono ?_
  clear hsm
  rintro e W6 ⟨rfl,b6'⟩
  have b6:Below W5.heap.size W5 W6:=(Below.refl _ W5).drew.trans b6'
  have KEEP:W6.cell? ⟨b1,0,none⟩=some (.int .i64 x.k)∧W6.cell? ⟨b1,1,none⟩=some (.int .i64 x.N)∧W6.cell? ⟨b1,2,none⟩=some (.string x.s)∧W6.cell? ⟨b1,3,none⟩=some (.slice none 0 0)∧W6.cell? ⟨b2,0,none⟩=some (.int .i64 y.k)∧W6.cell? ⟨b2,1,none⟩=some (.int .i64 y.N)∧W6.cell? ⟨b2,2,none⟩=some (.string y.s)∧W6.cell? ⟨b2,3,none⟩=some (.slice none 0 0)∧W6.cell? ⟨gb,3,none⟩=some (.slice (some ⟨bx,ox,none⟩) lg cg)∧W6.cell? ⟨hb,3,none⟩=some (.slice (some ⟨by',oy,none⟩) lh ch)∧W6.cell? ⟨bx,ox+3,none⟩=some (.slice x.a x.len x.cap)∧W6.cell? ⟨by',oy+3,none⟩=some (.slice y.a y.len y.cap):=⟨(b6.cell (p:=⟨b1,0,none⟩) (show b1<W5.heap.size by omega)).trans KEEP.1,(b6.cell (p:=⟨b1,1,none⟩) (show b1<W5.heap.size by omega)).trans KEEP.2.1,(b6.cell (p:=⟨b1,2,none⟩) (show b1<W5.heap.size by omega)).trans KEEP.2.2.1,(b6.cell (p:=⟨b1,3,none⟩) (show b1<W5.heap.size by omega)).trans KEEP.2.2.2.1,(b6.cell (p:=⟨b2,0,none⟩) (show b2<W5.heap.size by omega)).trans KEEP.2.2.2.2.1,(b6.cell (p:=⟨b2,1,none⟩) (show b2<W5.heap.size by omega)).trans KEEP.2.2.2.2.2.1,(b6.cell (p:=⟨b2,2,none⟩) (show b2<W5.heap.size by omega)).trans KEEP.2.2.2.2.2.2.1,(b6.cell (p:=⟨b2,3,none⟩) (show b2<W5.heap.size by omega)).trans KEEP.2.2.2.2.2.2.2.1,(b6.cell (p:=⟨gb,3,none⟩) (show gb<W5.heap.size by omega)).trans KEEP.2.2.2.2.2.2.2.2.1,(b6.cell (p:=⟨hb,3,none⟩) (show hb<W5.heap.size by omega)).trans KEEP.2.2.2.2.2.2.2.2.2.1,(b6.cell (p:=⟨bx,ox+3,none⟩) (show bx<W5.heap.size by omega)).trans KEEP.2.2.2.2.2.2.2.2.2.2.1,(b6.cell (p:=⟨by',oy+3,none⟩) (show by'<W5.heap.size by omega)).trans KEEP.2.2.2.2.2.2.2.2.2.2.2⟩
  go_wp2_with fail
  refine hK.out _ _ ?_ (fun hHeld=>?_)
  ·((try dsimp only);exact KEEP)
  clear hK K hHold
  try simp only[pu]
  refine tk 3 rfl hHeld ?_
  refine tu 4 rfl hHeld ?_
  refine tu 5 rfl hHeld ?_
  refine tu 6 rfl hHeld ?_
  refine tu 7 rfl hHeld ?_
  refine tu 8 rfl hHeld ?_
  refine tu 9 rfl hHeld ?_
  refine tu 10 rfl hHeld ?_
  refine tu 11 rfl hHeld ?_
  refine tu 12 rfl hHeld ?_
  refine tu 13 rfl hHeld ?_
  refine tu 14 rfl hHeld ?_
  refine tu 15 rfl hHeld ?_
  refine tu 16 rfl hHeld ?_
  refine tk 17 rfl hHeld ?_
  refine tk 18 rfl hHeld ?_
  refine wpAnyH_done (by kernel_rfl) ?_ _
  refine NoPanic.normal ?_
  have B36:Below W3.heap.size W3 W6:=hb5.trans (b6.mono s5)
  have HB36:=hide B36
  obtain⟨y0,-,-,-,y4,-⟩:=KEEP
  clear b6 b6' hb5 B36 x3 p0 p1 p2 p3 q0 q1 q2 q3 kk3
  have HSM:=hide hSM
  clear hSM
  cases hk1:(x.k == 1) with
  | true=>
   have hqv:q=true:=by
    rw[←unhide HQ,unhide HSM]
    simp[show x.k=1 by simpa using hk1]
   subst hqv
   go_wp2_with fail
   exact(unhide HQC) _ _ _ _ _ _ _ _ _ _ _ _ _ _ _ _ _ _ _ _ _ _ _ _ _ _ _ _ _ _ _ _ _ _ _ _ _ _ _ _ _ _ _ (unhide HB36)
  | false=>
   cases hk2:(y.k == 1) with
   | true=>
    have hqv:q=true:=by
     rw[←unhide HQ,unhide HSM]
     simp[show y.k=1 by simpa using hk2]
    subst hqv
    go_wp2_with fail
    exact(unhide HQC) _ _ _ _ _ _ _ _ _ _ _ _ _ _ _ _ _ _ _ _ _ _ _ _ _ _ _ _ _ _ _ _ _ _ _ _ _ _ _ _ _ _ _ (unhide HB36)
   | false=>
    have hqv:q=false:=by
     rw[←unhide HQ,unhide HSM]
     simp only[Bool.false_and,Bool.or_false,show decide (x.k=1)=false by simpa using hk1,show decide (y.k=1)=false by simpa using hk2]
    subst hqv
    go_wp2_with fail
    exact(unhide HQC) _ _ _ _ _ _ _ _ _ _ _ _ _ _ _ _ _ _ _ _ _ _ _ _ _ _ _ _ _ _ _ _ _ _ _ _ _ _ _ _ _ _ _ (unhide HB36)
end Go.Proofs.YteaiefjmcinljaaGreatDoor
