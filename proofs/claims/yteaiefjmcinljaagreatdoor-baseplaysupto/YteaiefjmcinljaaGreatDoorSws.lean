import Derived.Test.YteaiefjmcinljaaGreatDoorNms
import Derived.Test.YteaiefjmcinljaaGreatDoorOs
import Derived.WalkKit
import Derived.WalkLawsBesides
import Derived.WalkSpells
import Derived.Below
import Derived.Shelf.Abstract
import Derived.Shelf.RegionOpen
import Derived.Test.YteaiefjmcinljaaGreatDoorProg
import Derived.Maps.RangeWalk
import Derived.Maps.OwnSet
import Derived.Maps.Views
import Derived.StringKeys
import Derived.Deep.RegionHeld3
import Derived.RangeFuncBox
import Derived.Carry
import Derived.Shelf.Strings.Split
import Derived.Test.YteaiefjmcinljaaGreatDoorCs
namespace Go.Proofs.YteaiefjmcinljaaGreatDoor
set_option maxHeartbeats 1000000
set_option maxRecDepth 100000
open Go.RowKit Go.Shelf Go.Maps
theorem rswap_var(ms:List Int)(la:Option Addr)(ll lc:Nat)(f:Int)(N:Int)(s:ByteArray)(a:Option Addr)(len cap:Nat)(W:World)(hl:IsN W la ll ms)(hf0:0≤f)(hf1:f≤1099511627776)(hN:N∈ms):
  Calls Tryz.prog 76 #[.agg #[.int .i64 1,.int .i64 N,.string s,.slice a len cap],.slice la ll lc,.int .i64 f] W fun e W'=> ∃x:TV,e=.returned x.val∧Below W.heap.size W W'∧HoldsS 1 (Mix 0 W.heap.size) W' x.val (renN f ms N):=by
 have hH:=Head.new W ⟨1,N,s,a,len,cap⟩
 simp only at hH
 have hll:=hl.1
 have hl2:=hl.2.1
 have hh:=has_any ms la ll lc N _ (hl.below hH.below)
 have hidx:hasI ms N=(ms.idxOf N:Nat):=if_pos hN
 have hlt0:ms.idxOf N<ms.length:=List.idxOf_lt_length_of_mem hN
 rw[hidx] at hh
 have hren:renN f ms N=[varNd (f+(ms.idxOf N:Nat))]:=rfl
 rw[hren]
 have hpos:¬((ms.idxOf N:Nat):Int)<0:=by omega
 have hle:((ms.idxOf N:Nat):Int)≤1152921504606846976:=by omega
 clear hl hidx hN hren hlt0 hll
 generalize ms.idxOf N=p at *
 go_enter Tryz.func76,Tryz.ntmps76
 go_wp2_with fail
 refine hh.mono ?_
 clear hh
 rintro e W1 ⟨rfl,hb1⟩
 replace hH:=hH.next hb1
 have hv:=v_any (f+(p:Nat)) W1
 simp only[TV.val,varV] at hv
 have HH:=hide hH
 have HB:=hide hb1
 clear hH hb1
 go_wp2_with fail
 refine hv.mono ?_
 clear hv
 rintro e W2 ⟨rfl,hb2⟩
 have hH:=(unhide HH).next hb2
 obtain⟨⟨z0,z1,z2,z3⟩,y0,y1,y2,y3⟩:=zbox_kept hH.bz
 have hlt:W.heap.size+1<W2.heap.size:=hH.lt
 have hfin:HoldsS 1 (Mix 0 W.heap.size) (set4 W2 (W.heap.size+1) 0 (varV (f+(p:Nat)))) (varV (f+(p:Nat))).val [varNd (f+(p:Nat))]:=(varV_holds (f+(p:Nat)) W.heap.size _).holdsS.mono (Nat.le_refl _) (fun b hb=>.inr hb)
 have hbf:Below W.heap.size W (set4 W2 (W.heap.size+1) 0 (varV (f+(p:Nat)))):=set4_below hH.below (by omega) 0 _
 have HF:=hide hfin
 have HBF:=hide hbf
 clear hfin hbf hH hb2
 go_wp2_with fail
 refine bodyPost_ret (v:=(varV (f+(p:Nat))).val) ?_ rfl ⟨_,rfl,unhide HBF,unhide HF⟩
 simp[results,Tryz.results76,go_sem,TV.val,varV,z0,z1,z2,z3]
theorem rswap_comp(ms:List Int)(la:Option Addr)(ll lc:Nat)(f:Int)(D:Nat){d:Nat}
  (ih:∀(u:Tm d) (W:World),IsN W la ll ms→IsT W.heap.size W u→okT u=true→(∀N,IsVarOf (code u) N→N∈ms)→Calls Tryz.prog 76 #[u.tv.val,.slice la ll lc,.int .i64 f] W fun e W'=> ∃x:TV,e=.returned x.val∧Below W.heap.size W W'∧HoldsS D (Mix 0 W.heap.size) W' x.val ((code u).flatMap (subN (renN f ms))))
  (k N:Int) (s:ByteArray) (a:Option Addr) (len cap:Nat) (kids:List (Tm d)) (W:World) (hl:IsN W la ll ms) (hk1:k≠1) (hs:s.size≤9223372036854775807) (hl50:len≤50) (hlen:len=kids.length)
  (hkids:kids=[]∨∃b off,a=some ⟨b,off,none⟩∧b<W.heap.size∧∀j u,kids[j]?=some u→cellsAt W b (off+j*4) u.tv∧IsT W.heap.size W u) (hok:∀u∈kids,okT u=true) (hin:∀u∈kids,∀N,IsVarOf (code u) N→N∈ms):
  Calls Tryz.prog 76 #[.agg #[.int .i64 k,.int .i64 N,.string s,.slice a len cap],.slice la ll lc,.int .i64 f] W fun e W'=> ∃x:TV,e=.returned x.val∧Below W.heap.size W W'∧HoldsS (D+1) (Mix 0 W.heap.size) W' x.val ((k,N,s.toList,len)::(kids.flatMap code).flatMap (subN (renN f ms))):=by
 have hl1:len≤kids.length:=by omega
 have hl2:kids.length≤len:=by omega
 have hk1':(k == 1)=false:=by simp[hk1]
 clear hlen hk1
 have hH:=Head.new W ⟨k,N,s,a,len,cap⟩
 simp only at hH
 have HI:=hide ih
 have HO:=hide hok
 have HIN:=hide hin
 have HL:=hide hl
 clear ih hok hl hin
 obtain⟨i0,hi,hz0,hz1,hz2⟩:=info_parts Tryz.info28
 go_enter Tryz.func76,Tryz.ntmps76
 go_wp2_with fail
 obtain⟨W2,hW2⟩:∃W2,(W.alloc (.cells #[.int .i64 k,.int .i64 N,.string s,.slice a len cap] 34)).alloc (.cells #[.int .i64 0,.int .i64 0,.string ⟨#[]⟩,.slice none 0 0] 34)=W2:=⟨_,rfl⟩
 have hsz2:((W.alloc (.cells #[.int .i64 k,.int .i64 N,.string s,.slice a len cap] 34)).alloc (.cells #[.int .i64 0,.int .i64 0,.string ⟨#[]⟩,.slice none 0 0] 34)).heap.size=W.heap.size+2:=by simp
 rw[hW2] at hH hsz2⊢
 clear hW2
 have HH:=hide hH
 have HSZ:=hide hsz2
 clear hH hsz2
 go_loopw [8,9] (fun av i wr=> ∃(j:Nat) (l:List TV),j≤len∧i=.int .i64 j∧l.length=j∧Below (W.heap.size+2) W2 wr∧Made D (Mix 0 (W.heap.size+2)) (W.heap.size+2) wr av l (((kids.take j).flatMap code).flatMap (subN (renN f ms)))) (fun _ i _=>len-(intOf i).toNat)
 case atStart=>exact⟨0,[],Nat.zero_le _,rfl,rfl,Below.refl _ _,Made.zero _ _ _ _⟩
 case round=>
  obtain⟨j,l,hj,rfl,hll,hb,hm⟩:=hrel
  have hb':Below W2.heap.size W2 wr:=by rw[unhide HSZ];exact hb
  have hH:=(unhide HH).next hb'
  have x2:=hH.ba.c2
  have x3:=hH.ba.c3
  have x0:=hH.ba.c0
  have x1:=hH.ba.c1
  simp only at x0 x1 x2 x3
  have HHr:=hide hH
  have HM:=hide hm
  have HLL:=hide hll
  clear hH hm hll
  by_cases hlt:j<len
  ·obtain⟨u,b,off,hu,rfl,⟨c0,c1,c2,c3⟩,hT,hbk⟩:=kid_at hkids (unhide HHr).below hlt hl1
   have ihu:=(unhide HI) u wr ((unhide HL).below (unhide HHr).below) hT ((unhide HO) u (List.mem_of_getElem? hu)) ((unhide HIN) u (List.mem_of_getElem? hu))
   have hcode:=code_take kids j u hu
   have HC:=hide hcode
   clear hT hkids hu hcode
   simp only[TV.val] at ihu
   have hj1:(j:Int)<len:=by omega
   go_wp2_with fail
   refine ihu.mono ?_
   clear ihu
   rintro e W5 ⟨x,rfl,hb5,hx⟩
   dsimp only[TV.val]
   clear x0 x1 x2 x3 c0 c1 c2 c3
   have hown5:(W5.alloc (.cells #[.int .i64 x.k,.int .i64 x.N,.string x.s,.slice x.a x.len x.cap] 34)).ownsRow (W.heap.size+2) 34 4 u8 l.length (l.flatMap TV.row):=
    owns_below (unhide HM).owns (fun g hg=>by
     have hlt:=(owns_lt (unhide HM).owns hg).2
     exact(Below.heap_alloc _ _ _ (Nat.lt_of_lt_of_le hlt hb5.size)).trans (hb5.block g hlt))
   go_wp2_with (at_builtin;go_must (refine wpList_append_own_at _ rfl _ _ 32 rfl (W.heap.size+2) 34 i0 _ 4 56 Tryz.underlying32 hi hz0 hz1 hz2 rfl (by decide) u8 l.length (l.flatMap TV.row) rfl hown5 ⟨W5.heap.size,0,none⟩ 1 1 x.row rfl rfl new_cells row_one (by have:=unhide HLL;unfold maxLen;omega) (by have:=unhide HLL;omega) (by have:=hb5.size;have:=hb'.size;have:=unhide HSZ;simp;omega) ?_;intro v' w1 hown' hgrow hnil hbk))
   have hgl:∀g,u8.ownBlock=some g→W.heap.size+2≤g∧g<wr.heap.size:=fun g hg=>owns_lt (unhide HM).owns hg
   have hwr:W.heap.size+2≤wr.heap.size:=by have:=hb'.size;have:=unhide HSZ;omega
   have hmade:=(unhide HM).next hb5 (hx.mono (Nat.le_refl _) (fun b hb=>⟨by unfold Mix at hb⊢;omega,fun e=>by have:=hgl b e;unfold Mix at hb;omega⟩)) hown' hgrow (by simpa using hbk)
   rw[←List.flatMap_append,←unhide HC] at hmade
   have hbel:Below (W.heap.size+2) W2 w1:=((hb.trans (hb5.mono hwr)).alloc (Nat.le_trans hwr hb5.size) _).grown hgrow (by have:=hb5.size;simp;omega) (fun g hg=>(hgl g hg).1)
   exact⟨⟨j+1,l++[x],by omega,by go_num,by simp[unhide HLL],hbel,hmade⟩,by simp[intOf];omega⟩
  ·have hjl:j=len:=by omega
   have ht:kids.take j=kids:=List.take_of_length_le (by omega)
   have hm:=unhide HM
   rw[ht] at hm
   obtain⟨a',cap',rfl,hfin⟩:=args_end (k:=k) (N:=N) (s:=s) (len:=len) (by rw[unhide HLL,hjl]) hl50 hs (unhide HHr).below (Nat.zero_le _) hm
   obtain⟨⟨z0,z1,z2,z3⟩,y0,y1,y2,y3⟩:=zbox_kept (unhide HHr).bz
   have f3:wr.frozen? ⟨W.heap.size,3,none⟩=false:=by simp[World.frozen?,show wr.heap[W.heap.size]?=_ from(unhide HHr).ba]
   obtain⟨f1,f2⟩:=hfin
   have F1:=hide f1
   have F2:=hide f2
   have hlt':¬(j:Int)<(len:Int):=by omega
   clear f1 f2 hm ht hkids hjl
   go_wp2_with fail
   refine bodyPost_ret (v:=(⟨k,N,s,a',len,cap'⟩:TV).val) ?_ rfl ⟨_,rfl,unhide F1,unhide F2⟩
   simp[results,Tryz.results76,go_sem,TV.val,z0,z1,z2,z3]
theorem rswap_any(ms:List Int)(la:Option Addr)(ll lc:Nat)(f:Int)(hf0:0≤f)(hf1:f≤1099511627776):∀(d:Nat) (t:Tm d) (W:World),IsN W la ll ms→IsT W.heap.size W t→okT t=true→(∀N,IsVarOf (code t) N→N∈ms)→
  Calls Tryz.prog 76 #[t.tv.val,.slice la ll lc,.int .i64 f] W fun e W'=> ∃x:TV,e=.returned x.val∧Below W.heap.size W W'∧HoldsS (d+1) (Mix 0 W.heap.size) W' x.val ((code t).flatMap (subN (renN f ms))):=by
 intro d
 induction d with
 | zero=>intro t;exact Empty.elim t
 | succ d ih=>
  intro t W hl hT hok hin
  obtain⟨⟨k,N,s,a,len,cap⟩,kids⟩:=t
  obtain⟨hwm,hk⟩:=ok_kids hok
  obtain⟨h1,h2,h3,h4⟩:=hT
  simp only[Tm.tv,Tm.kids] at h1 h2 h3 h4 hwm
  rw[code_succ] at hin⊢
  rw[List.flatMap_cons]
  by_cases hk1:k=1
  ·subst hk1
   have hl0:len=0:=by
    rcases wm_cases hwm with⟨_,_,_,_,h⟩ | ⟨h,_⟩ | ⟨h,_⟩
    ·exact h
    ·omega
    ·omega
   subst hl0
   have hnil:kids=[]:=List.length_eq_zero_iff.1 h1.symm
   subst hnil
   refine(rswap_var ms la ll lc f N s a 0 cap W hl hf0 hf1 (hin N ⟨_,List.mem_cons_self,rfl,rfl⟩)).mono fun e W' h=>?_
   obtain⟨x,he,hb',hv⟩:=h
   exact⟨x,he,hb',by simpa[subN,TV.nd] using hv.mono (by omega) (fun _ h=>h)⟩
  ·have hl50:len≤50:=by
    rcases wm_cases hwm with⟨h,_⟩ | ⟨_,h⟩ | ⟨_,_,_,h⟩ <;> omega
   refine(rswap_comp ms la ll lc f (d+1) ih k N s a len cap kids W hl hk1 h3 hl50 h1 h4 hk (fun u hu M hM=>hin M ?_)).mono fun e W' h=>?_
   ·obtain⟨y,hy,e1,e2⟩:=hM
    exact⟨y,List.mem_cons_of_mem _ (List.mem_flatMap.2 ⟨u,hu,hy⟩),e1,e2⟩
   ·obtain⟨x,he,hb',hv⟩:=h
    exact⟨x,he,hb',by simpa[subN,TV.nd,hk1] using hv.mono (by omega) (fun _ h=>h)⟩
/-- An operator's three cells. -/
structure OV where
 name:ByteArray
 prio:Int
 type:Int
def OV.val(x:OV):Value:=.agg #[.string x.name,.int .i64 x.prio,.int .i64 x.type]
def mayB(s:ByteArray):Bool:=decide (¬s.toList=[44]∧¬s.toList=[124]∧¬s.toList=[91,93]∧¬s.toList=[123,125]∧(s.size:Int)≤100)
/-- An operator's priorities: its own, and the highest ones to its left and right. -/
structure PV where
 own:Int
 left:Int
 right:Int
def PV.val(x:PV):Value:=.agg #[.int .i64 x.own,.int .i64 x.left,.int .i64 x.right]
def prioOf(k p:Int):PV:=⟨p,if k=3 then p else p-1,if k=2∨k=4 then p else p-1⟩
/-- How priorities read as a map's element: as themselves. -/
def prioElem(v:Value):Option (DataW PV×List MemPlace):=
 match v with
 | .agg cs=>match cs.toList with
  | [.int .i64 a,.int .i64 b,.int .i64 c]=>some (.held ⟨a,b,c⟩,[])
  | _=>none
 | _=>none
def zeroP:PV:=⟨0,0,0⟩
abbrev Names:=List (List UInt8×PV)
/-- A map from names to priorities: in the order of their coming. -/
structure OpT (W:World) (b:Nat) (c:Names):Prop where
 len:c.length≤200
 map:∃E:DataW PV,W.ownsMap Tryz.prog 9 prioElem b c.length E∧(∀s,Maps.has E (.string s)=true↔∃q∈c,q.1=s)∧∀q∈c,∀z,E.atKey (.string q.1) z=.held q.2
/-- All but two blocks is as it was. -/
structure Kt (bi bp:Nat) (A B:World):Prop where
 os:B.os=A.os
 tape:B.tape=A.tape
 output:B.output=A.output
 size:A.heap.size≤B.heap.size
 block:∀k,k<A.heap.size→k≠bi→k≠bp→B.heap[k]?=A.heap[k]?
def within(c:Names)(s:ByteArray):Prop:= ∃q∈c,q.1=s.data.toList
open Classical in
/-- What add makes of the names so far. -/
noncomputable def addN (c:Names×Names) (x:OV):Option (Names×Names):=
 if mayB x.name=true∧1≤x.prio∧x.prio≤1200 then
  if x.type=1∨x.type=2∨x.type=3 then if within c.1 x.name then none else some (c.1++[(x.name.data.toList,prioOf x.type x.prio)],c.2)
  else if x.type=4∨x.type=5 then if within c.2 x.name then none else some (c.1,c.2++[(x.name.data.toList,prioOf x.type x.prio)])
  else none
 else none
def AddSays(bi bp:Nat)(w:World)(r:Option (Names×Names))(e:Ending)(W':World):Prop:=
 Kt bi bp w W'∧match r with
 | none=>e=.returned (.bool false)
 | some d=>e=.returned (.bool true)∧OpT W' bi d.1∧OpT W' bp d.2
/-- Operators that lie in a row. -/
def IsO(W:World)(a:Option Addr)(len:Nat)(l:List OV):Prop:=
 len=l.length∧len≤9223372036854775807∧(l=[]∨∃b off,a=some ⟨b,off,none⟩∧b<W.heap.size∧∀(j:Nat) x,l[j]?=some x→W.cell? ⟨b,off+j*3,none⟩=some (.string x.name)∧W.cell? ⟨b,off+j*3+1,none⟩=some (.int .i64 x.prio)∧W.cell? ⟨b,off+j*3+2,none⟩=some (.int .i64 x.type))
/-- What tableOf makes of a row of operators. -/
noncomputable def foldN:Names×Names→List OV→Option (Names×Names)
 | c,[]=>some c
 | c,x::r=>(addN c x).bind (foldN · r)
noncomputable def tabN (l:List OV):Option (Names×Names):=if 200<l.length then none else foldN ([],[]) l
/-- Two cells of the call's own. -/
def Box2(W:World)(B:Nat)(T:TypeId)(a b:Value):Prop:=W.heap[B]?=some (.cells #[a,b] T (0,0))
/-- What tableOf answers. -/
def TabSays(w:World)(r:Option (Names×Names))(e:Ending)(W':World):Prop:=
 Below w.heap.size w W'∧match r with
 | none=>e=.returned (.tuple #[.agg #[.map none,.map none],.int .i64 6])
 | some c=> ∃bi bp,e=.returned (.tuple #[.agg #[.map (some bi),.map (some bp)],.int .i64 0])∧bi≠bp∧w.heap.size≤bi∧w.heap.size≤bp∧OpT W' bi c.1∧OpT W' bp c.2
/-- What CheckOps answers. -/
noncomputable def opsE (l:List OV):Int:=if(tabN l).isSome then 0 else 6
def splitLay_ren:Go.Shelf.Ren:=⟨fun | 146=>96 | 221=>104 | 268=>108 | 138=>109 | 143=>110 | 195=>113 | 197=>114 | 218=>115 | 219=>116 | 260=>117 | 217=>118 | 225=>119 | 224=>120 | 267=>121 | 266=>122 | 314=>123 | n=>n,fun | 9=>9 | 31=>170 | 3=>3 | 4=>4 | 0=>0 | 105=>196 | 21=>21 | 5=>5 | 46=>97 | 119=>199 | 139=>202 | 138=>201 | 146=>203 | 51=>131 | n=>n,fun | 1=>0 | 3=>1 | 4=>2 | n=>n⟩
theorem splitLay:Go.Proofs.Lays.n146 Tryz.prog splitLay_ren:={
 mixed:=by kernel_rfl
 f138:=Tryz.func109.trans (congrArg some (by kernel_rfl))
 f143:=Tryz.func110.trans (congrArg some (by kernel_rfl))
 f146:=Tryz.func96.trans (congrArg some (by kernel_rfl))
 f195:=Tryz.func113.trans (congrArg some (by kernel_rfl))
 f197:=Tryz.func114.trans (congrArg some (by kernel_rfl))
 f217:=Tryz.func118.trans (congrArg some (by kernel_rfl))
 f218:=Tryz.func115.trans (congrArg some (by kernel_rfl))
 f219:=Tryz.func116.trans (congrArg some (by kernel_rfl))
 f221:=Tryz.func104.trans (congrArg some (by kernel_rfl))
 f224:=Tryz.func120.trans (congrArg some (by kernel_rfl))
 f225:=Tryz.func119.trans (congrArg some (by kernel_rfl))
 f260:=Tryz.func117.trans (congrArg some (by kernel_rfl))
 f266:=Tryz.func122.trans (congrArg some (by kernel_rfl))
 f267:=Tryz.func121.trans (congrArg some (by kernel_rfl))
 f268:=Tryz.func108.trans (congrArg some (by kernel_rfl))
 f314:=Tryz.func123.trans (congrArg some (by kernel_rfl))
 t0:=Tryz.underlying0
 a0:=Tryz.isAgg0
 z0:=Tryz.sizeOf0
 v0:=Tryz.zeroValue0
 t3:=Tryz.underlying3
 a3:=Tryz.isAgg3
 z3:=Tryz.sizeOf3
 v3:=Tryz.zeroValue3
 t4:=Tryz.underlying4
 a4:=Tryz.isAgg4
 z4:=Tryz.sizeOf4
 v4:=Tryz.zeroValue4
 t5:=Tryz.underlying5
 a5:=Tryz.isAgg5
 z5:=Tryz.sizeOf5
 v5:=Tryz.zeroValue5
 t9:=Tryz.underlying9
 a9:=Tryz.isAgg9
 z9:=Tryz.sizeOf9
 v9:=Tryz.zeroValue9
 t21:=Tryz.underlying21
 a21:=Tryz.isAgg21
 z21:=Tryz.sizeOf21
 v21:=Tryz.zeroValue21
 t31:=Tryz.underlying170
 a31:=Tryz.isAgg170
 z31:=Tryz.sizeOf170
 v31:=Tryz.zeroValue170
 t46:=Tryz.underlying97
 a46:=Tryz.isAgg97
 z46:=Tryz.sizeOf97
 v46:=Tryz.zeroValue97
 t51:=Tryz.underlying131
 a51:=Tryz.isAgg131
 z51:=Tryz.sizeOf131
 v51:=Tryz.zeroValue131
 t105:=Tryz.underlying196
 a105:=Tryz.isAgg196
 z105:=Tryz.sizeOf196
 v105:=Tryz.zeroValue196
 t119:=Tryz.underlying199
 a119:=Tryz.isAgg199
 z119:=Tryz.sizeOf199
 t138:=Tryz.underlying201
 a138:=Tryz.isAgg201
 z138:=Tryz.sizeOf201
 v138:=Tryz.zeroValue201
 t139:=Tryz.underlying202
 a139:=Tryz.isAgg202
 z139:=Tryz.sizeOf202
 v139:=Tryz.zeroValue202
 t146:=Tryz.underlying203
 a146:=Tryz.isAgg203
 z146:=Tryz.sizeOf203
 v146:=Tryz.zeroValue203
 g1:=by kernel_rfl
 g3:=by kernel_rfl
 g4:=by kernel_rfl
}
theorem split_any(s:ByteArray)(m:Int)(w:World)(hs:s.size<4294967281)(hm:w.cell? ⟨splitLay_ren.g 1,0,none⟩=some (.int .i64 m)):
  Calls Tryz.prog 96 #[.string s,.string ⟨#[32]⟩] w fun e w'=>
   e=.returned (.slice (some ⟨w.heap.size,0,none⟩) (Lib.countB s ⟨#[32]⟩+1) (Lib.countB s ⟨#[32]⟩+1))∧w'=w.alloc (.cells ((Lib.splitB ⟨#[32]⟩ 0 (Lib.countB s ⟨#[32]⟩) s).map Value.string).toArray 9):=
 Any.strings_Split splitLay (by kernel_rfl) s ⟨#[32]⟩ m w hs hm (by decide)
set_option maxHeartbeats 1000000
set_option maxRecDepth 100000
/-- An atom or a compound of a name with so many Args? -/
def isB(x:TV)(s:List UInt8)(n:Int):Bool:=(decide (x.k=3) || decide (x.k=4)) && (decide (x.s.toList=s) && ((x.len:Int) == n))
theorem ris_any(x:TV)(s:ByteArray)(n:Int)(w:World):Calls Tryz.prog 30 #[x.val,.string s,.int .i64 n] w fun e W'=>e=.returned (.bool (isB x s.toList n))∧Below w.heap.size w W':=by
 obtain⟨k,N,xs,a,len,cap⟩:=x
 simp only[TV.val]
 by_cases h3:k=3
 ·subst h3
  go_enter Tryz.func30,Tryz.ntmps30
  go_wp2
  all_goals go_ret
  all_goals refine⟨?_,(Below.refl _ w).alloc (Nat.le_refl _) _⟩
  all_goals simp_all [isB]
 ·have h3':(k == 3)=false:=by simp[h3]
  by_cases h4:k=4
  ·subst h4
   go_enter Tryz.func30,Tryz.ntmps30
   go_wp2
   all_goals go_ret
   all_goals refine⟨?_,(Below.refl _ w).alloc (Nat.le_refl _) _⟩
   all_goals simp_all [isB]
  ·have h4':(k == 4)=false:=by simp[h4]
   have HV:Hid (isB ⟨k,N,xs,a,len,cap⟩ s.toList n=false):=by show isB _ _ _=_;simp[isB,h3,h4]
   clear h3 h4
   go_enter Tryz.func30,Tryz.ntmps30
   go_wp2
   all_goals go_ret
   all_goals exact⟨by rw[HV.out];rfl,(Below.refl _ w).alloc (Nat.le_refl _) _⟩
/-- Any block. -/
def anyB(_:Nat):Prop:=True
theorem holdsS_one{D:Nat}{S:Nat→Prop}{W:World}{x:TV}{cx:List Nd}(hx:HoldsS D S W x.val cx){b:Nat}(hS:S b)
  (hb:W.heap[b]?=some (.cells #[.int .i64 x.k,.int .i64 x.N,.string x.s,.slice x.a x.len x.cap] 34 (0,0))) (s:ByteArray) (hs:s.size≤9223372036854775807):
  HoldsS (D+1) S W (compV s (some ⟨b,0,none⟩) 1 1).val ((4,0,s.toList,1)::cx):=fun m hm hlm=>by
 obtain⟨M,rfl⟩:∃M,m=M+1:=⟨m-1,by omega⟩
 obtain⟨t,h1,h2,h3,h4⟩:=hx M (by omega) (by omega)
 have hxt:=tv_inj h1
 have hlt:=(Array.getElem?_eq_some_iff.1 hb).1
 refine⟨((compV s (some ⟨b,0,none⟩) 1 1,[t]):TV×List (Tm M)),rfl,⟨rfl,⟨by simp[Tm.tv,compV],by simp[Tm.tv,compV],hlm⟩,hs,.inr ⟨b,0,rfl,hlt,fun j u hu=>?_⟩⟩,⟨.inr ⟨b,0,rfl,hS⟩,fun u hu=>?_⟩,?_⟩
 ·have hj:j=0∧u=t:=by
   match j,hu with
   | 0,hu=>exact⟨rfl,by simpa[Tm.kids] using hu.symm⟩
   | k+1,hu=>simp[Tm.kids] at hu
  obtain⟨rfl,rfl⟩:=hj
  refine⟨?_,h2⟩
  rw[←hxt]
  refine⟨?_,?_,?_,?_⟩ <;> simp[World.cell?,hb]
 ·have:u=t:=by simpa[Tm.kids] using hu
  subst this
  exact h3
 ·rw[code_succ]
  simp[h4,TV.nd,compV]
theorem holdsS_two{D:Nat}{S:Nat→Prop}{W:World}{x y:TV}{cx cy:List Nd}(hx:HoldsS D S W x.val cx)(hy:HoldsS D S W y.val cy){b:Nat}(hS:S b)
  (hb:W.heap[b]?=some (.cells #[.int .i64 x.k,.int .i64 x.N,.string x.s,.slice x.a x.len x.cap,.int .i64 y.k,.int .i64 y.N,.string y.s,.slice y.a y.len y.cap] 34 (0,0))) (s:ByteArray) (hs:s.size≤9223372036854775807):
  HoldsS (D+1) S W (compV s (some ⟨b,0,none⟩) 2 2).val ((4,0,s.toList,2)::(cx++cy)):=fun m hm hlm=>by
 obtain⟨M,rfl⟩:∃M,m=M+1:=⟨m-1,by omega⟩
 obtain⟨t,h1,h2,h3,h4⟩:=hx M (by omega) (by omega)
 obtain⟨u,k1,k2,k3,k4⟩:=hy M (by omega) (by omega)
 have hxt:=tv_inj h1
 have hyt:=tv_inj k1
 have hlt:=(Array.getElem?_eq_some_iff.1 hb).1
 refine⟨((compV s (some ⟨b,0,none⟩) 2 2,[t,u]):TV×List (Tm M)),rfl,⟨rfl,⟨by simp[Tm.tv,compV],by simp[Tm.tv,compV],hlm⟩,hs,.inr ⟨b,0,rfl,hlt,fun j v hv=>?_⟩⟩,⟨.inr ⟨b,0,rfl,hS⟩,fun v hv=>?_⟩,?_⟩
 ·have hj:(j=0∧v=t)∨(j=1∧v=u):=by
   match j,hv with
   | 0,hv=>exact .inl ⟨rfl,by simpa[Tm.kids] using hv.symm⟩
   | 1,hv=>exact .inr ⟨rfl,by simpa[Tm.kids] using hv.symm⟩
   | k+2,hv=>simp[Tm.kids] at hv
  rcases hj with⟨rfl,rfl⟩ | ⟨rfl,rfl⟩
  ·refine⟨?_,h2⟩
   rw[←hxt]
   refine⟨?_,?_,?_,?_⟩ <;> simp[World.cell?,hb]
  ·refine⟨?_,k2⟩
   rw[←hyt]
   refine⟨?_,?_,?_,?_⟩ <;> simp[World.cell?,hb]
 ·have:v=t∨v=u:=by simpa[Tm.kids] using hv
  rcases this with rfl | rfl
  ·exact h3
  ·exact k3
 ·rw[code_succ]
  simp[h4,k4,TV.nd,compV]
theorem mix_set4{D ns lo:Nat}{W:World}{v:Value}{c:List Nd}(h:HoldsS D (Mix ns lo) W v c){b:Nat}(h1:ns≤b)(h2:b<lo)(o:Nat)(x:TV):HoldsS D (Mix ns lo) (set4 W b o x) v c:=fun m hm hlm=>by
 obtain⟨t,k1,k2,k3,k4⟩:=h m hm hlm
 exact⟨t,k1,by rw[set4_size];exact k2.fromS (fun q hq=>set4_other W b o x (by unfold Mix at hq;omega)) k3,k3,k4⟩
theorem mix_mono{D D' ns lo lo':Nat}{W:World}{v:Value}{c:List Nd}(h:HoldsS D (Mix ns lo) W v c)(hD:D≤D')(hl:lo'≤lo):HoldsS D' (Mix ns lo') W v c:=h.mono hD fun b hb=>by unfold Mix at hb⊢;omega
theorem mix_of{n ns:Nat}{W:World}{t:Tm n}(hT:IsT ns W t)(hns:ns≤W.heap.size)(lo:Nat):HoldsS n (Mix ns lo) W t.tv.val (code t):=
 holdsS_of (hT.mono hns) (hT.blk.mono fun _ h=>.inl h)
/-- `,`, `;` and `->` of two. -/
def junct(x:TV):Bool:=isB x [44] 2 || (isB x [59] 2 || isB x [45,62] 2)
def callL:List UInt8:=[99,97,108,108]
def bodyJ(s:List UInt8):List (Option (List Nd))→Option (List Nd)
 | [some x,some y]=>some ((4,0,s,2)::(x++y))
 | _=>none
/-- The code of a body. -/
def bodyC:{n:Nat}→Tm n→Option (List Nd)
 | 0,t=>Empty.elim t
 | _+1,t=>if t.tv.k=1 then some ((4,0,callL,1)::code t) else if t.tv.k=2 then none else if junct t.tv=true then bodyJ t.tv.s.toList (t.kids.map bodyC) else some (code t)
/-- What a term's value is, by the code of a body. -/
def BodyIs(D ns lo:Nat)(W:World)(x:TV):Option (List Nd)→Prop
 | some c=>HoldsS D (Mix ns lo) W x.val c
 | none=>x=noTerm
def BSays(D ns lo:Nat)(r:Option (List Nd))(e:Ending)(W':World):Prop:= ∃x:TV,e=.returned (.tuple #[x.val,.bool r.isSome])∧BodyIs D ns lo W' x r
theorem callL_eq:(⟨#[99,97,108,108]⟩:ByteArray).toList=callL:=by decide +kernel
theorem rbody_var{n:Nat}(t:Tm n)(ns:Nat)(W:World)(hT:IsT ns W t)(hns:ns≤W.heap.size)(hk:t.tv.k=1):
  Calls Tryz.prog 73 #[t.tv.val] W fun e W'=>BSays (n+1) ns W.heap.size (some ((4,0,callL,1)::code t)) e W'∧Below W.heap.size W W':=by
 have hc:=rcompound_any ⟨#[99,97,108,108]⟩
 simp only[compV,TV.val] at hc
 obtain⟨⟨k,N,s,a,len,cap⟩,hx⟩:∃x:TV,t.tv=x:=⟨_,rfl⟩
 rw[hx] at hk⊢
 simp only at hk
 subst hk
 obtain⟨W2,hW2,hb2,hs2,bT,hz⟩:=box_zero W ⟨1,N,s,a,len,cap⟩
 have HM:Hid (HoldsS n (Mix ns (W.heap.size+2)) W2 (⟨1,N,s,a,len,cap⟩:TV).val (code t)):=by
  have h:=mix_of (hT.below (hb2.mono hns)) (by omega) (W.heap.size+2)
  rw[hx] at h
  exact h
 have bZ:BoxT W2 (W.heap.size+1) noTerm:=hz
 have HBZ:=hide bZ
 clear hz bZ hT hx
 simp only[TV.val] at hW2⊢
 have c0:=bT.c0
 have c1:=bT.c1
 have c2:=bT.c2
 have c3:=bT.c3
 simp only at c0 c1 c2 c3
 clear bT
 go_enter Tryz.func73,Tryz.ntmps73
 go_wp2_with fail
 try rw[hW2]
 refine(hc _ _ _ _).mono ?_
 rintro e W4 ⟨rfl,hb4⟩
 try rw[hW2] at hb4
 clear hc hW2 c0 c1 c2 c3
 have s4:=hb4.size
 simp only[World.size_alloc] at s4
 have hb3:Below W2.heap.size W2 W4:=((Below.refl _ W2).alloc (Nat.le_refl _) _).trans (hb4.mono (by simp))
 have hblk:W4.heap[W2.heap.size]?=some (.cells #[.int .i64 1,.int .i64 N,.string s,.slice a len cap] 34 (0,0)):=(hb4.block _ (by simp)).trans (World.alloc_heap_new _ _)
 rw[hs2] at hblk
 have bZ4:BoxT W4 (W.heap.size+1) noTerm:=(unhide HBZ).below hb3 (by omega)
 have z0:=bZ4.c0
 have z1:=bZ4.c1
 have z2:=bZ4.c2
 have z3:=bZ4.c3
 obtain⟨y0,y1,y2,y3⟩:=bZ4.frz
 have h1:=holdsS_one (x:=⟨1,N,s,a,len,cap⟩) ((show HoldsS _ _ _ _ _ from HM.out).below hb3) (b:=W.heap.size+2) (by unfold Mix;omega) hblk ⟨#[99,97,108,108]⟩ (by show(4:Nat)≤_;omega)
 rw[callL_eq] at h1
 have HF:Hid (HoldsS (n+1) (Mix ns W.heap.size) (set4 W4 (W.heap.size+1) 0 (compV ⟨#[99,97,108,108]⟩ (some ⟨W.heap.size+2,0,none⟩) 1 1)) (compV ⟨#[99,97,108,108]⟩ (some ⟨W.heap.size+2,0,none⟩) 1 1).val ((4,0,callL,1)::code t)∧Below W.heap.size W (set4 W4 (W.heap.size+1) 0 (compV ⟨#[99,97,108,108]⟩ (some ⟨W.heap.size+2,0,none⟩) 1 1))):=
  ⟨mix_mono (mix_set4 h1 (by omega) (by omega) 0 _) (Nat.le_refl _) (by omega),set4_below (hb2.trans (hb3.mono (by omega))) (by omega) 0 _⟩
 clear h1 bZ4 hblk hb3 hb4
 go_wp2_with fail
 exact bodyPost_ret (v:=.tuple #[(compV ⟨#[99,97,108,108]⟩ (some ⟨W.heap.size+2,0,none⟩) 1 1).val,.bool true]) (by simp[results,Tryz.results73,go_sem,TV.val,compV,noTerm,z0,z1,z2,z3]) rfl ⟨⟨_,rfl,HF.out.1⟩,HF.out.2⟩
theorem rbody_int(ns lo:Nat)(N:Int)(s:ByteArray)(a:Option Addr)(len cap:Nat)(W:World):
  Calls Tryz.prog 73 #[.agg #[.int .i64 2,.int .i64 N,.string s,.slice a len cap]] W fun e W'=>BSays 0 ns lo none e W'∧Below W.heap.size W W':=by
 go_enter Tryz.func73,Tryz.ntmps73
 go_wp2
 exact bodyPost_ret (v:=.tuple #[noTerm.val,.bool false]) (by simp[results,Tryz.results73,go_sem,TV.val,noTerm]) rfl ⟨⟨noTerm,rfl,rfl⟩,((Below.refl _ _).alloc (Nat.le_refl _) _).alloc (by simp) _⟩
theorem rbody_else{n:Nat}(t:Tm n)(ns:Nat)(W:World)(hT:IsT ns W t)(hns:ns≤W.heap.size)(hk1:t.tv.k≠1)(hk2:t.tv.k≠2)(hj:junct t.tv=false):
  Calls Tryz.prog 73 #[t.tv.val] W fun e W'=>BSays n ns W.heap.size (some (code t)) e W'∧Below W.heap.size W W':=by
 simp only[junct,Bool.or_eq_false_iff] at hj
 obtain⟨j1,j2,j3⟩:=hj
 have i1:=ris_any t.tv ⟨#[44]⟩ 2
 have i2:=ris_any t.tv ⟨#[59]⟩ 2
 have i3:=ris_any t.tv ⟨#[45,62]⟩ 2
 rw[show(⟨#[44]⟩:ByteArray).toList=[44] by decide +kernel,j1] at i1
 rw[show(⟨#[59]⟩:ByteArray).toList=[59] by decide +kernel,j2] at i2
 rw[show(⟨#[45,62]⟩:ByteArray).toList=[45,62] by decide +kernel,j3] at i3
 clear j1 j2 j3
 obtain⟨W2,hW2,hb2,hs2,bT,hz⟩:=box_zero W t.tv
 have HM:Hid (HoldsS n (Mix ns W.heap.size) W t.tv.val (code t)):=mix_of hT hns _
 have hk1':(t.tv.k == 1)=false:=by simp[hk1]
 have hk2':(t.tv.k == 2)=false:=by simp[hk2]
 have bZ:BoxT W2 (W.heap.size+1) noTerm:=hz
 have HBZ:=hide bZ
 have HBT:=hide bT
 have c0:=bT.c0
 have c1:=bT.c1
 have c2:=bT.c2
 have c3:=bT.c3
 clear hz bZ hT hk1 hk2 bT
 simp only[TV.val] at i1 i2 i3⊢
 go_enter Tryz.func73,Tryz.ntmps73
 go_wp2_with fail
 refine(i1 _).mono ?_
 rintro e W3 ⟨rfl,hb3⟩
 try rw[hW2] at hb3
 clear i1 hW2 c0 c1 c2 c3
 have s3:=hb3.size
 have bT3:=(unhide HBT).below hb3 (by omega)
 have c0:=bT3.c0
 have c1:=bT3.c1
 have c2:=bT3.c2
 have c3:=bT3.c3
 clear bT3
 go_wp2_with fail
 refine(i2 _).mono ?_
 rintro e W4 ⟨rfl,hb4⟩
 clear i2 c0 c1 c2 c3
 have s4:=hb4.size
 have bT4:=((unhide HBT).below hb3 (by omega)).below hb4 (by omega)
 have c0:=bT4.c0
 have c1:=bT4.c1
 have c2:=bT4.c2
 have c3:=bT4.c3
 clear bT4
 go_wp2_with fail
 refine(i3 _).mono ?_
 rintro e W5 ⟨rfl,hb5⟩
 clear i3 c0 c1 c2 c3
 have s5:=hb5.size
 have bT5:=(((unhide HBT).below hb3 (by omega)).below hb4 (by omega)).below hb5 (by omega)
 have bZ5:=(((unhide HBZ).below hb3 (by omega)).below hb4 (by omega)).below hb5 (by omega)
 have c0:=bT5.c0
 have c1:=bT5.c1
 have c2:=bT5.c2
 have c3:=bT5.c3
 have z0:=bZ5.c0
 have z1:=bZ5.c1
 have z2:=bZ5.c2
 have z3:=bZ5.c3
 obtain⟨y0,y1,y2,y3⟩:=bZ5.frz
 have hB5:Below W.heap.size W W5:=((hb2.trans (hb3.mono (by omega))).trans (hb4.mono (by omega))).trans (hb5.mono (by omega))
 have HF:Hid (HoldsS n (Mix ns W.heap.size) (set4 W5 (W.heap.size+1) 0 t.tv) t.tv.val (code t)∧Below W.heap.size W (set4 W5 (W.heap.size+1) 0 t.tv)):=by
  have hB:=set4_below hB5 (b:=W.heap.size+1) (by omega) 0 t.tv
  exact⟨(show HoldsS _ _ _ _ _ from HM.out).below hB,hB⟩
 clear bT5 bZ5 hB5 hb3 hb4 hb5
 go_wp2_with fail
 exact bodyPost_ret (v:=.tuple #[t.tv.val,.bool true]) (by simp[results,Tryz.results73,go_sem,TV.val,noTerm,z0,z1,z2,z3]) rfl ⟨⟨t.tv,rfl,HF.out.1⟩,HF.out.2⟩
end Go.Proofs.YteaiefjmcinljaaGreatDoor
