import Derived.Test.YtjbdkbaacjfecaaDoorNus
import Derived.Test.YtjbdkbaacjfecaaDoorOs
import Derived.WalkKit
import Derived.WalkLawsBesides
import Derived.WalkSpells
import Derived.Below
import Derived.Shelf.Abstract
import Derived.Shelf.RegionOpen
import Derived.Test.YtjbdkbaacjfecaaDoorProg
import Derived.Maps.RangeWalk
import Derived.Maps.OwnSet
import Derived.Maps.Views
import Derived.StringKeys
import Derived.Deep.RegionHeld3
import Derived.RangeFuncBox
import Derived.Carry
import Derived.Shelf.Strings.Split
import Derived.Test.YtjbdkbaacjfecaaDoorCs
namespace Go.Proofs.YtjbdkbaacjfecaaDoor
open Go.RowKit Go.Shelf Go.Maps
theorem Tryd.infoN:(Tryd.prog.info? 2).map (fun i=>(i.zero,i.size,i.bytes))=some (some (.int .i64 0),1,8):=by kernel_rfl
theorem OwnN.kept{base:Nat}{W W':World}{v:Value}{ns:List Int}(h:OwnN base W v ns)(hb:∀g,v.ownBlock=some g→W'.heap[g]?=W.heap[g]?):OwnN base W' v ns:=owns_below h hb
theorem OwnN.lt{base:Nat}{W:World}{v:Value}{ns:List Int}(h:OwnN base W v ns){g:Nat}(hg:v.ownBlock=some g):base≤g∧g<W.heap.size:=owns_lt h hg
theorem OwnN.slice{base:Nat}{W:World}{v:Value}{ns:List Int}(h:OwnN base W v ns):∃a cap,v=.slice a ns.length cap:=by
 obtain⟨_,h2⟩:=h
 rcases h2 with⟨hv,hn⟩ | ⟨g,cap,cur,hv,_⟩
 ·exact⟨none,0,by rw[hv,hn]⟩
 ·exact⟨_,cap,hv⟩
/-- A row that has grown: the row, and that of what lay only the row's own block may be another. -/
structure GrownN (base:Nat) (v:Value) (W:World) (v':Value) (ns:List Int) (W':World):Prop where
 own:OwnN base W' v' ns
 grb:GrB (fun k=>v.ownBlock=some k) W.heap.size W W'
 blk:v'.ownBlock=v.ownBlock∨∀g,v'.ownBlock=some g→W.heap.size≤g
theorem GrownN.refl{base:Nat}{v:Value}{W:World}{ns:List Int}(h:OwnN base W v ns):GrownN base v W v ns W:=⟨h,GrB.refl _ _ _,.inl rfl⟩
theorem GrownN.trans{base:Nat}{v v1 v2:Value}{W W1 W2:World}{ns ns':List Int}(h:GrownN base v W v1 ns W1)(k:GrownN base v1 W1 v2 ns' W2):GrownN base v W v2 ns' W2:=by
 have hs:=h.grb.size;refine⟨k.own,h.grb.trans ⟨k.grb.os,k.grb.tape,k.grb.output,k.grb.size,fun b hb hne=>k.grb.block b (by omega) fun e=>?_⟩,?_⟩
 ·rcases h.blk with e' | e'
  ·exact hne (e'▸e)
  ·have:=e' b e;omega
 ·rcases k.blk with e | e
  ·rw[e];exact h.blk
  ·exact .inr fun g hg=>by have:=e g hg;omega
theorem one_new{W:World}{N:Int}:∀j u,([.int .i64 N]:List Value)[j]?=some u→(W.alloc (.cells #[.int .i64 N] 2)).cell? ((⟨W.heap.size,0,none⟩:Addr).add j)=some u:=by
 intro j u hj;rw[addr_add,Nat.zero_add]
 match j,hj with
 | 0,hj=>simp at hj;subst hj;simp
 | j+1,hj=>simp at hj
theorem one_one{N:Int}:∀u∈([.int .i64 N]:List Value),u.oneCell'=true:=by
 intro u hu;simp at hu;subst hu;rfl
/-- The variables of a term, behind those that there are. -/
abbrev varsC(acc:List Int)(c:List Nd):List Int:=stepsN stpN acc c
theorem varsC_len(acc:List Int)(c:List Nd):(varsC acc c).length≤acc.length+c.length:=by
 induction c generalizing acc with
 | nil=>simp[varsC,stepsN]
 | cons x c ih=>
  have e:varsC acc (x::c)=varsC (if x.1=1 then stpN acc x.2.1 else acc) c:=rfl;rw[e];refine Nat.le_trans (ih _) ?_;simp only[List.length_cons]
  split
  ·unfold stpN
   split
   ·omega
   ·simp;omega
  ·omega
theorem steps_all{c:List Nd}:∀N,IsVarOf c N→N∈varsC [] c:=fun N h=>(steps_mem c [] N).2 (.inr h)
/-- An operator's three cells. -/
structure OV where
 name:ByteArray
 prio:Int
 type:Int
def OV.val(x:OV):Value:=.agg #[.string x.name,.int .i64 x.prio,.int .i64 x.type]
def mayB(s:ByteArray):Bool:=decide (¬s.toList=[44]∧¬s.toList=[124]∧¬s.toList=[91,93]∧¬s.toList=[123,125]∧(s.size:Int)≤100)
/-- An operator's priorities: its own, and the highest ones to its left and right. -/
structure PV where
 own:Int
 left:Int
 right:Int
def PV.val(x:PV):Value:=.agg #[.int .i64 x.own,.int .i64 x.left,.int .i64 x.right]
def prioOf(k p:Int):PV:=⟨p,if k=3 then p else p-1,if k=2∨k=4 then p else p-1⟩
/-- How priorities read as a map's element: as themselves. -/
def prioElem(v:Value):Option (DataW PV×List MemPlace):=
 match v with
 | .agg cs=>match cs.toList with
  | [.int .i64 a,.int .i64 b,.int .i64 c]=>some (.held ⟨a,b,c⟩,[])
  | _=>none
 | _=>none
abbrev Names:=List (List UInt8×PV)
/-- A map from names to priorities: in the order of their coming. -/
structure OpT (W:World) (b:Nat) (c:Names):Prop where
 len:c.length≤200
 map:∃E:DataW PV,W.ownsMap Tryd.prog 9 prioElem b c.length E∧(∀s,Maps.has E (.string s)=true↔∃q∈c,q.1=s)∧∀q∈c,∀z,E.atKey (.string q.1) z=.held q.2
def within(c:Names)(s:ByteArray):Prop:= ∃q∈c,q.1=s.data.toList
open Classical in
/-- What add makes of the names so far. -/
noncomputable def addN (c:Names×Names) (x:OV):Option (Names×Names):=
 if mayB x.name=true∧1≤x.prio∧x.prio≤1200 then
  if x.type=1∨x.type=2∨x.type=3 then if within c.1 x.name then none else some (c.1++[(x.name.data.toList,prioOf x.type x.prio)],c.2)
  else if x.type=4∨x.type=5 then if within c.2 x.name then none else some (c.1,c.2++[(x.name.data.toList,prioOf x.type x.prio)])
  else none
 else none
/-- Operators that lie in a row. -/
def IsO(W:World)(a:Option Addr)(len:Nat)(l:List OV):Prop:=
 len=l.length∧len≤9223372036854775807∧(l=[]∨∃b off,a=some ⟨b,off,none⟩∧b<W.heap.size∧∀(j:Nat) x,l[j]?=some x→W.cell? ⟨b,off+j*3,none⟩=some (.string x.name)∧W.cell? ⟨b,off+j*3+1,none⟩=some (.int .i64 x.prio)∧W.cell? ⟨b,off+j*3+2,none⟩=some (.int .i64 x.type))
/-- What tableOf makes of a row of operators. -/
noncomputable def foldN:Names×Names→List OV→Option (Names×Names)
 | c,[]=>some c
 | c,x::r=>(addN c x).bind (foldN · r)
noncomputable def tabN (l:List OV):Option (Names×Names):=if 200<l.length then none else foldN ([],[]) l
/-- What CheckOps answers. -/
noncomputable def opsE (l:List OV):Int:=if(tabN l).isSome then 0 else 6
def splitLay_ren:Go.Shelf.Ren:=⟨fun | 146=>39 | 221=>61 | 268=>66 | 138=>67 | 143=>68 | 195=>71 | 197=>72 | 218=>73 | 219=>74 | 260=>78 | 217=>79 | 225=>80 | 224=>81 | 267=>82 | 266=>86 | 314=>87 | n=>n,fun | 9=>9 | 31=>69 | 3=>3 | 4=>4 | 0=>0 | 105=>108 | 21=>21 | 5=>5 | 46=>117 | 119=>124 | 139=>127 | 138=>126 | 146=>129 | 51=>128 | n=>n,fun | 1=>0 | 3=>1 | 4=>2 | n=>n⟩
theorem splitLay:Go.Proofs.Lays.n146 Tryd.prog splitLay_ren:={
 mixed:=by kernel_rfl
 f138:=Tryd.func67.trans (congrArg some (by kernel_rfl))
 f143:=Tryd.func68.trans (congrArg some (by kernel_rfl))
 f146:=Tryd.func39.trans (congrArg some (by kernel_rfl))
 f195:=Tryd.func71.trans (congrArg some (by kernel_rfl))
 f197:=Tryd.func72.trans (congrArg some (by kernel_rfl))
 f217:=Tryd.func79.trans (congrArg some (by kernel_rfl))
 f218:=Tryd.func73.trans (congrArg some (by kernel_rfl))
 f219:=Tryd.func74.trans (congrArg some (by kernel_rfl))
 f221:=Tryd.func61.trans (congrArg some (by kernel_rfl))
 f224:=Tryd.func81.trans (congrArg some (by kernel_rfl))
 f225:=Tryd.func80.trans (congrArg some (by kernel_rfl))
 f260:=Tryd.func78.trans (congrArg some (by kernel_rfl))
 f266:=Tryd.func86.trans (congrArg some (by kernel_rfl))
 f267:=Tryd.func82.trans (congrArg some (by kernel_rfl))
 f268:=Tryd.func66.trans (congrArg some (by kernel_rfl))
 f314:=Tryd.func87.trans (congrArg some (by kernel_rfl))
 t0:=Tryd.underlying0
 a0:=Tryd.isAgg0
 z0:=Tryd.sizeOf0
 v0:=Tryd.zeroValue0
 t3:=Tryd.underlying3
 a3:=Tryd.isAgg3
 z3:=Tryd.sizeOf3
 v3:=Tryd.zeroValue3
 t4:=Tryd.underlying4
 a4:=Tryd.isAgg4
 z4:=Tryd.sizeOf4
 v4:=Tryd.zeroValue4
 t5:=Tryd.underlying5
 a5:=Tryd.isAgg5
 z5:=Tryd.sizeOf5
 v5:=Tryd.zeroValue5
 t9:=Tryd.underlying9
 a9:=Tryd.isAgg9
 z9:=Tryd.sizeOf9
 v9:=Tryd.zeroValue9
 t21:=Tryd.underlying21
 a21:=Tryd.isAgg21
 z21:=Tryd.sizeOf21
 v21:=Tryd.zeroValue21
 t31:=Tryd.underlying69
 a31:=Tryd.isAgg69
 z31:=Tryd.sizeOf69
 v31:=Tryd.zeroValue69
 t46:=Tryd.underlying117
 a46:=Tryd.isAgg117
 z46:=Tryd.sizeOf117
 v46:=Tryd.zeroValue117
 t51:=Tryd.underlying128
 a51:=Tryd.isAgg128
 z51:=Tryd.sizeOf128
 v51:=Tryd.zeroValue128
 t105:=Tryd.underlying108
 a105:=Tryd.isAgg108
 z105:=Tryd.sizeOf108
 v105:=Tryd.zeroValue108
 t119:=Tryd.underlying124
 a119:=Tryd.isAgg124
 z119:=Tryd.sizeOf124
 t138:=Tryd.underlying126
 a138:=Tryd.isAgg126
 z138:=Tryd.sizeOf126
 v138:=Tryd.zeroValue126
 t139:=Tryd.underlying127
 a139:=Tryd.isAgg127
 z139:=Tryd.sizeOf127
 v139:=Tryd.zeroValue127
 t146:=Tryd.underlying129
 a146:=Tryd.isAgg129
 z146:=Tryd.sizeOf129
 v146:=Tryd.zeroValue129
 g1:=by kernel_rfl
 g3:=by kernel_rfl
 g4:=by kernel_rfl
}
theorem split_any(s:ByteArray)(m:Int)(w:World)(hs:s.size<4294967281)(hm:w.cell? ⟨splitLay_ren.g 1,0,none⟩=some (.int .i64 m)):
  Calls Tryd.prog 39 #[.string s,.string ⟨#[32]⟩] w fun e w'=>
   e=.returned (.slice (some ⟨w.heap.size,0,none⟩) (Lib.countB s ⟨#[32]⟩+1) (Lib.countB s ⟨#[32]⟩+1))∧w'=w.alloc (.cells ((Lib.splitB ⟨#[32]⟩ 0 (Lib.countB s ⟨#[32]⟩) s).map Value.string).toArray 9):=
 Any.strings_Split splitLay (by kernel_rfl) s ⟨#[32]⟩ m w hs hm (by decide)
set_option maxHeartbeats 1000000
set_option maxRecDepth 100000
/-- An atom or a compound of a name with so many Args? -/
def isB(x:TV)(s:List UInt8)(n:Int):Bool:=(decide (x.k=3) || decide (x.k=4)) && (decide (x.s.toList=s) && ((x.len:Int) == n))
theorem ris_any(x:TV)(s:ByteArray)(n:Int)(w:World):Calls Tryd.prog 20 #[x.val,.string s,.int .i64 n] w fun e W'=>e=.returned (.bool (isB x s.toList n))∧Below w.heap.size w W':=by
 obtain⟨k,N,xs,a,len,cap⟩:=x;simp only[TV.val]
 by_cases h3:k=3
 ·subst h3
  go_enter Tryd.func20,Tryd.ntmps20
  go_wp2
  all_goals go_ret
  all_goals refine⟨?_,(Below.refl _ w).alloc (Nat.le_refl _) _⟩
  all_goals simp_all [isB]
 ·have h3':(k == 3)=false:=by simp[h3]
  by_cases h4:k=4
  ·subst h4
   go_enter Tryd.func20,Tryd.ntmps20
   go_wp2
   all_goals go_ret
   all_goals refine⟨?_,(Below.refl _ w).alloc (Nat.le_refl _) _⟩
   all_goals simp_all [isB]
  ·have h4':(k == 4)=false:=by simp[h4]
   have HV:Hid (isB ⟨k,N,xs,a,len,cap⟩ s.toList n=false):=by show isB _ _ _=_;simp[isB,h3,h4]
   clear h3 h4;go_enter Tryd.func20,Tryd.ntmps20
   go_wp2
   all_goals go_ret
   all_goals exact⟨by rw[HV.out];rfl,(Below.refl _ w).alloc (Nat.le_refl _) _⟩
theorem holdsS_one{D:Nat}{S:Nat→Prop}{W:World}{x:TV}{cx:List Nd}(hx:HoldsS D S W x.val cx){b:Nat}(hS:S b)
  (hb:W.heap[b]?=some (.cells #[.int .i64 x.k,.int .i64 x.N,.string x.s,.slice x.a x.len x.cap] 24 (0,0))) (s:ByteArray) (hs:s.size≤9223372036854775807):
  HoldsS (D+1) S W (compV s (some ⟨b,0,none⟩) 1 1).val ((4,0,s.toList,1)::cx):=fun m hm hlm=>by
 obtain⟨M,rfl⟩:∃M,m=M+1:=⟨m-1,by omega⟩;obtain⟨t,h1,h2,h3,h4⟩:=hx M (by omega) (by omega);have hxt:=tv_inj h1;have hlt:=(Array.getElem?_eq_some_iff.1 hb).1;refine⟨((compV s (some ⟨b,0,none⟩) 1 1,[t]):TV×List (Tm M)),rfl,⟨rfl,⟨by simp[Tm.tv,compV],by simp[Tm.tv,compV],hlm⟩,hs,.inr ⟨b,0,rfl,hlt,fun j u hu=>?_⟩⟩,⟨.inr ⟨b,0,rfl,hS⟩,fun u hu=>?_⟩,?_⟩
 ·have hj:j=0∧u=t:=by
   match j,hu with
   | 0,hu=>exact⟨rfl,by simpa[Tm.kids] using hu.symm⟩
   | k+1,hu=>simp[Tm.kids] at hu
  obtain⟨rfl,rfl⟩:=hj;refine⟨?_,h2⟩;rw[←hxt];refine⟨?_,?_,?_,?_⟩ <;> simp[World.cell?,hb]
 ·have:u=t:=by simpa[Tm.kids] using hu
  subst this;exact h3
 ·rw[code_succ]
  simp[h4,TV.nd,compV]
theorem holdsS_two{D:Nat}{S:Nat→Prop}{W:World}{x y:TV}{cx cy:List Nd}(hx:HoldsS D S W x.val cx)(hy:HoldsS D S W y.val cy){b:Nat}(hS:S b)
  (hb:W.heap[b]?=some (.cells #[.int .i64 x.k,.int .i64 x.N,.string x.s,.slice x.a x.len x.cap,.int .i64 y.k,.int .i64 y.N,.string y.s,.slice y.a y.len y.cap] 24 (0,0))) (s:ByteArray) (hs:s.size≤9223372036854775807):
  HoldsS (D+1) S W (compV s (some ⟨b,0,none⟩) 2 2).val ((4,0,s.toList,2)::(cx++cy)):=fun m hm hlm=>by
 obtain⟨M,rfl⟩:∃M,m=M+1:=⟨m-1,by omega⟩;obtain⟨t,h1,h2,h3,h4⟩:=hx M (by omega) (by omega);obtain⟨u,k1,k2,k3,k4⟩:=hy M (by omega) (by omega);have hxt:=tv_inj h1;have hyt:=tv_inj k1;have hlt:=(Array.getElem?_eq_some_iff.1 hb).1;refine⟨((compV s (some ⟨b,0,none⟩) 2 2,[t,u]):TV×List (Tm M)),rfl,⟨rfl,⟨by simp[Tm.tv,compV],by simp[Tm.tv,compV],hlm⟩,hs,.inr ⟨b,0,rfl,hlt,fun j v hv=>?_⟩⟩,⟨.inr ⟨b,0,rfl,hS⟩,fun v hv=>?_⟩,?_⟩
 ·have hj:(j=0∧v=t)∨(j=1∧v=u):=by
   match j,hv with
   | 0,hv=>exact .inl ⟨rfl,by simpa[Tm.kids] using hv.symm⟩
   | 1,hv=>exact .inr ⟨rfl,by simpa[Tm.kids] using hv.symm⟩
   | k+2,hv=>simp[Tm.kids] at hv
  rcases hj with⟨rfl,rfl⟩ | ⟨rfl,rfl⟩
  ·refine⟨?_,h2⟩
   rw[←hxt];refine⟨?_,?_,?_,?_⟩ <;> simp[World.cell?,hb]
  ·refine⟨?_,k2⟩
   rw[←hyt];refine⟨?_,?_,?_,?_⟩ <;> simp[World.cell?,hb]
 ·have:v=t∨v=u:=by simpa[Tm.kids] using hv
  rcases this with rfl | rfl
  ·exact h3
  ·exact k3
 ·rw[code_succ]
  simp[h4,k4,TV.nd,compV]
theorem mix_set4{D ns lo:Nat}{W:World}{v:Value}{c:List Nd}(h:HoldsS D (Mix ns lo) W v c){b:Nat}(h1:ns≤b)(h2:b<lo)(o:Nat)(x:TV):HoldsS D (Mix ns lo) (set4 W b o x) v c:=fun m hm hlm=>by
 obtain⟨t,k1,k2,k3,k4⟩:=h m hm hlm;exact⟨t,k1,by rw[set4_size];exact k2.fromS (fun q hq=>set4_other W b o x (by unfold Mix at hq;omega)) k3,k3,k4⟩
theorem mix_mono{D D' ns lo lo':Nat}{W:World}{v:Value}{c:List Nd}(h:HoldsS D (Mix ns lo) W v c)(hD:D≤D')(hl:lo'≤lo):HoldsS D' (Mix ns lo') W v c:=h.mono hD fun b hb=>by unfold Mix at hb⊢;omega
theorem mix_of{n ns:Nat}{W:World}{t:Tm n}(hT:IsT ns W t)(hns:ns≤W.heap.size)(lo:Nat):HoldsS n (Mix ns lo) W t.tv.val (code t):=
 holdsS_of (hT.mono hns) (hT.blk.mono fun _ h=>.inl h)
/-- `,`, `;` and `->` of two. -/
def junct(x:TV):Bool:=isB x [44] 2 || (isB x [59] 2 || isB x [45,62] 2)
def callL:List UInt8:=[99,97,108,108]
def bodyJ(s:List UInt8):List (Option (List Nd))→Option (List Nd)
 | [some x,some y]=>some ((4,0,s,2)::(x++y))
 | _=>none
/-- The code of a body. -/
def bodyC:{n:Nat}→Tm n→Option (List Nd)
 | 0,t=>Empty.elim t
 | _+1,t=>if t.tv.k=1 then some ((4,0,callL,1)::code t) else if t.tv.k=2 then none else if junct t.tv=true then bodyJ t.tv.s.toList (t.kids.map bodyC) else some (code t)
/-- What a term's value is, by the code of a body. -/
def BodyIs(D ns lo:Nat)(W:World)(x:TV):Option (List Nd)→Prop
 | some c=>HoldsS D (Mix ns lo) W x.val c
 | none=>x=noTerm
def BSays(D ns lo:Nat)(r:Option (List Nd))(e:Ending)(W':World):Prop:= ∃x:TV,e=.returned (.tuple #[x.val,.bool r.isSome])∧BodyIs D ns lo W' x r
theorem callL_eq:(⟨#[99,97,108,108]⟩:ByteArray).toList=callL:=by decide +kernel
theorem rbody_var{n:Nat}(t:Tm n)(ns:Nat)(W:World)(hT:IsT ns W t)(hns:ns≤W.heap.size)(hk:t.tv.k=1):
  Calls Tryd.prog 42 #[t.tv.val] W fun e W'=>BSays (n+1) ns W.heap.size (some ((4,0,callL,1)::code t)) e W'∧Below W.heap.size W W':=by
 have hc:=rcompound_any ⟨#[99,97,108,108]⟩;simp only[compV,TV.val] at hc;obtain⟨⟨k,N,s,a,len,cap⟩,hx⟩:∃x:TV,t.tv=x:=⟨_,rfl⟩;rw[hx] at hk⊢;simp only at hk;subst hk;obtain⟨W2,hW2,hb2,hs2,bT,hz⟩:=box_zero W ⟨1,N,s,a,len,cap⟩
 have HM:Hid (HoldsS n (Mix ns (W.heap.size+2)) W2 (⟨1,N,s,a,len,cap⟩:TV).val (code t)):=by
  have h:=mix_of (hT.below (hb2.mono hns)) (by omega) (W.heap.size+2);rw[hx] at h;exact h
 have bZ:BoxT W2 (W.heap.size+1) noTerm:=hz;have HBZ:=hide bZ;clear hz bZ hT hx;simp only[TV.val] at hW2⊢;have c0:=bT.c0;have c1:=bT.c1;have c2:=bT.c2;have c3:=bT.c3;simp only at c0 c1 c2 c3;clear bT;go_enter Tryd.func42,Tryd.ntmps42
 go_wp2_with fail
 try rw[hW2]
 refine(hc _ _ _ _).mono ?_;rintro e W4 ⟨rfl,hb4⟩;try rw[hW2] at hb4
 clear hc hW2 c0 c1 c2 c3;have s4:=hb4.size;simp only[World.size_alloc] at s4;have hb3:Below W2.heap.size W2 W4:=((Below.refl _ W2).alloc (Nat.le_refl _) _).trans (hb4.mono (by simp));have hblk:W4.heap[W2.heap.size]?=some (.cells #[.int .i64 1,.int .i64 N,.string s,.slice a len cap] 24 (0,0)):=(hb4.block _ (by simp)).trans (World.alloc_heap_new _ _);rw[hs2] at hblk;have bZ4:BoxT W4 (W.heap.size+1) noTerm:=(uh HBZ).below hb3 (by omega);have z0:=bZ4.c0;have z1:=bZ4.c1;have z2:=bZ4.c2;have z3:=bZ4.c3;obtain⟨y0,y1,y2,y3⟩:=bZ4.frz;have h1:=holdsS_one (x:=⟨1,N,s,a,len,cap⟩) ((show HoldsS _ _ _ _ _ from HM.out).below hb3) (b:=W.heap.size+2) (by unfold Mix;omega) hblk ⟨#[99,97,108,108]⟩ (by show(4:Nat)≤_;omega);rw[callL_eq] at h1
 have HF:Hid (HoldsS (n+1) (Mix ns W.heap.size) (set4 W4 (W.heap.size+1) 0 (compV ⟨#[99,97,108,108]⟩ (some ⟨W.heap.size+2,0,none⟩) 1 1)) (compV ⟨#[99,97,108,108]⟩ (some ⟨W.heap.size+2,0,none⟩) 1 1).val ((4,0,callL,1)::code t)∧Below W.heap.size W (set4 W4 (W.heap.size+1) 0 (compV ⟨#[99,97,108,108]⟩ (some ⟨W.heap.size+2,0,none⟩) 1 1))):=
  ⟨mix_mono (mix_set4 h1 (by omega) (by omega) 0 _) (Nat.le_refl _) (by omega),set4_below (hb2.trans (hb3.mono (by omega))) (by omega) 0 _⟩
 clear h1 bZ4 hblk hb3 hb4;go_wp2_with fail
 exact bodyPost_ret (v:=.tuple #[(compV ⟨#[99,97,108,108]⟩ (some ⟨W.heap.size+2,0,none⟩) 1 1).val,.bool true]) (by simp[results,Tryd.results42,go_sem,TV.val,compV,noTerm,z0,z1,z2,z3]) rfl ⟨⟨_,rfl,HF.out.1⟩,HF.out.2⟩
theorem rbody_int(ns lo:Nat)(N:Int)(s:ByteArray)(a:Option Addr)(len cap:Nat)(W:World):
  Calls Tryd.prog 42 #[.agg #[.int .i64 2,.int .i64 N,.string s,.slice a len cap]] W fun e W'=>BSays 0 ns lo none e W'∧Below W.heap.size W W':=by
 go_enter Tryd.func42,Tryd.ntmps42
 go_wp2
 exact bodyPost_ret (v:=.tuple #[noTerm.val,.bool false]) (by simp[results,Tryd.results42,go_sem,TV.val,noTerm]) rfl ⟨⟨noTerm,rfl,rfl⟩,((Below.refl _ _).alloc (Nat.le_refl _) _).alloc (by simp) _⟩
theorem rbody_else{n:Nat}(t:Tm n)(ns:Nat)(W:World)(hT:IsT ns W t)(hns:ns≤W.heap.size)(hk1:t.tv.k≠1)(hk2:t.tv.k≠2)(hj:junct t.tv=false):
  Calls Tryd.prog 42 #[t.tv.val] W fun e W'=>BSays n ns W.heap.size (some (code t)) e W'∧Below W.heap.size W W':=by
 simp only[junct,Bool.or_eq_false_iff] at hj;obtain⟨j1,j2,j3⟩:=hj;have i1:=ris_any t.tv ⟨#[44]⟩ 2;have i2:=ris_any t.tv ⟨#[59]⟩ 2;have i3:=ris_any t.tv ⟨#[45,62]⟩ 2;rw[show(⟨#[44]⟩:ByteArray).toList=[44] by decide +kernel,j1] at i1;rw[show(⟨#[59]⟩:ByteArray).toList=[59] by decide +kernel,j2] at i2;rw[show(⟨#[45,62]⟩:ByteArray).toList=[45,62] by decide +kernel,j3] at i3;clear j1 j2 j3;obtain⟨W2,hW2,hb2,hs2,bT,hz⟩:=box_zero W t.tv;have HM:Hid (HoldsS n (Mix ns W.heap.size) W t.tv.val (code t)):=mix_of hT hns _;have hk1':(t.tv.k == 1)=false:=by simp[hk1]
 have hk2':(t.tv.k == 2)=false:=by simp[hk2]
 have bZ:BoxT W2 (W.heap.size+1) noTerm:=hz;have HBZ:=hide bZ;have HBT:=hide bT;have c0:=bT.c0;have c1:=bT.c1;have c2:=bT.c2;have c3:=bT.c3;clear hz bZ hT hk1 hk2 bT;simp only[TV.val] at i1 i2 i3⊢;go_enter Tryd.func42,Tryd.ntmps42
 go_wp2_with fail
 refine(i1 _).mono ?_;rintro e W3 ⟨rfl,hb3⟩;try rw[hW2] at hb3
 clear i1 hW2 c0 c1 c2 c3;have s3:=hb3.size;have bT3:=(uh HBT).below hb3 (by omega);have c0:=bT3.c0;have c1:=bT3.c1;have c2:=bT3.c2;have c3:=bT3.c3;clear bT3;go_wp2_with fail
 refine(i2 _).mono ?_;rintro e W4 ⟨rfl,hb4⟩;clear i2 c0 c1 c2 c3;have s4:=hb4.size;have bT4:=((uh HBT).below hb3 (by omega)).below hb4 (by omega);have c0:=bT4.c0;have c1:=bT4.c1;have c2:=bT4.c2;have c3:=bT4.c3;clear bT4;go_wp2_with fail
 refine(i3 _).mono ?_;rintro e W5 ⟨rfl,hb5⟩;clear i3 c0 c1 c2 c3;have s5:=hb5.size;have bT5:=(((uh HBT).below hb3 (by omega)).below hb4 (by omega)).below hb5 (by omega);have bZ5:=(((uh HBZ).below hb3 (by omega)).below hb4 (by omega)).below hb5 (by omega);have c0:=bT5.c0;have c1:=bT5.c1;have c2:=bT5.c2;have c3:=bT5.c3;have z0:=bZ5.c0;have z1:=bZ5.c1;have z2:=bZ5.c2;have z3:=bZ5.c3;obtain⟨y0,y1,y2,y3⟩:=bZ5.frz;have hB5:Below W.heap.size W W5:=((hb2.trans (hb3.mono (by omega))).trans (hb4.mono (by omega))).trans (hb5.mono (by omega))
 have HF:Hid (HoldsS n (Mix ns W.heap.size) (set4 W5 (W.heap.size+1) 0 t.tv) t.tv.val (code t)∧Below W.heap.size W (set4 W5 (W.heap.size+1) 0 t.tv)):=by
  have hB:=set4_below hB5 (b:=W.heap.size+1) (by omega) 0 t.tv;exact⟨(show HoldsS _ _ _ _ _ from HM.out).below hB,hB⟩
 clear bT5 bZ5 hB5 hb3 hb4 hb5;go_wp2_with fail
 exact bodyPost_ret (v:=.tuple #[t.tv.val,.bool true]) (by simp[results,Tryd.results42,go_sem,TV.val,noTerm,z0,z1,z2,z3]) rfl ⟨⟨t.tv,rfl,HF.out.1⟩,HF.out.2⟩
end Go.Proofs.YtjbdkbaacjfecaaDoor
