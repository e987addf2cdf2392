import Derived.Test.YtjbdkbaacjfecaaDoorRows
import Derived.Test.YtjbdkbaacjfecaaDoorJs
import Derived.Lib.SmallJoins
import Derived.Deep.Slices
import Derived.Test.YtjbdkbaacjfecaaDoorLr
import Derived.Test.YtjbdkbaacjfecaaDoorSs
import Derived.Test.YtjbdkbaacjfecaaDoorFs
import Derived.Maps.RangeWalk
import Derived.Maps.OwnSet
import Derived.Maps.Views
namespace Go.Proofs.YtjbdkbaacjfecaaDoor
set_option maxRecDepth 100000
open Go.RowKit Go.Joins Go.WideShapes
theorem Tryd.cells28:Tryd.prog.cellsOf 24=4:=by kernel_rfl
theorem Tryd.cells3:Tryd.prog.cellsOf 3=1:=by kernel_rfl
theorem Tryd.cells2:Tryd.prog.cellsOf 2=1:=by kernel_rfl
theorem Tryd.cells9:Tryd.prog.cellsOf 9=1:=by kernel_rfl
theorem Tryd.cells26:Tryd.prog.cellsOf 22=1:=by kernel_rfl
theorem list4{α:Type}{l:List α}(h:l.length=4):∃a b c d,l=[a,b,c,d]:=by
 match l,h with
 | [a,b,c,d],_=>exact⟨a,b,c,d,rfl⟩
theorem cells4{w:World}{base:Nat}{a:Addr}{c0 c1 c2 c3:Value}(h:w.cells? base a 4=some [c0,c1,c2,c3]):a.spot=none∧w.cell? ⟨a.block,a.off,none⟩=some c0∧w.cell? ⟨a.block,a.off+1,none⟩=some c1∧w.cell? ⟨a.block,a.off+2,none⟩=some c2∧w.cell? ⟨a.block,a.off+3,none⟩=some c3:=by
 unfold World.cells? at h
 split at h
 ·obtain⟨b,off,spot⟩:=a
  simp[List.range_succ,List.mapM_cons,Addr.add,Option.bind_eq_some_iff] at h;obtain⟨h0,h1,h2,h3⟩:=h;have hs:spot=none:=World.cell?_spot h0;subst hs;exact⟨rfl,h0,h1,h2,h3⟩
 ·cases h
theorem list_of{α:Type}{p:Nat→α→Prop}:∀{n:Nat},(∀i,i<n→∃x,p i x)→∃l:List α,l.length=n∧∀j u,l[j]?=some u→p j u
 | 0,_=>⟨[],rfl,fun j u h=>by simp at h⟩
 | n+1,h=>by
  obtain⟨l,hl,hp⟩:=list_of (n:=n) (fun i hi=>h i (by omega));obtain⟨x,hx⟩:=h n (by omega);refine⟨l++[x],by simp[hl],fun j u hu=>?_⟩
  by_cases hj:j<n
  ·rw[List.getElem?_append_left (by omega)] at hu;exact hp j u hu
  ·rw[List.getElem?_append_right (by omega)] at hu
   have hj2:j-l.length=0:=by
    by_cases e:j-l.length=0
    ·exact e
    ·rw[List.getElem?_eq_none (by simp;omega)] at hu;cases hu
   rw[hj2] at hu;simp at hu;subst hu;obtain rfl:j=n:=by omega
   exact hx
theorem add_none(b off n:Nat):Addr.add ⟨b,off,none⟩ n=⟨b,off+n,none⟩:=by
 unfold Addr.add;split
 ·rename_i h;subst h;rfl
 ·rfl
theorem cell_lt{w:World}{b o:Nat}{v:Value}(h:w.cell? ⟨b,o,none⟩=some v):b<w.heap.size:=by
 unfold World.cell? at h;simp only at h;cases hb:w.heap[b]? with
 | none=>rw[hb] at h;cases h
 | some ob=>exact(Array.getElem?_eq_some_iff.1 hb).1
/-- As IsT, however deep. -/
def IsU(n₀:Nat)(W:World):{n:Nat}→Tm n→Prop
 | 0,t=>Empty.elim t
 | _+1,t=>t.tv.len=t.kids.length∧(t.tv.len≤9223372036854775807∧t.tv.len≤t.tv.cap)∧t.tv.s.size≤9223372036854775807∧(t.kids=[]∨∃b off,t.tv.a=some ⟨b,off,none⟩∧b<n₀∧
   ∀j u,t.kids[j]?=some u→cellsAt W b (off+j*4) u.tv∧IsU n₀ W u)
theorem isU_mk{n n₀:Nat}{W:World}(x:TV)(kids:List (Tm n))(h1:x.len=kids.length)(h2:x.len≤9223372036854775807∧x.len≤x.cap)(h3:x.s.size≤9223372036854775807)
  (h4:kids=[]∨∃b off,x.a=some ⟨b,off,none⟩∧b<n₀∧∀j u,kids[j]?=some u→cellsAt W b (off+j*4) u.tv∧IsU n₀ W u):IsU n₀ W (n:=n+1) ((x,kids):TV×List (Tm n)):=⟨h1,h2,h3,h4⟩
theorem lower_list{n₀ n m:Nat}{W:World}:∀(kids:List (Tm n)),(∀u∈kids,∃t':Tm m,t'.tv=u.tv∧IsT n₀ W t'∧parts t'=parts u)→
  ∃kids':List (Tm m),kids'.length=kids.length∧(∀(j:Nat) (u':Tm m),kids'[j]?=some u'→∃u:Tm n,kids[j]?=some u∧u'.tv=u.tv∧IsT n₀ W u')∧kids'.flatMap parts=kids.flatMap parts
 | [],_=>⟨[],rfl,fun j u' h=>by simp at h,rfl⟩
 | u::kids,h=>by
  obtain⟨t',e1,e2,e3⟩:=h u (by simp);obtain⟨ks,k1,k2,k3⟩:=lower_list kids (fun z hz=>h z (by simp[hz]));refine⟨t'::ks,by simp[k1],fun j u' hu=>?_,by simp[e3,k3]⟩;cases j with
  | zero=>simp at hu;subst hu;exact⟨u,rfl,e1,e2⟩
  | succ j=>
   obtain⟨z,z1,z2⟩:=k2 j u' (by simpa using hu);exact⟨z,by simpa using z1,z2⟩
theorem part_len{n:Nat}{kids:List (Tm n)}{u:Tm n}(h:u∈kids):(parts u).length≤(kids.flatMap parts).length:=by
 induction kids with
 | nil=>cases h
 | cons z kids ih=>
  simp only[List.flatMap_cons,List.length_append]
  rcases List.mem_cons.1 h with rfl | h
  ·omega
  ·have:=ih h
   omega
theorem lower{n₀:Nat}{W:World}:∀(n:Nat) (t:Tm n),IsU n₀ W t→∀m,(parts t).length≤m→m≤2199023255552→∃t':Tm m,t'.tv=t.tv∧IsT n₀ W t'∧parts t'=parts t:=by
 intro n
 induction n with
 | zero=>intro t;exact Empty.elim t
 | succ n ih=>
  intro t ht m hm hlim;obtain⟨x,kids⟩:=t;obtain⟨h1,h2,h3,h4⟩:=ht;have hp:parts (n:=n+1) ((x,kids):TV×List (Tm n))=x::kids.flatMap parts:=rfl;rw[hp] at hm⊢;simp only[List.length_cons] at hm;obtain⟨m,rfl⟩:∃k,m=k+1:=⟨m-1,by omega⟩
  have hu:∀u∈kids,IsU n₀ W u:=fun u hu=>by
   rcases h4 with h4 | ⟨b,off,_,_,hk⟩
   ·have h4':kids=[]:=h4
    rw[h4'] at hu;cases hu
   ·obtain⟨j,hj⟩:=List.mem_iff_getElem?.1 hu
    exact(hk j u hj).2
  obtain⟨ks,k1,k2,k3⟩:=lower_list (m:=m) (n₀:=n₀) (W:=W) kids (fun u hu'=>ih u (hu u hu') m (by have:=part_len hu';omega) (by omega));refine⟨((x,ks):TV×List (Tm m)),rfl,⟨?_,⟨h2.1,h2.2,hlim⟩,h3,?_⟩,?_⟩
  ·show x.len=ks.length
   rw[k1];exact h1
  ·rcases h4 with h4 | ⟨b,off,ha,hb,hk⟩
   ·refine .inl ?_
    have h4':kids=[]:=h4
    show ks=[]
    rw[h4'] at k1;exact List.length_eq_zero_iff.1 k1
   ·refine .inr ⟨b,off,ha,hb,fun j u' hu'=>?_⟩
    obtain⟨u,q1,q2,q3⟩:=k2 j u' hu';exact⟨by rw[q2];exact(hk j u q1).1,q3⟩
  ·show x::ks.flatMap parts=_
   rw[k3]
theorem bulk_one{H:Type}(d:DataW H):1≤Rows.uptoBulk d:=by
 cases d with
 | lit l=>cases l <;> simp[Rows.uptoBulk]
 | nil=>simp[Rows.uptoBulk]
 | ptr d=>simp[Rows.uptoBulk]
 | slice elems spare=>simp[Rows.uptoBulk]
 | agg parts=>simp[Rows.uptoBulk]
 | iface t d=>simp[Rows.uptoBulk]
 | map entries=>simp[Rows.uptoBulk]
 | held h=>simp[Rows.uptoBulk]
theorem bulk_part{H:Type}{d:DataW H}{l:List (DataW H)}(h:d∈l):Rows.uptoBulk d≤Rows.uptoBulkAll l:=by
 induction l with
 | nil=>cases h
 | cons x r ih=>
  simp only[Rows.uptoBulkAll];cases List.mem_cons.1 h with
  | inl e=>subst e;omega
  | inr e=>have:=ih e;omega
theorem bulk_kids{H:Type}{n:Nat}:∀(kids:List (Tm n)) (ds:List (DataW H)),kids.length=ds.length→(∀(i:Nat) (u:Tm n) (d:DataW H),kids[i]?=some u→ds[i]?=some d→(code u).length≤Rows.uptoBulk d)→(kids.flatMap code).length≤Rows.uptoBulkAll ds
 | [],ds,_,_=>by simp
 | u::kids,[],h,_=>by simp at h
 | u::kids,d::ds,h,hk=>by
  have h1:=hk 0 u d rfl rfl;have h2:=bulk_kids kids ds (by simpa using h) (fun i u d hu hd=>hk (i+1) u d (by simpa using hu) (by simpa using hd));simp only[List.flatMap_cons,List.length_append,Rows.uptoBulkAll];omega
def Nw(x:TV):Prop:= -9223372036854775808≤x.N∧x.N≤9223372036854775807
theorem nums_kids{m:Nat}{x:TV}{kids:List (Tm m)}(h0:Nw x)(h:∀u∈kids,∀y∈parts u,Nw y):∀y∈parts (n:=m+1) ((x,kids):TV×List (Tm m)),Nw y:=fun y hy=>by
 have hy':y∈x::kids.flatMap parts:=hy
 rcases List.mem_cons.1 hy' with e | e
 ·rw[e];exact h0
 ·obtain⟨u,hu,e⟩:=List.mem_flatMap.1 e
  exact h u hu y e
theorem nw_wf{k N:Int}{s:ByteArray}{a:Option Addr}{l c:Nat}(h:(Lit.int .i64 N).wf=true):Nw ⟨k,N,s,a,l,c⟩:=by
 simp only[Lit.wf,Bool.and_eq_true,decide_eq_true_eq] at h;exact h
theorem open_nums{H:Type}{enc:TypeId×Value→H}{w:World}{spare:Nat→Bool}{held:Bool}:∀(k fuel:Nat),fuel≤k→∀(m:Nat),fuel≤m→∀(cs:List Value) (y:DataW H×List MemPlace),
  DataW.trod enc Tryd.prog w 0 spare held fuel 24 cs=some y→∃t:Tm m,cs=[.int .i64 t.tv.k,.int .i64 t.tv.N,.string t.tv.s,.slice t.tv.a t.tv.len t.tv.cap]∧IsU w.heap.size w t∧(code t).length≤Rows.uptoBulk y.1∧∀x∈parts t,Nw x:=by
 intro k
 induction k with
 | zero=>
  intro fuel hf m _ cs y h;obtain rfl:fuel=0:=by omega
  simp[DataW.trod] at h
 | succ k ih=>
  intro fuel hf m hm cs y h;obtain⟨xs,n,rfl,rfl,hl,hxl,hfs⟩:=DataW.trod_struct Tryd.underlying24 h;rw[Tryd.cells28] at hl;have hx4:xs.length=4:=hxl;clear hxl;obtain⟨v0,v1,v2,v3,rfl⟩:=list4 hl;have f0:DataW.trod enc Tryd.prog w 0 spare held n 3 (List.take (Tryd.prog.cellsOf 3) (List.drop 0 [v0,v1,v2,v3]))=xs[0]?:=hfs 0 _ rfl;have f1:DataW.trod enc Tryd.prog w 0 spare held n 2 (List.take (Tryd.prog.cellsOf 2) (List.drop 1 [v0,v1,v2,v3]))=xs[1]?:=hfs 1 _ rfl;have f2:DataW.trod enc Tryd.prog w 0 spare held n 9 (List.take (Tryd.prog.cellsOf 9) (List.drop 2 [v0,v1,v2,v3]))=xs[2]?:=hfs 2 _ rfl;have f3:DataW.trod enc Tryd.prog w 0 spare held n 22 (List.take (Tryd.prog.cellsOf 22) (List.drop 3 [v0,v1,v2,v3]))=xs[3]?:=hfs 3 _ rfl;rw[Tryd.cells3] at f0;rw[Tryd.cells2] at f1;rw[Tryd.cells9] at f2;rw[Tryd.cells26] at f3;simp only[List.drop_zero,List.drop_succ_cons,List.take_succ_cons,List.take_zero] at f0 f1 f2 f3;clear hfs;obtain⟨x0,x1,x2,x3,rfl⟩:=list4 hx4;simp only[List.getElem?_cons_zero,List.getElem?_cons_succ] at f0 f1 f2 f3;obtain⟨tk,g0,-,-⟩:=DataW.trod_int Tryd.underlying3 f0;obtain⟨tN,g1,-,hwf⟩:=DataW.trod_int Tryd.underlying2 f1;obtain⟨ts,g2,-,hsm⟩:=DataW.trod_string Tryd.underlying9 f2;simp only[List.cons.injEq,and_true] at g0 g1 g2;subst g0 g1 g2;unfold maxLen at hsm;have hbulk:Rows.uptoBulk x3.1≤Rows.uptoBulkAll ([x0,x1,x2,x3].map (·.1)):=bulk_part (by simp);have hb1:=bulk_one x3.1;obtain⟨m',rfl⟩:∃m',m=m'+1:=⟨m-1,by omega⟩
  rcases DataW.trod_slice Tryd.underlying22 f3 with⟨g3,-⟩ | ⟨a,len,cap,elems,rest,n',hn',g3,hd3,hb,hlc,hmx,hlen,hel,-,-⟩
  ·simp only[List.cons.injEq,and_true] at g3
   subst g3;refine⟨((⟨tk,tN,ts,none,0,0⟩,[]):TV×List (Tm m')),rfl,⟨rfl,⟨by simp[Tm.tv],by simp[Tm.tv]⟩,by simp only[Tm.tv];omega,.inl rfl⟩,?_,nums_kids (nw_wf hwf) (fun u hu=>by cases hu)⟩;rw[code_succ];simp only[Rows.uptoBulk,List.flatMap_nil,List.length_cons,List.length_nil];omega
  ·simp only[List.cons.injEq,and_true] at g3
   subst g3;unfold maxLen at hmx
   by_cases hl0:len=0
   ·subst hl0
    refine⟨((⟨tk,tN,ts,some a,0,cap⟩,[]):TV×List (Tm m')),rfl,⟨rfl,⟨by simp[Tm.tv],by simp[Tm.tv]⟩,by simp only[Tm.tv];omega,.inl rfl⟩,?_,nums_kids (nw_wf hwf) (fun u hu=>by cases hu)⟩;rw[code_succ];simp only[Rows.uptoBulk,List.flatMap_nil,List.length_cons,List.length_nil];omega
   ·have hel':∀i,i<len→∃u:Tm m',w.cells? 0 (a.add (i*4)) 4=some [.int .i64 u.tv.k,.int .i64 u.tv.N,.string u.tv.s,.slice u.tv.a u.tv.len u.tv.cap]∧IsU w.heap.size w u∧(∀x∈parts u,Nw x)∧∀d,(elems.map (·.1))[i]?=some d→(code u).length≤Rows.uptoBulk d:=by
     intro i hi;have h1:=hel i hi;rw[List.getElem?_eq_getElem (by omega)] at h1;obtain⟨cs',h2,h3⟩:=Option.bind_eq_some_iff.1 h1;obtain⟨u,hu,hT,hc,hnw⟩:=ih n' (by omega) m' (by omega) cs' _ h3;subst hu;rw[Tryd.cells28] at h2;refine⟨u,h2,hT,hnw,fun d hd=>?_⟩;rw[List.getElem?_map,List.getElem?_eq_getElem (by omega)] at hd;simp at hd;rw[←hd];exact hc
    clear hel;obtain⟨b,off,spot⟩:=a
    have hspot:spot=none:=by
     obtain⟨u,h2,-⟩:=hel' 0 (by omega);obtain⟨s1,-⟩:=cells4 h2;simpa[Addr.add] using s1
    subst hspot
    have hkid:∀i,i<len→∃u:Tm m',b<w.heap.size∧(cellsAt w b (off+i*4) u.tv∧IsU w.heap.size w u)∧(∀x∈parts u,Nw x)∧∀d,(elems.map (·.1))[i]?=some d→(code u).length≤Rows.uptoBulk d:=by
     intro i hi;obtain⟨u,h2,hT,hnw,hc⟩:=hel' i hi;rw[add_none] at h2;obtain⟨-,k0,k1,k2,k3⟩:=cells4 h2;exact⟨u,cell_lt k0,⟨⟨k0,k1,k2,k3⟩,hT⟩,hnw,hc⟩
    obtain⟨kids,hkl,hks⟩:=list_of hkid;obtain⟨_,hb0,_⟩:=hkid 0 (by omega);clear hkid hel' ih;have hl63:len≤9223372036854775807∧len≤cap:=⟨by omega,hlc⟩;have hs63:ts.size≤9223372036854775807:=by omega
    have hfin:IsU w.heap.size w (n:=m'+1) (((⟨tk,tN,ts,some ⟨b,off,none⟩,len,cap⟩:TV),kids):TV×List (Tm m')):=isU_mk _ kids hkl.symm hl63 hs63 (.inr ⟨b,off,rfl,hb0,fun j u hu=>(hks j u hu).2.1⟩);refine⟨_,rfl,hfin,?_,nums_kids (nw_wf hwf) (fun u hu=>by obtain⟨i,hi⟩:=List.getElem?_of_mem hu;exact(hks i u hi).2.2.1)⟩;have hsum:=bulk_kids kids (elems.map (·.1)) (by simp[hkl,hlen]) (fun i u d hu hd=>(hks i u hu).2.2.2 d hd);rw[code_succ];have h3:Rows.uptoBulkAll (elems.map (·.1))+1≤Rows.uptoBulk x3.1:=by rw[hd3];simp only[Rows.uptoBulk];omega
    simp only[Rows.uptoBulk,List.length_cons];omega
theorem open_arg_nums{H:Type}{enc:TypeId×Value→H}{w:World}{r:Reach}{b0:Nat}{spare:Nat→Bool}{held:Bool}{v:Value}{d:DataW H}{p:List MemPlace}(hv:Value.okWide Tryd.prog w r b0 24 v)(h:DataW.Trod enc Tryd.prog w 0 spare held 24 v d p):
  ∀m,Rows.uptoBulk d≤m→m≤2199023255552→∃t:Tm m,v=t.tv.val∧IsT w.heap.size w t∧(code t).length≤Rows.uptoBulk d∧∀x∈parts t,Nw x:=by
 obtain⟨cs,rfl,_⟩:=okWide_struct Tryd.underlying24 hv;obtain⟨fuel,hf⟩:=h;intro m hm hlim;obtain⟨t0,ht,hU,hc,hnw⟩:=open_nums fuel fuel (Nat.le_refl _) fuel (Nat.le_refl _) _ _ hf;have hc':(parts t0).length≤Rows.uptoBulk d:=by simpa[code] using hc
 obtain⟨t,e1,e2,e3⟩:=lower fuel t0 hU m (by omega) hlim;refine⟨t,?_,e2,by simpa[code,e3] using hc',by rw[e3];exact hnw⟩;have:cs.toList=[.int .i64 t0.tv.k,.int .i64 t0.tv.N,.string t0.tv.s,.slice t0.tv.a t0.tv.len t0.tv.cap]:=by simpa[Value.cells] using ht
 rw[←e1] at this;unfold TV.val;rw[←this]
open Go.Shelf
set_option maxHeartbeats 400000
def compV(s:ByteArray)(a:Option Addr)(len cap:Nat):TV:=⟨4,0,s,a,len,cap⟩
def noTerm:TV:=⟨0,0,⟨#[]⟩,none,0,0⟩
theorem tv_inj{x y:TV}(h:x.val=y.val):x=y:=by
 cases x;cases y
 simp[TV.val] at h
 simp_all
theorem emptyL:(⟨#[]⟩:ByteArray).toList=[]:=by decide +kernel
theorem rcompound_any(s:ByteArray)(a:Option Addr)(len cap:Nat)(w:World):Calls Tryd.prog 26 #[.string s,.slice a len cap] w fun e W'=>e=.returned (compV s a len cap).val∧Below w.heap.size w W':=by
 go_enter Tryd.func26,Tryd.ntmps26
 go_wp2
 refine bodyPost_ret (v:=(compV s a len cap).val) (by simp[results,Tryd.results26,go_sem,compV,TV.val]) rfl ⟨rfl,(Below.refl _ _).alloc (Nat.le_refl _) _⟩
theorem box_zero(W:World)(x:TV):∃W2,(W.alloc (.cells #[.int .i64 x.k,.int .i64 x.N,.string x.s,.slice x.a x.len x.cap] 24)).alloc (.cells #[.int .i64 0,.int .i64 0,.string ⟨#[]⟩,.slice none 0 0] 24)=W2∧
  Below W.heap.size W W2∧W2.heap.size=W.heap.size+2∧BoxT W2 W.heap.size x∧W2.heap[W.heap.size+1]?=some (.cells #[.int .i64 0,.int .i64 0,.string ⟨#[]⟩,.slice none 0 0] 24 (0,0)):=by
 refine⟨_,rfl,((Below.refl _ W).alloc (Nat.le_refl _) _).alloc (by simp) _,by simp,(BoxT.new W x).alloc _,?_⟩;have h:=World.alloc_heap_new (W.alloc (.cells #[.int .i64 x.k,.int .i64 x.N,.string x.s,.slice x.a x.len x.cap] 24)) (.cells #[.int .i64 0,.int .i64 0,.string ⟨#[]⟩,.slice none 0 0] 24);rw[World.size_alloc] at h;exact h
theorem set_cell4{W:World}{B:Nat}{c0 c1 c2 c3:Value}{t:TypeId}(h:W.heap[B]?=some (.cells #[c0,c1,c2,c3] t (0,0)))(v:Value):
  (W.setCell ⟨B,0,none⟩ v).heap[B]?=some (.cells #[v,c1,c2,c3] t (0,0))∧(W.setCell ⟨B,1,none⟩ v).heap[B]?=some (.cells #[c0,v,c2,c3] t (0,0))∧
  (W.setCell ⟨B,2,none⟩ v).heap[B]?=some (.cells #[c0,c1,v,c3] t (0,0))∧(W.setCell ⟨B,3,none⟩ v).heap[B]?=some (.cells #[c0,c1,c2,v] t (0,0)):=by
 obtain⟨hlt,hk⟩:=Array.getElem?_eq_some_iff.1 h;refine⟨?_,?_,?_,?_⟩
 all_goals
  show(W.heap.modify B _)[B]?=_
  rw[Array.getElem?_eq_getElem (by rw[Array.size_modify];exact hlt),Array.getElem_modify_self,hk];rfl
theorem set4_box{W:World}{B:Nat}{c0 c1 c2 c3:Value}(h:W.heap[B]?=some (.cells #[c0,c1,c2,c3] 24 (0,0)))(x:TV):BoxT (set4 W B 0 x) B x:=by
 have h1:=(set_cell4 h (.int .i64 x.k)).1;have h2:=(set_cell4 h1 (.int .i64 x.N)).2.1;have h3:=(set_cell4 h2 (.string x.s)).2.2.1;exact(set_cell4 h3 (.slice x.a x.len x.cap)).2.2.2
theorem BoxT.frz{W:World}{B:Nat}{x:TV}(h:BoxT W B x):W.frozen? ⟨B,0,none⟩=false∧W.frozen? ⟨B,1,none⟩=false∧W.frozen? ⟨B,2,none⟩=false∧W.frozen? ⟨B,3,none⟩=false:=(zbox_kept h).2
theorem BoxT.below{A B:World}{n k:Nat}{x:TV}(h:BoxT A k x)(hb:Below n A B)(hk:k<n):BoxT B k x:=(hb.block k hk).trans h
def noC:List Nd:=[(0,0,[],0)]
theorem no_holds(D lo:Nat)(hD:1≤D)(W:World):HoldsT D lo W noTerm.val noC:=by
 have h:=holds_leaf noTerm rfl rfl rfl (by show(0:Nat)≤_;omega) lo W;have e:noTerm.nd=(0,0,[],0):=by simp[TV.nd,noTerm]
 rw[e] at h;exact h.mono hD (Nat.le_refl _)
theorem HoldsT.shared{D lo:Nat}{W:World}{v:Value}{c:List Nd}(h:HoldsT D lo W v c){S:Nat→Prop}(hS:∀b,lo≤b→S b):HoldsS D S W v c:=fun m hm hl=>by
 obtain⟨t,h1,h2,h3,h4⟩:=h m hm;exact⟨t,h1,h2 hl,h3.new.blk.mono hS,h4⟩
/-- Whether a part is well made, by its node. -/
def okM:Nd→Bool
 | (k,N,s,len)=>
  if k=1 then decide (0≤N) && decide (N≤1099511627776) && decide (s=[]) && ((len:Int) == 0)
  else if k=2 then decide (s=[]) && ((len:Int) == 0)
  else if k=3 then decide (N=0) && decide ((s.length:Int)≤100) && ((len:Int) == 0)
  else if k=4 then decide (N=0) && decide ((s.length:Int)≤100) && decide (1≤(len:Int)) && decide ((len:Int)≤50)
  else false
theorem bytes_long(s:ByteArray):s.toList.length=s.size:=by rw[ByteArray.toList_eq];simp
theorem ok_m(x:TV):x.ok=okM x.nd:=by
 show wmB x.k x.N x.s x.len=okM (x.k,x.N,x.s.toList,x.len)
 unfold wmB okM;rw[←bytes_long]
theorem okT_m{n:Nat}(t:Tm n):okT t=(code t).all okM:=by
 unfold okT code;rw[List.all_map]
 congr 1
 funext x
 exact ok_m x
open Go.Maps
theorem Tryd.keyed2:Keyed Tryd.prog 2:=int_keyed Tryd.underlying2
theorem key_i64{N:Int}(h0:0≤N)(h1:N≤1099511627776):keyOf Tryd.prog 2 (.int .i64 N)=some (.int .i64 N):=
 keyOf_int_mk Tryd.underlying2 (by simp[Lit.wf,IntKind.min,IntKind.max,IntKind.signed,IntKind.bits];omega)
theorem nodup_le:∀(M:Nat) (l:List Nat),l.Nodup→(∀x∈l,x<M)→l.length≤M
 | 0,l,_,h=>by
  cases l with
  | nil=>simp
  | cons a l=>have:=h a (by simp);omega
 | M+1,l,hn,h=>by
  by_cases hm:M∈l
  ·have h1:=nodup_le M (l.erase M) (hn.erase _) (fun x hx=>by
    have h2:=(List.Nodup.mem_erase_iff hn).1 hx;have h3:=h x h2.2;have h4:=h2.1;omega)
   rw[List.length_erase_of_mem hm] at h1;omega
  ·have h1:=nodup_le M l hn (fun x hx=>by
    have h3:=h x hx
    by_cases e:x=M
    ·subst e;exact(hm hx).elim
    ·omega)
   omega
theorem sub_varNd(σ:Int→List Nd)(N:Int):[varNd N].flatMap (subN σ)=σ N:=by simp[subN,varNd]
theorem sub_sub(σ τ:Int→List Nd)(c:List Nd):(c.flatMap (subN σ)).flatMap (subN τ)=c.flatMap (subN fun N=>(σ N).flatMap (subN τ)):=by
 rw[List.flatMap_assoc];refine flatMap_same c fun x _=>?_;unfold subN
 by_cases h:x.1=1
 ·rw[if_pos h,if_pos h]
 ·rw[if_neg h,if_neg h]
  simp[h]
def stpN(c:List Int)(N:Int):List Int:=if N∈c then c else c++[N]
def renN(f:Int)(c:List Int)(N:Int):List Nd:=[varNd (f+(c.idxOf N:Nat))]
theorem stpN_ext(c:List Int)(N:Int):∃d,stpN c N=c++d:=by
 unfold stpN
 split
 ·exact⟨[],by simp⟩
 ·exact⟨[N],rfl⟩
theorem stpN_mem(c:List Int)(N:Int):N∈stpN c N:=by
 unfold stpN
 split
 ·assumption
 ·simp
theorem stepsN_ext:∀(l:List Nd) (c:List Int),∃d,stepsN stpN c l=c++d
 | [],c=>⟨[],by simp[stepsN]⟩
 | x::l,c=>by
  have e:stepsN stpN c (x::l)=stepsN stpN (if x.1=1 then stpN c x.2.1 else c) l:=rfl;rw[e];obtain⟨d,hd⟩:=stepsN_ext l (if x.1=1 then stpN c x.2.1 else c);rw[hd]
  split
  ·obtain⟨d',hd'⟩:=stpN_ext c x.2.1
   exact⟨d'++d,by rw[hd',List.append_assoc]⟩
  ·exact⟨d,rfl⟩
theorem idxOf_ext{c:List Int}{N:Int}(h:N∈c)(d:List Int):(c++d).idxOf N=c.idxOf N:=by
 rw[List.idxOf_append,if_pos h]
theorem varV_holds(M:Int)(lo:Nat)(W:World):HoldsT 1 lo W (varV M).val [varNd M]:=by
 have hh:=holds_leaf (varV M) rfl rfl rfl (by simp[varV,ByteArray.size]) lo W;rw[varV_nd] at hh;exact hh
/-- The variables of a row of parts get numbers from f on, in the order of their coming. -/
def canon(f:Int)(c:List Nd):List Nd:=c.flatMap (subN (renN f (stepsN stpN [] c)))
def IsVarOf(c:List Nd)(N:Int):Prop:= ∃x∈c,x.1=1∧x.2.1=N
theorem sub_congr_on{σ τ:Int→List Nd}{c:List Nd}(h:∀N,IsVarOf c N→σ N=τ N):c.flatMap (subN σ)=c.flatMap (subN τ):=
 flatMap_same c fun x hx=>by
  unfold subN
  by_cases hk:x.1=1
  ·rw[if_pos hk,if_pos hk,h _ ⟨x,hx,hk,rfl⟩]
  ·rw[if_neg hk,if_neg hk]
theorem steps_mem:∀(c:List Nd) (acc:List Int) (N:Int),N∈stepsN stpN acc c↔N∈acc∨IsVarOf c N
 | [],acc,N=>by simp[stepsN,IsVarOf]
 | x::c,acc,N=>by
  have e:stepsN stpN acc (x::c)=stepsN stpN (if x.1=1 then stpN acc x.2.1 else acc) c:=rfl;rw[e,steps_mem c]
  have hv:IsVarOf (x::c) N↔(x.1=1∧x.2.1=N)∨IsVarOf c N:=by
   unfold IsVarOf;constructor
   ·rintro⟨y,hy,h⟩
    rcases List.mem_cons.1 hy with rfl | hy
    ·exact .inl h
    ·exact .inr ⟨y,hy,h⟩
   ·rintro(h | ⟨y,hy,h⟩)
    ·exact⟨x,by simp,h⟩
    ·exact⟨y,by simp[hy],h⟩
  rw[hv]
  by_cases hk:x.1=1
  ·rw[if_pos hk]
   unfold stpN
   split
   ·rename_i hm
    constructor
    ·rintro(h | h)
     ·exact .inl h
     ·exact .inr (.inr h)
    ·rintro(h | ⟨_,rfl⟩ | h)
     ·exact .inl h
     ·exact .inl hm
     ·exact .inr h
   ·constructor
    ·rintro(h | h)
     ·rcases List.mem_append.1 h with h | h
      ·exact .inl h
      ·simp at h;exact .inr (.inl ⟨hk,h.symm⟩)
     ·exact .inr (.inr h)
    ·rintro(h | ⟨_,rfl⟩ | h)
     ·exact .inl (List.mem_append_left _ h)
     ·exact .inl (List.mem_append_right _ (by simp))
     ·exact .inr h
  ·rw[if_neg hk]
   constructor
   ·rintro(h | h)
    ·exact .inl h
    ·exact .inr (.inr h)
   ·rintro(h | ⟨h,_⟩ | h)
    ·exact .inl h
    ·exact(hk h).elim
    ·exact .inr h
/-- A renaming that keeps unlike variables unlike. -/
def InjOn(ρ:Int→Int)(P:Int→Prop):Prop:= ∀M N,P M→P N→ρ M=ρ N→M=N
theorem idxOf_map{ρ:Int→Int}:∀(l:List Int) (N:Int),(∀M∈l,ρ M=ρ N→M=N)→(l.map ρ).idxOf (ρ N)=l.idxOf N
 | [],N,_=>rfl
 | M::l,N,h=>by
  rw[List.map_cons,List.idxOf_cons,List.idxOf_cons]
  by_cases e:M=N
  ·subst e;simp
  ·have e':¬ρ M=ρ N:=fun h'=>e (h M (by simp) h')
   simp only[beq_eq_false_iff_ne.2 e,beq_eq_false_iff_ne.2 e'];rw[idxOf_map l N fun M hM=>h M (by simp[hM])]
theorem steps_ren{ρ:Int→Int}{P:Int→Prop}(hρ:InjOn ρ P):∀(c:List Nd) (acc:List Int),(∀N∈acc,P N)→(∀N,IsVarOf c N→P N)→stepsN stpN (acc.map ρ) (c.flatMap (subN fun N=>[varNd (ρ N)]))=(stepsN stpN acc c).map ρ
 | [],acc,_,_=>rfl
 | x::c,acc,ha,hc=>by
  have hc':∀N,IsVarOf c N→P N:=fun N ⟨y,hy,h⟩=>hc N ⟨y,by simp[hy],h⟩;rw[List.flatMap_cons,stepsN_append];have e:stepsN stpN acc (x::c)=stepsN stpN (if x.1=1 then stpN acc x.2.1 else acc) c:=rfl;rw[e]
  by_cases hk:x.1=1
  ·have hP:P x.2.1:=hc _ ⟨x,by simp,hk,rfl⟩
   rw[if_pos hk]
   have e1:stepsN stpN (acc.map ρ) (subN (fun N=>[varNd (ρ N)]) x)=(stpN acc x.2.1).map ρ:=by
    unfold subN;rw[if_pos hk]
    show stpN (acc.map ρ) (ρ x.2.1)=_
    unfold stpN
    by_cases hm:x.2.1∈acc
    ·rw[if_pos hm,if_pos (List.mem_map.2 ⟨_,hm,rfl⟩)]
    ·rw[if_neg hm,if_neg]
     ·simp
     ·intro h
      obtain⟨M,hM,e⟩:=List.mem_map.1 h;exact hm (hρ M _ (ha M hM) hP e▸hM)
   rw[e1];refine steps_ren hρ c _ (fun N hN=>?_) hc';unfold stpN at hN
   split at hN
   ·exact ha N hN
   ·rcases List.mem_append.1 hN with hN | hN
    ·exact ha N hN
    ·simp at hN;subst hN;exact hP
  ·rw[if_neg hk]
   have e1:stepsN stpN (acc.map ρ) (subN (fun N=>[varNd (ρ N)]) x)=acc.map ρ:=by
    unfold subN;rw[if_neg hk]
    show(if x.1=1 then _ else _)=_
    rw[if_neg hk]
   rw[e1];exact steps_ren hρ c acc ha hc'
theorem canon_ren{ρ:Int→Int}{c:List Nd}(hρ:InjOn ρ (IsVarOf c))(f:Int):canon f (c.flatMap (subN fun N=>[varNd (ρ N)]))=canon f c:=by
 have h1:=steps_ren hρ c [] (fun N h=>by cases h) (fun N h=>h);rw[List.map_nil] at h1;unfold canon;rw[h1,sub_sub];refine sub_congr_on fun N hN=>?_;rw[sub_varNd];unfold renN;rw[idxOf_map];intro M hM e
 rcases(steps_mem c [] M).1 hM with h | h
 ·cases h
 ·exact hρ M N h hN e
end Go.Proofs.YtjbdkbaacjfecaaDoor
