import Derived.Test.YteaiefjmcinljaaGreatDoorLr
import Derived.Test.YteaiefjmcinljaaGreatDoorGs
import Derived.Deep.QuietTactic
import Derived.BigQuiet
import Derived.Deep.RegionWith
import Derived.Maps.AppendAt
import Derived.Deep.DeepMust
namespace Go.Proofs.YteaiefjmcinljaaGreatDoor
set_option maxHeartbeats 1000000
set_option maxRecDepth 100000
open Go.RowKit Go.Shelf
theorem empty_list:(⟨#[]⟩:ByteArray).toList=[]:=by rw[ByteArray.toList_eq]
theorem varV_nd(N:Int):(varV N).nd=varNd N:=by simp only[varV,varNd,TV.nd,empty_list]
theorem variable_becomes(w:World):Becomes 78 #[] (fun N=>[varNd N]) 1 w:=fun N W _ _ _=>
 (variable_any N W).mono fun _ W' h=>⟨_,h.1,h.2,by have hh:=holds_leaf (varV N) rfl rfl rfl (by simp[varV,ByteArray.size]) W.heap.size W';rw[varV_nd] at hh;exact hh⟩
theorem sub_var{n:Nat}{t:Tm n}(h:okT t=true):(code t).flatMap (subN fun N=>[varNd N])=code t:=by
 have key:∀l:List TV,l.all TV.ok=true→(l.map TV.nd).flatMap (subN fun N=>[varNd N])=l.map TV.nd:=by
  intro l
  induction l with
  | nil=>intro _;rfl
  | cons x l ih=>
   intro hl
   rw[List.all_cons,Bool.and_eq_true] at hl
   rw[List.map_cons,List.flatMap_cons,ih hl.2]
   have:subN (fun N=>[varNd N]) x.nd=[x.nd]:=by
    unfold subN
    by_cases hk:x.nd.1=1
    ·rw[if_pos hk]
     have hw:=hl.1
     unfold TV.ok at hw
     rcases wm_cases hw with⟨h1,_,_,h4,h5⟩ | ⟨h1,_⟩ | ⟨h1,_⟩
     ·simp[varNd,TV.nd,h1,h4,h5]
     ·simp only[TV.nd] at hk;omega
     ·simp only[TV.nd] at hk;omega
    ·rw[if_neg hk]
   rw[this];rfl
 exact key (parts t) h
theorem copy_any{n:Nat}(t:Tm n)(W:World)(hT:IsT W.heap.size W t)(hok:okT t=true):
  Calls Tryz.prog 47 #[t.tv.val] W fun e W'=> ∃x:TV,e=.returned x.val∧Below W.heap.size W W'∧HoldsT (n+1) W.heap.size W' x.val (code t):=by
 have hB:Below W.heap.size W ((W.alloc (.cells #[.int .i64 t.tv.k,.int .i64 t.tv.N,.string t.tv.s,.slice t.tv.a t.tv.len t.tv.cap] 34)).alloc (.cells #[.int .i64 0,.int .i64 0,.string ⟨#[]⟩,.slice none 0 0] 34)):=((Below.refl _ W).alloc (Nat.le_refl _) _).alloc (by simp) _
 have hr:=replace_any 78 #[] (fun N=>[varNd N]) 1 ((W.alloc (.cells #[.int .i64 t.tv.k,.int .i64 t.tv.N,.string t.tv.s,.slice t.tv.a t.tv.len t.tv.cap] 34)).alloc (.cells #[.int .i64 0,.int .i64 0,.string ⟨#[]⟩,.slice none 0 0] 34)) (Nat.le_refl _) (enters_of Tryz.func78 (by kernel_rfl) rfl) (variable_becomes _) n t _ (Below.refl _ _) ((hT.below hB).mono hB.size) hok
 rw[sub_var hok] at hr
 clear hT hok
 simp only[TV.val] at hr⊢
 go_enter Tryz.func47,Tryz.ntmps47
 go_wp2_with fail
 refine hr.mono ?_
 clear hr
 rintro e W1 ⟨v,rfl,hb1,hv⟩
 obtain⟨t1,ht1,-⟩:=hv _ (Nat.le_refl _)
 subst ht1
 have hbk:=hb1.block (W.heap.size+1) (by simp)
 have hnew:=World.alloc_heap_new (W.alloc (.cells #[.int .i64 t.tv.k,.int .i64 t.tv.N,.string t.tv.s,.slice t.tv.a t.tv.len t.tv.cap] 34)) (.cells #[.int .i64 0,.int .i64 0,.string ⟨#[]⟩,.slice none 0 0] 34)
 rw[World.size_alloc] at hnew
 obtain⟨⟨z0,z1,z2,z3⟩,y0,y1,y2,y3⟩:=zbox_kept (hbk.trans hnew)
 have hb2:=below_two hb1
 have hsz:((W.alloc (.cells #[.int .i64 t.tv.k,.int .i64 t.tv.N,.string t.tv.s,.slice t.tv.a t.tv.len t.tv.cap] 34)).alloc (.cells #[.int .i64 0,.int .i64 0,.string ⟨#[]⟩,.slice none 0 0] 34)).heap.size=W.heap.size+2:=by simp
 rw[hsz] at hv
 have hfin:HoldsT (n+1) W.heap.size (set4 W1 (W.heap.size+1) 0 t1.tv) t1.tv.val (code t):=(holds_set4 hv (by omega) 0 t1.tv).mono (Nat.le_refl _) (by omega)
 have hbf:Below W.heap.size W (set4 W1 (W.heap.size+1) 0 t1.tv):=set4_below hb2 (by omega) 0 t1.tv
 have HF:=hide hfin
 have HB:=hide hbf
 clear hfin hbf hsz hv hb1 hb2 hbk hnew hB
 simp only[TV.val]
 go_wp2_with fail
 exact bodyPost_ret (v:=t1.tv.val) (by simp[results,Tryz.results47,go_sem,TV.val,z0,z1,z2,z3]) rfl ⟨t1.tv,rfl,unhide HB,unhide HF⟩
/-- A list of binds in memory. -/
def IsL(n₀:Nat)(W:World){n:Nat}(a:Option Addr)(len:Nat)(bs:List (Int×Tm n)):Prop:=
 len=bs.length∧len≤9223372036854775807∧(bs=[]∨∃b off,a=some ⟨b,off,none⟩∧b<n₀∧∀j p,bs[j]?=some p→W.cell? ⟨b,off+j*5,none⟩=some (.int .i64 p.1)∧cellsAt W b (off+j*5+1) p.2.tv∧IsT n₀ W p.2)
/-- Rising by Var. -/
def Rises{n:Nat}(bs:List (Int×Tm n)):Prop:= ∀(i j:Nat) (p q:Int×Tm n),bs[i]?=some p→bs[j]?=some q→i<j→p.1<q.1
/-- The binds by their codes. -/
def cb{n:Nat}(bs:List (Int×Tm n)):List (Int×List Nd):=bs.map fun p=>(p.1,code p.2)
/-- What a variable becomes. -/
def lookC(c:List (Int×List Nd))(N:Int):List Nd:=match c.find? (fun p=>p.1 == N) with | some p=>p.2 | none=>[varNd N]
/-- A substitution: numbers of variables, rising. -/
def Subst{n:Nat}(bs:List (Int×Tm n)):Prop:=(∀p∈bs,0≤p.1∧p.1≤1099511627776)∧Rises bs
/-- What isRising answers. -/
def RiseSays{n:Nat}(bs:List (Int×Tm n))(e:Ending):Prop:= ∃f:Bool,e=.returned (.bool f)∧(f=true↔Subst bs)
/-- A list of binds and where it lies. -/
structure BL (n:Nat) where
 a:Option Addr
 len:Nat
 cap:Nat
 bs:List (Int×Tm n)
def okB{n:Nat}(L:BL n):Prop:= ∀p∈L.bs,okT p.2=true
/-- What checkBinds answers. -/
def BindSays{n:Nat}(Ls:List (BL n))(e:Ending):Prop:= ∃r:Int,e=.returned (.int .i64 r)∧((¬∀L∈Ls,okB L)→r=2)∧((∀L∈Ls,okB L)→(¬∀L∈Ls,Subst L.bs)→r=1)∧((∀L∈Ls,okB L)→(∀L∈Ls,Subst L.bs)→r=0)
/-- The first j have it. -/
def Fst{α:Type}(p:α→Prop)(l:List α)(j:Nat):Prop:= ∀i x,l[i]?=some x→i<j→p x
/-- The term's box and the cell of the result, at the head of a call's own memory. -/
structure Head (w W:World) (x:TV):Prop where
 below:Below w.heap.size w W
 ba:BoxT W w.heap.size x
 bz:W.heap[w.heap.size+1]?=some (.cells #[.int .i64 0,.int .i64 0,.string ⟨#[]⟩,.slice none 0 0] 34 (0,0))
theorem Head.lt{w W:World}{x:TV}(h:Head w W x):w.heap.size+1<W.heap.size:=(Array.getElem?_eq_some_iff.1 h.bz).1
theorem Head.next{w W W':World}{x:TV}(h:Head w W x)(hb:Below W.heap.size W W'):Head w W' x:=
 ⟨h.below.trans (hb.mono h.below.size),(hb.block _ h.ba.lt).trans h.ba,(hb.block _ h.lt).trans h.bz⟩
theorem Head.new(w:World)(x:TV):Head w ((w.alloc (.cells #[.int .i64 x.k,.int .i64 x.N,.string x.s,.slice x.a x.len x.cap] 34)).alloc (.cells #[.int .i64 0,.int .i64 0,.string ⟨#[]⟩,.slice none 0 0] 34)) x:=by
 have h:=World.alloc_heap_new (w.alloc (.cells #[.int .i64 x.k,.int .i64 x.N,.string x.s,.slice x.a x.len x.cap] 34)) (.cells #[.int .i64 0,.int .i64 0,.string ⟨#[]⟩,.slice none 0 0] 34)
 rw[World.size_alloc] at h
 exact⟨((Below.refl _ w).alloc (Nat.le_refl _) _).alloc (by simp) _,(BoxT.new w x).alloc _,h⟩
set_option maxHeartbeats 400000
/-- One storey more. -/
def Tm.lift:{n:Nat}→Tm n→Tm (n+1)
 | 0,t=>Empty.elim t
 | _+1,t=>(t.tv,t.kids.map Tm.lift)
/-- Every block of the term's own memory is in S. -/
def BlkT(S:Nat→Prop):{n:Nat}→Tm n→Prop
 | 0,_=>True
 | _+1,t=>(t.kids=[]∨∃b off,t.tv.a=some ⟨b,off,none⟩∧S b)∧∀u∈t.kids,BlkT S u
theorem BlkT.mono{S S':Nat→Prop}(h:∀b,S b→S' b):∀{n:Nat} {t:Tm n},BlkT S t→BlkT S' t:=by
 intro n
 induction n with
 | zero=>intro t;exact Empty.elim t
 | succ n ih=>
  intro t ht
  obtain⟨h1,h2⟩:=ht
  refine⟨?_,fun u hu=>ih (h2 u hu)⟩
  rcases h1 with h1 | ⟨b,off,ha,hb⟩
  ·exact .inl h1
  ·exact .inr ⟨b,off,ha,h b hb⟩
theorem BlkT.and{S S':Nat→Prop}:∀{n:Nat} {t:Tm n},BlkT S t→BlkT S' t→BlkT (fun b=>S b∧S' b) t:=by
 intro n
 induction n with
 | zero=>intro t;exact Empty.elim t
 | succ n ih=>
  intro t ht ht'
  obtain⟨h1,h2⟩:=ht
  obtain⟨k1,k2⟩:=ht'
  refine⟨?_,fun u hu=>ih (h2 u hu) (k2 u hu)⟩
  rcases h1 with h1 | ⟨b,off,ha,hb⟩
  ·exact .inl h1
  ·rcases k1 with k1 | ⟨b',off',ha',hb'⟩
   ·exact .inl k1
   ·rw[ha] at ha';simp at ha';obtain⟨rfl,rfl⟩:=ha'
    exact .inr ⟨b,off,ha,hb,hb'⟩
theorem IsT.blk{n₀:Nat}{W:World}:∀{n:Nat} {t:Tm n},IsT n₀ W t→BlkT (· <n₀) t:=by
 intro n
 induction n with
 | zero=>intro t;exact Empty.elim t
 | succ n ih=>
  intro t ht
  obtain⟨_,_,_,h4⟩:=ht
  rcases h4 with h4 | ⟨b,off,ha,hb,hk⟩
  ·exact⟨.inl h4,fun u hu=>by rw[h4] at hu;cases hu⟩
  ·exact⟨.inr ⟨b,off,ha,hb⟩,fun u hu=>by
    obtain⟨j,hj⟩:=List.mem_iff_getElem?.1 hu
    exact ih (hk j u hj).2⟩
theorem NewT.blk{lo:Nat}:∀{n:Nat} {t:Tm n},NewT lo t→BlkT (lo≤ ·) t:=by
 intro n
 induction n with
 | zero=>intro t;exact Empty.elim t
 | succ n ih=>
  intro t ht
  exact⟨ht.1,fun u hu=>ih (ht.2 u hu)⟩
theorem IsT.fromS{n₀:Nat}{S:Nat→Prop}{A B:World}(hs:∀b,S b→B.heap[b]?=A.heap[b]?):∀{n:Nat} {t:Tm n},IsT n₀ A t→BlkT S t→IsT n₀ B t:=by
 intro n
 induction n with
 | zero=>intro t;exact Empty.elim t
 | succ n ih=>
  intro t ht hn
  obtain⟨h1,h2,h3,h4⟩:=ht
  obtain⟨k1,k2⟩:=hn
  rcases h4 with h4 | ⟨b,off,ha,hb,hk⟩
  ·exact⟨h1,h2,h3,.inl h4⟩
  ·rcases k1 with k1 | ⟨b',off',ha',hlo⟩
   ·exact⟨h1,h2,h3,.inl k1⟩
   ·rw[ha] at ha'
    simp at ha'
    obtain⟨rfl,rfl⟩:=ha'
    refine⟨h1,h2,h3,.inr ⟨b,off,ha,hb,fun j u hu=>?_⟩⟩
    obtain⟨hc,hT⟩:=hk j u hu
    exact⟨hc.kept (hs b hlo),ih hT (k2 u (List.mem_of_getElem? hu))⟩
theorem lift_tv:∀{n:Nat} (t:Tm n),t.lift.tv=t.tv
 | 0,t=>Empty.elim t
 | _+1,_=>rfl
theorem flatMap_same{α β:Type}{f g:α→List β}:∀(l:List α),(∀u∈l,f u=g u)→l.flatMap f=l.flatMap g
 | [],_=>rfl
 | a::l,h=>by rw[List.flatMap_cons,List.flatMap_cons,h a (by simp),flatMap_same l (fun u hu=>h u (by simp[hu]))]
theorem lift_code:∀{n:Nat} (t:Tm n),code t.lift=code t:=by
 intro n
 induction n with
 | zero=>intro t;exact Empty.elim t
 | succ n ih=>
  intro t
  obtain⟨x,kids⟩:=t
  show code (n:=n+1+1) ((x,kids.map Tm.lift):TV×List (Tm (n+1)))=_
  rw[code_succ,code_succ,List.flatMap_map]
  congr 1
  exact flatMap_same kids (fun u _=>ih u)
theorem lift_isT{n₀:Nat}{W:World}:∀{n:Nat} {t:Tm n},IsT n₀ W t→n+1≤2199023255552→IsT n₀ W t.lift:=by
 intro n
 induction n with
 | zero=>intro t;exact Empty.elim t
 | succ n ih=>
  intro t ht hlim
  obtain⟨x,kids⟩:=t
  obtain⟨h1,h2,h3,h4⟩:=ht
  simp only[Tm.tv,Tm.kids] at h1 h2 h3 h4
  have hl:x.len=(kids.map Tm.lift).length:=by simpa using h1
  rcases h4 with h4 | ⟨b,off,ha,hb,hk⟩
  ·exact⟨hl,⟨h2.1,h2.2.1,hlim⟩,h3,.inl (by show kids.map Tm.lift=[];rw[h4];rfl)⟩
  ·refine⟨hl,⟨h2.1,h2.2.1,hlim⟩,h3,.inr ⟨b,off,ha,hb,fun j u hu=>?_⟩⟩
   have hu':(kids.map Tm.lift)[j]?=some u:=hu
   rw[List.getElem?_map] at hu'
   obtain⟨v,hv,rfl⟩:=Option.map_eq_some_iff.1 hu'
   obtain⟨k1,k2⟩:=hk j v hv
   exact⟨by rw[lift_tv];exact k1,ih k2 (by omega)⟩
theorem lift_blk{S:Nat→Prop}:∀{n:Nat} {t:Tm n},BlkT S t→BlkT S t.lift:=by
 intro n
 induction n with
 | zero=>intro t;exact Empty.elim t
 | succ n ih=>
  intro t ht
  obtain⟨x,kids⟩:=t
  obtain⟨h1,h2⟩:=ht
  refine⟨?_,fun u hu=>?_⟩
  ·rcases h1 with h1 | h1
   ·exact .inl (by show kids.map Tm.lift=[];rw[show kids=[] from h1];rfl)
   ·exact .inr h1
  ·have hu':u∈kids.map Tm.lift:=hu
   obtain⟨v,hv,rfl⟩:=List.mem_map.1 hu'
   exact ih (h2 v hv)
/-- The value v is a term of the code c, at every number of storeys from D on, its memory in S. -/
def HoldsS(D:Nat)(S:Nat→Prop)(W:World)(v:Value)(c:List Nd):Prop:=
 ∀m,D≤m→m≤2199023255552→∃t:Tm m,v=t.tv.val∧IsT W.heap.size W t∧BlkT S t∧code t=c
theorem holdsS_of{n:Nat}{t:Tm n}{S:Nat→Prop}{W:World}(hT:IsT W.heap.size W t)(hS:BlkT S t):HoldsS n S W t.tv.val (code t):=fun m hm hl=>by
 obtain⟨k,rfl⟩:∃k,m=n+k:=⟨m-n,by omega⟩
 clear hm
 induction k with
 | zero=>exact⟨t,rfl,hT,hS,rfl⟩
 | succ k ih=>
  obtain⟨t',h1,h2,h3,h4⟩:=ih (by omega)
  exact⟨t'.lift,by rw[lift_tv];exact h1,lift_isT h2 hl,lift_blk h3,by rw[lift_code];exact h4⟩
theorem HoldsT.holdsS{D lo:Nat}{W:World}{v:Value}{c:List Nd}(h:HoldsT D lo W v c):HoldsS D (lo≤ ·) W v c:=fun m hm hl=>by
 obtain⟨t,h1,h2,h3,h4⟩:=h m hm
 exact⟨t,h1,h2 hl,h3.new.blk,h4⟩
theorem HoldsS.mono{D D':Nat}{S S':Nat→Prop}{W:World}{v:Value}{c:List Nd}(h:HoldsS D S W v c)(hD:D≤D')(hS:∀b,S b→S' b):HoldsS D' S' W v c:=fun m hm hl=>by
 obtain⟨t,h1,h2,h3,h4⟩:=h m (by omega) hl
 exact⟨t,h1,h2,h3.mono hS,h4⟩
theorem HoldsS.below{D:Nat}{S:Nat→Prop}{A B:World}{v:Value}{c:List Nd}(h:HoldsS D S A v c)(hb:Below A.heap.size A B):HoldsS D S B v c:=fun m hm hl=>by
 obtain⟨t,h1,h2,h3,h4⟩:=h m hm hl
 exact⟨t,h1,(h2.below hb).mono hb.size,h3,h4⟩
theorem HoldsS.fromS{D:Nat}{S:Nat→Prop}{A B:World}{v:Value}{c:List Nd}(h:HoldsS D S A v c)(hs:∀b,S b→b<A.heap.size→B.heap[b]?=A.heap[b]?)(hsz:A.heap.size≤B.heap.size):HoldsS D S B v c:=fun m hm hl=>by
 obtain⟨t,h1,h2,h3,h4⟩:=h m hm hl
 exact⟨t,h1,(h2.fromS (S:=fun b=>S b∧b<A.heap.size) (fun b hb=>hs b hb.1 hb.2) (h3.and h2.blk)).mono hsz,h3,h4⟩
theorem v_any(N:Int)(w:World):Calls Tryz.prog 99 #[.int .i64 N] w fun e W'=>e=.returned (varV N).val∧Below w.heap.size w W':=by
 go_enter Tryz.func99,Tryz.ntmps99
 go_wp2
 exact bodyPost_ret (v:=(varV N).val) (by simp[results,Tryz.results99,go_sem,varV,TV.val]) rfl ⟨rfl,(Below.refl _ _).alloc (Nat.le_refl _) _⟩
/-- What Find answers. -/
def FindSays{n:Nat}(bs:List (Int×Tm n))(N:Int)(ns:Nat)(w:World)(e:Ending)(W':World):Prop:=
 ∃(x:TV) (f:Bool),e=.returned (.tuple #[x.val,.bool f])∧Below w.heap.size w W'∧HoldsS (n+1) (· <ns) W' x.val (lookC (cb bs) N)∧(f=true↔∃p∈bs,p.1=N)
def TV.row(x:TV):List Value:=[.int .i64 x.k,.int .i64 x.N,.string x.s,.slice x.a x.len x.cap]
theorem row_at:∀(l:List TV) (j:Nat) (x:TV),l[j]?=some x→(l.flatMap TV.row)[j*4]?=some (.int .i64 x.k)∧(l.flatMap TV.row)[j*4+1]?=some (.int .i64 x.N)∧(l.flatMap TV.row)[j*4+2]?=some (.string x.s)∧(l.flatMap TV.row)[j*4+3]?=some (.slice x.a x.len x.cap)
 | [],j,x,h=>by simp at h
 | y::l,0,x,h=>by simp at h;subst h;simp[TV.row]
 | y::l,j+1,x,h=>by
  have ih:=row_at l j x (by simpa using h)
  have hs:∀q,((y::l).flatMap TV.row)[q+4]?=(l.flatMap TV.row)[q]?:=fun q=>by
   rw[List.flatMap_cons,List.getElem?_append_right (by simp[TV.row])]
   simp[TV.row]
  refine⟨?_,?_,?_,?_⟩
  ·rw[show(j+1)*4=j*4+4 by omega,hs];exact ih.1
  ·rw[show(j+1)*4+1=j*4+1+4 by omega,hs];exact ih.2.1
  ·rw[show(j+1)*4+2=j*4+2+4 by omega,hs];exact ih.2.2.1
  ·rw[show(j+1)*4+3=j*4+3+4 by omega,hs];exact ih.2.2.2
theorem owns_cells{W:World}{base:Nat}{v:Value}{l:List TV}(h:W.ownsRow base 34 4 v l.length (l.flatMap TV.row)):
  (v=.slice none 0 0∧l=[])∨∃g cap,v=.slice (some ⟨g,0,none⟩) l.length cap∧base≤g∧g<W.heap.size∧∀j x,l[j]?=some x→cellsAt W g (j*4) x:=by
 obtain⟨_,h2⟩:=h
 rcases h2 with⟨hv,hn⟩ | ⟨g,cap,cur,hv,hg,hb,hnc,_,hcs,htk⟩
 ·exact .inl ⟨hv,List.length_eq_zero_iff.1 hn⟩
 ·refine .inr ⟨g,cap,hv,hg,(Array.getElem?_eq_some_iff.1 hb).1,fun j x hx=>?_⟩
  have hj:=(List.getElem?_eq_some_iff.1 hx).1
  have hc:∀q u,(l.flatMap TV.row)[q]?=some u→W.cell? ⟨g,q,none⟩=some u:=fun q u hq=>by
   rw[←htk,List.getElem?_take] at hq
   split at hq
   ·simp[World.cell?,hb]
    simpa using hq
   ·cases hq
  obtain⟨r0,r1,r2,r3⟩:=row_at l j x hx
  exact⟨hc _ _ r0,hc _ _ r1,hc _ _ r2,hc _ _ r3⟩
theorem owns_below{W W':World}{base:Nat}{e:TypeId}{sz:Nat}{v:Value}{n:Nat}{xs:List Value}(h:W.ownsRow base e sz v n xs)(hb:∀g,v.ownBlock=some g→W'.heap[g]?=W.heap[g]?):W'.ownsRow base e sz v n xs:=by
 obtain⟨h1,h2⟩:=h
 refine⟨h1,?_⟩
 rcases h2 with h2 | ⟨g,cap,cur,hv,hg,hbk,r⟩
 ·exact .inl h2
 ·subst hv
  exact .inr ⟨g,cap,cur,rfl,hg,(hb g rfl).trans hbk,r⟩
theorem owns_lt{W:World}{base:Nat}{e:TypeId}{sz:Nat}{v:Value}{n:Nat}{xs:List Value}(h:W.ownsRow base e sz v n xs){g:Nat}(hg:v.ownBlock=some g):base≤g∧g<W.heap.size:=by
 obtain⟨h1,h2⟩:=h
 rcases h2 with⟨hv,_⟩ | ⟨g',cap,cur,hv,hg',hbk,r⟩
 ·subst hv;simp[Value.ownBlock] at hg
 ·subst hv
  simp[Value.ownBlock] at hg
  subst hg
  exact⟨hg',(Array.getElem?_eq_some_iff.1 hbk).1⟩
/-- Terms that were made one by one, and whose cells a call keeps in a row of its own: 'v' the row, 'c' their codes. -/
structure Made (D:Nat) (S:Nat→Prop) (base:Nat) (W:World) (v:Value) (l:List TV) (c:List Nd):Prop where
 owns:W.ownsRow base 34 4 v l.length (l.flatMap TV.row)
 kids:∀M,D≤M→M≤2199023255552→∃ks:List (Tm M),ks.map Tm.tv=l∧(∀u∈ks,IsT W.heap.size W u∧BlkT (fun b=>v.ownBlock≠some b∧S b) u)∧ks.flatMap code=c
theorem Made.zero(D:Nat)(S:Nat→Prop)(base:Nat)(W:World):Made D S base W (.slice none 0 0) [] []:=
 ⟨⟨rfl,.inl ⟨rfl,rfl⟩⟩,fun _ _ _=>⟨[],rfl,(fun u hu=>by cases hu),rfl⟩⟩
theorem Made.next{D base:Nat}{S:Nat→Prop}{W W5 w':World}{v v':Value}{l:List TV}{c c':List Nd}{x:TV}(h:Made D S base W v l c)(hb:Below W.heap.size W W5)(hx:HoldsS D (fun b=>S b∧v.ownBlock≠some b) W5 x.val c')
  (hown:w'.ownsRow base 34 4 v' (l.length+1) (l.flatMap TV.row++x.row)) (hg:(W5.alloc (.cells #[.int .i64 x.k,.int .i64 x.N,.string x.s,.slice x.a x.len x.cap] 34)).grownBy w' v.ownBlock)
  (hbk:v'.ownBlock=v.ownBlock∨v'.ownBlock=some (W5.heap.size+1)):Made D S base w' v' (l++[x]) (c++c'):=by
 refine⟨by simpa[List.flatMap_append] using hown,fun M hM hlim=>?_⟩
 obtain⟨ks,k1,k2,k3⟩:=h.kids M hM hlim
 obtain⟨u,hu,hT,hS,hc⟩:=hx M hM hlim
 have hux:u.tv=x:=by
  simp only[TV.val,Value.agg.injEq] at hu
  simp at hu
  obtain⟨e1,e2,e3,e4,e5,e6⟩:=hu
  cases hy:u.tv;cases x;simp_all
 have hsz:W5.heap.size+1≤w'.heap.size:=by have:=hg.size;simpa using this
 have hsame:∀b,b<W5.heap.size→v.ownBlock≠some b→w'.heap[b]?=W5.heap[b]?:=fun b hb1 hne=>
  (hg.block b (by simp;omega) (fun e=>hne e.symm)).trans (Below.heap_alloc _ _ _ hb1)
 have key:∀z:Tm M,IsT W5.heap.size W5 z→BlkT (fun b=>v.ownBlock≠some b∧S b) z→IsT w'.heap.size w' z∧BlkT (fun b=>v'.ownBlock≠some b∧S b) z:=fun z hz hzS=>by
  have hz2:=hzS.and hz.blk
  refine⟨(hz.fromS (fun b hb'=>hsame b hb'.2 hb'.1.1) hz2).mono (by omega),hz2.mono fun b hb'=>⟨?_,hb'.1.2⟩⟩
  rcases hbk with e | e
  ·rw[e];exact hb'.1.1
  ·rw[e];intro e';simp at e';have:=hb'.2;omega
 refine⟨ks++[u],by simp[k1,hux],fun z hz=>?_,by simp[k3,hc]⟩
 rcases List.mem_append.1 hz with hz | hz
 ·obtain⟨z1,z2⟩:=k2 z hz
  exact key z ((z1.below hb).mono hb.size) z2
 ·simp at hz
  subst hz
  exact key z hT (hS.mono fun b h=>⟨h.2,h.1⟩)
/-- Old memory (below ns), or laid since. -/
def Mix(ns lo:Nat)(b:Nat):Prop:=b<ns∨lo≤b
theorem addr_add(b o n:Nat):Addr.add ⟨b,o,none⟩ n=⟨b,o+n,none⟩:=by
 unfold Addr.add;split
 ·rename_i h;subst h;rfl
 ·rfl
theorem new_cells{W5:World}{x:TV}:∀j u,x.row[j]?=some u→(W5.alloc (.cells #[.int .i64 x.k,.int .i64 x.N,.string x.s,.slice x.a x.len x.cap] 34)).cell? ((⟨W5.heap.size,0,none⟩:Addr).add j)=some u:=by
 intro j u hj
 rw[addr_add,Nat.zero_add]
 match j,hj with
 | 0,hj=>simp[TV.row] at hj;subst hj;simp
 | 1,hj=>simp[TV.row] at hj;subst hj;simp
 | 2,hj=>simp[TV.row] at hj;subst hj;simp
 | 3,hj=>simp[TV.row] at hj;subst hj;simp
 | j+4,hj=>simp[TV.row] at hj
theorem row_one{x:TV}:∀u∈x.row,u.oneCell'=true:=by
 intro u hu
 simp[TV.row] at hu
 rcases hu with rfl | rfl | rfl | rfl <;> rfl
theorem args_end{D:Nat}{ns:Nat}{W wr:World}{k N:Int}{s:ByteArray}{len:Nat}{v:Value}{l:List TV}{c:List Nd}(hl:l.length=len)(hl50:len≤50)(hs:s.size≤9223372036854775807)(hB:Below W.heap.size W wr)(hns:ns≤W.heap.size)
  (hm:Made D (Mix ns (W.heap.size+2)) (W.heap.size+2) wr v l c):
  ∃a' cap',v=.slice a' len cap'∧(let x:TV:=⟨k,N,s,a',len,cap'⟩
   Below W.heap.size W (set4 (wr.setCell ⟨W.heap.size,3,none⟩ v) (W.heap.size+1) 0 x)∧HoldsS (D+1) (Mix ns W.heap.size) (set4 (wr.setCell ⟨W.heap.size,3,none⟩ v) (W.heap.size+1) 0 x) x.val ((k,N,s.toList,len)::c)):=by
 have hoc:=owns_cells hm.owns
 obtain⟨a',cap',hv⟩:∃a' cap',v=.slice a' len cap':=by
  rcases hoc with⟨hv,hn⟩ | ⟨g,cp,hv,_⟩
  ·subst hn;simp at hl;subst hl;exact⟨none,0,hv⟩
  ·exact⟨_,cp,by rw[hv,hl]⟩
 refine⟨a',cap',hv,?_⟩
 intro x
 have hother:∀b,b≠W.heap.size→b≠W.heap.size+1→(set4 (wr.setCell ⟨W.heap.size,3,none⟩ v) (W.heap.size+1) 0 x).heap[b]?=wr.heap[b]?:=fun b h1 h2=>
  (set4_other _ _ 0 x h2).trans (Below.heap_setCell _ _ _ _ h1)
 have hsz':(set4 (wr.setCell ⟨W.heap.size,3,none⟩ v) (W.heap.size+1) 0 x).heap.size=wr.heap.size:=by rw[set4_size];simp
 refine⟨set4_below (hB.setCell (p:=⟨W.heap.size,3,none⟩) (Nat.le_refl _) _) (by omega) 0 x,fun m hm' hlim=>?_⟩
 obtain⟨M,rfl⟩:∃M,m=M+1:=⟨m-1,by omega⟩
 obtain⟨ks,k1,k2,k3⟩:=hm.kids M (by omega) (by omega)
 have hcl:len≤cap':=by
  rcases hm.owns.2 with⟨h,hn⟩ | ⟨g,cp,cur,h,_,_,hnc,_⟩
  ·omega
  ·rw[hv] at h
   simp at h
   omega
 have hkl:ks.length=len:=by rw[←hl,←k1];simp
 have hT:∀u∈ks,IsT wr.heap.size (set4 (wr.setCell ⟨W.heap.size,3,none⟩ v) (W.heap.size+1) 0 x) u:=fun u hu=>
  (k2 u hu).1.fromS (fun b hb=>hother b (by have:=hb.2;unfold Mix at this;omega) (by have:=hb.2;unfold Mix at this;omega)) (k2 u hu).2
 have hS:∀u∈ks,BlkT (Mix ns W.heap.size) u:=fun u hu=>(k2 u hu).2.mono fun b hb=>by have:=hb.2;unfold Mix at this⊢;omega
 refine⟨((x,ks):TV×List (Tm M)),rfl,?_,?_,?_⟩
 ·rw[hsz']
  refine⟨hkl.symm,⟨?_,hcl,hlim⟩,hs,?_⟩
  ·show len≤_
   omega
  ·rcases hoc with⟨_,hn⟩ | ⟨g,cp,hv2,hg1,hg2,hcells⟩
   ·left
    show ks=[]
    apply List.length_eq_zero_iff.1
    rw[hkl,←hl,hn];rfl
   ·right
    rw[hv] at hv2
    simp at hv2
    obtain⟨e1,_,_⟩:=hv2
    refine⟨g,0,e1,hg2,fun j u hu=>⟨?_,hT u (List.mem_of_getElem? hu)⟩⟩
    rw[Nat.zero_add]
    have hu':ks[j]?=some u:=hu
    have:l[j]?=some u.tv:=by rw[←k1,List.getElem?_map,hu'];rfl
    exact(hcells j u.tv this).kept (hother g (by omega) (by omega))
 ·refine⟨?_,hS⟩
  rcases hoc with⟨_,hn⟩ | ⟨g,cp,hv2,hg1,hg2,hcells⟩
  ·left
   show ks=[]
   apply List.length_eq_zero_iff.1
   rw[hkl,←hl,hn];rfl
  ·right
   rw[hv] at hv2
   simp at hv2
   obtain⟨e1,_,_⟩:=hv2
   exact⟨g,0,e1,by unfold Mix;omega⟩
 ·rw[code_succ,k3];rfl
set_option maxHeartbeats 400000
theorem none_any(x:TV)(w:World):Calls Tryz.prog 20 #[x.val] w fun e W'=>e=.returned (.bool (decide (x.k=0) && (decide (x.N=0) && (decide (x.s.toList=[]) && ((x.len:Int) == 0)))))∧Below w.heap.size w W':=by
 simp only[TV.val]
 go_enter Tryz.func20,Tryz.ntmps20
 go_wp2
 all_goals go_ret
 all_goals refine⟨?_,(Below.refl _ w).alloc (Nat.le_refl _) _⟩
 all_goals simp_all
end Go.Proofs.YteaiefjmcinljaaGreatDoor
