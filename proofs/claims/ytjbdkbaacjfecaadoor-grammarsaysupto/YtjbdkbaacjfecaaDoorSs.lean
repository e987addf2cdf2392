import Derived.Test.YtjbdkbaacjfecaaDoorPs
import Derived.Deep.RegionWith
import Derived.Test.YtjbdkbaacjfecaaDoorFs
import Derived.Maps.AppendAt
import Derived.Deep.DeepMust
namespace Go.Proofs.YtjbdkbaacjfecaaDoor
set_option maxHeartbeats 2000000
set_option maxRecDepth 100000
open Go.RowKit Go.Shelf
/-- A list of binds and where it lies. -/
structure BL (n:Nat) where
 a:Option Addr
 len:Nat
 cap:Nat
 bs:List (Int×Tm n)
def okB{n:Nat}(L:BL n):Prop:= ∀p∈L.bs,okT p.2=true
/-- What checkBinds answers. -/
def BindSays{n:Nat}(Ls:List (BL n))(e:Ending):Prop:= ∃r:Int,e=.returned (.int .i64 r)∧((¬∀L∈Ls,okB L)→r=2)∧((∀L∈Ls,okB L)→(¬∀L∈Ls,Subst L.bs)→r=1)∧((∀L∈Ls,okB L)→(∀L∈Ls,Subst L.bs)→r=0)
theorem says_two{n:Nat}{Ls:List (BL n)}(h:¬∀L∈Ls,okB L):BindSays Ls (.returned (.int .i64 2)):=⟨2,rfl,fun _=>rfl,fun k=>(h k).elim,fun k=>(h k).elim⟩
theorem says_one{n:Nat}{Ls:List (BL n)}(h:∀L∈Ls,okB L)(h':¬∀L∈Ls,Subst L.bs):BindSays Ls (.returned (.int .i64 1)):=⟨1,rfl,fun k=>(k h).elim,fun _ _=>rfl,fun _ k=>(h' k).elim⟩
theorem says_zero{n:Nat}{Ls:List (BL n)}(h:∀L∈Ls,okB L)(h':∀L∈Ls,Subst L.bs):BindSays Ls (.returned (.int .i64 0)):=⟨0,rfl,fun k=>(k h).elim,fun _ k=>(k h').elim,fun _ _=>rfl⟩
/-- The first j have it. -/
def Fst{α:Type}(p:α→Prop)(l:List α)(j:Nat):Prop:= ∀i x,l[i]?=some x→i<j→p x
theorem Fst.next{α:Type}{p:α→Prop}{l:List α}{j:Nat}{x:α}(h:Fst p l j)(hx:l[j]?=some x)(hp:p x):Fst p l (j+1):=fun i y hy hi=>by
 by_cases e:i=j
 ·subst e;rw[hx] at hy;cases hy;exact hp
 ·exact h i y hy (by omega)
theorem Fst.all{α:Type}{p:α→Prop}{l:List α}{j:Nat}(h:Fst p l j)(hj:l.length≤j):∀x∈l,p x:=fun x hx=>by
 obtain⟨i,hi⟩:=List.mem_iff_getElem?.1 hx;exact h i x hi (by have:=(List.getElem?_eq_some_iff.1 hi).1;omega)
theorem checkBinds_any{n:Nat}(Ls:List (BL n))(B off cp m:Nat)(w:World)(hm:m=Ls.length)(hm2:m≤100)
  (hLs:∀i L,Ls[i]?=some L→w.cell? ⟨B,off+i,none⟩=some (.slice L.a L.len L.cap)∧IsL w.heap.size w L.a L.len L.bs) (hB:B<w.heap.size):
  Calls Tryd.prog 75 #[.slice (some ⟨B,off,none⟩) m cp] w fun e W'=>BindSays Ls e∧Below w.heap.size w W':=by
 have hm1:m≤Ls.length:=by omega
 have hm3:Ls.length≤m:=by omega
 have HLs:=hide hLs;clear hm hLs;go_enter Tryd.func75,Tryd.ntmps75
 go_wp2_with fail
 go_loopw [12] (fun i wr=> ∃j:Nat,j≤m∧i=.int .i64 j∧Below w.heap.size w wr∧Fst okB Ls j) (fun i _=>m-(intOf i).toNat)
 case atStart=>exact⟨0,Nat.zero_le _,rfl,Below.refl _ _,fun i x _ h=>by omega⟩
 case round=>
  obtain⟨j,hj,rfl,hb,hs⟩:=hrel;have HS:=hide hs;clear hs
  by_cases hlt:j<m
  ·obtain⟨⟨La,Ll,Lc,Lb⟩,hL⟩:∃L,Ls[j]?=some L:=⟨Ls[j]'(by omega),List.getElem?_eq_getElem (by omega)⟩
   obtain⟨hc,hil⟩:=(uh HLs) j _ hL;simp only at hc hil;replace hc:=(hb.cell (p:=⟨B,off+j,none⟩) hB).trans hc;have hl60:=hil.2.1;have hl1:Ll≤Lb.length:=by have:=hil.1;omega
   have hl2:Lb.length≤Ll:=by have:=hil.1;omega
   have HIL:=hide hil;have HLJ:=hide hL;clear hil hL;have hj1:(j:Int)<m:=by omega
   go_wp2_with fail
   clear hc
   go_loopw [18] (fun i wr=> ∃k:Nat,k≤Ll∧i=.int .i64 k∧Below w.heap.size w wr∧Fst (fun p:Int×Tm n=>okT p.2=true) Lb k) (fun i _=>Ll-(intOf i).toNat)
   case atStart=>exact⟨0,Nat.zero_le _,rfl,hb,fun i x _ h=>by omega⟩
   case round=>
    obtain⟨k,hk,rfl,hb2,hs2⟩:=hrel;have HS2:=hide hs2;clear hs2
    by_cases hlt2:k<Ll
    ·obtain⟨V,u,b,off',hu,rfl,hbk,hT,c0,c1,c2,c3,c4⟩:=bind_at (uh HIL) hb2 hlt2
     have hk1:(k:Int)<Ll:=by omega
     have hbu:=(Below.refl _ wr).alloc (Nat.le_refl _) (.cells #[.int .i64 V,.int .i64 u.tv.k,.int .i64 u.tv.N,.string u.tv.s,.slice u.tv.a u.tv.len u.tv.cap] 120)
     have hck:Calls Tryd.prog 29 #[.agg #[.int .i64 u.tv.k,.int .i64 u.tv.N,.string u.tv.s,.slice u.tv.a u.tv.len u.tv.cap]] (wr.alloc (.cells #[.int .i64 V,.int .i64 u.tv.k,.int .i64 u.tv.N,.string u.tv.s,.slice u.tv.a u.tv.len u.tv.cap] 120)) fun e W2=>e=.returned (.int .i64 (chk u))∧Below wr.heap.size wr W2:=
      (check_any u _ ((hT.below hbu).mono hbu.size)).mono fun e W2 h=>⟨h.1,hbu.trans (h.2.mono hbu.size)⟩
     have HU:=hide hu;have hcz:= @chk_zero _ u;have hcn:= @chk_no _ u;clear hT hu hbu;generalize hd:chk u=d at *;clear hd;cases ho:okT u with
     | true=>
      have hd0:d=0:=hcz.2 ho;have hd':(d != 0)=false:=by simp[hd0]
      have HOU:=hide ho;clear hd0 hcz hcn ho;go_wp2_with (go_at_call 29;refine hck.mono ?_;clear hck;rintro e W2 ⟨rfl,hb3⟩)
      go_roundw
      case rel=>exact⟨k+1,by omega,by go_num,hb2.trans (hb3.mono hb2.size),(uh HS2).next (uh HU) (uh HOU)⟩
      case measure=>simp[intOf];omega
     | false=>
      have hd2:d=2:=hcn ho;have HOU:=hide ho;clear hcz hcn ho;subst hd2;go_wp2_with (go_at_call 29;refine hck.mono ?_;clear hck;rintro e W2 ⟨rfl,hb3⟩)
      go_ret
      refine⟨says_two fun h=>?_,hb2.trans (hb3.mono hb2.size)⟩;have:=h _ (List.mem_of_getElem? (uh HLJ)) _ (List.mem_of_getElem? (uh HU));rw[uh HOU] at this;cases this
    ·go_wp2_with fail
     go_roundw
     case rel=>exact⟨j+1,by omega,by go_num,hb2,(uh HS).next (uh HLJ) (fun p hp=>(uh HS2).all (by omega) p hp)⟩
     case measure=>simp[intOf];omega
  ·have hall:=(uh HS).all (by omega)
   have HALL:=hide hall;clear hall;go_wp2_with fail
   go_loopw [32] (fun i wr=> ∃j:Nat,j≤m∧i=.int .i64 j∧Below w.heap.size w wr∧Fst (fun L:BL n=>Subst L.bs) Ls j) (fun i _=>m-(intOf i).toNat)
   case atStart=>exact⟨0,Nat.zero_le _,rfl,hb,fun i x _ h=>by omega⟩
   case round=>
    obtain⟨k,hk,rfl,hb2,hs2⟩:=hrel;have HS2:=hide hs2;clear hs2
    by_cases hlt2:k<m
    ·obtain⟨⟨La,Ll,Lc,Lb⟩,hL⟩:∃L,Ls[k]?=some L:=⟨Ls[k]'(by omega),List.getElem?_eq_getElem (by omega)⟩
     obtain⟨hc,hil⟩:=(uh HLs) k _ hL;simp only at hc hil;replace hc:=(hb2.cell (p:=⟨B,off+k,none⟩) hB).trans hc;have hri:=isRising_any Lb La Ll Lc wr ((hil.below hb2).mono hb2.size);have HLJ:=hide hL;clear hil hL;have hk1:(k:Int)<m:=by omega
     go_wp2_with fail
     refine hri.mono ?_;clear hri;rintro e W2 ⟨⟨f,rfl,hf⟩,hb3⟩;have HF:=hide hf;clear hf;cases f with
     | true=>
      go_wp2_with fail
      go_roundw
      case rel=>exact⟨k+1,by omega,by go_num,hb2.trans (hb3.mono hb2.size),(uh HS2).next (uh HLJ) ((uh HF).1 (by simp))⟩
      case measure=>simp[intOf];omega
     | false=>
      go_wp2_with fail
      go_ret
      refine⟨says_one (uh HALL) fun h=>?_,hb2.trans (hb3.mono hb2.size)⟩;have:=(uh HF).2 (h _ (List.mem_of_getElem? (uh HLJ)));simp at this
    ·have hall2:=(uh HS2).all (by omega)
     have HALL2:=hide hall2;clear hall2;go_wp2_with fail
     go_ret
     exact⟨says_zero (uh HALL) (uh HALL2),hb2⟩
set_option maxHeartbeats 1000000
set_option maxRecDepth 100000
theorem replace_binds{n:Nat}(t:Tm n)(bs:List (Int×Tm n))(a:Option Addr)(len cap B:Nat)(w:World)(hT:IsT w.heap.size w t)(hok:okT t=true)(hl:IsL w.heap.size w a len bs)(hri:Rises bs)(hokb:∀p∈bs,okT p.2=true)(W:World)(hb:Below w.heap.size w W)(hbox:Boxed W B 111 (.slice a len cap)):
  Calls Tryd.prog 48 #[t.tv.val,.func (.func 84) #[] #[.pointer (some ⟨B,0,none⟩)]] W fun e W'=> ∃v,e=.returned v∧Below W.heap.size W W'∧HoldsT (n+(n+1)) W.heap.size W' v ((code t).flatMap (subN (lookC (cb bs)))):=
 replace_any 84 #[.pointer (some ⟨B,0,none⟩)] (lookC (cb bs)) (n+1) W (by omega) (enters_of Tryd.func84 (by kernel_rfl) rfl)
  (becoming_becomes bs a len cap B W hbox ((hl.below hb).mono hb.size) hri hokb) n t W (Below.refl _ _) ((hT.below hb).mono hb.size) hok
theorem checkOne{n:Nat}(bs:List (Int×Tm n))(a:Option Addr)(len cap:Nat)(W:World)(hl:IsL W.heap.size W a len bs):
  Calls Tryd.prog 75 #[.slice (some ⟨W.heap.size,0,none⟩) 1 1] (W.alloc (.cells #[.slice a len cap] 111)) fun e W'=>BindSays [⟨a,len,cap,bs⟩] e∧Below W.heap.size W W':=by
 have hb:Below W.heap.size W (W.alloc (.cells #[.slice a len cap] 111)):=(Below.refl _ W).alloc (Nat.le_refl _) _;refine(checkBinds_any [⟨a,len,cap,bs⟩] W.heap.size 0 1 1 _ rfl (by omega) (fun i L hL=>?_) (by simp)).mono fun e W' h=>⟨h.1,hb.trans (h.2.mono hb.size)⟩
 match i,hL with
 | 0,hL=>
  simp at hL;subst hL;exact⟨by simp,(hl.below hb).mono hb.size⟩
 | i+1,hL=>simp at hL
theorem says_one_ok{n:Nat}{L:BL n}{e:Ending}(h:BindSays [L] e)(h1:okB L)(h2:Subst L.bs):e=.returned (.int .i64 0):=by
 obtain⟨r,rfl,_,_,h0⟩:=h;rw[h0 (by simpa using h1) (by simpa using h2)]
/-- The term's box and the cell of the result, at the head of a call's own memory. -/
structure Head (w W:World) (x:TV):Prop where
 below:Below w.heap.size w W
 ba:BoxT W w.heap.size x
 bz:W.heap[w.heap.size+1]?=some (.cells #[.int .i64 0,.int .i64 0,.string ⟨#[]⟩,.slice none 0 0] 24 (0,0))
theorem Head.lt{w W:World}{x:TV}(h:Head w W x):w.heap.size+1<W.heap.size:=(Array.getElem?_eq_some_iff.1 h.bz).1
theorem Head.next{w W W':World}{x:TV}(h:Head w W x)(hb:Below W.heap.size W W'):Head w W' x:=
 ⟨h.below.trans (hb.mono h.below.size),(hb.block _ h.ba.lt).trans h.ba,(hb.block _ h.lt).trans h.bz⟩
theorem Head.new(w:World)(x:TV):Head w ((w.alloc (.cells #[.int .i64 x.k,.int .i64 x.N,.string x.s,.slice x.a x.len x.cap] 24)).alloc (.cells #[.int .i64 0,.int .i64 0,.string ⟨#[]⟩,.slice none 0 0] 24)) x:=by
 have h:=World.alloc_heap_new (w.alloc (.cells #[.int .i64 x.k,.int .i64 x.N,.string x.s,.slice x.a x.len x.cap] 24)) (.cells #[.int .i64 0,.int .i64 0,.string ⟨#[]⟩,.slice none 0 0] 24);rw[World.size_alloc] at h;exact⟨((Below.refl _ w).alloc (Nat.le_refl _) _).alloc (by simp) _,(BoxT.new w x).alloc _,h⟩
theorem apply_ok{n:Nat}(t:Tm n)(bs:List (Int×Tm n))(a:Option Addr)(len cap:Nat)(w:World)(hT:IsT w.heap.size w t)(hl:IsL w.heap.size w a len bs)(hok:okT t=true)(hokb:∀p∈bs,okT p.2=true)(hsub:Subst bs):
  Calls Tryd.prog 69 #[t.tv.val,.slice a len cap] w fun e W'=> ∃x:TV,e=.returned (.tuple #[x.val,.int .i64 0])∧Below w.heap.size w W'∧HoldsT (n+(n+1)) w.heap.size W' x.val ((code t).flatMap (subN (lookC (cb bs)))):=by
 have hB1:Below w.heap.size w ((w.alloc (.cells #[.int .i64 t.tv.k,.int .i64 t.tv.N,.string t.tv.s,.slice t.tv.a t.tv.len t.tv.cap] 24)).alloc (.cells #[.int .i64 0,.int .i64 0,.string ⟨#[]⟩,.slice none 0 0] 24)):=((Below.refl _ w).alloc (Nat.le_refl _) _).alloc (by simp) _;have hck:=check_any t _ ((hT.below hB1).mono hB1.size);rw[chk_yes hok] at hck;have hH:=Head.new w t.tv;simp only[TV.val] at hck⊢;have hrep:=replace_binds t bs a len cap;have HT:=hide hT;have HL:=hide hl;have HOK:=hide hok;have HOKB:=hide hokb;have HSUB:=hide hsub;have HREP:=hide hrep;clear hT hl hok hokb hsub hrep;go_enter Tryd.func69,Tryd.ntmps69
 go_wp2_with fail
 refine hck.mono ?_;clear hck;rintro e W1 ⟨rfl,hb1⟩;replace hH:=hH.next hb1;clear hb1 hB1;go_wp2_with fail
 refine(checkOne bs a len cap W1 (((uh HL).below hH.below).mono hH.below.size)).mono ?_;rintro e W2 ⟨hsay,hb2⟩;obtain rfl:=says_one_ok hsay (uh HOKB) (uh HSUB);replace hH:=hH.next hb2;clear hb2 hsay;have c0:=hH.ba.c0;have c1:=hH.ba.c1;have c2:=hH.ba.c2;have c3:=hH.ba.c3;have hbA:Below W2.heap.size W2 (W2.alloc (.cells #[.slice a len cap] 111)).drew:=((Below.refl _ W2).alloc (Nat.le_refl _) _).drew;have hbx:Boxed (W2.alloc (.cells #[.slice a len cap] 111)).drew W2.heap.size 111 (.slice a len cap):=Boxed.new W2 111 (.slice a len cap)
 have hr2:Calls Tryd.prog 48 #[.agg #[.int .i64 t.tv.k,.int .i64 t.tv.N,.string t.tv.s,.slice t.tv.a t.tv.len t.tv.cap],.func (.func 84) #[] #[.pointer (some ⟨W2.heap.size,0,none⟩)]] (W2.alloc (.cells #[.slice a len cap] 111)).drew fun e W3=> ∃x:TV,e=.returned x.val∧(Head w W3 t.tv∧HoldsT (n+(n+1)) (w.heap.size+2) W3 x.val ((code t).flatMap (subN (lookC (cb bs)))))∧
   (W3.cell? ⟨w.heap.size+1,0,none⟩=some (.int .i64 0)∧W3.cell? ⟨w.heap.size+1,1,none⟩=some (.int .i64 0)∧W3.cell? ⟨w.heap.size+1,2,none⟩=some (.string ⟨#[]⟩)∧W3.cell? ⟨w.heap.size+1,3,none⟩=some (.slice none 0 0))∧(W3.frozen? ⟨w.heap.size+1,0,none⟩=false∧W3.frozen? ⟨w.heap.size+1,1,none⟩=false∧W3.frozen? ⟨w.heap.size+1,2,none⟩=false∧W3.frozen? ⟨w.heap.size+1,3,none⟩=false):=by
  refine((uh HREP) W2.heap.size w (uh HT) (uh HOK) (uh HL) (uh HSUB).2 (uh HOKB) _ (hH.below.trans (hbA.mono hH.below.size)) hbx).mono fun e W3 h=>?_;obtain⟨v,he,hb3,hv⟩:=h;obtain⟨t3,ht3,-⟩:=hv _ (Nat.le_refl _);have hH3:=(hH.next hbA).next hb3;refine⟨t3.tv,by rw[he,ht3],⟨hH3,?_⟩,zbox_kept hH3.bz⟩;rw[←ht3];exact hv.mono (Nat.le_refl _) (by have:=(hH.next hbA).lt;omega)
 clear hbA hbx HREP;have hlt2:=hH.lt;have hlt1:w.heap.size<W2.heap.size:=by omega
 simp only[TV.val] at hr2;go_wp2_with fail
 go_region_with (first
  | (go_at_call 76;refine(becoming_any _ _ _ _).mono ?_;rintro e W3 ⟨rfl,rfl⟩)
  | (go_at_call 48;refine hr2.mono ?_;clear hr2;rintro e W3 ⟨x,rfl,hfin,⟨z0,z1,z2,z3⟩,y0,y1,y2,y3⟩))
 all_goals
  have HFIN:=hide hfin;clear hfin;go_wp2_with fail
  exact bodyPost_ret (v:=.tuple #[x.val,.int .i64 0]) (by simp[results,Tryd.results69,go_sem,TV.val,z0,z1,z2,z3]) rfl ⟨x,rfl,set4_below (uh HFIN).1.below (by omega) 0 x,(holds_set4 (uh HFIN).2 (by omega) 0 x).mono (Nat.le_refl _) (by omega)⟩
theorem apply_bad{n:Nat}(t:Tm n)(a:Option Addr)(len cap:Nat)(w:World)(hT:IsT w.heap.size w t)(hok:okT t=false):
  Calls Tryd.prog 69 #[t.tv.val,.slice a len cap] w fun e W'=>e=.returned (.tuple #[.agg #[.int .i64 0,.int .i64 0,.string ⟨#[]⟩,.slice none 0 0],.int .i64 2])∧Below w.heap.size w W':=by
 have hB1:Below w.heap.size w ((w.alloc (.cells #[.int .i64 t.tv.k,.int .i64 t.tv.N,.string t.tv.s,.slice t.tv.a t.tv.len t.tv.cap] 24)).alloc (.cells #[.int .i64 0,.int .i64 0,.string ⟨#[]⟩,.slice none 0 0] 24)):=((Below.refl _ w).alloc (Nat.le_refl _) _).alloc (by simp) _;have hck:=check_any t _ ((hT.below hB1).mono hB1.size);rw[chk_no hok] at hck;have hH:=Head.new w t.tv;simp only[TV.val] at hck⊢;clear hT hok hB1;go_enter Tryd.func69,Tryd.ntmps69
 go_wp2_with fail
 refine hck.mono ?_;clear hck;rintro e W1 ⟨rfl,hb1⟩;replace hH:=hH.next hb1;clear hb1;obtain⟨⟨z0,z1,z2,z3⟩,y0,y1,y2,y3⟩:=zbox_kept hH.bz;have HH:=hide hH;clear hH;go_wp2_with fail
 exact bodyPost_ret (v:=.tuple #[.agg #[.int .i64 0,.int .i64 0,.string ⟨#[]⟩,.slice none 0 0],.int .i64 2]) (by simp[results,Tryd.results69,go_sem,z0,z1,z2,z3]) rfl ⟨rfl,set4_below (uh HH).below (by omega) 0 ⟨0,0,⟨#[]⟩,none,0,0⟩⟩
set_option maxHeartbeats 400000
/-- One storey more. -/
def Tm.lift:{n:Nat}→Tm n→Tm (n+1)
 | 0,t=>Empty.elim t
 | _+1,t=>(t.tv,t.kids.map Tm.lift)
/-- Every block of the term's own memory is in S. -/
def BlkT(S:Nat→Prop):{n:Nat}→Tm n→Prop
 | 0,_=>True
 | _+1,t=>(t.kids=[]∨∃b off,t.tv.a=some ⟨b,off,none⟩∧S b)∧∀u∈t.kids,BlkT S u
theorem BlkT.mono{S S':Nat→Prop}(h:∀b,S b→S' b):∀{n:Nat} {t:Tm n},BlkT S t→BlkT S' t:=by
 intro n
 induction n with
 | zero=>intro t;exact Empty.elim t
 | succ n ih=>
  intro t ht;obtain⟨h1,h2⟩:=ht;refine⟨?_,fun u hu=>ih (h2 u hu)⟩
  rcases h1 with h1 | ⟨b,off,ha,hb⟩
  ·exact .inl h1
  ·exact .inr ⟨b,off,ha,h b hb⟩
theorem BlkT.and{S S':Nat→Prop}:∀{n:Nat} {t:Tm n},BlkT S t→BlkT S' t→BlkT (fun b=>S b∧S' b) t:=by
 intro n
 induction n with
 | zero=>intro t;exact Empty.elim t
 | succ n ih=>
  intro t ht ht';obtain⟨h1,h2⟩:=ht;obtain⟨k1,k2⟩:=ht';refine⟨?_,fun u hu=>ih (h2 u hu) (k2 u hu)⟩
  rcases h1 with h1 | ⟨b,off,ha,hb⟩
  ·exact .inl h1
  ·rcases k1 with k1 | ⟨b',off',ha',hb'⟩
   ·exact .inl k1
   ·rw[ha] at ha';simp at ha';obtain⟨rfl,rfl⟩:=ha'
    exact .inr ⟨b,off,ha,hb,hb'⟩
theorem IsT.blk{n₀:Nat}{W:World}:∀{n:Nat} {t:Tm n},IsT n₀ W t→BlkT (· <n₀) t:=by
 intro n
 induction n with
 | zero=>intro t;exact Empty.elim t
 | succ n ih=>
  intro t ht;obtain⟨_,_,_,h4⟩:=ht
  rcases h4 with h4 | ⟨b,off,ha,hb,hk⟩
  ·exact⟨.inl h4,fun u hu=>by rw[h4] at hu;cases hu⟩
  ·exact⟨.inr ⟨b,off,ha,hb⟩,fun u hu=>by
    obtain⟨j,hj⟩:=List.mem_iff_getElem?.1 hu;exact ih (hk j u hj).2⟩
theorem NewT.blk{lo:Nat}:∀{n:Nat} {t:Tm n},NewT lo t→BlkT (lo≤ ·) t:=by
 intro n
 induction n with
 | zero=>intro t;exact Empty.elim t
 | succ n ih=>
  intro t ht;exact⟨ht.1,fun u hu=>ih (ht.2 u hu)⟩
theorem IsT.fromS{n₀:Nat}{S:Nat→Prop}{A B:World}(hs:∀b,S b→B.heap[b]?=A.heap[b]?):∀{n:Nat} {t:Tm n},IsT n₀ A t→BlkT S t→IsT n₀ B t:=by
 intro n
 induction n with
 | zero=>intro t;exact Empty.elim t
 | succ n ih=>
  intro t ht hn;obtain⟨h1,h2,h3,h4⟩:=ht;obtain⟨k1,k2⟩:=hn
  rcases h4 with h4 | ⟨b,off,ha,hb,hk⟩
  ·exact⟨h1,h2,h3,.inl h4⟩
  ·rcases k1 with k1 | ⟨b',off',ha',hlo⟩
   ·exact⟨h1,h2,h3,.inl k1⟩
   ·rw[ha] at ha'
    simp at ha';obtain⟨rfl,rfl⟩:=ha';refine⟨h1,h2,h3,.inr ⟨b,off,ha,hb,fun j u hu=>?_⟩⟩;obtain⟨hc,hT⟩:=hk j u hu;exact⟨hc.kept (hs b hlo),ih hT (k2 u (List.mem_of_getElem? hu))⟩
theorem lift_tv:∀{n:Nat} (t:Tm n),t.lift.tv=t.tv
 | 0,t=>Empty.elim t
 | _+1,_=>rfl
theorem flatMap_same{α β:Type}{f g:α→List β}:∀(l:List α),(∀u∈l,f u=g u)→l.flatMap f=l.flatMap g
 | [],_=>rfl
 | a::l,h=>by rw[List.flatMap_cons,List.flatMap_cons,h a (by simp),flatMap_same l (fun u hu=>h u (by simp[hu]))]
theorem lift_code:∀{n:Nat} (t:Tm n),code t.lift=code t:=by
 intro n
 induction n with
 | zero=>intro t;exact Empty.elim t
 | succ n ih=>
  intro t;obtain⟨x,kids⟩:=t
  show code (n:=n+1+1) ((x,kids.map Tm.lift):TV×List (Tm (n+1)))=_
  rw[code_succ,code_succ,List.flatMap_map]
  congr 1
  exact flatMap_same kids (fun u _=>ih u)
theorem lift_isT{n₀:Nat}{W:World}:∀{n:Nat} {t:Tm n},IsT n₀ W t→n+1≤2199023255552→IsT n₀ W t.lift:=by
 intro n
 induction n with
 | zero=>intro t;exact Empty.elim t
 | succ n ih=>
  intro t ht hlim;obtain⟨x,kids⟩:=t;obtain⟨h1,h2,h3,h4⟩:=ht;simp only[Tm.tv,Tm.kids] at h1 h2 h3 h4;have hl:x.len=(kids.map Tm.lift).length:=by simpa using h1
  rcases h4 with h4 | ⟨b,off,ha,hb,hk⟩
  ·exact⟨hl,⟨h2.1,h2.2.1,hlim⟩,h3,.inl (by show kids.map Tm.lift=[];rw[h4];rfl)⟩
  ·refine⟨hl,⟨h2.1,h2.2.1,hlim⟩,h3,.inr ⟨b,off,ha,hb,fun j u hu=>?_⟩⟩
   have hu':(kids.map Tm.lift)[j]?=some u:=hu;rw[List.getElem?_map] at hu';obtain⟨v,hv,rfl⟩:=Option.map_eq_some_iff.1 hu';obtain⟨k1,k2⟩:=hk j v hv;exact⟨by rw[lift_tv];exact k1,ih k2 (by omega)⟩
theorem lift_blk{S:Nat→Prop}:∀{n:Nat} {t:Tm n},BlkT S t→BlkT S t.lift:=by
 intro n
 induction n with
 | zero=>intro t;exact Empty.elim t
 | succ n ih=>
  intro t ht;obtain⟨x,kids⟩:=t;obtain⟨h1,h2⟩:=ht;refine⟨?_,fun u hu=>?_⟩
  ·rcases h1 with h1 | h1
   ·exact .inl (by show kids.map Tm.lift=[];rw[show kids=[] from h1];rfl)
   ·exact .inr h1
  ·have hu':u∈kids.map Tm.lift:=hu
   obtain⟨v,hv,rfl⟩:=List.mem_map.1 hu';exact ih (h2 v hv)
/-- The value v is a term of the code c, at every number of storeys from D on, its memory in S. -/
def HoldsS(D:Nat)(S:Nat→Prop)(W:World)(v:Value)(c:List Nd):Prop:=
 ∀m,D≤m→m≤2199023255552→∃t:Tm m,v=t.tv.val∧IsT W.heap.size W t∧BlkT S t∧code t=c
theorem holdsS_of{n:Nat}{t:Tm n}{S:Nat→Prop}{W:World}(hT:IsT W.heap.size W t)(hS:BlkT S t):HoldsS n S W t.tv.val (code t):=fun m hm hl=>by
 obtain⟨k,rfl⟩:∃k,m=n+k:=⟨m-n,by omega⟩;clear hm
 induction k with
 | zero=>exact⟨t,rfl,hT,hS,rfl⟩
 | succ k ih=>
  obtain⟨t',h1,h2,h3,h4⟩:=ih (by omega);exact⟨t'.lift,by rw[lift_tv];exact h1,lift_isT h2 hl,lift_blk h3,by rw[lift_code];exact h4⟩
theorem HoldsT.holdsS{D lo:Nat}{W:World}{v:Value}{c:List Nd}(h:HoldsT D lo W v c):HoldsS D (lo≤ ·) W v c:=fun m hm hl=>by
 obtain⟨t,h1,h2,h3,h4⟩:=h m hm;exact⟨t,h1,h2 hl,h3.new.blk,h4⟩
theorem HoldsS.mono{D D':Nat}{S S':Nat→Prop}{W:World}{v:Value}{c:List Nd}(h:HoldsS D S W v c)(hD:D≤D')(hS:∀b,S b→S' b):HoldsS D' S' W v c:=fun m hm hl=>by
 obtain⟨t,h1,h2,h3,h4⟩:=h m (by omega) hl;exact⟨t,h1,h2,h3.mono hS,h4⟩
theorem HoldsS.below{D:Nat}{S:Nat→Prop}{A B:World}{v:Value}{c:List Nd}(h:HoldsS D S A v c)(hb:Below A.heap.size A B):HoldsS D S B v c:=fun m hm hl=>by
 obtain⟨t,h1,h2,h3,h4⟩:=h m hm hl;exact⟨t,h1,(h2.below hb).mono hb.size,h3,h4⟩
theorem HoldsS.fromS{D:Nat}{S:Nat→Prop}{A B:World}{v:Value}{c:List Nd}(h:HoldsS D S A v c)(hs:∀b,S b→b<A.heap.size→B.heap[b]?=A.heap[b]?)(hsz:A.heap.size≤B.heap.size):HoldsS D S B v c:=fun m hm hl=>by
 obtain⟨t,h1,h2,h3,h4⟩:=h m hm hl;exact⟨t,h1,(h2.fromS (S:=fun b=>S b∧b<A.heap.size) (fun b hb=>hs b hb.1 hb.2) (h3.and h2.blk)).mono hsz,h3,h4⟩
theorem v_any(N:Int)(w:World):Calls Tryd.prog 25 #[.int .i64 N] w fun e W'=>e=.returned (varV N).val∧Below w.heap.size w W':=by
 go_enter Tryd.func25,Tryd.ntmps25
 go_wp2
 exact bodyPost_ret (v:=(varV N).val) (by simp[results,Tryd.results25,go_sem,varV,TV.val]) rfl ⟨rfl,(Below.refl _ _).alloc (Nat.le_refl _) _⟩
def TV.row(x:TV):List Value:=[.int .i64 x.k,.int .i64 x.N,.string x.s,.slice x.a x.len x.cap]
theorem row_at:∀(l:List TV) (j:Nat) (x:TV),l[j]?=some x→(l.flatMap TV.row)[j*4]?=some (.int .i64 x.k)∧(l.flatMap TV.row)[j*4+1]?=some (.int .i64 x.N)∧(l.flatMap TV.row)[j*4+2]?=some (.string x.s)∧(l.flatMap TV.row)[j*4+3]?=some (.slice x.a x.len x.cap)
 | [],j,x,h=>by simp at h
 | y::l,0,x,h=>by simp at h;subst h;simp[TV.row]
 | y::l,j+1,x,h=>by
  have ih:=row_at l j x (by simpa using h)
  have hs:∀q,((y::l).flatMap TV.row)[q+4]?=(l.flatMap TV.row)[q]?:=fun q=>by
   rw[List.flatMap_cons,List.getElem?_append_right (by simp[TV.row])];simp[TV.row]
  refine⟨?_,?_,?_,?_⟩
  ·rw[show(j+1)*4=j*4+4 by omega,hs];exact ih.1
  ·rw[show(j+1)*4+1=j*4+1+4 by omega,hs];exact ih.2.1
  ·rw[show(j+1)*4+2=j*4+2+4 by omega,hs];exact ih.2.2.1
  ·rw[show(j+1)*4+3=j*4+3+4 by omega,hs];exact ih.2.2.2
theorem owns_cells{W:World}{base:Nat}{v:Value}{l:List TV}(h:W.ownsRow base 24 4 v l.length (l.flatMap TV.row)):
  (v=.slice none 0 0∧l=[])∨∃g cap,v=.slice (some ⟨g,0,none⟩) l.length cap∧base≤g∧g<W.heap.size∧∀j x,l[j]?=some x→cellsAt W g (j*4) x:=by
 obtain⟨_,h2⟩:=h
 rcases h2 with⟨hv,hn⟩ | ⟨g,cap,cur,hv,hg,hb,hnc,_,hcs,htk⟩
 ·exact .inl ⟨hv,List.length_eq_zero_iff.1 hn⟩
 ·refine .inr ⟨g,cap,hv,hg,(Array.getElem?_eq_some_iff.1 hb).1,fun j x hx=>?_⟩
  have hj:=(List.getElem?_eq_some_iff.1 hx).1
  have hc:∀q u,(l.flatMap TV.row)[q]?=some u→W.cell? ⟨g,q,none⟩=some u:=fun q u hq=>by
   rw[←htk,List.getElem?_take] at hq
   split at hq
   ·simp[World.cell?,hb]
    simpa using hq
   ·cases hq
  obtain⟨r0,r1,r2,r3⟩:=row_at l j x hx;exact⟨hc _ _ r0,hc _ _ r1,hc _ _ r2,hc _ _ r3⟩
theorem owns_below{W W':World}{base:Nat}{e:TypeId}{sz:Nat}{v:Value}{n:Nat}{xs:List Value}(h:W.ownsRow base e sz v n xs)(hb:∀g,v.ownBlock=some g→W'.heap[g]?=W.heap[g]?):W'.ownsRow base e sz v n xs:=by
 obtain⟨h1,h2⟩:=h;refine⟨h1,?_⟩
 rcases h2 with h2 | ⟨g,cap,cur,hv,hg,hbk,r⟩
 ·exact .inl h2
 ·subst hv
  exact .inr ⟨g,cap,cur,rfl,hg,(hb g rfl).trans hbk,r⟩
theorem owns_lt{W:World}{base:Nat}{e:TypeId}{sz:Nat}{v:Value}{n:Nat}{xs:List Value}(h:W.ownsRow base e sz v n xs){g:Nat}(hg:v.ownBlock=some g):base≤g∧g<W.heap.size:=by
 obtain⟨h1,h2⟩:=h
 rcases h2 with⟨hv,_⟩ | ⟨g',cap,cur,hv,hg',hbk,r⟩
 ·subst hv;simp[Value.ownBlock] at hg
 ·subst hv
  simp[Value.ownBlock] at hg;subst hg;exact⟨hg',(Array.getElem?_eq_some_iff.1 hbk).1⟩
/-- Terms that were made one by one, and whose cells a call keeps in a row of its own: 'v' the row, 'c' their codes. -/
structure Made (D:Nat) (S:Nat→Prop) (base:Nat) (W:World) (v:Value) (l:List TV) (c:List Nd):Prop where
 owns:W.ownsRow base 24 4 v l.length (l.flatMap TV.row)
 kids:∀M,D≤M→M≤2199023255552→∃ks:List (Tm M),ks.map Tm.tv=l∧(∀u∈ks,IsT W.heap.size W u∧BlkT (fun b=>v.ownBlock≠some b∧S b) u)∧ks.flatMap code=c
theorem Made.zero(D:Nat)(S:Nat→Prop)(base:Nat)(W:World):Made D S base W (.slice none 0 0) [] []:=
 ⟨⟨rfl,.inl ⟨rfl,rfl⟩⟩,fun _ _ _=>⟨[],rfl,(fun u hu=>by cases hu),rfl⟩⟩
theorem Made.next{D base:Nat}{S:Nat→Prop}{W W5 w':World}{v v':Value}{l:List TV}{c c':List Nd}{x:TV}(h:Made D S base W v l c)(hb:Below W.heap.size W W5)(hx:HoldsS D (fun b=>S b∧v.ownBlock≠some b) W5 x.val c')
  (hown:w'.ownsRow base 24 4 v' (l.length+1) (l.flatMap TV.row++x.row)) (hg:(W5.alloc (.cells #[.int .i64 x.k,.int .i64 x.N,.string x.s,.slice x.a x.len x.cap] 24)).grownBy w' v.ownBlock)
  (hbk:v'.ownBlock=v.ownBlock∨v'.ownBlock=some (W5.heap.size+1)):Made D S base w' v' (l++[x]) (c++c'):=by
 refine⟨by simpa[List.flatMap_append] using hown,fun M hM hlim=>?_⟩;obtain⟨ks,k1,k2,k3⟩:=h.kids M hM hlim;obtain⟨u,hu,hT,hS,hc⟩:=hx M hM hlim
 have hux:u.tv=x:=by
  simp only[TV.val,Value.agg.injEq] at hu;simp at hu;obtain⟨e1,e2,e3,e4,e5,e6⟩:=hu;cases hy:u.tv;cases x;simp_all
 have hsz:W5.heap.size+1≤w'.heap.size:=by have:=hg.size;simpa using this
 have hsame:∀b,b<W5.heap.size→v.ownBlock≠some b→w'.heap[b]?=W5.heap[b]?:=fun b hb1 hne=>
  (hg.block b (by simp;omega) (fun e=>hne e.symm)).trans (Below.heap_alloc _ _ _ hb1)
 have key:∀z:Tm M,IsT W5.heap.size W5 z→BlkT (fun b=>v.ownBlock≠some b∧S b) z→IsT w'.heap.size w' z∧BlkT (fun b=>v'.ownBlock≠some b∧S b) z:=fun z hz hzS=>by
  have hz2:=hzS.and hz.blk;refine⟨(hz.fromS (fun b hb'=>hsame b hb'.2 hb'.1.1) hz2).mono (by omega),hz2.mono fun b hb'=>⟨?_,hb'.1.2⟩⟩
  rcases hbk with e | e
  ·rw[e];exact hb'.1.1
  ·rw[e];intro e';simp at e';have:=hb'.2;omega
 refine⟨ks++[u],by simp[k1,hux],fun z hz=>?_,by simp[k3,hc]⟩
 rcases List.mem_append.1 hz with hz | hz
 ·obtain⟨z1,z2⟩:=k2 z hz
  exact key z ((z1.below hb).mono hb.size) z2
 ·simp at hz
  subst hz;exact key z hT (hS.mono fun b h=>⟨h.2,h.1⟩)
/-- Old memory (below ns), or laid since. -/
def Mix(ns lo:Nat)(b:Nat):Prop:=b<ns∨lo≤b
theorem addr_add(b o n:Nat):Addr.add ⟨b,o,none⟩ n=⟨b,o+n,none⟩:=by
 unfold Addr.add;split
 ·rename_i h;subst h;rfl
 ·rfl
theorem new_cells{W5:World}{x:TV}:∀j u,x.row[j]?=some u→(W5.alloc (.cells #[.int .i64 x.k,.int .i64 x.N,.string x.s,.slice x.a x.len x.cap] 24)).cell? ((⟨W5.heap.size,0,none⟩:Addr).add j)=some u:=by
 intro j u hj;rw[addr_add,Nat.zero_add]
 match j,hj with
 | 0,hj=>simp[TV.row] at hj;subst hj;simp
 | 1,hj=>simp[TV.row] at hj;subst hj;simp
 | 2,hj=>simp[TV.row] at hj;subst hj;simp
 | 3,hj=>simp[TV.row] at hj;subst hj;simp
 | j+4,hj=>simp[TV.row] at hj
theorem row_one{x:TV}:∀u∈x.row,u.oneCell'=true:=by
 intro u hu;simp[TV.row] at hu
 rcases hu with rfl | rfl | rfl | rfl <;> rfl
theorem args_end{D:Nat}{ns:Nat}{W wr:World}{k N:Int}{s:ByteArray}{len:Nat}{v:Value}{l:List TV}{c:List Nd}(hl:l.length=len)(hl50:len≤50)(hs:s.size≤9223372036854775807)(hB:Below W.heap.size W wr)(hns:ns≤W.heap.size)
  (hm:Made D (Mix ns (W.heap.size+2)) (W.heap.size+2) wr v l c):
  ∃a' cap',v=.slice a' len cap'∧(let x:TV:=⟨k,N,s,a',len,cap'⟩
   Below W.heap.size W (set4 (wr.setCell ⟨W.heap.size,3,none⟩ v) (W.heap.size+1) 0 x)∧HoldsS (D+1) (Mix ns W.heap.size) (set4 (wr.setCell ⟨W.heap.size,3,none⟩ v) (W.heap.size+1) 0 x) x.val ((k,N,s.toList,len)::c)):=by
 have hoc:=owns_cells hm.owns
 obtain⟨a',cap',hv⟩:∃a' cap',v=.slice a' len cap':=by
  rcases hoc with⟨hv,hn⟩ | ⟨g,cp,hv,_⟩
  ·subst hn;simp at hl;subst hl;exact⟨none,0,hv⟩
  ·exact⟨_,cp,by rw[hv,hl]⟩
 refine⟨a',cap',hv,?_⟩;intro x
 have hother:∀b,b≠W.heap.size→b≠W.heap.size+1→(set4 (wr.setCell ⟨W.heap.size,3,none⟩ v) (W.heap.size+1) 0 x).heap[b]?=wr.heap[b]?:=fun b h1 h2=>
  (set4_other _ _ 0 x h2).trans (Below.heap_setCell _ _ _ _ h1)
 have hsz':(set4 (wr.setCell ⟨W.heap.size,3,none⟩ v) (W.heap.size+1) 0 x).heap.size=wr.heap.size:=by rw[set4_size];simp
 refine⟨set4_below (hB.setCell (p:=⟨W.heap.size,3,none⟩) (Nat.le_refl _) _) (by omega) 0 x,fun m hm' hlim=>?_⟩;obtain⟨M,rfl⟩:∃M,m=M+1:=⟨m-1,by omega⟩;obtain⟨ks,k1,k2,k3⟩:=hm.kids M (by omega) (by omega)
 have hcl:len≤cap':=by
  rcases hm.owns.2 with⟨h,hn⟩ | ⟨g,cp,cur,h,_,_,hnc,_⟩
  ·omega
  ·rw[hv] at h
   simp at h;omega
 have hkl:ks.length=len:=by rw[←hl,←k1];simp
 have hT:∀u∈ks,IsT wr.heap.size (set4 (wr.setCell ⟨W.heap.size,3,none⟩ v) (W.heap.size+1) 0 x) u:=fun u hu=>
  (k2 u hu).1.fromS (fun b hb=>hother b (by have:=hb.2;unfold Mix at this;omega) (by have:=hb.2;unfold Mix at this;omega)) (k2 u hu).2
 have hS:∀u∈ks,BlkT (Mix ns W.heap.size) u:=fun u hu=>(k2 u hu).2.mono fun b hb=>by have:=hb.2;unfold Mix at this⊢;omega
 refine⟨((x,ks):TV×List (Tm M)),rfl,?_,?_,?_⟩
 ·rw[hsz']
  refine⟨hkl.symm,⟨?_,hcl,hlim⟩,hs,?_⟩
  ·show len≤_
   omega
  ·rcases hoc with⟨_,hn⟩ | ⟨g,cp,hv2,hg1,hg2,hcells⟩
   ·left
    show ks=[]
    apply List.length_eq_zero_iff.1;rw[hkl,←hl,hn];rfl
   ·right
    rw[hv] at hv2;simp at hv2;obtain⟨e1,_,_⟩:=hv2;refine⟨g,0,e1,hg2,fun j u hu=>⟨?_,hT u (List.mem_of_getElem? hu)⟩⟩;rw[Nat.zero_add];have hu':ks[j]?=some u:=hu;have:l[j]?=some u.tv:=by rw[←k1,List.getElem?_map,hu'];rfl
    exact(hcells j u.tv this).kept (hother g (by omega) (by omega))
 ·refine⟨?_,hS⟩
  rcases hoc with⟨_,hn⟩ | ⟨g,cp,hv2,hg1,hg2,hcells⟩
  ·left
   show ks=[]
   apply List.length_eq_zero_iff.1;rw[hkl,←hl,hn];rfl
  ·right
   rw[hv] at hv2;simp at hv2;obtain⟨e1,_,_⟩:=hv2;exact⟨g,0,e1,by unfold Mix;omega⟩
 ·rw[code_succ,k3];rfl
set_option maxHeartbeats 400000
theorem none_any(x:TV)(w:World):Calls Tryd.prog 7 #[x.val] w fun e W'=>e=.returned (.bool (decide (x.k=0) && (decide (x.N=0) && (decide (x.s.toList=[]) && ((x.len:Int) == 0)))))∧Below w.heap.size w W':=by
 simp only[TV.val];go_enter Tryd.func7,Tryd.ntmps7
 go_wp2
 all_goals go_ret
 all_goals refine⟨?_,(Below.refl _ w).alloc (Nat.le_refl _) _⟩
 all_goals simp_all
end Go.Proofs.YtjbdkbaacjfecaaDoor
