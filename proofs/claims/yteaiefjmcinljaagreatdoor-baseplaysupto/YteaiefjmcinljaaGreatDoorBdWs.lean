import Derived.Test.YteaiefjmcinljaaGreatDoorBdTs
import Derived.Test.YteaiefjmcinljaaGreatDoorBcIs
import Derived.ChangeKeys
namespace Go.Proofs.YteaiefjmcinljaaGreatDoor
open Go.RowKit Go.Shelf Go.Maps
/-- A base at block b: how many were laid down, its own blocks, its entries. -/
def BaseAt(M:Nat→Prop)(W:World)(b:Nat)(laid:Int)(O:Nat→Prop)(E:List En):Prop:=
 ∃(me mf ce cf:Nat) (ge gf:Lit→Option Addr) (F:Lit→Option Fam),BOK M W b me mf laid ce cf ge gf F E∧∀k,O k↔Own b me mf F k
/-- The place of a clause that is laid down as the laid-th. -/
def plOf(laid:Int)(first:Bool):Int:=if first=true then -(laid+1) else laid+1
/-- What stands behind an Add. -/
def AddAt(M:Nat→Prop)(W:World)(b:Nat)(laid:Int)(O:Nat→Prop)(E:List En)(s:Int×List Nd×List Nd)(W':World):Prop:=
 ∃(M' O':Nat→Prop) (x:En),(∀k,M k→M' k)∧(∀k,M' k→M k∨W.heap.size≤k)∧(∀k,O' k→O k∨W.heap.size≤k)∧Mut M' W'∧GrB O W.heap.size W W'∧x.say=s∧BaseAt M' W' b (laid+1) O' (insE E x)
/-- Two bases, apart from each other. -/
structure TwoB (M:Nat→Prop) (W:World) (b u:Nat) (lb lu:Int) (Ob Ou:Nat→Prop) (Eb Eu:List En):Prop where
 mu:Mut M W
 fst:BaseAt M W b lb Ob Eb
 snd:BaseAt M W u lu Ou Eu
 far:∀k,Ob k→¬Ou k
/-- The entries that a view gives from a place on. -/
def Seq(A1 A2:List En):Int→List En→Prop
 | last,[]=>stepN A1 A2 last=none
 | last,e::L=>stepN A1 A2 last=some e∧Seq A1 A2 e.pl L
theorem nextN_none{A:List En}{last:Int}(h:∀e∈A,¬last<e.pl):nextN A last=none:=by
 unfold nextN
 rw[List.find?_eq_none]
 intro e he
 simpa using h e he
theorem nextN_least{A:List En}(hs:SrtE A){last:Int}{e:En}(he:e∈A)(hl:last<e.pl):∃x,nextN A last=some x∧x∈A∧last<x.pl∧(x=e∨x.pl<e.pl):=by
 induction A with
 | nil=>cases he
 | cons a A ih=>
  rw[SrtE,List.pairwise_cons] at hs
  by_cases ha:last<a.pl
  ·refine⟨a,by unfold nextN;rw[List.find?_cons_of_pos (by simpa using ha)],List.mem_cons_self ..,ha,?_⟩
   rcases List.mem_cons.1 he with rfl | he
   ·exact .inl rfl
   ·exact .inr (hs.1 e he)
  ·rcases List.mem_cons.1 he with rfl | he
   ·exact(ha hl).elim
   ·obtain⟨x,h1,h2,h3,h4⟩:=ih hs.2 he
    exact⟨x,by unfold nextN at h1⊢;rw[List.find?_cons_of_neg (by simpa using ha)];exact h1,List.mem_cons_of_mem _ h2,h3,h4⟩
theorem seq_of{A1 A2:List En}(h1:SrtE A1)(h2:SrtE A2):∀(L:List En) (last:Int),SrtE L→(∀e,e∈L↔(e∈A1∨e∈A2)∧last<e.pl)→Seq A1 A2 last L:=by
 intro L
 induction L with
 | nil=>
  intro last _ hm
  have a1:nextN A1 last=none:=nextN_none fun e he hl=>by have:=(hm e).2 ⟨.inl he,hl⟩;cases this
  have a2:nextN A2 last=none:=nextN_none fun e he hl=>by have:=(hm e).2 ⟨.inr he,hl⟩;cases this
  show stepN A1 A2 last=none
  unfold stepN
  rw[a1,a2]
  rfl
 | cons e L ih=>
  intro last hs hm
  rw[SrtE,List.pairwise_cons] at hs
  obtain⟨he,hl⟩:=(hm e).1 (List.mem_cons_self ..)
  have least:∀x,(x∈A1∨x∈A2)→last<x.pl→x=e∨e.pl<x.pl:=fun x hx hxl=>by
   rcases List.mem_cons.1 ((hm x).2 ⟨hx,hxl⟩) with rfl | h
   ·exact .inl rfl
   ·exact .inr (hs.1 x h)
  have ofN:∀{A:List En},(∀x∈A,x∈A1∨x∈A2)→∀x,nextN A last=some x→x=e∨e.pl<x.pl:=fun hA x hx=>least x (hA x (nextN_in hx).1) (nextN_in hx).2
  have hst:stepN A1 A2 last=some e:=by
   unfold stepN
   rcases he with he | he
   ·obtain⟨x,k1,k2,k3,k4⟩:=nextN_least h1 he hl
    have hx:x=e:=by rcases ofN (fun x hx=>.inl hx) x k1 with h | h <;> rcases k4 with k | k <;> first | exact h | exact k | (exfalso;omega)
    subst hx
    rw[k1]
    cases hy:nextN A2 last with
    | none=>rfl
    | some y=>
     have:=ofN (fun x hx=>.inr hx) y hy
     show(if y.pl<x.pl then some y else some x)=some x
     rw[if_neg (by rcases this with h | h;rw[h];omega;omega)]
   ·obtain⟨y,k1,k2,k3,k4⟩:=nextN_least h2 he hl
    have hy:y=e:=by rcases ofN (fun x hx=>.inr hx) y k1 with h | h <;> rcases k4 with k | k <;> first | exact h | exact k | (exfalso;omega)
    subst hy
    rw[k1]
    cases hx:nextN A1 last with
    | none=>rfl
    | some x=>
     rcases ofN (fun x hx=>.inl hx) x hx with rfl | h
     ·show(if x.pl<x.pl then some x else some x)=some x
      rw[if_neg (by omega)]
     ·show(if y.pl<x.pl then some y else some x)=some y
      rw[if_pos h]
  refine⟨hst,ih e.pl hs.2 fun x=>⟨fun hx=>⟨((hm x).1 (List.mem_cons_of_mem _ hx)).1,hs.1 x hx⟩,fun hx=>?_⟩⟩
  rcases List.mem_cons.1 ((hm x).2 ⟨hx.1,by omega⟩) with rfl | h
  ·have:=hx.2;omega
  ·exact h
/-- Is a head let through to a goal? -/
def Thr(c ch:List Nd):Prop:=predC ch=predC c∧(keyI c=true∨keyC ch=keyC c∨keyC ch=keyZ)
open Classical in
noncomputable def thrE (E:List En) (c:List Nd):List En:=E.filter fun e=>decide (Thr c e.ch)
theorem goalN_mem(E:List En)(c:List Nd)(e:En):e∈(goalN E c).1∨e∈(goalN E c).2↔e∈E∧Thr c e.ch:=by
 classical
 unfold goalN Thr
 split
 ·rename_i hk
  simp[rowPN,hk]
 ·rename_i hk
  simp only[rowKN,List.mem_filter,decide_eq_true_eq]
  constructor
  ·rintro(⟨h1,h2,h3⟩ | ⟨h1,h2,h3⟩)
   ·exact⟨h1,h2,.inr (.inl h3)⟩
   ·exact⟨h1,h2,.inr (.inr h3)⟩
  ·rintro⟨h1,h2,h3 | h3 | h3⟩
   ·exact(hk h3).elim
   ·exact .inl ⟨h1,h2,h3⟩
   ·exact .inr ⟨h1,h2,h3⟩
theorem goalN_srtE{E:List En}(h:SrtE E)(c:List Nd):SrtE (goalN E c).1∧SrtE (goalN E c).2:=by
 unfold goalN
 split
 ·exact⟨List.Pairwise.filter _ h,List.Pairwise.nil⟩
 ·exact⟨List.Pairwise.filter _ h,List.Pairwise.filter _ h⟩
theorem goal_seq{E:List En}(h:SrtE E)(c:List Nd){last:Int}(hl:∀e∈E,last<e.pl):Seq (goalN E c).1 (goalN E c).2 last (thrE E c):=by
 classical
 refine seq_of (goalN_srtE h c).1 (goalN_srtE h c).2 _ _ (List.Pairwise.filter _ h) fun e=>?_
 rw[goalN_mem]
 simp only[thrE,List.mem_filter,decide_eq_true_eq]
 exact⟨fun k=>⟨k,hl e k.1⟩,fun k=>k.1⟩
/-- A clause that ever was, as hornref's Base keeps it: its place (by its id, or below 0 by as much), its terms, whether it is there. -/
structure Hd (n:Nat) where
 pl:Int
 th:Tm (n+1)
 tb:Tm (n+1)
 on:Bool
def Hd.id{n:Nat}(h:Hd n):Int:=max h.pl (-h.pl)
def Hd.say{n:Nat}(h:Hd n):Int×List Nd×List Nd:=(h.pl,code h.th,code h.tb)
/-- What the two keep is the same. -/
structure Both {n:Nat} (laid:Int) (E:List En) (H:List (Hd n)):Prop where
 len:(H.length:Int)=laid
 says:E.map En.say=(H.filter (·.on)).map Hd.say
 srt:H.Pairwise fun a b=>a.pl<b.pl
 pls:∀h∈H,h.pl≠0∧ -laid≤h.pl∧h.pl≤laid
 ids:H.Pairwise fun a b=>a.pl≠ -b.pl
theorem Both.nil(n:Nat):Both (n:=n) 0 [] []:=⟨rfl,rfl,List.Pairwise.nil,(fun h hh=>by cases hh),List.Pairwise.nil⟩
theorem say_pl{e:En}{s:Int×List Nd×List Nd}(h:e.say=s):e.pl=s.1:=congrArg (·.1) h
theorem insE_last{E:List En}{x:En}(h:∀e∈E,e.pl<x.pl):insE E x=E++[x]:=by
 unfold insE
 rw[List.filter_eq_self.2 (fun e he=>by simpa using h e he),List.filter_eq_nil_iff.2 (fun e he=>by have:=h e he;simp;omega)]
theorem insE_head{E:List En}{x:En}(h:∀e∈E,x.pl<e.pl):insE E x=x::E:=by
 unfold insE
 rw[List.filter_eq_nil_iff.2 (fun e he=>by have:=h e he;simp;omega),List.filter_eq_self.2 (fun e he=>by have:=h e he;simp;omega),List.nil_append]
theorem Both.pl_of{n:Nat}{laid:Int}{E:List En}{H:List (Hd n)}(h:Both laid E H){e:En}(he:e∈E):∃d∈H,d.on=true∧d.pl=e.pl∧d.say=e.say:=by
 have h1:e.say∈E.map En.say:=List.mem_map.2 ⟨e,he,rfl⟩
 rw[h.says] at h1
 obtain⟨d,hd,e1⟩:=List.mem_map.1 h1
 rw[List.mem_filter] at hd
 exact⟨d,hd.1,hd.2,congrArg (·.1) e1,e1⟩
theorem Both.bound{n:Nat}{laid:Int}{E:List En}{H:List (Hd n)}(h:Both laid E H){e:En}(he:e∈E): -laid≤e.pl∧e.pl≤laid:=by
 obtain⟨d,hd,_,hp,_⟩:=h.pl_of he
 have:=h.pls d hd
 omega
theorem Both.last{n:Nat}{laid:Int}{E:List En}{H:List (Hd n)}(h:Both laid E H)(h0:0≤laid){x:En}{th tb:Tm (n+1)}(hx:x.say=(laid+1,code th,code tb)):Both (laid+1) (insE E x) (H++[⟨laid+1,th,tb,true⟩]):=by
 have hp:x.pl=laid+1:=say_pl hx
 rw[insE_last (fun e he=>by have:=h.bound he;omega)]
 refine⟨by simp;have:=h.len;omega,by simp[h.says,hx,Hd.say],?_,fun d hd=>?_,?_⟩
 ·rw[List.pairwise_append]
  exact⟨h.srt,List.pairwise_singleton _ _,fun a ha b hb=>by have:=h.pls a ha;rw[List.mem_singleton] at hb;subst hb;show a.pl<laid+1;omega⟩
 ·rcases List.mem_append.1 hd with hd | hd
  ·have:=h.pls d hd;omega
  ·rw[List.mem_singleton] at hd;subst hd;exact⟨by show laid+1≠0;omega,by show -(laid+1)≤laid+1;omega,Int.le_refl _⟩
 ·rw[List.pairwise_append]
  exact⟨h.ids,List.pairwise_singleton _ _,fun a ha b hb=>by have:=h.pls a ha;rw[List.mem_singleton] at hb;subst hb;show a.pl≠ -(laid+1);omega⟩
theorem Both.first{n:Nat}{laid:Int}{E:List En}{H:List (Hd n)}(h:Both laid E H)(h0:0≤laid){x:En}{th tb:Tm (n+1)}(hx:x.say=(-(laid+1),code th,code tb)):Both (laid+1) (insE E x) (⟨-(laid+1),th,tb,true⟩::H):=by
 have hp:x.pl= -(laid+1):=say_pl hx
 rw[insE_head (fun e he=>by have:=h.bound he;omega)]
 refine⟨by simp;have:=h.len;omega,by simp[h.says,hx,Hd.say],?_,fun d hd=>?_,?_⟩
 ·rw[List.pairwise_cons]
  exact⟨fun b hb=>by have:=h.pls b hb;show -(laid+1)<b.pl;omega,h.srt⟩
 ·rcases List.mem_cons.1 hd with rfl | hd
  ·exact⟨by show -(laid+1)≠0;omega,Int.le_refl _,by show -(laid+1)≤laid+1;omega⟩
  ·have:=h.pls d hd;omega
 ·rw[List.pairwise_cons]
  exact⟨fun b hb=>by have:=h.pls b hb;show -(laid+1)≠ -b.pl;omega,h.ids⟩
/-- One that is there is taken away. -/
def offH{n:Nat}(H:List (Hd n))(id:Int):List (Hd n):=H.map fun d=>if d.id=id then {d with on:=false} else d
def hasH{n:Nat}(H:List (Hd n))(id:Int):Bool:=H.any fun d=>decide (d.id=id) && d.on
/-- What a key can be made of. -/
def KeyW(x:Nd):Prop:=(-9223372036854775808≤x.1∧x.1≤9223372036854775807)∧(-9223372036854775808≤x.2.1∧x.2.1≤9223372036854775807)∧x.2.2.1.length≤maxLen∧x.2.2.2≤9223372036854775807
theorem i64_wf{N:Int}(h: -9223372036854775808≤N∧N≤9223372036854775807):(Lit.int .i64 N).wf=true:=by
 simp[Lit.wf,IntKind.min,IntKind.max,IntKind.signed,IntKind.bits];omega
theorem predC_iff{x y:Nd}{r r':List Nd}(hx:KeyW x)(hy:KeyW y):predC (x::r)=predC (y::r')↔x.2.2.1=y.2.2.1∧x.2.2.2=y.2.2.2:=by
 constructor
 ·intro h
  simp only[predC,Lit.string.injEq] at h
  have h':=keyBytes_inj (l:=[.string x.2.2.1,.int .i64 (x.2.2.2:Int)]) (l':=[.string y.2.2.1,.int .i64 (y.2.2.2:Int)]) ⟨trivial,rfl,trivial⟩
   (fun a ha=>by simp at ha;rcases ha with rfl | rfl;exact hx.2.2.1;exact i64_wf ⟨by omega,by have:=hx.2.2.2;omega⟩)
   (fun a ha=>by simp at ha;rcases ha with rfl | rfl;exact hy.2.2.1;exact i64_wf ⟨by omega,by have:=hy.2.2.2;omega⟩) h
  simp only[List.cons.injEq,Lit.string.injEq,Lit.int.injEq,true_and,and_true] at h'
  exact⟨h'.1,by omega⟩
 ·rintro⟨h1,h2⟩
  simp only[predC,h1,h2]
theorem keyN_iff{x y:Nd}(hx:KeyW x)(hy:KeyW y):keyN x.1 x.2.1 x.2.2.1 x.2.2.2=keyN y.1 y.2.1 y.2.2.1 y.2.2.2↔x=y:=by
 constructor
 ·intro h
  simp only[keyN,Lit.string.injEq] at h
  have h':=keyBytes_inj (l:=[.int .i64 x.1,.int .i64 x.2.1,.string x.2.2.1,.int .i64 (x.2.2.2:Int)]) (l':=[.int .i64 y.1,.int .i64 y.2.1,.string y.2.2.1,.int .i64 (y.2.2.2:Int)]) ⟨rfl,rfl,trivial,rfl,trivial⟩
   (fun a ha=>by simp at ha;rcases ha with rfl | rfl | rfl | rfl;exact i64_wf hx.1;exact i64_wf hx.2.1;exact hx.2.2.1;exact i64_wf ⟨by omega,by have:=hx.2.2.2;omega⟩)
   (fun a ha=>by simp at ha;rcases ha with rfl | rfl | rfl | rfl;exact i64_wf hy.1;exact i64_wf hy.2.1;exact hy.2.2.1;exact i64_wf ⟨by omega,by have:=hy.2.2.2;omega⟩) h
  simp only[List.cons.injEq,Lit.string.injEq,Lit.int.injEq,true_and,and_true] at h'
  obtain⟨x1,x2,x3,x4⟩:=x
  obtain⟨y1,y2,y3,y4⟩:=y
  simp only at h'
  obtain⟨rfl,rfl,rfl,h4⟩:=h'
  have:x4=y4:=by omega
  subst this
  rfl
 ·intro h
  rw[h]
def zNd:Nd:=(0,0,[],0)
/-- By what hornref looks at: a name, so many Args, and the first of them. -/
def thrB:List Nd→List Nd→Bool
 | g::rg,h::rh=>decide (h.2.2.1=g.2.2.1) && (decide (h.2.2.2=g.2.2.2) && (match rg,rh with
  | x::_,y::_=>decide (g.2.2.2=0) || (decide (x.1=1) || (decide (y.1=1) || decide (x=y)))
  | _,_=>true))
 | _,_=>false
/-- Behind a node stands its first part, if it has one. -/
def FirstIs:List Nd→Prop
 | g::r=>KeyW g∧(g.2.2.2=0→r=[])∧(g.2.2.2≠0→∃x r',r=x::r'∧KeyW x∧x.1≠0)
 | []=>False
theorem thr_iff{c ch:List Nd}(hc:FirstIs c)(hh:FirstIs ch):Thr c ch↔thrB c ch=true:=by
 match c,ch,hc,hh with
 | g::rg,h::rh,⟨gk,g0,g1⟩,⟨hk,h0,h1⟩=>
  unfold Thr
  rw[predC_iff hk gk]
  by_cases hn:h.2.2.1=g.2.2.1∧h.2.2.2=g.2.2.2
  ·by_cases hz:g.2.2.2=0
   ·have e1:=g0 hz
    subst e1
    simp only[hn,keyI,true_or,and_self,thrB,decide_true,Bool.and_true]
   ·obtain⟨x,rx,rfl,xk,x0⟩:=g1 hz
    obtain⟨y,ry,rfl,yk,y0⟩:=h1 (by rw[hn.2];exact hz)
    have hzk:keyZ=keyN zNd.1 zNd.2.1 zNd.2.2.1 zNd.2.2.2:=rfl
    have zk:KeyW zNd:=⟨⟨by decide,by decide⟩,⟨by decide,by decide⟩,by simp[zNd,maxLen],by decide⟩
    have nz:∀{u:Nd},KeyW u→u.1≠0→keyN u.1 u.2.1 u.2.2.1 u.2.2.2≠keyZ:=fun {u} uk u0 e=>by
     rw[hzk] at e
     have:=(keyN_iff uk zk).1 e
     rw[this] at u0
     exact u0 rfl
    simp only[hn,true_and,and_self,keyI,keyC,thrB,decide_true,Bool.true_and,hz,decide_false,Bool.false_or,Bool.or_eq_true,decide_eq_true_eq]
    by_cases hx1:x.1=1
    ·simp[hx1]
    ·by_cases hy1:y.1=1
     ·simp[hx1,hy1]
     ·simp only[hx1,hy1,if_false,false_or]
      constructor
      ·rintro(h | h)
       ·exact((keyN_iff yk xk).1 h).symm
       ·exact(nz yk y0 h).elim
      ·intro h
       exact .inl (by rw[h])
  ·exact⟨fun hq=>(hn hq.1).elim,fun hq=>(hn (by simp only[thrB,Bool.and_eq_true,decide_eq_true_eq] at hq;exact⟨hq.1,hq.2.1⟩)).elim⟩
set_option maxHeartbeats 2000000
set_option maxRecDepth 100000
/-- The ten cells of a clause that ever was. -/
structure HdAt {n:Nat} (W:World) (b o:Nat) (h:Hd n):Prop where
 c0:W.cell? ⟨b,o,none⟩=some (.int .i64 h.id)
 c1:cellsAt W b (o+1) h.th.tv
 c5:cellsAt W b (o+5) h.tb.tv
 c9:W.cell? ⟨b,o+9,none⟩=some (.bool h.on)
theorem HdAt.kept{n:Nat}{A W:World}{b o:Nat}{h:Hd n}(k:HdAt A b o h)(hb:W.heap[b]?=A.heap[b]?):HdAt W b o h:=
 ⟨(World.cell?_of_block hb).trans k.c0,k.c1.kept hb,k.c5.kept hb,(World.cell?_of_block hb).trans k.c9⟩
/-- A row of them. -/
def IsH{n:Nat}(W:World)(a:Option Addr)(len:Nat)(H:List (Hd n)):Prop:=
 len=H.length∧(H=[]∨∃b off,a=some ⟨b,off,none⟩∧b<W.heap.size∧∀j h,H[j]?=some h→HdAt W b (off+j*10) h)
theorem IsH.kept{n:Nat}{A W:World}{a:Option Addr}{len:Nat}{H:List (Hd n)}(h:IsH A a len H)(hs:A.heap.size≤W.heap.size)(hb:∀b off,a=some ⟨b,off,none⟩→b<A.heap.size→W.heap[b]?=A.heap[b]?):IsH W a len H:=by
 refine⟨h.1,?_⟩
 rcases h.2 with h0 | ⟨b,off,e,hlt,hk⟩
 ·exact .inl h0
 ·exact .inr ⟨b,off,e,Nat.lt_of_lt_of_le hlt hs,fun j d hd=>(hk j d hd).kept (hb b off e hlt)⟩
theorem IsH.below{n:Nat}{A W:World}{a:Option Addr}{len:Nat}{H:List (Hd n)}(h:IsH A a len H)(hb:Below A.heap.size A W):IsH W a len H:=h.kept hb.size fun b _ _ hlt=>hb.block b hlt
theorem hd_at{n:Nat}{W V:World}{a:Option Addr}{len j:Nat}{H:List (Hd n)}(h:IsH W a len H)(hb:Below W.heap.size W V)(hj:j<len):∃(d:Hd n) (b off:Nat),H[j]?=some d∧a=some ⟨b,off,none⟩∧b<W.heap.size∧V.cell? ⟨b,off+j*10,none⟩=some (.int .i64 d.id)∧
  (V.cell? ⟨b,off+j*10+1,none⟩=some (.int .i64 d.th.tv.k)∧V.cell? ⟨b,off+j*10+2,none⟩=some (.int .i64 d.th.tv.N)∧V.cell? ⟨b,off+j*10+3,none⟩=some (.string d.th.tv.s)∧V.cell? ⟨b,off+j*10+4,none⟩=some (.slice d.th.tv.a d.th.tv.len d.th.tv.cap))∧
  (V.cell? ⟨b,off+j*10+5,none⟩=some (.int .i64 d.tb.tv.k)∧V.cell? ⟨b,off+j*10+6,none⟩=some (.int .i64 d.tb.tv.N)∧V.cell? ⟨b,off+j*10+7,none⟩=some (.string d.tb.tv.s)∧V.cell? ⟨b,off+j*10+8,none⟩=some (.slice d.tb.tv.a d.tb.tv.len d.tb.tv.cap))∧
  V.cell? ⟨b,off+j*10+9,none⟩=some (.bool d.on):=by
 rcases h.2 with h0 | ⟨b,off,e,hlt,hk⟩
 ·subst h0
  have:=h.1
  simp at this
  omega
 ·have hjl:j<H.length:=by have:=h.1;omega
  have k:=(hk j (H[j]'hjl) (List.getElem?_eq_getElem hjl)).kept (hb.block b hlt)
  exact⟨H[j]'hjl,b,off,List.getElem?_eq_getElem hjl,e,hlt,k.c0,⟨k.c1.1,k.c1.2.1,k.c1.2.2.1,k.c1.2.2.2⟩,⟨k.c5.1,k.c5.2.1,k.c5.2.2.1,k.c5.2.2.2⟩,k.c9⟩
theorem boxed_at'{w W:World}{B:Nat}{T:TypeId}{v:Value}(h:Boxed w B T v)(hb:Below w.heap.size w W):Boxed W B T v:=(hb.block B (Array.getElem?_eq_some_iff.1 h).1).trans h
theorem any_take{α:Type}{p:α→Bool}{l:List α}{j:Nat}{d:α}(hd:l[j]?=some d)(h:(l.take j).any p=false):(l.take (j+1)).any p=p d:=by
 rw[List.take_add_one,hd,List.any_append,h]
 simp
theorem any_at{α:Type}{p:α→Bool}{l:List α}{j:Nat}{d:α}(hd:l[j]?=some d)(h:p d=true):l.any p=true:=List.any_eq_true.2 ⟨d,List.mem_of_getElem? hd,h⟩
theorem rknown_any{n:Nat}(rb:Nat)(a:Option Addr)(len cap:Nat)(H:List (Hd n))(s:ByteArray)(N:Int)(w:World)(hb:Boxed w rb 27 (.slice a len cap))(hH:IsH w a len H)(hlen:len≤4194304):
  Calls Tryz.prog 17 #[.pointer (some ⟨rb,0,none⟩),.string s,.int .i64 N] w fun e W'=>e=.returned (.bool (H.any fun d=>isB d.th.tv s.toList N))∧Below w.heap.size w W':=by
 have hl1:H.length≤len:=by have:=hH.1;omega
 have HH:=hide hH
 have HB:=hide hb
 have hi:=fun(x:TV) (V:World)=>ris_any x s N V
 have HI:=hide hi
 clear hH hb hi
 go_enter Tryz.func17,Tryz.ntmps17
 go_wp2_with fail
 go_loopw [7] (fun i wr=> ∃j:Nat,j≤len∧i=.int .i64 j∧Below w.heap.size w wr∧Hid ((H.take j).any (fun d=>isB d.th.tv s.toList N)=false)) (fun i _=>len-(intOf i).toNat)
 case atStart=>exact⟨0,Nat.zero_le _,rfl,Below.refl _ _,hide (by simp)⟩
 case round=>
  obtain⟨j,hj,rfl,hbl,HS⟩:=hrel
  have r0:wr.cell? ⟨rb,0,none⟩=some (.slice a len cap):=(boxed_at' (unhide HB) hbl).cell
  by_cases hlt:j<len
  ·obtain⟨d,b,off,hd,rfl,hbk,c0,⟨c1,c2,c3,c4⟩,⟨c5,c6,c7,c8⟩,c9⟩:=hd_at (unhide HH) hbl hlt
   have HD:=hide hd
   have hj1:(j:Int)<len:=by omega
   have his:=HI.out d.th.tv wr
   simp only[TV.val] at his
   clear hd c0 c5 c6 c7 c8 c9
   go_wp2_with fail
   refine his.mono ?_
   clear his
   rintro e W2 ⟨rfl,b2⟩
   have hb2:Below w.heap.size w W2:=hbl.trans (b2.mono hbl.size)
   cases hB:isB d.th.tv s.toList N with
   | true=>
    have HB':=hide hB
    clear hB
    go_wp2_with fail
    go_ret
    exact⟨by rw[any_at (p:=fun d=>isB d.th.tv s.toList N) (unhide HD) (unhide HB')];rfl,hb2⟩
   | false=>
    have HB':=hide hB
    clear hB
    go_wp2_with fail
    go_roundw
    case rel=>exact⟨j+1,by omega,by go_num,hb2,hide (by rw[any_take (unhide HD) (unhide HS)];exact unhide HB')⟩
    case measure=>simp[intOf];omega
  ·obtain rfl:j=len:=by omega
   have hj1:¬(j:Int)<j:=by omega
   have hall:=unhide HS
   rw[List.take_of_length_le (by omega)] at hall
   have HA:=hide hall
   clear hall
   go_wp2_with fail
   go_ret
   exact⟨by rw[unhide HA];rfl,hbl⟩
/-- What Get and Remove look for. -/
def hitB{n:Nat}(id:Int)(d:Hd n):Bool:=d.id == id && d.on
def getC{n:Nat}(H:List (Hd n))(id:Int):Value×Int:=match H.find? (hitB id) with
 | some d=>(clV d.th.tv d.tb.tv,0)
 | none=>(clV noTerm noTerm,8)
theorem find_at{α:Type}{p:α→Bool}{l:List α}{j:Nat}{d:α}(hd:l[j]?=some d)(hp:p d=true)(h:(l.take j).any p=false):l.find? p=some d:=by
 induction l generalizing j with
 | nil=>simp at hd
 | cons x l ih=>
  cases j with
  | zero=>simp at hd;subst hd;exact List.find?_cons_of_pos hp
  | succ j=>
   simp only[List.take_succ_cons,List.any_cons,Bool.or_eq_false_iff] at h
   rw[List.find?_cons_of_neg (by simp[h.1])]
   exact ih (by simpa using hd) h.2
theorem find_no{α:Type}{p:α→Bool}{l:List α}(h:l.any p=false):l.find? p=none:=by
 rw[List.find?_eq_none]
 intro x hx hp
 have:=List.any_eq_true.2 ⟨x,hx,hp⟩
 rw[h] at this
 cases this
theorem rget_any{n:Nat}(rb:Nat)(a:Option Addr)(len cap:Nat)(H:List (Hd n))(id:Int)(w:World)(hb:Boxed w rb 27 (.slice a len cap))(hH:IsH w a len H)(hlen:len≤4194304):
  Calls Tryz.prog 14 #[.pointer (some ⟨rb,0,none⟩),.int .i64 id] w fun e W'=>e=.returned (.tuple #[(getC H id).1,.int .i64 (getC H id).2])∧Below w.heap.size w W':=by
 have hl1:H.length≤len:=by have:=hH.1;omega
 have hb1:Below w.heap.size w (w.alloc (.cells #[.int .i64 0,.int .i64 0,.string ⟨#[]⟩,.slice none 0 0,.int .i64 0,.int .i64 0,.string ⟨#[]⟩,.slice none 0 0] 36)):=(Below.refl _ w).alloc (Nat.le_refl _) _
 have hz1:BoxC (w.alloc (.cells #[.int .i64 0,.int .i64 0,.string ⟨#[]⟩,.slice none 0 0,.int .i64 0,.int .i64 0,.string ⟨#[]⟩,.slice none 0 0] 36)) w.heap.size noTerm noTerm:=BoxC.new w noTerm noTerm
 have hs1:(w.alloc (.cells #[.int .i64 0,.int .i64 0,.string ⟨#[]⟩,.slice none 0 0,.int .i64 0,.int .i64 0,.string ⟨#[]⟩,.slice none 0 0] 36)).heap.size=w.heap.size+1:=by simp
 have HH:=hide (hH.below hb1)
 have HB:=hide (boxed_at' hb hb1)
 clear hH hb
 go_enter Tryz.func14,Tryz.ntmps14
 go_wp2_with fail
 obtain⟨W1,hW1⟩:∃W1,w.alloc (.cells #[.int .i64 0,.int .i64 0,.string ⟨#[]⟩,.slice none 0 0,.int .i64 0,.int .i64 0,.string ⟨#[]⟩,.slice none 0 0] 36)=W1:=⟨_,rfl⟩
 rw[hW1] at hb1 hz1 hs1 HH HB⊢
 clear hW1
 have HZ:=hide hz1
 have HB1:=hide hb1
 have HS1:=hide hs1
 clear hz1 hb1 hs1
 have fin:Hid (∀(wr:World) (x y:TV),Below W1.heap.size W1 wr→BoxC (set8 wr w.heap.size x y) w.heap.size x y∧Below w.heap.size w (set8 wr w.heap.size x y)):=fun wr x y hbl=>
  ⟨boxC_set8 (show BoxC wr w.heap.size noTerm noTerm from(hbl.block _ (by have:=unhide HS1;omega)).trans (unhide HZ)) x y,set8_below ((unhide HB1).trans (hbl.mono (unhide HB1).size)) (Nat.le_refl _) _ _⟩
 go_loopw [6] (fun i wr=> ∃j:Nat,j≤len∧i=.int .i64 j∧Below W1.heap.size W1 wr∧Hid ((H.take j).any (hitB id)=false)) (fun i _=>len-(intOf i).toNat)
 case atStart=>exact⟨0,Nat.zero_le _,rfl,Below.refl _ _,hide (by simp)⟩
 case round=>
  obtain⟨j,hj,rfl,hbl,HS⟩:=hrel
  have r0:wr.cell? ⟨rb,0,none⟩=some (.slice a len cap):=(boxed_at' (unhide HB) hbl).cell
  have hzr:BoxC wr w.heap.size noTerm noTerm:=(hbl.block _ (by have:=unhide HS1;omega)).trans (unhide HZ)
  obtain⟨⟨z0,z1,z2,z3⟩,z4,z5,z6,z7⟩:=hzr.cs
  obtain⟨y0,y1,y2,y3,y4,y5,y6,y7⟩:=hzr.fs
  simp only[noTerm] at z0 z1 z2 z3 z4 z5 z6 z7
  clear hzr
  by_cases hlt:j<len
  ·obtain⟨d,b,off,hd,rfl,hbk,c0,⟨c1,c2,c3,c4⟩,⟨c5,c6,c7,c8⟩,c9⟩:=hd_at (unhide HH) hbl hlt
   have HD:=hide hd
   have hj1:(j:Int)<len:=by omega
   clear hd
   have next:Hid (hitB id d=false→Hid ((H.take (j+1)).any (hitB id)=false)):=hide fun h=>hide (by rw[any_take (unhide HD) (unhide HS)];exact h)
   cases hE:(d.id == id) with
   | false=>
    have HN:=hide (next.out (by simp[hitB,hE]))
    clear next
    go_wp2_with fail
    go_roundw
    case rel=>exact⟨j+1,by omega,by go_num,hbl,HN.out⟩
    case measure=>simp[intOf];omega
   | true=>
    cases hO:d.on with
    | false=>
     have HN:=hide (next.out (by simp[hitB,hO]))
     rw[hO] at c9
     clear next hO
     go_wp2_with fail
     go_roundw
     case rel=>exact⟨j+1,by omega,by go_num,hbl,HN.out⟩
     case measure=>simp[intOf];omega
    | true=>
     have HG:=hide (show getC H id=(clV d.th.tv d.tb.tv,0) by unfold getC;rw[find_at (unhide HD) (by simp[hitB,hE,hO]) (unhide HS)])
     have hf:=fin.out wr d.th.tv d.tb.tv hbl
     rw[hO] at c9
     clear next hO fin
     go_wp2_with fail
     rw[set8_nestn]
     obtain⟨⟨w0,w1,w2,w3⟩,w4,w5,w6,w7⟩:=hf.1.cs
     have HF:=hide hf.2
     clear hf z0 z1 z2 z3 z4 z5 z6 z7 y0 y1 y2 y3 y4 y5 y6 y7 c0 c1 c2 c3 c4 c5 c6 c7 c8 c9 r0
     generalize set8 wr w.heap.size d.th.tv d.tb.tv=V5 at HF w0 w1 w2 w3 w4 w5 w6 w7⊢
     go_wp2_with fail
     exact bodyPost_ret (v:=.tuple #[clV d.th.tv d.tb.tv,.int .i64 0]) (by simp[results,Tryz.results14,go_sem,clV,w0,w1,w2,w3,w4,w5,w6,w7]) rfl ⟨by rw[unhide HG],HF.out⟩
  ·obtain rfl:j=len:=by omega
   have hj1:¬(j:Int)<j:=by omega
   have hall:=unhide HS
   rw[List.take_of_length_le (by omega)] at hall
   have HG:=hide (show getC H id=(clV noTerm noTerm,8) by unfold getC;rw[find_no hall])
   have hf:=fin.out wr noTerm noTerm hbl
   clear hall fin
   go_wp2_with fail
   have e8:=set8_nestn wr w.heap.size noTerm noTerm
   simp only[noTerm] at e8
   rw[e8]
   obtain⟨⟨w0,w1,w2,w3⟩,w4,w5,w6,w7⟩:=hf.1.cs
   have HF:=hide hf.2
   simp only[noTerm] at w0 w1 w2 w3 w4 w5 w6 w7 HF
   clear hf z0 z1 z2 z3 z4 z5 z6 z7 y0 y1 y2 y3 y4 y5 y6 y7 r0 e8
   generalize set8 wr w.heap.size _ _=V5 at HF w0 w1 w2 w3 w4 w5 w6 w7⊢
   go_wp2_with fail
   exact bodyPost_ret (v:=.tuple #[clV noTerm noTerm,.int .i64 8]) (by simp[results,Tryz.results14,go_sem,clV,noTerm,w0,w1,w2,w3,w4,w5,w6,w7]) rfl ⟨by rw[unhide HG],HF.out⟩
set_option maxHeartbeats 2000000
set_option maxRecDepth 100000
theorem numbers_any(ns ms:List Int)(a a':Option Addr)(len cap len' cap':Nat)(w:World)(hn:IsN w a len ns)(hm:IsN w a' len' ms):
  Calls Tryz.prog 6 #[.slice a len cap,.slice a' len' cap'] w fun e W'=>e=.returned (.bool (decide (ns=ms)))∧Below w.heap.size w W':=by
 have h1:=hn.1
 have h2:=hn.2.1
 have h3:=hm.1
 have h4:=hm.2.1
 by_cases hll:len=len'
 ·have hl1:len≤ns.length:=by omega
  have hl2:ns.length≤len:=by omega
  have hl3:len≤ms.length:=by omega
  have hl4:ms.length≤len:=by omega
  have hlx:((len:Int) != (len':Int))=false:=by simp;omega
  have hle:(len:Int)≤len':=by omega
  clear h1 h3 hll
  have HN:=hide hn
  have HM:=hide hm
  clear hn hm
  go_enter Tryz.func6,Tryz.ntmps6
  go_wp2_with fail
  go_loopw [5] (fun i wr=> ∃j:Nat,j≤len∧i=.int .i64 j∧ns.take j=ms.take j∧Below w.heap.size w wr) (fun i _=>len-(intOf i).toNat)
  case atStart=>exact⟨0,Nat.zero_le _,rfl,rfl,Below.refl _ _⟩
  case round=>
   obtain⟨j,hj,rfl,hs,hb⟩:=hrel
   by_cases hlt:j<len
   ·obtain⟨M,b,off,hM,rfl,c0⟩:=num_at ((unhide HN).below hb) hlt
    obtain⟨M',b',off',hM',rfl,d0⟩:=num_at ((unhide HM).below hb) (show j<len' by omega)
    have hnext:M=M'→ns.take (j+1)=ms.take (j+1):=fun e=>by
     rw[List.take_add_one,List.take_add_one,hs,hM,hM',e]
    have hstop:M≠M'→ns≠ms:=fun hne e=>by
     subst e;rw[hM] at hM';exact hne (Option.some.inj hM')
    have HX:=hide hnext
    have HS:=hide hstop
    clear hM hM' hnext hstop hs
    have hj1:(j:Int)<len:=by omega
    have hj2:(j:Int)<len':=by omega
    have hbd:Below w.heap.size w wr.drew:=hb.drew
    by_cases hV:M=M'
    ·have hV':(M != M')=false:=by simp[hV]
     have HV:=hide hV
     clear hV
     go_wp2_with fail
     go_region
     go_wp2_with fail
     go_roundw
     case rel=>exact⟨j+1,by omega,by go_num,(unhide HX) (unhide HV),hbd⟩
     case measure=>simp[intOf];omega
    ·have hV':(M != M')=true:=by simp[hV]
     have HV:=hide hV
     clear hV
     go_wp2_with fail
     go_region
     go_wp2_with fail
     go_ret
     exact⟨by rw[decide_eq_false ((unhide HS) (unhide HV))];rfl,hbd⟩
   ·have heq:ns=ms:=by
     rw[List.take_of_length_le (by omega),List.take_of_length_le (by omega)] at hs
     exact hs
    have HE:=hide heq
    clear heq hs
    go_wp2_with fail
    go_ret
    exact⟨by rw[decide_eq_true (unhide HE)];rfl,hb⟩
 ·have hlx:((len:Int) != (len':Int))=true:=by simp;omega
  have hne:ns≠ms:=fun e=>by subst e;omega
  rw[decide_eq_false hne]
  clear hn hm h1 h3 hll hne
  go_enter Tryz.func6,Tryz.ntmps6
  go_wp2_with fail
  go_ret
  exact⟨rfl,Below.refl _ _⟩
/-- Numbers of the call's own ([]int). -/
def OwnI(base:Nat)(W:World)(v:Value)(ns:List Int):Prop:=W.ownsRow base 3 1 v ns.length (i64s ns)
theorem OwnI.isN{base:Nat}{W:World}{v:Value}{ns:List Int}(h:OwnI base W v ns)(hl:ns.length≤1152921504606846976):∃a cap,v=.slice a ns.length cap∧IsN W a ns.length ns:=by
 obtain⟨_,h2⟩:=h
 rcases h2 with⟨hv,hn⟩ | ⟨g,cap,cur,hv,hg,hb,_,_,_,htk⟩
 ·have h0:ns=[]:=by cases ns with | nil=>rfl | cons x r=>simp at hn
  subst h0
  exact⟨none,0,hv,rfl,hl,.inl rfl⟩
 ·refine⟨_,cap,hv,rfl,hl,.inr ⟨g,0,rfl,(Array.getElem?_eq_some_iff.1 hb).1,fun j N hj=>?_⟩⟩
  have hjl:=(List.getElem?_eq_some_iff.1 hj).1
  have h3:(cur.toList.take (ns.length*1))[j]?=some (.int .i64 N):=by rw[htk];simp[i64s,hj]
  rw[List.getElem?_take,if_pos (by omega)] at h3
  rw[Nat.zero_add]
  simp[World.cell?,hb]
  simpa using h3
theorem OwnI.lt{base:Nat}{W:World}{v:Value}{ns:List Int}(h:OwnI base W v ns){g:Nat}(hg:v.ownBlock=some g):base≤g∧g<W.heap.size:=owns_lt h hg
/-- The ids of those that are there. -/
def allI{n:Nat}(H:List (Hd n)):List Int:=(H.filter (·.on)).map Hd.id
theorem allI_take{n:Nat}{H:List (Hd n)}{j:Nat}{d:Hd n}(hd:H[j]?=some d):allI (H.take (j+1))=if d.on=true then allI (H.take j)++[d.id] else allI (H.take j):=by
 unfold allI
 rw[List.take_add_one,hd]
 cases ho:d.on <;> simp[List.filter_append,ho]
theorem allI_len{n:Nat}(H:List (Hd n)):(allI H).length≤H.length:=by
 unfold allI
 rw[List.length_map]
 exact List.length_filter_le _ _
theorem rall_any{n:Nat}(rb:Nat)(a:Option Addr)(len cap:Nat)(H:List (Hd n))(w:World)(hb:Boxed w rb 27 (.slice a len cap))(hH:IsH w a len H)(hlen:len≤4194304):
  Calls Tryz.prog 8 #[.pointer (some ⟨rb,0,none⟩)] w fun e W'=> ∃v,e=.returned v∧OwnI w.heap.size W' v (allI H)∧Below w.heap.size w W':=by
 have hl1:H.length≤len:=by have:=hH.1;omega
 have HH:=hide hH
 have HB:=hide hb
 obtain⟨i0,hi,hz0,hz1,hz2⟩:=info_parts Tryz.infoI
 clear hH hb
 go_enter Tryz.func8,Tryz.ntmps8
 go_wp2_with fail
 go_loopw [3,4] (fun v i wr=> ∃j:Nat,j≤len∧i=.int .i64 j∧Below w.heap.size w wr∧OwnI w.heap.size wr v (allI (H.take j))) (fun _ i _=>len-(intOf i).toNat)
 case atStart=>exact⟨0,Nat.zero_le _,rfl,Below.refl _ _,rfl,.inl ⟨rfl,rfl⟩⟩
 case round=>
  obtain⟨j,hj,rfl,hbl,hown⟩:=hrel
  have r0:wr.cell? ⟨rb,0,none⟩=some (.slice a len cap):=(boxed_at' (unhide HB) hbl).cell
  by_cases hlt:j<len
  ·obtain⟨d,b,off,hd,rfl,hbk,c0,⟨c1,c2,c3,c4⟩,⟨c5,c6,c7,c8⟩,c9⟩:=hd_at (unhide HH) hbl hlt
   have htk:=allI_take hd
   have hln:(allI (H.take j)).length≤j:=Nat.le_trans (allI_len _) (by simp;omega)
   have hj1:(j:Int)<len:=by omega
   have HOW:=hide hown
   clear hd c1 c2 c3 c4 c5 c6 c7 c8 hown
   cases hO:d.on with
   | false=>
    rw[hO] at c9 htk
    rw[if_neg (by simp)] at htk
    have HT:=hide htk
    clear htk hO
    go_wp2_with fail
    go_roundw
    case rel=>exact⟨j+1,by omega,by go_num,hbl,by rw[unhide HT];exact unhide HOW⟩
    case measure=>simp[intOf];omega
   | true=>
    rw[hO] at c9 htk
    rw[if_pos rfl] at htk
    have HT:=hide htk
    have hown2:(wr.alloc (.cells #[.int .i64 d.id] 3)).ownsRow w.heap.size 3 1 u3 (allI (H.take j)).length (i64s (allI (H.take j))):=owns_below (unhide HOW) (fun g hg=>Below.heap_alloc _ _ _ ((unhide HOW).lt hg).2)
    clear htk hO
    go_wp2_with (at_builtin;go_must (refine wpList_append_own_at _ rfl _ _ 40 rfl w.heap.size 3 i0 _ 1 8 Tryz.underlying40 hi hz0 hz1 hz2 rfl (by decide) u3 (allI (H.take j)).length (i64s (allI (H.take j))) rfl hown2 ⟨wr.heap.size,0,none⟩ 1 1 [.int .i64 d.id] rfl rfl one_newI one_oneI (by unfold maxLen;omega) (by omega) (by have:=hbl.size;simp;omega) ?_;intro v' w1 hown' hgrow hnil hbk))
    have hbn:Below w.heap.size w w1:=(hbl.alloc hbl.size _).grown hgrow (by have:=hbl.size;simp;omega) (fun g hg=>((unhide HOW).lt hg).1)
    have HN:=hide (And.intro hbn hown')
    clear hbn hown' hgrow hnil hbk hown2
    go_wp2_with fail
    go_roundw
    case rel=>exact⟨j+1,by omega,by go_num,(unhide HN).1,by
     rw[unhide HT]
     have h:=(unhide HN).2
     unfold OwnI
     simpa[i64s] using h⟩
    case measure=>simp[intOf];omega
  ·obtain rfl:j=len:=by omega
   have hj1:¬(j:Int)<j:=by omega
   rw[List.take_of_length_le (by omega)] at hown
   have HOW:=hide hown
   clear hown
   go_wp2_with fail
   exact bodyPost_ret (v:=u3) (by simp[results,Tryz.results8,go_sem]) rfl ⟨_,rfl,unhide HOW,hbl⟩
end Go.Proofs.YteaiefjmcinljaaGreatDoor
