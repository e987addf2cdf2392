import Derived.Test.YtjbdkbaacjfecaaDoorWk
import Derived.Test.YtjbdkbaacjfecaaDoorCs
import Derived.Deep.Cut
import Derived.Deep.RegionHeld3
namespace Go.Proofs.YtjbdkbaacjfecaaDoor
open Go.RowKit Go.Shelf
/-- Of what an element of such a row is made: two lists. -/
def Two(k:TypeId):Prop:= ∃i,Tryd.prog.info? k=some i∧i.zero=some (.agg #[.slice none 0 0,.slice none 0 0])∧i.size=2∧i.bytes=48
def cells2(S:List (Value×Value)):List Value:=S.flatMap fun p=>[p.1,p.2]
theorem cells2_len(S:List (Value×Value)):(cells2 S).length=S.length*2:=by
 induction S with
 | nil=>rfl
 | cons a S ih=>
  have:cells2 (a::S)=a.1::a.2::cells2 S:=rfl;rw[this];simp only[List.length_cons,ih];omega
theorem cells2_snoc(S:List (Value×Value))(p:Value×Value):cells2 (S++[p])=cells2 S++[p.1,p.2]:=by simp[cells2]
def Stk2(k B g cap:Nat)(W:World)(S:List (Value×Value)):Prop:=W.ownsRow B k 2 (.slice (some ⟨g,0,none⟩) S.length cap) S.length (cells2 S)
theorem Stk2.blk{k B g cap:Nat}{W:World}{S:List (Value×Value)}(h:Stk2 k B g cap W S):B≤g∧S.length≤cap∧∃cur,W.heap[g]?=some (.cells cur k (0,0))∧cap≤maxLen∧cur.size=cap*2∧cur.toList.take (S.length*2)=cells2 S:=by
 obtain⟨h1,h2⟩:=h
 rcases h2 with⟨h2,_⟩ | ⟨g',cap',cur,h2,h3,h4,h5,h6,h7,h8⟩
 ·cases h2
 ·simp only[Value.slice.injEq,Option.some.injEq,Addr.mk.injEq,and_true,true_and] at h2
  obtain⟨rfl,rfl⟩:=h2;exact⟨h3,h5,cur,h4,h6,h7,h8⟩
theorem stk2_mk{k B g cap:Nat}{W:World}{S:List (Value×Value)}{cur:Array Value}(h3:B≤g)(h5:S.length≤cap)(h4:W.heap[g]?=some (.cells cur k (0,0)))(h6:cap≤maxLen)(h7:cur.size=cap*2)(h8:cur.toList.take (S.length*2)=cells2 S):Stk2 k B g cap W S:=
 ⟨cells2_len S,.inr ⟨g,cap,cur,rfl,h3,h4,h5,h6,h7,h8⟩⟩
theorem Stk2.lt{k B g cap:Nat}{W:World}{S:List (Value×Value)}(h:Stk2 k B g cap W S):g<W.heap.size:=by
 obtain⟨_,_,cur,h3,_⟩:=h.blk;exact(Array.getElem?_eq_some_iff.1 h3).1
theorem Stk2.kept{k B g cap:Nat}{W W':World}{S:List (Value×Value)}(h:Stk2 k B g cap W S)(hk:W'.heap[g]?=W.heap[g]?):Stk2 k B g cap W' S:=by
 obtain⟨h1,h2,cur,h3,h4,h5,h6⟩:=h.blk;exact stk2_mk h1 h2 (hk.trans h3) h4 h5 h6
theorem Stk2.pop{k B g cap:Nat}{W:World}{S:List (Value×Value)}{p:Value×Value}(h:Stk2 k B g cap W (S++[p])):Stk2 k B g cap W S:=by
 obtain⟨h1,h2,cur,h3,h4,h5,h6⟩:=h.blk;simp only[List.length_append,List.length_cons,List.length_nil] at h2 h6;refine stk2_mk h1 (by omega) h3 h4 h5 ?_;have:=congrArg (List.take (S.length*2)) h6;rw[List.take_take,Nat.min_eq_left (by omega),cells2_snoc,List.take_left' (cells2_len S)] at this;exact this
theorem Stk2.top{k B g cap:Nat}{W:World}{S:List (Value×Value)}{p:Value×Value}(h:Stk2 k B g cap W (S++[p])):W.cell? ⟨g,S.length*2,none⟩=some p.1∧W.cell? ⟨g,S.length*2+1,none⟩=some p.2∧W.frozen? ⟨g,S.length*2,none⟩=false∧W.frozen? ⟨g,S.length*2+1,none⟩=false:=by
 have h1:=World.ownsRow.cellAt h (S.length*2) (by simp only[List.length_append,List.length_cons,List.length_nil];omega);have h2:=World.ownsRow.cellAt h (S.length*2+1) (by simp only[List.length_append,List.length_cons,List.length_nil];omega);have hl:=cells2_len S;rw[cells2_snoc] at h1 h2;refine⟨h1.trans ?_,h2.trans ?_,World.ownsRow.frozenAt h _,World.ownsRow.frozenAt h _⟩
 ·rw[List.getElem?_append_right (by omega),hl,Nat.sub_self];rfl
 ·rw[List.getElem?_append_right (by omega),hl,Nat.add_sub_cancel_left];rfl
theorem Stk2.set0{k B g cap:Nat}{W:World}{S:List (Value×Value)}{p:Value×Value}(h:Stk2 k B g cap W (S++[p]))(v:Value):Stk2 k B g cap (W.setCell ⟨g,S.length*2,none⟩ v) (S++[(v,p.2)])∧W.grownBy (W.setCell ⟨g,S.length*2,none⟩ v) (some g):=by
 have h1:=World.ownsRow.stored h (S.length*2) v;refine⟨?_,h1.2⟩;have hl:=cells2_len S
 have e:(cells2 (S++[p])).set (S.length*2) v=cells2 (S++[(v,p.2)]):=by
  rw[cells2_snoc,cells2_snoc,List.set_append_right _ _ (by omega),hl];simp
 unfold Stk2;rw[←e];simpa using h1.1
theorem Stk2.set1{k B g cap:Nat}{W:World}{S:List (Value×Value)}{p:Value×Value}(h:Stk2 k B g cap W (S++[p]))(v:Value):Stk2 k B g cap (W.setCell ⟨g,S.length*2+1,none⟩ v) (S++[(p.1,v)])∧W.grownBy (W.setCell ⟨g,S.length*2+1,none⟩ v) (some g):=by
 have h1:=World.ownsRow.stored h (S.length*2+1) v;refine⟨?_,h1.2⟩;have hl:=cells2_len S
 have e:(cells2 (S++[p])).set (S.length*2+1) v=cells2 (S++[(p.1,v)]):=by
  rw[cells2_snoc,cells2_snoc,List.set_append_right _ _ (by omega),hl,Nat.add_sub_cancel_left];rfl
 unfold Stk2;rw[←e];simpa using h1.1
theorem two_make{k T:TypeId}(hk:Two k)(hu:Tryd.prog.underlying T=some (.slice k))(w:World):(Instr.makeSlice T (.int .i64 0) (.int .i64 8)).run Tryd.prog w=.ok (.slice (some ⟨w.heap.size,0,none⟩) 0 8) (w.alloc (.cells (madeCells #[.slice none 0 0,.slice none 0 0] 16) k)):=by
 obtain⟨i0,hi,hz0,hz1,hz2⟩:=hk;have hr:=run_make (P:=Tryd.prog) w T k i0 _ hu hi hz0 .i64 .i64 0 8 (by omega) (by omega) (by rw[hz2];omega) (by omega);rw[hz1] at hr;simpa[Value.cells] using hr
theorem two_fits{k T:TypeId}(hk:Two k)(hu:Tryd.prog.underlying T=some (.slice k)){B:Nat}{w W:World}{p:Value×Value}{g h c:Nat}(hn:B≤w.heap.size)(hb:Below w.heap.size w W)(hg:w.heap.size≤g)(hG:W.heap[g]?=some (.cells (madeCells #[.slice none 0 0,.slice none 0 0] 16) k (0,0)))(hH:W.cell? ⟨h,0,none⟩=some p.1)(hH1:W.cell? ⟨h,1,none⟩=some p.2)(o1:p.1.oneCell'=true)(o2:p.2.oneCell'=true):
  ∃X,(Builtin.append_ #[T,T] T #[.slice (some ⟨g,0,none⟩) 0 8,.slice (some ⟨h,0,none⟩) 1 c]).run Tryd.prog W=.ok (.slice (some ⟨g,0,none⟩) 1 8) X∧Stk2 k B g 8 X [p]∧Below w.heap.size w X:=by
 obtain⟨i0,hi,hz0,hz1,hz2⟩:=hk;have hs:(madeCells #[Value.slice none 0 0,.slice none 0 0] 16).size=16:=size_madeCells _ _
 obtain⟨X,h1,h2,h3⟩:=run_append_fits (P:=Tryd.prog) W B T T k i0 2 hu hi hz1 g 0 8 [] ⟨by simp,.inr ⟨g,8,_,rfl,by omega,hG,by omega,by unfold maxLen;omega,by omega,by simp⟩⟩ ⟨h,0,none⟩ 1 c [p.1,p.2] (by simp) (fun j u hu=>by
  match j with
  | 0=>simp at hu;subst hu;simpa[Addr.add] using hH
  | 1=>simp at hu;subst hu;simpa[Addr.add] using hH1
  | j+2=>simp at hu) (fun u hu=>by simp at hu;rcases hu with rfl | rfl;exact o1;exact o2) (by omega)
 exact⟨X,by simpa using h1,by unfold Stk2;simpa[cells2] using h2,hb.grown h3 hb.size (fun k e=>by cases e;exact hg)⟩
theorem two_a{k T:TypeId}(hk:Two k)(hu:Tryd.prog.underlying T=some (.slice k)){B:Nat}(w:World)(p:Value×Value)(o1:p.1.oneCell'=true)(o2:p.2.oneCell'=true)(hn:B≤w.heap.size):
  ∃X,(Builtin.append_ #[T,T] T #[.slice (some ⟨w.heap.size,0,none⟩) 0 8,.slice (some ⟨w.heap.size+1,0,none⟩) 1 1]).run Tryd.prog ((w.alloc (.cells (madeCells #[.slice none 0 0,.slice none 0 0] 16) k)).alloc (.cells #[p.1,p.2] k))=.ok (.slice (some ⟨w.heap.size,0,none⟩) 1 8) X∧Stk2 k B w.heap.size 8 X [p]∧Below w.heap.size w X:=by
 obtain⟨A,hA⟩:∃A,w.alloc (.cells (madeCells #[.slice none 0 0,.slice none 0 0] 16) k)=A:=⟨_,rfl⟩;have hs:A.heap.size=w.heap.size+1:=by rw[←hA];simp
 have hAg:A.heap[w.heap.size]?=some (.cells (madeCells #[.slice none 0 0,.slice none 0 0] 16) k (0,0)):=by rw[←hA];exact World.alloc_heap_new w _
 have hAb:Below w.heap.size w A:=by rw[←hA];exact(Below.refl _ w).alloc (Nat.le_refl _) _
 rw[hA];clear hA;have:=World.alloc_heap_new A (.cells #[p.1,p.2] k);rw[hs] at this;exact two_fits hk hu hn (hAb.alloc hAb.size _) (Nat.le_refl _) ((Below.heap_alloc _ _ _ (by omega)).trans hAg) (by simp[World.cell?,this]) (by simp[World.cell?,this]) o1 o2
theorem two_b{k T:TypeId}(hk:Two k)(hu:Tryd.prog.underlying T=some (.slice k)){B:Nat}(w:World)(p:Value×Value)(o1:p.1.oneCell'=true)(o2:p.2.oneCell'=true)(hn:B≤w.heap.size):
  ∃X,(Builtin.append_ #[T,T] T #[.slice (some ⟨w.heap.size+1,0,none⟩) 0 8,.slice (some ⟨w.heap.size,0,none⟩) 1 1]).run Tryd.prog ((w.alloc (.cells #[p.1,p.2] k)).alloc (.cells (madeCells #[.slice none 0 0,.slice none 0 0] 16) k))=.ok (.slice (some ⟨w.heap.size+1,0,none⟩) 1 8) X∧Stk2 k B (w.heap.size+1) 8 X [p]∧Below w.heap.size w X:=by
 obtain⟨A,hA⟩:∃A,w.alloc (.cells #[p.1,p.2] k)=A:=⟨_,rfl⟩;have hs:A.heap.size=w.heap.size+1:=by rw[←hA];simp
 have hAg:A.heap[w.heap.size]?=some (.cells #[p.1,p.2] k (0,0)):=by rw[←hA];exact World.alloc_heap_new w _
 have hAb:Below w.heap.size w A:=by rw[←hA];exact(Below.refl _ w).alloc (Nat.le_refl _) _
 rw[hA];clear hA;have h1:=World.alloc_heap_new A (.cells (madeCells #[.slice none 0 0,.slice none 0 0] 16) k);rw[hs] at h1;have:=(Below.heap_alloc A (.cells (madeCells #[.slice none 0 0,.slice none 0 0] 16) k) w.heap.size (by omega)).trans hAg;exact two_fits hk hu hn (hAb.alloc hAb.size _) (Nat.le_succ _) h1 (by simp[World.cell?,this]) (by simp[World.cell?,this]) o1 o2
theorem Stk2.push{k T:TypeId}(hk:Two k)(hu:Tryd.prog.underlying T=some (.slice k)){B g cap h:Nat}{W:World}{S:List (Value×Value)}(hs:Stk2 k B g cap W S)(p:Value×Value)(o1:p.1.oneCell'=true)(o2:p.2.oneCell'=true)(hh:W.heap.size=h)(hS:(S.length+1)*48≤140737488355328)(hn:B≤W.heap.size):
  ∃g' cap' X,(Builtin.append_ #[T,T] T #[.slice (some ⟨g,0,none⟩) S.length cap,.slice (some ⟨h,0,none⟩) 1 1]).run Tryd.prog (W.alloc (.cells #[p.1,p.2] k))=.ok (.slice (some ⟨g',0,none⟩) (S.length+1) cap') X∧Stk2 k B g' cap' X (S++[p])∧(W.alloc (.cells #[p.1,p.2] k)).grownBy X (some g):=by
 obtain⟨i0,hi,hz0,hz1,hz2⟩:=hk;have h1:=World.alloc_heap_new W (.cells #[p.1,p.2] k);rw[hh] at h1;have hs':Stk2 k B g cap (W.alloc (.cells #[p.1,p.2] k)) S:=hs.kept (Below.heap_alloc W _ g hs.lt);have hl:S.length+1≤maxLen:=by unfold maxLen;omega
 obtain⟨v',X,r1,r2,r3,r4⟩:=run_append_own (P:=Tryd.prog) (W.alloc (.cells #[p.1,p.2] k)) B T T k i0 (.agg #[.slice none 0 0,.slice none 0 0]) 2 48 hu hi hz0 hz1 hz2 rfl (by omega) (.slice (some ⟨g,0,none⟩) S.length cap) S.length (cells2 S) hs' ⟨h,0,none⟩ 1 1 [p.1,p.2] (by simp) (fun j u hu=>by
  match j with
  | 0=>simp at hu;subst hu;simp[World.cell?,Addr.add,h1]
  | 1=>simp at hu;subst hu;simp[World.cell?,Addr.add,h1]
  | j+2=>simp at hu) (fun u hu=>by simp at hu;rcases hu with rfl | rfl;exact o1;exact o2) hl hS (by simp;omega)
 rcases r2.2 with⟨hnil,h0⟩ | ⟨g',cap',cur,rfl,q1,q2,q3,q4,q5,q6⟩
 ·omega
 ·refine⟨g',cap',X,r1,?_,r3⟩
  unfold Stk2;rw[List.length_append,List.length_cons,List.length_nil,cells2_snoc];exact r2
theorem kid_at{n:Nat}{w wr:World}{a:Option Addr}{len:Nat}{kids:List (Tm n)}(hkids:kids=[]∨∃b off,a=some ⟨b,off,none⟩∧b<w.heap.size∧∀j u,kids[j]?=some u→cellsAt w b (off+j*4) u.tv∧IsT w.heap.size w u)
  (hbw:Below w.heap.size w wr) {j:Nat} (hj:j<len) (hl:len≤kids.length):
  ∃u b off,kids[j]?=some u∧a=some ⟨b,off,none⟩∧cellsAt wr b (off+j*4) u.tv∧IsT wr.heap.size wr u∧b<w.heap.size:=by
 obtain⟨u,hu⟩:∃u,kids[j]?=some u:=⟨kids[j]'(by omega),List.getElem?_eq_getElem (by omega)⟩;have hne:kids≠[]:=by rintro rfl;simp at hu
 obtain⟨b,off,ha,hbk,hk⟩:=hkids.resolve_left hne;obtain⟨⟨c0,c1,c2,c3⟩,hT⟩:=hk j u hu;exact⟨u,b,off,hu,ha,⟨(hbw.cell (p:=⟨b,off+j*4,none⟩) hbk).trans c0,(hbw.cell (p:=⟨b,off+j*4+1,none⟩) hbk).trans c1,(hbw.cell (p:=⟨b,off+j*4+2,none⟩) hbk).trans c2,(hbw.cell (p:=⟨b,off+j*4+3,none⟩) hbk).trans c3⟩,(hT.below hbw).mono hbw.size,hbk⟩
theorem bcell{W w1:World}(hb:Below W.heap.size W w1):∀b o,b<W.heap.size→w1.cell? ⟨b,o,none⟩=W.cell? ⟨b,o,none⟩:=fun b o h=>hb.cell (p:=⟨b,o,none⟩) h
theorem two_boxes{w W1:World}{c0 c1 c2 c3 d0 d1 d2 d3:Value}(hb:Below ((w.alloc (.cells #[c0,c1,c2,c3] 24)).alloc (.cells #[d0,d1,d2,d3] 24)).heap.size ((w.alloc (.cells #[c0,c1,c2,c3] 24)).alloc (.cells #[d0,d1,d2,d3] 24)) W1):
  (Below w.heap.size w W1∧w.heap.size+2≤W1.heap.size)∧W1.cell? ⟨w.heap.size,3,none⟩=some c3∧W1.cell? ⟨w.heap.size+1,3,none⟩=some d3:=by
 have hs:=hb.size;have hs2:((w.alloc (.cells #[c0,c1,c2,c3] 24)).alloc (.cells #[d0,d1,d2,d3] 24)).heap.size=w.heap.size+2:=by simp
 rw[hs2] at hb hs;exact⟨⟨(((Below.refl _ w).alloc (Nat.le_refl _) _).alloc (by simp) _).trans (hb.mono (by omega)),hs⟩,(hb.cell (p:=⟨w.heap.size,3,none⟩) (by simp)).trans (by simp),(hb.cell (p:=⟨w.heap.size+1,3,none⟩) (by simp)).trans (by simp)⟩
theorem Lf.Is.first{n₀ n cap:Nat}{W:World}{a:Option Addr}{u:Tm (n+1)}{r:List (Tm (n+1))}(h:Lf.Is n₀ W ⟨n+1,a,cap,u::r⟩):∃b off,a=some ⟨b,off,none⟩∧b<n₀∧cellsAt W b off u.tv∧IsT n₀ W u∧r.length+1≤cap∧∀A,(if cap=1 then some (⟨b,off,none⟩:Addr) else some ⟨b,off+4,none⟩)=A→Lf.Is n₀ W ⟨n+1,A,cap-1,r⟩:=by
 have htl:=tail_is h;obtain⟨i1,i2⟩:=h
 rcases i2 with i2 | ⟨b,off,ha,hb,hk⟩
 ·cases i2
 ·simp only at ha
  subst ha;obtain⟨hc,hT⟩:=hk 0 u rfl;rw[Nat.zero_mul,Nat.add_zero] at hc;refine⟨b,off,rfl,hb,hc,hT,i1,fun A hA=>?_⟩;have e:tailA (some ⟨b,off,none⟩) cap=A:=by rw[←hA];rfl
  rw[←e];exact htl
theorem kid_below{n n₀:Nat}{w wr:World}{a:Option Addr}{len:Nat}{kids:List (Tm n)}(hkids:kids=[]∨∃b off,a=some ⟨b,off,none⟩∧b<n₀∧∀j u,kids[j]?=some u→cellsAt w b (off+j*4) u.tv∧IsT n₀ w u)
  (hbw:Below n₀ w wr) {j:Nat} (hj:j<len) (hl:len≤kids.length):
  ∃u b off,kids[j]?=some u∧a=some ⟨b,off,none⟩∧cellsAt wr b (off+j*4) u.tv∧IsT n₀ wr u∧b<n₀:=by
 obtain⟨u,hu⟩:∃u,kids[j]?=some u:=⟨kids[j]'(by omega),List.getElem?_eq_getElem (by omega)⟩;have hne:kids≠[]:=by rintro rfl;simp at hu
 obtain⟨b,off,ha,hbk,hk⟩:=hkids.resolve_left hne;obtain⟨⟨c0,c1,c2,c3⟩,hT⟩:=hk j u hu;exact⟨u,b,off,hu,ha,⟨(hbw.cell (p:=⟨b,off+j*4,none⟩) hbk).trans c0,(hbw.cell (p:=⟨b,off+j*4+1,none⟩) hbk).trans c1,(hbw.cell (p:=⟨b,off+j*4+2,none⟩) hbk).trans c2,(hbw.cell (p:=⟨b,off+j*4+3,none⟩) hbk).trans c3⟩,hT.below hbw,hbk⟩
set_option maxHeartbeats 1000000
set_option maxRecDepth 100000
theorem ret_bool{a b:Bool}(h:a=b):Ending.returned (.bool a)=.returned (.bool b):=by rw[h]
theorem all2_stop{α:Type}{f:α→α→Bool}:∀(a b:List α) (j:Nat) (u v:α),a[j]?=some u→b[j]?=some v→f u v=false→all2 f a b=false:=by
 intro a
 induction a with
 | nil=>intro b j u v h;simp at h
 | cons x a ih=>
  intro b j u v hu hv hne;cases b with
  | nil=>simp at hv
  | cons y b=>
   cases j with
   | zero=>simp at hu hv;subst hu;subst hv;simp[all2,hne]
   | succ j=>
    simp only[List.getElem?_cons_succ] at hu hv;simp[all2,ih b j u v hu hv hne]
theorem all2_next{α:Type}{f:α→α→Bool}:∀(a b:List α) (j:Nat) (u v:α),a[j]?=some u→b[j]?=some v→all2 f (a.take j) (b.take j)=true→f u v=true→all2 f (a.take (j+1)) (b.take (j+1))=true:=by
 intro a
 induction a with
 | nil=>intro b j u v h;simp at h
 | cons x a ih=>
  intro b j u v hu hv h hne;cases b with
  | nil=>simp at hv
  | cons y b=>
   cases j with
   | zero=>simp at hu hv;subst hu;subst hv;simp[all2,hne]
   | succ j=>
    simp only[List.take_succ_cons,all2,Bool.and_eq_true] at h⊢;simp only[List.getElem?_cons_succ] at hu hv;exact⟨h.1,by simpa using ih b j u v hu hv h.2 hne⟩
theorem same_any:∀(n:Nat) (x y:Tm n) (w:World),IsT w.heap.size w x→IsT w.heap.size w y→Calls Tryd.prog 9 #[x.tv.val,y.tv.val] w fun e W'=>e=.returned (.bool (sameT x y))∧Below w.heap.size w W':=by
 intro n
 induction n with
 | zero=>intro t;exact Empty.elim t
 | succ n ih=>
  intro x y w hx hy;obtain⟨⟨k,kN,s,a,len,cap⟩,kids⟩:=x;obtain⟨⟨k',kN',s',a',len',cap'⟩,kids'⟩:=y;obtain⟨hlen,hmax,hsm,hkids⟩:=hx;obtain⟨hlen',hmax',hsm',hkids'⟩:=hy;simp only[Tm.tv,Tm.kids] at hlen hmax hsm hkids hlen' hmax' hsm' hkids';have HI:=hide ih;clear ih;simp only[TV.val,Tm.tv,sameT,Tm.kids];cases hst:stop ⟨k,kN,s,a,len,cap⟩ ⟨k',kN',s',a',len',cap'⟩ with
  | false=>
   rw[Bool.false_and];have HS:=hide hst;clear hst hkids hkids' hlen hlen' HI;go_enter Tryd.func9,Tryd.ntmps9
   go_wp2_with fail
   all_goals first | (go_ret;exact⟨rfl,((Below.refl _ w).alloc (Nat.le_refl _) _).alloc (by simp) _⟩) | skip
   exfalso
   have h:=uh HS;clear HS;have h1:k=k':=by assumption
   have h2:kN=kN':=by assumption
   have h3:s.toList=s'.toList:=by assumption
   have h4:((len:Int) != (len':Int))=false:=by assumption
   simp at h4;have h5:len=len':=by omega
   simp[stop,h1,h2,h3,h5] at h
  | true=>
   rw[Bool.true_and];simp[stop] at hst;obtain⟨rfl,rfl,hs,hlq⟩:=hst;have hl1:len≤kids.length:=by omega
   have hl2:kids.length≤len:=by omega
   have hl3:len≤kids'.length:=by omega
   have hl4:kids'.length≤len:=by omega
   have hl5:(len:Int)≤len':=by omega
   have hl6:((len:Int) != (len':Int))=false:=by simp;omega
   clear hlq hlen hlen';go_enter Tryd.func9,Tryd.ntmps9
   go_wp2_with fail
   obtain⟨W1,hW1⟩:∃W1,(w.alloc (.cells #[.int .i64 k,.int .i64 kN,.string s,.slice a len cap] 24)).alloc (.cells #[.int .i64 k,.int .i64 kN,.string s',.slice a' len' cap'] 24)=W1:=⟨_,rfl⟩;have hBB:=Below.refl ((w.alloc (.cells #[.int .i64 k,.int .i64 kN,.string s,.slice a len cap] 24)).alloc (.cells #[.int .i64 k,.int .i64 kN,.string s',.slice a' len' cap'] 24)).heap.size ((w.alloc (.cells #[.int .i64 k,.int .i64 kN,.string s,.slice a len cap] 24)).alloc (.cells #[.int .i64 k,.int .i64 kN,.string s',.slice a' len' cap'] 24));obtain⟨⟨hb1,hzz⟩,hcc,hcd⟩:=two_boxes hBB;clear hBB;rw[hW1] at hb1 hzz hcc hcd⊢;clear hW1
   go_loopw [5] (fun i wr=> ∃j:Nat,j≤len∧i=.int .i64 j∧all2 sameT (kids.take j) (kids'.take j)=true∧Below W1.heap.size W1 wr) (fun i _=>len-(intOf i).toNat)
   case atStart=>exact⟨0,Nat.zero_le _,rfl,by simp[all2],Below.refl _ _⟩
   case round=>
    obtain⟨j,hj,rfl,ho,hb⟩:=hrel;have hbw:Below w.heap.size w wr:=hb1.trans (hb.mono (by omega));have HO:=hide ho;clear ho;replace hcc:=(hb.cell (p:=⟨w.heap.size,3,none⟩) (by simp;omega)).trans hcc;replace hcd:=(hb.cell (p:=⟨w.heap.size+1,3,none⟩) (by simp;omega)).trans hcd
    by_cases hlt:j<len
    ·obtain⟨u,b,off,hu,rfl,⟨c0,c1,c2,c3⟩,hT,hbk⟩:=kid_at hkids hbw hlt hl1
     obtain⟨v,b',off',hv,rfl,⟨d0,d1,d2,d3⟩,hT',hbk'⟩:=kid_at hkids' hbw hlt hl3;have hj1:(j:Int)<len:=by omega
     have hj2:(j:Int)<len':=by omega
     have ihu:Calls Tryd.prog 9 #[.agg #[.int .i64 u.tv.k,.int .i64 u.tv.N,.string u.tv.s,.slice u.tv.a u.tv.len u.tv.cap],.agg #[.int .i64 v.tv.k,.int .i64 v.tv.N,.string v.tv.s,.slice v.tv.a v.tv.len v.tv.cap]] wr.drew fun e W2=>e=.returned (.bool (sameT u v))∧Below wr.heap.size wr W2:=
      ((uh HI) u v wr.drew (hT.below (Below.refl _ wr).drew) (hT'.below (Below.refl _ wr).drew)).mono fun e W2 h=>⟨h.1,(Below.refl _ wr).drew.trans h.2⟩
     have hy1:w.heap.size<wr.heap.size:=by have:=hb.size;omega
     have hy2:w.heap.size+1<wr.heap.size:=by have:=hb.size;omega
     have hy3:b<wr.heap.size:=by omega
     have hy4:b'<wr.heap.size:=by omega
     have hstop:=all2_stop (f:=sameT) kids kids' j u v hu hv;have hnext:=all2_next (f:=sameT) kids kids' j u v hu hv (uh HO);clear hkids hkids' hT hT' hu hv;generalize sameT u v=d at *;have HN:=hide hnext;have HS:=hide hstop;clear hnext hstop;cases d with
     | true=>
      go_wp2_with fail
      go_region_held3 (fun w'=>w'.cell? ⟨w.heap.size,3,none⟩=some (.slice (some ⟨b,off,none⟩) len cap)∧w'.cell? ⟨w.heap.size+1,3,none⟩=some (.slice (some ⟨b',off',none⟩) len' cap')
       ∧w'.cell? ⟨b,off+j*4,none⟩=some (.int .i64 u.tv.k)∧w'.cell? ⟨b,off+j*4+1,none⟩=some (.int .i64 u.tv.N)∧w'.cell? ⟨b,off+j*4+2,none⟩=some (.string u.tv.s)∧w'.cell? ⟨b,off+j*4+3,none⟩=some (.slice u.tv.a u.tv.len u.tv.cap)
       ∧w'.cell? ⟨b',off'+j*4,none⟩=some (.int .i64 v.tv.k)∧w'.cell? ⟨b',off'+j*4+1,none⟩=some (.int .i64 v.tv.N)∧w'.cell? ⟨b',off'+j*4+2,none⟩=some (.string v.tv.s)∧w'.cell? ⟨b',off'+j*4+3,none⟩=some (.slice v.tv.a v.tv.len v.tv.cap)) (go_keep)
       (first | (go_at_call 9;refine ihu.mono ?_;clear ihu;rintro e W2 ⟨rfl,hb2⟩;have hbc:=bcell hb2))
      go_wp2_with fail
      go_roundw
      case rel=>exact⟨j+1,by omega,by go_num,(uh HN) (by simp),hb.trans (hb2.mono hb.size)⟩
      case measure=>simp[intOf];omega
     | false=>
      go_wp2_with fail
      go_region_held3 (fun w'=>w'.cell? ⟨w.heap.size,3,none⟩=some (.slice (some ⟨b,off,none⟩) len cap)∧w'.cell? ⟨w.heap.size+1,3,none⟩=some (.slice (some ⟨b',off',none⟩) len' cap')
       ∧w'.cell? ⟨b,off+j*4,none⟩=some (.int .i64 u.tv.k)∧w'.cell? ⟨b,off+j*4+1,none⟩=some (.int .i64 u.tv.N)∧w'.cell? ⟨b,off+j*4+2,none⟩=some (.string u.tv.s)∧w'.cell? ⟨b,off+j*4+3,none⟩=some (.slice u.tv.a u.tv.len u.tv.cap)
       ∧w'.cell? ⟨b',off'+j*4,none⟩=some (.int .i64 v.tv.k)∧w'.cell? ⟨b',off'+j*4+1,none⟩=some (.int .i64 v.tv.N)∧w'.cell? ⟨b',off'+j*4+2,none⟩=some (.string v.tv.s)∧w'.cell? ⟨b',off'+j*4+3,none⟩=some (.slice v.tv.a v.tv.len v.tv.cap)) (go_keep)
       (first | (go_at_call 9;refine ihu.mono ?_;clear ihu;rintro e W2 ⟨rfl,hb2⟩;have hbc:=bcell hb2))
      go_wp2_with fail
      go_ret
      exact⟨ret_bool ((uh HS) (by simp)).symm,hbw.trans (hb2.mono hbw.size)⟩
    ·have ht:kids.take j=kids:=List.take_of_length_le (by omega)
     have ht':kids'.take j=kids':=List.take_of_length_le (by omega);have HT:=hide ht;have HT':=hide ht';clear ht ht' hkids hkids';go_wp2_with fail
     go_ret
     exact⟨ret_bool (by have h:=uh HO;rw[uh HT,uh HT'] at h;rw[h]),hbw⟩
theorem chk_zero{n:Nat}{t:Tm n}:chk t=0↔okT t=true:=by
 unfold chk;split <;> simp_all
end Go.Proofs.YtjbdkbaacjfecaaDoor
