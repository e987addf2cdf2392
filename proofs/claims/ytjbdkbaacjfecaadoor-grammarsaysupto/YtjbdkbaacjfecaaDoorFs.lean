import Derived.Test.YtjbdkbaacjfecaaDoorCs
import Derived.Test.YtjbdkbaacjfecaaDoorJs
import Derived.Deep.Cut
import Derived.Deep.RegionHeld3
namespace Go.Proofs.YtjbdkbaacjfecaaDoor
open Go.RowKit Go.Shelf
theorem kid_at{n:Nat}{w wr:World}{a:Option Addr}{len:Nat}{kids:List (Tm n)}(hkids:kids=[]∨∃b off,a=some ⟨b,off,none⟩∧b<w.heap.size∧∀j u,kids[j]?=some u→cellsAt w b (off+j*4) u.tv∧IsT w.heap.size w u)
  (hbw:Below w.heap.size w wr) {j:Nat} (hj:j<len) (hl:len≤kids.length):
  ∃u b off,kids[j]?=some u∧a=some ⟨b,off,none⟩∧cellsAt wr b (off+j*4) u.tv∧IsT wr.heap.size wr u∧b<w.heap.size:=by
 obtain⟨u,hu⟩:∃u,kids[j]?=some u:=⟨kids[j]'(by omega),List.getElem?_eq_getElem (by omega)⟩;have hne:kids≠[]:=by rintro rfl;simp at hu
 obtain⟨b,off,ha,hbk,hk⟩:=hkids.resolve_left hne;obtain⟨⟨c0,c1,c2,c3⟩,hT⟩:=hk j u hu;exact⟨u,b,off,hu,ha,⟨(hbw.cell (p:=⟨b,off+j*4,none⟩) hbk).trans c0,(hbw.cell (p:=⟨b,off+j*4+1,none⟩) hbk).trans c1,(hbw.cell (p:=⟨b,off+j*4+2,none⟩) hbk).trans c2,(hbw.cell (p:=⟨b,off+j*4+3,none⟩) hbk).trans c3⟩,(hT.below hbw).mono hbw.size,hbk⟩
theorem bcell{W w1:World}(hb:Below W.heap.size W w1):∀b o,b<W.heap.size→w1.cell? ⟨b,o,none⟩=W.cell? ⟨b,o,none⟩:=fun b o h=>hb.cell (p:=⟨b,o,none⟩) h
theorem two_boxes{w W1:World}{c0 c1 c2 c3 d0 d1 d2 d3:Value}(hb:Below ((w.alloc (.cells #[c0,c1,c2,c3] 24)).alloc (.cells #[d0,d1,d2,d3] 24)).heap.size ((w.alloc (.cells #[c0,c1,c2,c3] 24)).alloc (.cells #[d0,d1,d2,d3] 24)) W1):
  (Below w.heap.size w W1∧w.heap.size+2≤W1.heap.size)∧W1.cell? ⟨w.heap.size,3,none⟩=some c3∧W1.cell? ⟨w.heap.size+1,3,none⟩=some d3:=by
 have hs:=hb.size;have hs2:((w.alloc (.cells #[c0,c1,c2,c3] 24)).alloc (.cells #[d0,d1,d2,d3] 24)).heap.size=w.heap.size+2:=by simp
 rw[hs2] at hb hs;exact⟨⟨(((Below.refl _ w).alloc (Nat.le_refl _) _).alloc (by simp) _).trans (hb.mono (by omega)),hs⟩,(hb.cell (p:=⟨w.heap.size,3,none⟩) (by simp)).trans (by simp),(hb.cell (p:=⟨w.heap.size+1,3,none⟩) (by simp)).trans (by simp)⟩
/-- Two lists of terms that are left to be held against each other. -/
structure L2 where
 n:Nat
 a:Option Addr
 a':Option Addr
 cap:Nat
 cap':Nat
 ts:List (Tm n)
 ts':List (Tm n)
def L2.fst(e:L2):Lf:=⟨e.n,e.a,e.cap,e.ts⟩
def L2.snd(e:L2):Lf:=⟨e.n,e.a',e.cap',e.ts'⟩
def L2.val(e:L2):Value×Value:=(e.fst.val,e.snd.val)
def L2.Is(n₀:Nat)(W:World)(e:L2):Prop:=e.fst.Is n₀ W∧e.snd.Is n₀ W∧e.ts.length=e.ts'.length
theorem Lf.Is.first{n₀ n cap:Nat}{W:World}{a:Option Addr}{u:Tm (n+1)}{r:List (Tm (n+1))}(h:Lf.Is n₀ W ⟨n+1,a,cap,u::r⟩):∃b off,a=some ⟨b,off,none⟩∧b<n₀∧cellsAt W b off u.tv∧IsT n₀ W u∧r.length+1≤cap∧∀A,(if cap=1 then some (⟨b,off,none⟩:Addr) else some ⟨b,off+4,none⟩)=A→Lf.Is n₀ W ⟨n+1,A,cap-1,r⟩:=by
 have htl:=tail_is h;obtain⟨i1,i2⟩:=h
 rcases i2 with i2 | ⟨b,off,ha,hb,hk⟩
 ·cases i2
 ·simp only at ha
  subst ha;obtain⟨hc,hT⟩:=hk 0 u rfl;rw[Nat.zero_mul,Nat.add_zero] at hc;refine⟨b,off,rfl,hb,hc,hT,i1,fun A hA=>?_⟩;have e:tailA (some ⟨b,off,none⟩) cap=A:=by rw[←hA];rfl
  rw[←e];exact htl
theorem kid_below{n n₀:Nat}{w wr:World}{a:Option Addr}{len:Nat}{kids:List (Tm n)}(hkids:kids=[]∨∃b off,a=some ⟨b,off,none⟩∧b<n₀∧∀j u,kids[j]?=some u→cellsAt w b (off+j*4) u.tv∧IsT n₀ w u)
  (hbw:Below n₀ w wr) {j:Nat} (hj:j<len) (hl:len≤kids.length):
  ∃u b off,kids[j]?=some u∧a=some ⟨b,off,none⟩∧cellsAt wr b (off+j*4) u.tv∧IsT n₀ wr u∧b<n₀:=by
 obtain⟨u,hu⟩:∃u,kids[j]?=some u:=⟨kids[j]'(by omega),List.getElem?_eq_getElem (by omega)⟩;have hne:kids≠[]:=by rintro rfl;simp at hu
 obtain⟨b,off,ha,hbk,hk⟩:=hkids.resolve_left hne;obtain⟨⟨c0,c1,c2,c3⟩,hT⟩:=hk j u hu;exact⟨u,b,off,hu,ha,⟨(hbw.cell (p:=⟨b,off+j*4,none⟩) hbk).trans c0,(hbw.cell (p:=⟨b,off+j*4+1,none⟩) hbk).trans c1,(hbw.cell (p:=⟨b,off+j*4+2,none⟩) hbk).trans c2,(hbw.cell (p:=⟨b,off+j*4+3,none⟩) hbk).trans c3⟩,hT.below hbw,hbk⟩
set_option maxHeartbeats 1000000
set_option maxRecDepth 100000
theorem ret_bool{a b:Bool}(h:a=b):Ending.returned (.bool a)=.returned (.bool b):=by rw[h]
theorem all2_stop{α:Type}{f:α→α→Bool}:∀(a b:List α) (j:Nat) (u v:α),a[j]?=some u→b[j]?=some v→f u v=false→all2 f a b=false:=by
 intro a
 induction a with
 | nil=>intro b j u v h;simp at h
 | cons x a ih=>
  intro b j u v hu hv hne;cases b with
  | nil=>simp at hv
  | cons y b=>
   cases j with
   | zero=>simp at hu hv;subst hu;subst hv;simp[all2,hne]
   | succ j=>
    simp only[List.getElem?_cons_succ] at hu hv;simp[all2,ih b j u v hu hv hne]
theorem all2_next{α:Type}{f:α→α→Bool}:∀(a b:List α) (j:Nat) (u v:α),a[j]?=some u→b[j]?=some v→all2 f (a.take j) (b.take j)=true→f u v=true→all2 f (a.take (j+1)) (b.take (j+1))=true:=by
 intro a
 induction a with
 | nil=>intro b j u v h;simp at h
 | cons x a ih=>
  intro b j u v hu hv h hne;cases b with
  | nil=>simp at hv
  | cons y b=>
   cases j with
   | zero=>simp at hu hv;subst hu;subst hv;simp[all2,hne]
   | succ j=>
    simp only[List.take_succ_cons,all2,Bool.and_eq_true] at h⊢;simp only[List.getElem?_cons_succ] at hu hv;exact⟨h.1,by simpa using ih b j u v hu hv h.2 hne⟩
theorem same_any:∀(n:Nat) (x y:Tm n) (w:World),IsT w.heap.size w x→IsT w.heap.size w y→Calls Tryd.prog 9 #[x.tv.val,y.tv.val] w fun e W'=>e=.returned (.bool (sameT x y))∧Below w.heap.size w W':=by
 intro n
 induction n with
 | zero=>intro t;exact Empty.elim t
 | succ n ih=>
  intro x y w hx hy;obtain⟨⟨k,kN,s,a,len,cap⟩,kids⟩:=x;obtain⟨⟨k',kN',s',a',len',cap'⟩,kids'⟩:=y;obtain⟨hlen,hmax,hsm,hkids⟩:=hx;obtain⟨hlen',hmax',hsm',hkids'⟩:=hy;simp only[Tm.tv,Tm.kids] at hlen hmax hsm hkids hlen' hmax' hsm' hkids';have HI:=hide ih;clear ih;simp only[TV.val,Tm.tv,sameT,Tm.kids];cases hst:stop ⟨k,kN,s,a,len,cap⟩ ⟨k',kN',s',a',len',cap'⟩ with
  | false=>
   rw[Bool.false_and];have HS:=hide hst;clear hst hkids hkids' hlen hlen' HI;go_enter Tryd.func9,Tryd.ntmps9
   go_wp2_with fail
   all_goals first | (go_ret;exact⟨rfl,((Below.refl _ w).alloc (Nat.le_refl _) _).alloc (by simp) _⟩) | skip
   exfalso
   have h:=uh HS;clear HS;have h1:k=k':=by assumption
   have h2:kN=kN':=by assumption
   have h3:s.toList=s'.toList:=by assumption
   have h4:((len:Int) != (len':Int))=false:=by assumption
   simp at h4;have h5:len=len':=by omega
   simp[stop,h1,h2,h3,h5] at h
  | true=>
   rw[Bool.true_and];simp[stop] at hst;obtain⟨rfl,rfl,hs,hlq⟩:=hst;have hl1:len≤kids.length:=by omega
   have hl2:kids.length≤len:=by omega
   have hl3:len≤kids'.length:=by omega
   have hl4:kids'.length≤len:=by omega
   have hl5:(len:Int)≤len':=by omega
   have hl6:((len:Int) != (len':Int))=false:=by simp;omega
   clear hlq hlen hlen';go_enter Tryd.func9,Tryd.ntmps9
   go_wp2_with fail
   obtain⟨W1,hW1⟩:∃W1,(w.alloc (.cells #[.int .i64 k,.int .i64 kN,.string s,.slice a len cap] 24)).alloc (.cells #[.int .i64 k,.int .i64 kN,.string s',.slice a' len' cap'] 24)=W1:=⟨_,rfl⟩;have hBB:=Below.refl ((w.alloc (.cells #[.int .i64 k,.int .i64 kN,.string s,.slice a len cap] 24)).alloc (.cells #[.int .i64 k,.int .i64 kN,.string s',.slice a' len' cap'] 24)).heap.size ((w.alloc (.cells #[.int .i64 k,.int .i64 kN,.string s,.slice a len cap] 24)).alloc (.cells #[.int .i64 k,.int .i64 kN,.string s',.slice a' len' cap'] 24));obtain⟨⟨hb1,hzz⟩,hcc,hcd⟩:=two_boxes hBB;clear hBB;rw[hW1] at hb1 hzz hcc hcd⊢;clear hW1
   go_loopw [5] (fun i wr=> ∃j:Nat,j≤len∧i=.int .i64 j∧all2 sameT (kids.take j) (kids'.take j)=true∧Below W1.heap.size W1 wr) (fun i _=>len-(intOf i).toNat)
   case atStart=>exact⟨0,Nat.zero_le _,rfl,by simp[all2],Below.refl _ _⟩
   case round=>
    obtain⟨j,hj,rfl,ho,hb⟩:=hrel;have hbw:Below w.heap.size w wr:=hb1.trans (hb.mono (by omega));have HO:=hide ho;clear ho;replace hcc:=(hb.cell (p:=⟨w.heap.size,3,none⟩) (by simp;omega)).trans hcc;replace hcd:=(hb.cell (p:=⟨w.heap.size+1,3,none⟩) (by simp;omega)).trans hcd
    by_cases hlt:j<len
    ·obtain⟨u,b,off,hu,rfl,⟨c0,c1,c2,c3⟩,hT,hbk⟩:=kid_at hkids hbw hlt hl1
     obtain⟨v,b',off',hv,rfl,⟨d0,d1,d2,d3⟩,hT',hbk'⟩:=kid_at hkids' hbw hlt hl3;have hj1:(j:Int)<len:=by omega
     have hj2:(j:Int)<len':=by omega
     have ihu:Calls Tryd.prog 9 #[.agg #[.int .i64 u.tv.k,.int .i64 u.tv.N,.string u.tv.s,.slice u.tv.a u.tv.len u.tv.cap],.agg #[.int .i64 v.tv.k,.int .i64 v.tv.N,.string v.tv.s,.slice v.tv.a v.tv.len v.tv.cap]] wr.drew fun e W2=>e=.returned (.bool (sameT u v))∧Below wr.heap.size wr W2:=
      ((uh HI) u v wr.drew (hT.below (Below.refl _ wr).drew) (hT'.below (Below.refl _ wr).drew)).mono fun e W2 h=>⟨h.1,(Below.refl _ wr).drew.trans h.2⟩
     have hy1:w.heap.size<wr.heap.size:=by have:=hb.size;omega
     have hy2:w.heap.size+1<wr.heap.size:=by have:=hb.size;omega
     have hy3:b<wr.heap.size:=by omega
     have hy4:b'<wr.heap.size:=by omega
     have hstop:=all2_stop (f:=sameT) kids kids' j u v hu hv;have hnext:=all2_next (f:=sameT) kids kids' j u v hu hv (uh HO);clear hkids hkids' hT hT' hu hv;generalize sameT u v=d at *;have HN:=hide hnext;have HS:=hide hstop;clear hnext hstop;cases d with
     | true=>
      go_wp2_with fail
      go_region_held3 (fun w'=>w'.cell? ⟨w.heap.size,3,none⟩=some (.slice (some ⟨b,off,none⟩) len cap)∧w'.cell? ⟨w.heap.size+1,3,none⟩=some (.slice (some ⟨b',off',none⟩) len' cap')
       ∧w'.cell? ⟨b,off+j*4,none⟩=some (.int .i64 u.tv.k)∧w'.cell? ⟨b,off+j*4+1,none⟩=some (.int .i64 u.tv.N)∧w'.cell? ⟨b,off+j*4+2,none⟩=some (.string u.tv.s)∧w'.cell? ⟨b,off+j*4+3,none⟩=some (.slice u.tv.a u.tv.len u.tv.cap)
       ∧w'.cell? ⟨b',off'+j*4,none⟩=some (.int .i64 v.tv.k)∧w'.cell? ⟨b',off'+j*4+1,none⟩=some (.int .i64 v.tv.N)∧w'.cell? ⟨b',off'+j*4+2,none⟩=some (.string v.tv.s)∧w'.cell? ⟨b',off'+j*4+3,none⟩=some (.slice v.tv.a v.tv.len v.tv.cap)) (go_keep)
       (first | (go_at_call 9;refine ihu.mono ?_;clear ihu;rintro e W2 ⟨rfl,hb2⟩;have hbc:=bcell hb2))
      go_wp2_with fail
      go_roundw
      case rel=>exact⟨j+1,by omega,by go_num,(uh HN) (by simp),hb.trans (hb2.mono hb.size)⟩
      case measure=>simp[intOf];omega
     | false=>
      go_wp2_with fail
      go_region_held3 (fun w'=>w'.cell? ⟨w.heap.size,3,none⟩=some (.slice (some ⟨b,off,none⟩) len cap)∧w'.cell? ⟨w.heap.size+1,3,none⟩=some (.slice (some ⟨b',off',none⟩) len' cap')
       ∧w'.cell? ⟨b,off+j*4,none⟩=some (.int .i64 u.tv.k)∧w'.cell? ⟨b,off+j*4+1,none⟩=some (.int .i64 u.tv.N)∧w'.cell? ⟨b,off+j*4+2,none⟩=some (.string u.tv.s)∧w'.cell? ⟨b,off+j*4+3,none⟩=some (.slice u.tv.a u.tv.len u.tv.cap)
       ∧w'.cell? ⟨b',off'+j*4,none⟩=some (.int .i64 v.tv.k)∧w'.cell? ⟨b',off'+j*4+1,none⟩=some (.int .i64 v.tv.N)∧w'.cell? ⟨b',off'+j*4+2,none⟩=some (.string v.tv.s)∧w'.cell? ⟨b',off'+j*4+3,none⟩=some (.slice v.tv.a v.tv.len v.tv.cap)) (go_keep)
       (first | (go_at_call 9;refine ihu.mono ?_;clear ihu;rintro e W2 ⟨rfl,hb2⟩;have hbc:=bcell hb2))
      go_wp2_with fail
      go_ret
      exact⟨ret_bool ((uh HS) (by simp)).symm,hbw.trans (hb2.mono hbw.size)⟩
    ·have ht:kids.take j=kids:=List.take_of_length_le (by omega)
     have ht':kids'.take j=kids':=List.take_of_length_le (by omega);have HT:=hide ht;have HT':=hide ht';clear ht ht' hkids hkids';go_wp2_with fail
     go_ret
     exact⟨ret_bool (by have h:=uh HO;rw[uh HT,uh HT'] at h;rw[h]),hbw⟩
theorem chk_zero{n:Nat}{t:Tm n}:chk t=0↔okT t=true:=by
 unfold chk;split <;> simp_all
set_option maxHeartbeats 400000
def varV(N:Int):TV:=⟨1,N,⟨#[]⟩,none,0,0⟩
def varNd(N:Int):Nd:=(1,N,[],0)
theorem holds_leaf(x:TV)(h0:x.len=0)(ha:x.a=none)(hcp:x.cap=0)(hs:x.s.size≤9223372036854775807)(lo:Nat)(W:World):HoldsT 1 lo W x.val [x.nd]:=fun m hm=>by
 obtain⟨m',rfl⟩:∃m',m=m'+1:=⟨m-1,by omega⟩;refine⟨((x,[]):TV×List (Tm m')),rfl,fun hl=>⟨h0,⟨by simp[Tm.tv,h0],by simp[Tm.tv,h0,hcp],hl⟩,hs,.inl rfl⟩,⟨⟨.inl rfl,fun u hu=>by cases hu⟩,⟨.inl ⟨rfl,ha,h0,hcp⟩,fun u hu=>by cases hu⟩,List.nodup_nil,⟨h0,fun u hu=>by cases hu⟩⟩,?_⟩;rw[code_succ];rfl
theorem variable_any(N:Int)(w:World):Calls Tryd.prog 50 #[.int .i64 N] w fun e W'=>e=.returned (varV N).val∧Below w.heap.size w W':=by
 go_enter Tryd.func50,Tryd.ntmps50
 go_wp2
 refine bodyPost_ret (v:=(varV N).val) (by simp[results,Tryd.results50,go_sem,varV,TV.val]) rfl ⟨rfl,(Below.refl _ _).alloc (Nat.le_refl _) _⟩
/-- A term's four cells stored from an offset on. -/
def set4(W:World)(b o:Nat)(x:TV):World:=(((W.setCell ⟨b,o,none⟩ (.int .i64 x.k)).setCell ⟨b,o+1,none⟩ (.int .i64 x.N)).setCell ⟨b,o+2,none⟩ (.string x.s)).setCell ⟨b,o+3,none⟩ (.slice x.a x.len x.cap)
theorem set4_size(W:World)(b o:Nat)(x:TV):(set4 W b o x).heap.size=W.heap.size:=by simp[set4]
theorem set4_other(W:World)(b o:Nat)(x:TV){k:Nat}(h:k≠b):(set4 W b o x).heap[k]?=W.heap[k]?:=by
 unfold set4;rw[Below.heap_setCell _ _ _ _ h,Below.heap_setCell _ _ _ _ h,Below.heap_setCell _ _ _ _ h,Below.heap_setCell _ _ _ _ h]
theorem far_ne{b p q:Nat}(h:p≠q):(⟨b,p,none⟩:Addr)≠⟨b,q,none⟩:=fun e=>h (by cases e;rfl)
theorem set4_far(W:World)(b o:Nat)(x:TV){q:Nat}(h:q<o∨o+3<q):(set4 W b o x).cell? ⟨b,q,none⟩=W.cell? ⟨b,q,none⟩:=by
 unfold set4;rw[World.cell?_setCell_other _ _ _ _ (far_ne (by omega)),World.cell?_setCell_other _ _ _ _ (far_ne (by omega)),World.cell?_setCell_other _ _ _ _ (far_ne (by omega)),World.cell?_setCell_other _ _ _ _ (far_ne (by omega))]
theorem set4_cells(W:World)(b o:Nat)(x:TV)(h0:(W.cell? ⟨b,o,none⟩).isSome=true)(h1:(W.cell? ⟨b,o+1,none⟩).isSome=true)(h2:(W.cell? ⟨b,o+2,none⟩).isSome=true)(h3:(W.cell? ⟨b,o+3,none⟩).isSome=true):cellsAt (set4 W b o x) b o x:=by
 unfold set4;refine⟨?_,?_,?_,?_⟩
 ·rw[World.cell?_setCell_other _ _ _ _ (by simp),World.cell?_setCell_other _ _ _ _ (by simp),World.cell?_setCell_other _ _ _ _ (by simp),World.cell?_setCell_same' _ _ _ h0]
 ·rw[World.cell?_setCell_other _ _ _ _ (by simp),World.cell?_setCell_other _ _ _ _ (by simp),World.cell?_setCell_same' _ _ _ (by rw[World.cell?_setCell_other _ _ _ _ (by simp)];exact h1)]
 ·rw[World.cell?_setCell_other _ _ _ _ (by simp),World.cell?_setCell_same' _ _ _ (by rw[World.cell?_setCell_other _ _ _ _ (by simp),World.cell?_setCell_other _ _ _ _ (by simp)];exact h2)]
 ·rw[World.cell?_setCell_same' _ _ _ (by rw[World.cell?_setCell_other _ _ _ _ (by simp),World.cell?_setCell_other _ _ _ _ (by simp),World.cell?_setCell_other _ _ _ _ (by simp)];exact h3)]
theorem set4_below{n:Nat}{A W:World}(h:Below n A W){b:Nat}(hb:n≤b)(o:Nat)(x:TV):Below n A (set4 W b o x):=
 (((h.setCell (p:=⟨b,o,none⟩) hb _).setCell (p:=⟨b,o+1,none⟩) hb _).setCell (p:=⟨b,o+2,none⟩) hb _).setCell (p:=⟨b,o+3,none⟩) hb _
theorem below_two{W W1:World}{o o':Obj}(h:Below ((W.alloc o).alloc o').heap.size ((W.alloc o).alloc o') W1):Below W.heap.size W W1:=
 (((Below.refl _ W).alloc (Nat.le_refl _) _).alloc (by simp) _).trans (h.mono (by simp;omega))
theorem zbox_kept{W1:World}{b:Nat}{c0 c1 c2 c3:Value}(h:W1.heap[b]?=some (.cells #[c0,c1,c2,c3] 24 (0,0))):
  (W1.cell? ⟨b,0,none⟩=some c0∧W1.cell? ⟨b,1,none⟩=some c1∧W1.cell? ⟨b,2,none⟩=some c2∧W1.cell? ⟨b,3,none⟩=some c3)∧(W1.frozen? ⟨b,0,none⟩=false∧W1.frozen? ⟨b,1,none⟩=false∧W1.frozen? ⟨b,2,none⟩=false∧W1.frozen? ⟨b,3,none⟩=false):=by
 refine⟨⟨?_,?_,?_,?_⟩,?_,?_,?_,?_⟩ <;> simp[World.cell?,World.frozen?,h]
theorem holds_set4{D lo:Nat}{W1:World}{v:Value}{c:List Nd}(h:HoldsT D lo W1 v c){b:Nat}(hb:b<lo)(o:Nat)(x:TV):HoldsT D lo (set4 W1 b o x) v c:=fun m hm=>by
 obtain⟨t,h1,h2,h3,h4⟩:=h m hm;exact⟨t,h1,by rw[set4_size];exact h2.from (fun k hk=>set4_other W1 b o x (by omega)) h3.new,h3.kept (fun k hk _=>set4_other W1 b o x (by omega)),h4⟩
/-- What stands in the place of a part. -/
def subN(β:Int→List Nd)(x:Nd):List Nd:=if x.1=1 then β x.2.1 else[x]
/-- A function value that says what a variable becomes: in every world behind w a term of the code β, in new memory. -/
def Becomes(g:Nat)(lb:Array Value)(β:Int→List Nd)(D:Nat)(w:World):Prop:=
 ∀(N:Int) (W:World),0≤N→N≤1099511627776→Below w.heap.size w W→Calls Tryd.prog g (#[.int .i64 N]++lb) W fun e W'=> ∃v,e=.returned v∧Below W.heap.size W W'∧HoldsT D W.heap.size W' v (β N)
theorem Tryd.info28:(Tryd.prog.info? 24).map (fun i=>(i.zero,i.size,i.bytes))=some (some (.agg #[.int .i64 0,.int .i64 0,.string ⟨#[]⟩,.slice none 0 0]),4,56):=by kernel_rfl
theorem make_terms(len:Nat)(h:len≤50)(w:World):(Instr.makeSlice 22 (.int .i64 (len:Int)) (.int .i64 (len:Int))).run Tryd.prog w=.ok (.slice (some ⟨w.heap.size,0,none⟩) len len) (w.alloc (.cells (madeCells #[.int .i64 0,.int .i64 0,.string ⟨#[]⟩,.slice none 0 0] (len*4)) 24)):=by
 obtain⟨i0,hi,hz0,hz1,hz2⟩:=info_parts Tryd.info28;have hr:=run_make (P:=Tryd.prog) w 22 24 i0 _ Tryd.underlying22 hi hz0 .i64 .i64 len len (by omega) (Int.le_refl _) (by rw[hz2];omega) (by omega);rw[hz1] at hr;simpa[Value.cells] using hr
/-- A block of room for len terms. -/
def Row4(W:World)(B len:Nat):Prop:= ∃arr:Array Value,W.heap[B]?=some (.cells arr 24 (0,0))∧arr.size=len*4
theorem Row4.lt{W:World}{B len:Nat}(h:Row4 W B len):B<W.heap.size:=by obtain⟨arr,h,_⟩:=h;exact(Array.getElem?_eq_some_iff.1 h).1
theorem Row4.cell{W:World}{B len:Nat}(h:Row4 W B len){o:Nat}(ho:o<len*4):(∃v,W.cell? ⟨B,o,none⟩=some v)∧W.frozen? ⟨B,o,none⟩=false:=by
 obtain⟨arr,h,hs⟩:=h;refine⟨⟨arr[o]'(by omega),?_⟩,?_⟩
 ·simp[World.cell?,h]
 ·simp[World.frozen?,h]
theorem Row4.kept{W W':World}{B len:Nat}(h:Row4 W B len)(hb:W'.heap[B]?=W.heap[B]?):Row4 W' B len:=by
 obtain⟨arr,h,hs⟩:=h;exact⟨arr,hb.trans h,hs⟩
theorem Row4.setCell{W:World}{B len:Nat}(h:Row4 W B len)(o:Nat)(v:Value):Row4 (W.setCell ⟨B,o,none⟩ v) B len:=by
 obtain⟨arr,h,hs⟩:=h;obtain⟨hlt,hk⟩:=Array.getElem?_eq_some_iff.1 h;refine⟨arr.setIfInBounds o v,?_,by simpa using hs⟩
 show(W.heap.modify B _)[B]?=_
 rw[Array.getElem?_eq_getElem (by rw[Array.size_modify];exact hlt),Array.getElem_modify_self,hk];rfl
theorem Row4.set4{W:World}{B len:Nat}(h:Row4 W B len)(o:Nat)(x:TV):Row4 (set4 W B o x) B len:=
 (((h.setCell _ _).setCell _ _).setCell _ _).setCell _ _
theorem cellsAt.kept{W W':World}{B o:Nat}{x:TV}(h:cellsAt W B o x)(hb:W'.heap[B]?=W.heap[B]?):cellsAt W' B o x:=by
 have hc:∀q,W'.cell? ⟨B,q,none⟩=W.cell? ⟨B,q,none⟩:=fun q=>World.cell?_of_block (w:=W) hb;exact⟨(hc _).trans h.1,(hc _).trans h.2.1,(hc _).trans h.2.2.1,(hc _).trans h.2.2.2⟩
/-- The first j of the Args stand written in block B, at every number of storeys from D on. -/
def Written(D B j:Nat)(W:World)(c:List Nd):Prop:=
 ∀M,D≤M→∃ks:List (Tm M),ks.length=j∧(∀i u,ks[i]?=some u→cellsAt W B (i*4) u.tv∧IsW W.heap.size W u∧NewW (B+1) W u)∧ks.flatMap code=c∧(ks.flatMap blks).Nodup
theorem Written.zero(D B:Nat)(W:World):Written D B 0 W []:=fun M _=>⟨[],rfl,fun i u h=>by simp at h,rfl,List.nodup_nil⟩
theorem Written.add{D B j lo:Nat}{V V':World}{c cu:List Nd}{x:TV}(h:Written D B j V c)(hk:TK (B+1) V V')(hB:∀q,q<j*4→V'.cell? ⟨B,q,none⟩=V.cell? ⟨B,q,none⟩)(hc:cellsAt V' B (j*4) x)(hx:HoldsT D lo V' x.val cu)(hlo:V.heap.size≤lo)(hBl:B<V.heap.size):Written D B (j+1) V' (c++cu):=fun M hM=>by
 obtain⟨ks,hl,hks,hcs,hnd⟩:=h M hM;obtain⟨u,hu,hT,hN0,hcu⟩:=hx M hM
 have hux:u.tv=x:=by
  simp only[TV.val,Value.agg.injEq] at hu;simp at hu;obtain⟨e1,e2,e3,e4,e5,e6⟩:=hu;cases hx:u.tv;cases x;simp_all
 refine⟨ks++[u],by simp[hl],fun i z hz=>?_,by simp[hcs,hcu],kids_apart (fun i z hz=>(hks i z hz).2.2) hnd hN0 hlo⟩
 by_cases hi:i<j
 ·rw[List.getElem?_append_left (by omega)] at hz
  obtain⟨⟨c0,c1,c2,c3⟩,k2,k3⟩:=hks i z hz;exact⟨⟨(hB _ (by omega)).trans c0,(hB _ (by omega)).trans c1,(hB _ (by omega)).trans c2,(hB _ (by omega)).trans c3⟩,fun hl=>(IsT.tk hk (k2 hl) k3.wh).mono hk.size,k3.tk hk⟩
 ·rw[List.getElem?_append_right (by omega)] at hz
  have hi2:i-ks.length=0:=by
   by_cases e:i-ks.length=0
   ·exact e
   ·rw[List.getElem?_eq_none (by simp;omega)] at hz;cases hz
  rw[hi2] at hz;simp at hz;subst hz;obtain rfl:i=j:=by omega
  rw[hux];exact⟨hc,hT,hN0.mono (by omega)⟩
theorem comp_holds{D B len lo:Nat}{V:World}{s:ByteArray}{c:List Nd}(hs:s.size≤9223372036854775807)(hl:len≤50)(hr:Row4 V B len)(hw:Written D B len V c)(hlo:lo≤B):HoldsT (D+1) lo V (⟨4,0,s,some ⟨B,0,none⟩,len,len⟩:TV).val ((4,0,s.toList,len)::c):=fun m hm=>by
 obtain⟨M,rfl⟩:∃M,m=M+1:=⟨m-1,by omega⟩;obtain⟨ks,hkl,hks,hkc,hnd⟩:=hw M (by omega);obtain⟨arr,ha1,ha2⟩:=hr;have hBl:=(Array.getElem?_eq_some_iff.1 ha1).1;refine⟨((⟨4,0,s,some ⟨B,0,none⟩,len,len⟩,ks):TV×List (Tm M)),rfl,fun hlim=>⟨hkl.symm,⟨?_,Nat.le_refl _,hlim⟩,hs,.inr ⟨B,0,rfl,hBl,fun j u hu=>?_⟩⟩,⟨⟨.inr ⟨B,0,rfl,hlo⟩,fun u hu=>?_⟩,⟨.inr ⟨B,arr,hlo,rfl,rfl,ha1,ha2⟩,fun u hu=>?_⟩,row_apart (B:=B) rfl (Nat.lt_succ_self _) (fun i z hz=>(hks i z hz).2.2) hnd,⟨hkl.symm,fun u hu=>?_⟩⟩,?_⟩
 ·show len≤_
  omega
 ·obtain⟨k1,k2,k3⟩:=hks j u hu
  rw[Nat.zero_add];exact⟨k1,k2 (by omega)⟩
 ·obtain⟨j,hj⟩:=List.mem_iff_getElem?.1 hu
  exact((hks j u hj).2.2.mono (by omega)).new
 ·obtain⟨j,hj⟩:=List.mem_iff_getElem?.1 hu
  exact((hks j u hj).2.2.mono (by omega)).wh
 ·obtain⟨j,hj⟩:=List.mem_iff_getElem?.1 hu
  exact(hks j u hj).2.2.wl
 ·rw[code_succ,hkc];rfl
set_option maxHeartbeats 1000000
set_option maxRecDepth 100000
theorem code_take{n:Nat}(kids:List (Tm n))(j:Nat)(u:Tm n)(h:kids[j]?=some u):(kids.take (j+1)).flatMap code=(kids.take j).flatMap code++code u:=by
 obtain⟨hj,rfl⟩:=List.getElem?_eq_some_iff.1 h;rw[List.take_succ_eq_append_getElem hj,List.flatMap_append,List.flatMap_cons,List.flatMap_nil,List.append_nil]
theorem ok_kids{n:Nat}{x:TV}{kids:List (Tm n)}(h:okT (n:=n+1) ((x,kids):TV×List (Tm n))=true):wmB x.k x.N x.s x.len=true∧∀u∈kids,okT u=true:=by
 rw[okT_succ,Bool.and_eq_true] at h;exact⟨h.1,List.all_eq_true.1 h.2⟩
theorem wm_cases{k N:Int}{s:ByteArray}{len:Nat}(h:wmB k N s len=true):(k=1∧0≤N∧N≤1099511627776∧s.toList=[]∧len=0)∨((k=2∨k=3)∧len=0)∨(k=4∧N=0∧1≤len∧len≤50):=by
 unfold wmB at h
 split at h
 ·rename_i hk
  simp at h;exact .inl ⟨hk,h.1.1.1,h.1.1.2,h.1.2,h.2⟩
 ·split at h
  ·rename_i hk
   simp at h;exact .inr (.inl ⟨.inl hk,h.2⟩)
  ·split at h
   ·rename_i hk
    simp at h;exact .inr (.inl ⟨.inr hk,h.2⟩)
   ·split at h
    ·rename_i hk
     simp at h;exact .inr (.inr ⟨hk,h.1.1.1,by omega,by omega⟩)
    ·cases h
/-- Of what lies below B only blocks in X may have changed. -/
structure GrB (X:Nat→Prop) (B:Nat) (A W:World):Prop where
 os:W.os=A.os
 tape:W.tape=A.tape
 output:W.output=A.output
 size:A.heap.size≤W.heap.size
 block:∀k,k<B→¬X k→W.heap[k]?=A.heap[k]?
theorem GrB.of_below{X:Nat→Prop}{B:Nat}{A W:World}(h:Below B A W):GrB X B A W:=⟨h.os,h.tape,h.output,h.size,fun k hk _=>h.block k hk⟩
theorem GrB.refl(X:Nat→Prop)(B:Nat)(A:World):GrB X B A A:=GrB.of_below (Below.refl _ _)
theorem GrB.trans{X:Nat→Prop}{B:Nat}{A W W':World}(h:GrB X B A W)(k:GrB X B W W'):GrB X B A W':=
 ⟨k.os.trans h.os,k.tape.trans h.tape,k.output.trans h.output,Nat.le_trans h.size k.size,fun i hi hx=>(k.block i hi hx).trans (h.block i hi hx)⟩
theorem GrB.mono{X:Nat→Prop}{B B':Nat}{A W:World}(h:GrB X B A W)(hB:B'≤B):GrB X B' A W:=⟨h.os,h.tape,h.output,h.size,fun k hk=>h.block k (Nat.lt_of_lt_of_le hk hB)⟩
theorem GrB.below{X:Nat→Prop}{B n₀:Nat}{A W:World}(h:GrB X B A W)(hX:∀k,X k→n₀≤k)(hB:n₀≤B):Below n₀ A W:=
 ⟨h.os,h.tape,h.output,h.size,fun k hk=>h.block k (by omega) (fun hx=>by have:=hX k hx;omega)⟩
theorem GrB.set4{X:Nat→Prop}{B:Nat}{A W:World}(h:GrB X B A W){b:Nat}(hb:B≤b)(o:Nat)(x:TV):GrB X B A (set4 W b o x):=
 h.trans (GrB.of_below (set4_below (Below.refl _ _) hb o x))
/-- The states behind the variables of a row of parts. -/
def stepsN{σ:Type}(stp:σ→Int→σ)(s:σ)(l:List Nd):σ:=l.foldl (fun s x=>if x.1=1 then stp s x.2.1 else s) s
theorem stepsN_append{σ:Type}(stp:σ→Int→σ)(s:σ)(l l':List Nd):stepsN stp s (l++l')=stepsN stp (stepsN stp s l) l':=List.foldl_append
/-- What a state that goes on must keep to. -/
structure Stately {σ:Type} (I:σ→World→Prop) (X:Nat→Prop) (n₀ lo:Nat) (stp:σ→Int→σ) (β:σ→Int→List Nd):Prop where
 low:n₀≤lo
 blocks:∀k,X k→n₀≤k∧k<lo
 keep:∀s W W',I s W→lo≤W.heap.size→Below lo W W'→I s W'
 stay:∀s N l,β (stepsN stp (stp s N) l) N=β (stp s N) N
theorem Stately.sub{σ:Type}{I:σ→World→Prop}{X:Nat→Prop}{n₀ lo:Nat}{stp:σ→Int→σ}{β:σ→Int→List Nd}(h:Stately I X n₀ lo stp β):∀(l l':List Nd) (s:σ),l.flatMap (subN (β (stepsN stp s (l++l'))))=l.flatMap (subN (β (stepsN stp s l)))
 | [],_,_=>rfl
 | x::l,l',s=>by
  have ih:=h.sub l l' (if x.1=1 then stp s x.2.1 else s);have e1:stepsN stp s (x::l++l')=stepsN stp (if x.1=1 then stp s x.2.1 else s) (l++l'):=rfl;have e2:stepsN stp s (x::l)=stepsN stp (if x.1=1 then stp s x.2.1 else s) l:=rfl;rw[List.flatMap_cons,List.flatMap_cons,e1,e2,ih]
  congr 1
  unfold subN
  by_cases hx:x.1=1
  ·rw[if_pos hx,if_pos hx,if_pos hx,h.stay,h.stay]
  ·rw[if_neg hx,if_neg hx]
/-- A function value that says what a variable becomes, and keeps a state. -/
def BecomesX{σ:Type}(g:Nat)(lb:Array Value)(I:σ→World→Prop)(X:Nat→Prop)(lo:Nat)(stp:σ→Int→σ)(β:σ→Int→List Nd)(D:Nat):Prop:=
 ∀(N:Int) (W:World) (s:σ),0≤N→N≤1099511627776→lo≤W.heap.size→I s W→Calls Tryd.prog g (#[.int .i64 N]++lb) W fun e W'=> ∃v,e=.returned v∧GrB X W.heap.size W W'∧I (stp s N) W'∧HoldsT D W.heap.size W' v (β (stp s N) N)
theorem top_var{σ:Type}{I:σ→World→Prop}{X:Nat→Prop}{n₀ lo:Nat}{stp:σ→Int→σ}{β:σ→Int→List Nd}(hst:Stately I X n₀ lo stp β)(g:Nat)(lb:Array Value)(D:Nat)(eg:∀args w,(callFunc g args).run Tryd.prog w=.ok (.enter g args) w)(hbec:BecomesX g lb I X lo stp β D)
  (N:Int) (s:ByteArray) (a:Option Addr) (len cap:Nat) (W:World) (z:σ) (h0:0≤N) (h1:N≤1099511627776) (hlo:lo≤W.heap.size) (hI:I z W):
  Calls Tryd.prog 64 #[.agg #[.int .i64 1,.int .i64 N,.string s,.slice a len cap],.func (.func g) #[] lb] W fun e W'=> ∃x:TV,e=.returned (.tuple #[x.val,.slice none 0 0])∧GrB X W.heap.size W W'∧I (stp z N) W'∧HoldsT D W.heap.size W' x.val (β (stp z N) N):=by
 have hB2:Below W.heap.size W ((W.alloc (.cells #[.int .i64 1,.int .i64 N,.string s,.slice a len cap] 24)).alloc (.cells #[.int .i64 0,.int .i64 0,.string ⟨#[]⟩,.slice none 0 0] 24)):=((Below.refl _ W).alloc (Nat.le_refl _) _).alloc (by simp) _;have hsz:((W.alloc (.cells #[.int .i64 1,.int .i64 N,.string s,.slice a len cap] 24)).alloc (.cells #[.int .i64 0,.int .i64 0,.string ⟨#[]⟩,.slice none 0 0] 24)).heap.size=W.heap.size+2:=by simp
 have hcall:=hbec N ((W.alloc (.cells #[.int .i64 1,.int .i64 N,.string s,.slice a len cap] 24)).alloc (.cells #[.int .i64 0,.int .i64 0,.string ⟨#[]⟩,.slice none 0 0] 24)) z h0 h1 (by omega) (hst.keep z W _ hI hlo (hB2.mono hlo));have hnew:=World.alloc_heap_new (W.alloc (.cells #[.int .i64 1,.int .i64 N,.string s,.slice a len cap] 24)) (.cells #[.int .i64 0,.int .i64 0,.string ⟨#[]⟩,.slice none 0 0] 24);rw[World.size_alloc] at hnew;have HB2:=hide hB2;have HSZ:=hide hsz;have HNEW:=hide hnew;have HST:=hide hst;clear hbec hI hB2 hsz hnew hst;go_enter Tryd.func64,Tryd.ntmps64
 go_wp2_with fail
 refine hcall.mono ?_;clear hcall;rintro e W1 ⟨v,rfl,hg1,hI1,hv⟩;rw[uh HSZ] at hg1 hv;obtain⟨t,ht,-⟩:=hv D (Nat.le_refl _);subst ht;have hnx:¬X (W.heap.size+1):=fun hx=>by have:=((uh HST).blocks _ hx).2;omega
 obtain⟨⟨z0,z1,z2,z3⟩,y0,y1,y2,y3⟩:=zbox_kept ((hg1.block (W.heap.size+1) (by omega) hnx).trans (uh HNEW));have hs1:W.heap.size+2≤W1.heap.size:=by have:=hg1.size;have:=uh HSZ;omega
 have hfin:HoldsT D W.heap.size (set4 W1 (W.heap.size+1) 0 t.tv) t.tv.val (β (stp z N) N):=(holds_set4 hv (by omega) 0 t.tv).mono (Nat.le_refl _) (by omega);have hgf:GrB X W.heap.size W (set4 W1 (W.heap.size+1) 0 t.tv):=((GrB.of_below (uh HB2)).trans (hg1.mono (by omega))).set4 (by omega) 0 t.tv;have hIf:I (stp z N) (set4 W1 (W.heap.size+1) 0 t.tv):=(uh HST).keep _ _ _ hI1 (by omega) (set4_below (Below.refl _ _) (by omega) 0 t.tv);have HF:=hide hfin;have HG:=hide hgf;have HI:=hide hIf;clear hfin hgf hIf hv hg1 hI1 hnx;simp only[TV.val];go_wp2_with fail
 exact bodyPost_ret (v:=.tuple #[t.tv.val,.slice none 0 0]) (by simp[results,Tryd.results64,go_sem,TV.val,z0,z1,z2,z3]) rfl ⟨_,rfl,uh HG,uh HI,uh HF⟩
theorem top_leaf(fv:Value)(k N:Int)(s:ByteArray)(a:Option Addr)(len cap:Nat)(W:World)(hk:k=2∨k=3)(hs:s.size≤9223372036854775807):
  Calls Tryd.prog 64 #[.agg #[.int .i64 k,.int .i64 N,.string s,.slice a len cap],fv] W fun e W'=>e=.returned (.tuple #[(⟨k,N,s,none,0,0⟩:TV).val,.slice none 0 0])∧Below W.heap.size W W'∧HoldsT 1 W.heap.size W' (⟨k,N,s,none,0,0⟩:TV).val [(k,N,s.toList,0)]:=by
 have hk1:(k == 1)=false:=by simp;omega
 have hk4:(k == 4)=false:=by simp;omega
 clear hk;go_enter Tryd.func64,Tryd.ntmps64
 go_wp2_with fail
 exact bodyPost_ret (v:=.tuple #[(⟨k,N,s,none,0,0⟩:TV).val,.slice none 0 0]) (by simp[results,Tryd.results64,go_sem,TV.val]) rfl ⟨rfl,((Below.refl _ W).alloc (Nat.le_refl _) _).alloc (by simp) _,holds_leaf ⟨k,N,s,none,0,0⟩ rfl rfl rfl hs _ _⟩
theorem row4_new(W:World)(len:Nat):Row4 (W.alloc (.cells (madeCells #[.int .i64 0,.int .i64 0,.string ⟨#[]⟩,.slice none 0 0] (len*4)) 24)) W.heap.size len:=⟨madeCells #[.int .i64 0,.int .i64 0,.string ⟨#[]⟩,.slice none 0 0] (len*4),World.alloc_heap_new _ _,size_madeCells _ _⟩
theorem top_comp(fv:Value)(s:ByteArray)(a:Option Addr)(len cap:Nat)(W:World)(hl50:len≤50):
  Calls Tryd.prog 64 #[.agg #[.int .i64 4,.int .i64 0,.string s,.slice a len cap],fv] W fun e W'=> ∃B,e=.returned (.tuple #[(⟨4,0,s,some ⟨B,0,none⟩,len,len⟩:TV).val,.slice (some ⟨B,0,none⟩) len len])∧W.heap.size≤B∧Row4 W' B len∧Below W.heap.size W W':=by
 have hmk:=make_terms len hl50;go_enter Tryd.func64,Tryd.ntmps64
 go_wp2_with fail
 obtain⟨A,hA⟩:∃A,(W.alloc (.cells #[.int .i64 4,.int .i64 0,.string s,.slice a len cap] 24)).alloc (.cells #[.int .i64 4,.int .i64 0,.string s,.slice (some ⟨W.heap.size+1+1,0,none⟩) len len] 24)=A:=⟨_,rfl⟩;have hs:A.heap.size=W.heap.size+1+1:=by rw[←hA];simp
 have hAb:Below W.heap.size W A:=by rw[←hA];exact((Below.refl _ W).alloc (Nat.le_refl _) _).alloc (by simp) _
 have hbx:A.heap[W.heap.size+1]?=some (.cells #[.int .i64 4,.int .i64 0,.string s,.slice (some ⟨W.heap.size+1+1,0,none⟩) len len] 24 (0,0)):=by
  rw[←hA];have h:=World.alloc_heap_new (W.alloc (.cells #[.int .i64 4,.int .i64 0,.string s,.slice a len cap] 24)) (.cells #[.int .i64 4,.int .i64 0,.string s,.slice (some ⟨W.heap.size+1+1,0,none⟩) len len] 24);rw[World.size_alloc] at h;exact h
 rw[hA];clear hA;have hr:=row4_new A len;rw[hs] at hr;obtain⟨⟨z0,z1,z2,z3⟩,-⟩:=zbox_kept ((Below.heap_alloc A (.cells (madeCells #[.int .i64 0,.int .i64 0,.string ⟨#[]⟩,.slice none 0 0] (len*4)) 24) (W.heap.size+1) (by omega)).trans hbx);exact bodyPost_ret (v:=.tuple #[(⟨4,0,s,some ⟨W.heap.size+1+1,0,none⟩,len,len⟩:TV).val,.slice (some ⟨W.heap.size+1+1,0,none⟩) len len]) (by simp[results,Tryd.results64,go_sem,TV.val,z0,z1,z2,z3]) rfl ⟨_,rfl,by omega,hr,hAb.alloc (by omega) _⟩
end Go.Proofs.YtjbdkbaacjfecaaDoor
