import Derived.Test.YteaiefjmcinljaaGreatDoorF
import Derived.Test.YteaiefjmcinljaaGreatDoorCs
namespace Go.Proofs.YteaiefjmcinljaaGreatDoor
set_option maxHeartbeats 1000000
set_option maxRecDepth 100000
open Go.RowKit Go.Shelf
theorem ret_bool{a b:Bool}(h:a=b):Ending.returned (.bool a)=.returned (.bool b):=by rw[h]
theorem all2_stop{α:Type}{f:α→α→Bool}:∀(a b:List α) (j:Nat) (u v:α),a[j]?=some u→b[j]?=some v→f u v=false→all2 f a b=false:=by
 intro a
 induction a with
 | nil=>intro b j u v h;simp at h
 | cons x a ih=>
  intro b j u v hu hv hne
  cases b with
  | nil=>simp at hv
  | cons y b=>
   cases j with
   | zero=>simp at hu hv;subst hu;subst hv;simp[all2,hne]
   | succ j=>
    simp only[List.getElem?_cons_succ] at hu hv
    simp[all2,ih b j u v hu hv hne]
theorem all2_next{α:Type}{f:α→α→Bool}:∀(a b:List α) (j:Nat) (u v:α),a[j]?=some u→b[j]?=some v→all2 f (a.take j) (b.take j)=true→f u v=true→all2 f (a.take (j+1)) (b.take (j+1))=true:=by
 intro a
 induction a with
 | nil=>intro b j u v h;simp at h
 | cons x a ih=>
  intro b j u v hu hv h hne
  cases b with
  | nil=>simp at hv
  | cons y b=>
   cases j with
   | zero=>simp at hu hv;subst hu;subst hv;simp[all2,hne]
   | succ j=>
    simp only[List.take_succ_cons,all2,Bool.and_eq_true] at h⊢
    simp only[List.getElem?_cons_succ] at hu hv
    exact⟨h.1,by simpa using ih b j u v hu hv h.2 hne⟩
theorem same_any:∀(n:Nat) (x y:Tm n) (w:World),IsT w.heap.size w x→IsT w.heap.size w y→Calls Tryz.prog 15 #[x.tv.val,y.tv.val] w fun e W'=>e=.returned (.bool (sameT x y))∧Below w.heap.size w W':=by
 intro n
 induction n with
 | zero=>intro t;exact Empty.elim t
 | succ n ih=>
  intro x y w hx hy
  obtain⟨⟨k,kN,s,a,len,cap⟩,kids⟩:=x
  obtain⟨⟨k',kN',s',a',len',cap'⟩,kids'⟩:=y
  obtain⟨hlen,hmax,hsm,hkids⟩:=hx
  obtain⟨hlen',hmax',hsm',hkids'⟩:=hy
  simp only[Tm.tv,Tm.kids] at hlen hmax hsm hkids hlen' hmax' hsm' hkids'
  have HI:=hide ih
  clear ih
  simp only[TV.val,Tm.tv,sameT,Tm.kids]
  cases hst:stop ⟨k,kN,s,a,len,cap⟩ ⟨k',kN',s',a',len',cap'⟩ with
  | false=>
   rw[Bool.false_and]
   have HS:=hide hst
   clear hst hkids hkids' hlen hlen' HI
   go_enter Tryz.func15,Tryz.ntmps15
   go_wp2_with fail
   all_goals first | (go_ret;exact⟨rfl,((Below.refl _ w).alloc (Nat.le_refl _) _).alloc (by simp) _⟩) | skip
   exfalso
   have h:=unhide HS
   clear HS
   have h1:k=k':=by assumption
   have h2:kN=kN':=by assumption
   have h3:s.toList=s'.toList:=by assumption
   have h4:((len:Int) != (len':Int))=false:=by assumption
   simp at h4
   have h5:len=len':=by omega
   simp[stop,h1,h2,h3,h5] at h
  | true=>
   rw[Bool.true_and]
   simp[stop] at hst
   obtain⟨rfl,rfl,hs,hlq⟩:=hst
   have hl1:len≤kids.length:=by omega
   have hl2:kids.length≤len:=by omega
   have hl3:len≤kids'.length:=by omega
   have hl4:kids'.length≤len:=by omega
   have hl5:(len:Int)≤len':=by omega
   have hl6:((len:Int) != (len':Int))=false:=by simp;omega
   clear hlq hlen hlen'
   go_enter Tryz.func15,Tryz.ntmps15
   go_wp2_with fail
   obtain⟨W1,hW1⟩:∃W1,(w.alloc (.cells #[.int .i64 k,.int .i64 kN,.string s,.slice a len cap] 34)).alloc (.cells #[.int .i64 k,.int .i64 kN,.string s',.slice a' len' cap'] 34)=W1:=⟨_,rfl⟩
   have hBB:=Below.refl ((w.alloc (.cells #[.int .i64 k,.int .i64 kN,.string s,.slice a len cap] 34)).alloc (.cells #[.int .i64 k,.int .i64 kN,.string s',.slice a' len' cap'] 34)).heap.size ((w.alloc (.cells #[.int .i64 k,.int .i64 kN,.string s,.slice a len cap] 34)).alloc (.cells #[.int .i64 k,.int .i64 kN,.string s',.slice a' len' cap'] 34))
   obtain⟨⟨hb1,hzz⟩,hcc,hcd⟩:=two_boxes hBB
   clear hBB
   rw[hW1] at hb1 hzz hcc hcd⊢
   clear hW1
   go_loopw [5] (fun i wr=> ∃j:Nat,j≤len∧i=.int .i64 j∧all2 sameT (kids.take j) (kids'.take j)=true∧Below W1.heap.size W1 wr) (fun i _=>len-(intOf i).toNat)
   case atStart=>exact⟨0,Nat.zero_le _,rfl,by simp[all2],Below.refl _ _⟩
   case round=>
    obtain⟨j,hj,rfl,ho,hb⟩:=hrel
    have hbw:Below w.heap.size w wr:=hb1.trans (hb.mono (by omega))
    have HO:=hide ho
    clear ho
    replace hcc:=(hb.cell (p:=⟨w.heap.size,3,none⟩) (by simp;omega)).trans hcc
    replace hcd:=(hb.cell (p:=⟨w.heap.size+1,3,none⟩) (by simp;omega)).trans hcd
    by_cases hlt:j<len
    ·obtain⟨u,b,off,hu,rfl,⟨c0,c1,c2,c3⟩,hT,hbk⟩:=kid_at hkids hbw hlt hl1
     obtain⟨v,b',off',hv,rfl,⟨d0,d1,d2,d3⟩,hT',hbk'⟩:=kid_at hkids' hbw hlt hl3
     have hj1:(j:Int)<len:=by omega
     have hj2:(j:Int)<len':=by omega
     have ihu:Calls Tryz.prog 15 #[.agg #[.int .i64 u.tv.k,.int .i64 u.tv.N,.string u.tv.s,.slice u.tv.a u.tv.len u.tv.cap],.agg #[.int .i64 v.tv.k,.int .i64 v.tv.N,.string v.tv.s,.slice v.tv.a v.tv.len v.tv.cap]] wr.drew fun e W2=>e=.returned (.bool (sameT u v))∧Below wr.heap.size wr W2:=
      ((unhide HI) u v wr.drew (hT.below (Below.refl _ wr).drew) (hT'.below (Below.refl _ wr).drew)).mono fun e W2 h=>⟨h.1,(Below.refl _ wr).drew.trans h.2⟩
     have hy1:w.heap.size<wr.heap.size:=by have:=hb.size;omega
     have hy2:w.heap.size+1<wr.heap.size:=by have:=hb.size;omega
     have hy3:b<wr.heap.size:=by omega
     have hy4:b'<wr.heap.size:=by omega
     have hstop:=all2_stop (f:=sameT) kids kids' j u v hu hv
     have hnext:=all2_next (f:=sameT) kids kids' j u v hu hv (unhide HO)
     clear hkids hkids' hT hT' hu hv
     generalize sameT u v=d at *
     have HN:=hide hnext
     have HS:=hide hstop
     clear hnext hstop
     cases d with
     | true=>
      go_wp2_with fail
      go_region_held3 (fun w'=>w'.cell? ⟨w.heap.size,3,none⟩=some (.slice (some ⟨b,off,none⟩) len cap)∧w'.cell? ⟨w.heap.size+1,3,none⟩=some (.slice (some ⟨b',off',none⟩) len' cap')
       ∧w'.cell? ⟨b,off+j*4,none⟩=some (.int .i64 u.tv.k)∧w'.cell? ⟨b,off+j*4+1,none⟩=some (.int .i64 u.tv.N)∧w'.cell? ⟨b,off+j*4+2,none⟩=some (.string u.tv.s)∧w'.cell? ⟨b,off+j*4+3,none⟩=some (.slice u.tv.a u.tv.len u.tv.cap)
       ∧w'.cell? ⟨b',off'+j*4,none⟩=some (.int .i64 v.tv.k)∧w'.cell? ⟨b',off'+j*4+1,none⟩=some (.int .i64 v.tv.N)∧w'.cell? ⟨b',off'+j*4+2,none⟩=some (.string v.tv.s)∧w'.cell? ⟨b',off'+j*4+3,none⟩=some (.slice v.tv.a v.tv.len v.tv.cap)) (go_keep)
       (first | (go_at_call 15;refine ihu.mono ?_;clear ihu;rintro e W2 ⟨rfl,hb2⟩;have hbc:=bcell hb2))
      go_wp2_with fail
      go_roundw
      case rel=>exact⟨j+1,by omega,by go_num,(unhide HN) (by simp),hb.trans (hb2.mono hb.size)⟩
      case measure=>simp[intOf];omega
     | false=>
      go_wp2_with fail
      go_region_held3 (fun w'=>w'.cell? ⟨w.heap.size,3,none⟩=some (.slice (some ⟨b,off,none⟩) len cap)∧w'.cell? ⟨w.heap.size+1,3,none⟩=some (.slice (some ⟨b',off',none⟩) len' cap')
       ∧w'.cell? ⟨b,off+j*4,none⟩=some (.int .i64 u.tv.k)∧w'.cell? ⟨b,off+j*4+1,none⟩=some (.int .i64 u.tv.N)∧w'.cell? ⟨b,off+j*4+2,none⟩=some (.string u.tv.s)∧w'.cell? ⟨b,off+j*4+3,none⟩=some (.slice u.tv.a u.tv.len u.tv.cap)
       ∧w'.cell? ⟨b',off'+j*4,none⟩=some (.int .i64 v.tv.k)∧w'.cell? ⟨b',off'+j*4+1,none⟩=some (.int .i64 v.tv.N)∧w'.cell? ⟨b',off'+j*4+2,none⟩=some (.string v.tv.s)∧w'.cell? ⟨b',off'+j*4+3,none⟩=some (.slice v.tv.a v.tv.len v.tv.cap)) (go_keep)
       (first | (go_at_call 15;refine ihu.mono ?_;clear ihu;rintro e W2 ⟨rfl,hb2⟩;have hbc:=bcell hb2))
      go_wp2_with fail
      go_ret
      exact⟨ret_bool ((unhide HS) (by simp)).symm,hbw.trans (hb2.mono hbw.size)⟩
    ·have ht:kids.take j=kids:=List.take_of_length_le (by omega)
     have ht':kids'.take j=kids':=List.take_of_length_le (by omega)
     have HT:=hide ht
     have HT':=hide ht'
     clear ht ht' hkids hkids'
     go_wp2_with fail
     go_ret
     exact⟨ret_bool (by have h:=unhide HO;rw[unhide HT,unhide HT'] at h;rw[h]),hbw⟩
set_option maxHeartbeats 1000000
set_option maxRecDepth 100000
/-- What checkAll answers. -/
def chkL{n:Nat}(ts:List (Tm n)):Int:=if ts.all okT then 0 else 2
theorem chkL_yes{n:Nat}{ts:List (Tm n)}(h:ts.all okT=true):chkL ts=0:=if_pos h
theorem chkL_no{n:Nat}{ts:List (Tm n)}(h:ts.all okT=false):chkL ts=2:=if_neg (by simp[h])
theorem chk_zero{n:Nat}{t:Tm n}:chk t=0↔okT t=true:=by
 unfold chk;split <;> simp_all
theorem all_no{n:Nat}{ts:List (Tm n)}{j:Nat}{u:Tm n}(h:ts[j]?=some u)(hu:okT u=false):ts.all okT=false:=by
 rw[List.all_eq_false]
 exact⟨u,List.mem_of_getElem? h,by simp[hu]⟩
theorem checkAll_any{n:Nat}(ts:List (Tm n))(a:Option Addr)(len cap:Nat)(w:World)(hlen:len=ts.length)(hmax:len≤9223372036854775807)
  (hts:ts=[]∨∃b off,a=some ⟨b,off,none⟩∧b<w.heap.size∧∀j u,ts[j]?=some u→cellsAt w b (off+j*4) u.tv∧IsT w.heap.size w u):
  Calls Tryz.prog 91 #[.slice a len cap] w fun e W'=>e=.returned (.int .i64 (chkL ts))∧Below w.heap.size w W':=by
 have hl1:len≤ts.length:=by omega
 have hl2:ts.length≤len:=by omega
 clear hlen
 go_enter Tryz.func91,Tryz.ntmps91
 go_wp2_with fail
 go_loopw [8] (fun i wr=> ∃j:Nat,j≤len∧i=.int .i64 j∧(ts.take j).all okT=true∧Below w.heap.size w wr) (fun i _=>len-(intOf i).toNat)
 case atStart=>exact⟨0,Nat.zero_le _,rfl,by simp,Below.refl _ _⟩
 case round=>
  obtain⟨j,hj,rfl,ho,hb⟩:=hrel
  have HO:=hide ho
  clear ho
  by_cases hlt:j<len
  ·obtain⟨u,b,off,hu,rfl,⟨c0,c1,c2,c3⟩,hT,hbk⟩:=kid_at hts hb hlt hl1
   have hc:Calls Tryz.prog 38 #[.agg #[.int .i64 u.tv.k,.int .i64 u.tv.N,.string u.tv.s,.slice u.tv.a u.tv.len u.tv.cap]] (wr.alloc (.cells #[.int .i64 u.tv.k,.int .i64 u.tv.N,.string u.tv.s,.slice u.tv.a u.tv.len u.tv.cap] 34)) fun e W2=>e=.returned (.int .i64 (chk u))∧Below wr.heap.size wr W2:=
    (check_any u _ ((hT.below ((Below.refl _ wr).alloc (Nat.le_refl _) _)).mono (by simp))).mono fun e W2 h=>⟨h.1,((Below.refl _ wr).alloc (Nat.le_refl _) _).trans (h.2.mono (by simp))⟩
   have hstop:=all_no hu
   have hnext:=take_all ts j u hu
   rw[unhide HO,Bool.true_and] at hnext
   have hcz:= @chk_zero _ u
   have hcn:= @chk_no _ u
   clear hT hts hu
   generalize chk u=d at *
   generalize okT u=o at *
   have HN:=hide hnext
   have HS:=hide hstop
   clear hnext hstop
   cases o with
   | true=>
    have hd:d=0:=hcz.2 rfl
    have hd':(d != 0)=false:=by simp[hd]
    clear hd hcz hcn
    go_wp2_with (go_at_call 38;refine hc.mono ?_;clear hc;rintro e W2 ⟨rfl,hb2⟩)
    go_roundw
    case rel=>exact⟨j+1,by omega,by go_num,unhide HN,hb.trans (hb2.mono hb.size)⟩
    case measure=>simp[intOf];omega
   | false=>
    have hd:d=2:=hcn rfl
    clear hcz hcn
    subst hd
    go_wp2_with (go_at_call 38;refine hc.mono ?_;clear hc;rintro e W2 ⟨rfl,hb2⟩)
    go_ret
    exact⟨ret_int (chkL_no ((unhide HS) (by simp))).symm,hb.trans (hb2.mono hb.size)⟩
  ·have ht:ts.take j=ts:=List.take_of_length_le (by omega)
   have HT:=hide ht
   clear ht hts
   go_wp2_with fail
   go_ret
   exact⟨ret_int (by have h:=unhide HO;rw[unhide HT] at h;rw[chkL_yes h]),hb⟩
theorem pair_lies{n:Nat}{x y:Tm n}{w:World}(hx:IsT w.heap.size w x)(hy:IsT w.heap.size w y)(W:World)(hb:Below w.heap.size w W):
  let W':=W.alloc (.cells #[.int .i64 x.tv.k,.int .i64 x.tv.N,.string x.tv.s,.slice x.tv.a x.tv.len x.tv.cap,.int .i64 y.tv.k,.int .i64 y.tv.N,.string y.tv.s,.slice y.tv.a y.tv.len y.tv.cap] 34)
  ([x,y]:List (Tm n))=[]∨∃b off,some (⟨W.heap.size,0,none⟩:Addr)=some ⟨b,off,none⟩∧b<W'.heap.size∧∀j u,([x,y]:List (Tm n))[j]?=some u→cellsAt W' b (off+j*4) u.tv∧IsT W'.heap.size W' u:=by
 intro W'
 have hb':Below w.heap.size w W':=hb.alloc hb.size _
 have hsz:W'.heap.size=W.heap.size+1:=by simp[W']
 have hle:w.heap.size≤W'.heap.size:=hb'.size
 refine .inr ⟨W.heap.size,0,rfl,by omega,fun j u hu=>?_⟩
 match j,hu with
 | 0,hu=>
  simp at hu;subst hu
  exact⟨⟨by simp[W'],by simp[W'],by simp[W'],by simp[W']⟩,(hx.below hb').mono hle⟩
 | 1,hu=>
  simp at hu;subst hu
  exact⟨⟨by simp[W'],by simp[W'],by simp[W'],by simp[W']⟩,(hy.below hb').mono hle⟩
 | j+2,hu=>simp at hu
theorem boxes_kept{x y:TV}{w W2:World}{o:Obj}(hb:Below (((w.alloc (.cells #[.int .i64 x.k,.int .i64 x.N,.string x.s,.slice x.a x.len x.cap] 34)).alloc (.cells #[.int .i64 y.k,.int .i64 y.N,.string y.s,.slice y.a y.len y.cap] 34)).alloc o).heap.size (((w.alloc (.cells #[.int .i64 x.k,.int .i64 x.N,.string x.s,.slice x.a x.len x.cap] 34)).alloc (.cells #[.int .i64 y.k,.int .i64 y.N,.string y.s,.slice y.a y.len y.cap] 34)).alloc o) W2):
  Below w.heap.size w W2∧BoxT W2 w.heap.size x∧BoxT W2 (w.heap.size+1) y:=by
 have hs2:(((w.alloc (.cells #[.int .i64 x.k,.int .i64 x.N,.string x.s,.slice x.a x.len x.cap] 34)).alloc (.cells #[.int .i64 y.k,.int .i64 y.N,.string y.s,.slice y.a y.len y.cap] 34)).alloc o).heap.size=w.heap.size+3:=by simp
 rw[hs2] at hb
 have b1:=((BoxT.new w x).alloc (.cells #[.int .i64 y.k,.int .i64 y.N,.string y.s,.slice y.a y.len y.cap] 34)).alloc o
 have b2:=(BoxT.new (w.alloc (.cells #[.int .i64 x.k,.int .i64 x.N,.string x.s,.slice x.a x.len x.cap] 34)) y).alloc o
 rw[World.size_alloc] at b2
 exact⟨((((Below.refl _ w).alloc (Nat.le_refl _) _).alloc (by simp) _).alloc (by simp;omega) _).trans (hb.mono (by omega)),(hb.block _ (by omega)).trans b1,(hb.block _ (by omega)).trans b2⟩
theorem checkTwo{n:Nat}(x y:Tm n)(w:World)(hx:IsT w.heap.size w x)(hy:IsT w.heap.size w y):
  Calls Tryz.prog 91 #[.slice (some ⟨w.heap.size+1+1,0,none⟩) 2 2] (((w.alloc (.cells #[.int .i64 x.tv.k,.int .i64 x.tv.N,.string x.tv.s,.slice x.tv.a x.tv.len x.tv.cap] 34)).alloc (.cells #[.int .i64 y.tv.k,.int .i64 y.tv.N,.string y.tv.s,.slice y.tv.a y.tv.len y.tv.cap] 34)).alloc (.cells #[.int .i64 x.tv.k,.int .i64 x.tv.N,.string x.tv.s,.slice x.tv.a x.tv.len x.tv.cap,.int .i64 y.tv.k,.int .i64 y.tv.N,.string y.tv.s,.slice y.tv.a y.tv.len y.tv.cap] 34)) fun e W2=>e=.returned (.int .i64 (chkL [x,y]))∧Below w.heap.size w W2∧BoxT W2 w.heap.size x.tv∧BoxT W2 (w.heap.size+1) y.tv:=by
 have hp:=pair_lies hx hy ((w.alloc (.cells #[.int .i64 x.tv.k,.int .i64 x.tv.N,.string x.tv.s,.slice x.tv.a x.tv.len x.tv.cap] 34)).alloc (.cells #[.int .i64 y.tv.k,.int .i64 y.tv.N,.string y.tv.s,.slice y.tv.a y.tv.len y.tv.cap] 34)) (((Below.refl _ w).alloc (Nat.le_refl _) _).alloc (by simp) _)
 simp only[World.size_alloc] at hp
 have h:=checkAll_any [x,y] (some ⟨w.heap.size+1+1,0,none⟩) 2 2 (((w.alloc (.cells #[.int .i64 x.tv.k,.int .i64 x.tv.N,.string x.tv.s,.slice x.tv.a x.tv.len x.tv.cap] 34)).alloc (.cells #[.int .i64 y.tv.k,.int .i64 y.tv.N,.string y.tv.s,.slice y.tv.a y.tv.len y.tv.cap] 34)).alloc (.cells #[.int .i64 x.tv.k,.int .i64 x.tv.N,.string x.tv.s,.slice x.tv.a x.tv.len x.tv.cap,.int .i64 y.tv.k,.int .i64 y.tv.N,.string y.tv.s,.slice y.tv.a y.tv.len y.tv.cap] 34)) rfl (by omega) (by simpa only[World.size_alloc] using hp)
 exact h.mono fun e W2 h=>⟨h.1,boxes_kept h.2⟩
theorem compare_any{n:Nat}(x y:Tm n)(w:World)(hx:IsT w.heap.size w x)(hy:IsT w.heap.size w y)(ox:okT x=true)(oy:okT y=true):
  Calls Tryz.prog 69 #[x.tv.val,y.tv.val] w fun e W'=>e=.returned (.tuple #[.int .i64 (ordT x y),.int .i64 0])∧Below w.heap.size w W':=by
 have hc:=checkTwo x y w hx hy
 have h0:chkL [x,y]=0:=chkL_yes (by simp[ox,oy])
 rw[h0] at hc
 clear h0 ox oy
 have HX:=hide hx
 have HY:=hide hy
 clear hx hy
 simp only[TV.val]
 go_enter Tryz.func69,Tryz.ntmps69
 go_wp2_with (go_at_call 91;refine hc.mono ?_;clear hc;rintro e W2 ⟨rfl,hb2,bx,bby⟩;have c0:=bx.c0;have c1:=bx.c1;have c2:=bx.c2;have c3:=bx.c3;have d0:=bby.c0;have d1:=bby.c1;have d2:=bby.c2;have d3:=bby.c3)
 have ho:=order_any n x y W2 (((unhide HX).below hb2).mono hb2.size) (((unhide HY).below hb2).mono hb2.size)
 simp only[TV.val] at ho
 refine ho.mono ?_
 rintro e W3 ⟨rfl,hb3⟩
 go_wp2_with fail
 go_ret2
 exact⟨rfl,hb2.trans (hb3.mono hb2.size)⟩
end Go.Proofs.YteaiefjmcinljaaGreatDoor
