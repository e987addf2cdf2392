import Derived.Test.YteaiefjmcinljaaGreatDoorBfNs
import Derived.Test.YteaiefjmcinljaaGreatDoorBfQ
import Derived.Test.YteaiefjmcinljaaGreatDoorOs
import Derived.ProofKit
import Derived.OpenShut
import Derived.JoinedCond
import Derived.Deep.DeepHandedRow
import Derived.Lib.LaidTab
import Derived.Test.YteaiefjmcinljaaGreatDoorCards
import Derived.Test.YteaiefjmcinljaaGreatDoorTie
import Derived.Shelf.Vars
namespace Go.Proofs.YteaiefjmcinljaaGreatDoor
open Go.RowKit Go.Shelf Go.Maps
theorem based_any{n:Nat}{W0 W:World}{lo b rb vx:Nat}{M O:Nat→Prop}{laid:Int}{E:List En}{H:List (Hd n)}{V:List (Vw n)}{u:Value}(h:PlS W0 lo b rb vx M O laid E H V u W)(S:St n)(hS:StOk lo W0 S)(hbig:laid≤1048575)(hvl:V.length≤4194304)(m:Int)(hm:W0.cell? ⟨splitLay_ren.g 1,0,none⟩=some (.int .i64 m))(hm0:splitLay_ren.g 1<lo)(hn38:n≤274877906944):
  Calls Tryz.prog 5 #[.pointer (some ⟨b,0,none⟩),.pointer (some ⟨rb,0,none⟩),.pointer (some ⟨vx,0,none⟩),.agg S.cs] W fun e W'=>e=.returned (.bool true)∧PlJ n W0 lo b rb vx laid V.length W':=by
 obtain⟨kk,th,tb,first,N,tg⟩:=S
 have same:∀{W':World},PlS W0 lo b rb vx M O laid E H V u W'→PlJ n W0 lo b rb vx laid V.length W':=fun hp=>⟨M,O,laid,E,H,V,u,hp,by omega,by omega⟩
 by_cases h0:kk=0
 ·subst h0
  refine(based_0 h th tb first N tg hS hbig m hm hm0 hn38).mono ?_
  rintro e W' ⟨he,M',O',laid',E',H',hp,hl⟩
  exact⟨he,M',O',laid',E',H',V,u,hp,hl,by omega⟩
 by_cases h1:kk=1
 ·subst h1
  refine(based_1 h th tb first N tg hS hbig).mono ?_
  rintro e W' ⟨he,O',E',H',hp⟩
  exact⟨he,M,O',laid,E',H',V,u,hp,by omega,by omega⟩
 by_cases h2:kk=2
 ·subst h2
  exact(based_2 h th tb first N tg hS hbig hn38).mono fun e W' hp=>⟨hp.1,same hp.2⟩
 by_cases h3:kk=3
 ·subst h3
  exact(based_3 h th tb first N tg hS hbig).mono fun e W' hp=>⟨hp.1,same hp.2⟩
 by_cases h4:kk=4
 ·subst h4
  exact based_4 h th tb first N tg hS hbig hvl
 by_cases h5:kk=5
 ·subst h5
  exact based_5 h th tb first N tg hS hbig hvl
 by_cases h6:kk=6
 ·subst h6
  by_cases hno:N<0∨(V.length:Int)≤N
  ·exact(based_6_out h th tb first N tg hS hbig hvl hno).mono fun e W' hp=>⟨hp.1,same hp.2⟩
  ·obtain⟨j,rfl⟩:=Int.eq_ofNat_of_zero_le (show 0≤N by omega)
   have hj:V[j]?=some (V[j]'(by omega)):=List.getElem?_eq_getElem (by omega)
   cases hL:(V[j]'(by omega)).L with
   | nil=>exact(based_6_none h th tb first j tg hj hL).mono fun e W' hp=>⟨hp.1,same hp.2⟩
   | cons d L'=>
    refine(based_6_some h th tb first j tg hn38 hj hL).mono ?_
    rintro e W' ⟨he,V',hV,hp⟩
    exact⟨he,M,O,laid,E,H,V',u,hp,by omega,by omega⟩
 exact based_no h kk th tb first N tg fun j hj e=>by omega
theorem based_pl{n:Nat}{W0 W:World}{lo b rb vx j:Nat}(h:Pl n W0 lo b rb vx j W)(S:St n)(hS:StOk lo W0 S)(hj:j≤1048575)(m:Int)(hm:W0.cell? ⟨splitLay_ren.g 1,0,none⟩=some (.int .i64 m))(hm0:splitLay_ren.g 1<lo)(hn38:n≤274877906944):
  Calls Tryz.prog 5 #[.pointer (some ⟨b,0,none⟩),.pointer (some ⟨rb,0,none⟩),.pointer (some ⟨vx,0,none⟩),.agg S.cs] W fun e W'=>e=.returned (.bool true)∧Pl n W0 lo b rb vx (j+1) W':=by
 obtain⟨M,O,laid,E,H,V,u,hp,h1,h2⟩:=h
 refine(based_any hp S hS (by omega) (by omega) m hm hm0 hn38).mono ?_
 rintro e W' ⟨he,M',O',laid',E',H',V',u',hp',h1',h2'⟩
 exact⟨he,M',O',laid',E',H',V',u',hp',by omega,by omega⟩
section
variable {n:Nat} {W0 W:World} {lo b rb vx:Nat} {M O:Nat→Prop} {laid:Int} {E:List En} {H:List (Hd n)} {V:List (Vw n)} {u:Value}
theorem all_pl(h:PlS W0 lo b rb vx M O laid E H V u W)(hbig:laid≤1048576):Calls Tryz.prog 7 #[.pointer (some ⟨b,0,none⟩)] W fun e W'=> ∃v,e=.returned v∧OwnI W.heap.size W' v (allI H)∧Below W.heap.size W W':=by
 obtain⟨me,mf,ce,cf,ge,gf,F,hB,hO,hF⟩:=h.bs
 rw[←h.both.all]
 exact all_any hB hbig
theorem rall_pl(h:PlS W0 lo b rb vx M O laid E H V u W)(hbig:laid≤1048576):Calls Tryz.prog 8 #[.pointer (some ⟨rb,0,none⟩)] W fun e W'=> ∃v,e=.returned v∧OwnI W.heap.size W' v (allI H)∧Below W.heap.size W W':=by
 obtain⟨a,cap,h1,h2,-,-⟩:=h.rbs.ex
 exact rall_any rb a H.length cap H W h1 h2 (by have:=h.both.len;omega)
end
theorem pl_new{n:Nat}{W0:World}{lo:Nat}(hlo:lo≤W0.heap.size):
  Calls Tryz.prog 4 #[] W0 fun e W'=> ∃b,e=.returned (.pointer (some ⟨b,0,none⟩))∧Pl n W0 lo b W'.heap.size (W'.heap.size+1) 0 ((W'.alloc (.cells #[.slice none 0 0] 27)).alloc (.cells #[.slice none 0 0] 28)):=by
 refine(new_bok (M:=fun _=>False) (fun k h=>h.elim)).mono ?_
 rintro e W' ⟨b,me,mf,he,h1,h2,h3,hb,hM,hB⟩
 refine⟨b,he,?_⟩
 have hb1:Below W'.heap.size W' (W'.alloc (.cells #[.slice none 0 0] 27)):=(Below.refl _ _).alloc (Nat.le_refl _) _
 have hs1:(W'.alloc (.cells #[.slice none 0 0] 27)).heap.size=W'.heap.size+1:=by simp
 have hx1:Boxed (W'.alloc (.cells #[.slice none 0 0] 27)) W'.heap.size 27 (.slice none 0 0):=World.alloc_heap_new W' _
 obtain⟨W1,hW1⟩:∃W1,W'.alloc (.cells #[.slice none 0 0] 27)=W1:=⟨_,rfl⟩
 rw[hW1] at hb1 hs1 hx1⊢
 have hb2:Below W1.heap.size W1 (W1.alloc (.cells #[.slice none 0 0] 28)):=(Below.refl _ _).alloc (Nat.le_refl _) _
 have hs2:(W1.alloc (.cells #[.slice none 0 0] 28)).heap.size=W1.heap.size+1:=by simp
 have hx2:Boxed (W1.alloc (.cells #[.slice none 0 0] 28)) W1.heap.size 28 (.slice none 0 0):=World.alloc_heap_new W1 _
 obtain⟨W2,hW2⟩:∃W2,W1.alloc (.cells #[.slice none 0 0] 28)=W2:=⟨_,rfl⟩
 rw[hW2] at hb2 hs2 hx2⊢
 rw[hs1] at hx2
 have hx1':Boxed W2 W'.heap.size 27 (.slice none 0 0):=(hb2.block _ (by omega)).trans hx1
 have hbb:Below W'.heap.size W' W2:=hb1.trans (hb2.mono (by omega))
 have g:=GrB.of_below (X:=fun _=>False) hbb
 have hM2:=hM.grow g (fun _ e=>e.elim)
 have hown:∀k,Own b me mf (fun _=>none) k→False∨k=b∨k=me∨k=mf:=fun k hk=>by
  rcases hk with rfl | rfl | rfl | ⟨p,f,hf,_⟩
  ·exact .inr (.inl rfl)
  ·exact .inr (.inr (.inl rfl))
  ·exact .inr (.inr (.inr rfl))
  ·cases hf
 refine⟨fun k=>(False∨k=b∨k=me∨k=mf)∨k=W'.heap.size∨k=W'.heap.size+1,Own b me mf (fun _=>none),0,[],[],[],.slice none 0 0,⟨hb.mono hlo |>.trans (hbb.mono (Nat.le_trans hlo hb.size)),fun k hk=>?_,hlo,fun k hk=>?_,⟨me,mf,0,0,_,_,fun _=>none,hB.step2 hM g (fun _ e=>e.elim) (fun k hk=>.inl (hown k hk)) (fun k hk=>hk.imp id (fun e=>by omega)),fun _=>Iff.rfl,fun p=>⟨fun⟨f,hf⟩=>(by cases hf),fun⟨d,hd,_⟩=>(by cases hd)⟩⟩,⟨none,0,hx1',⟨rfl,.inl rfl⟩,fun _=>⟨rfl,rfl⟩,fun b off e=>(by cases e)⟩,Both.nil n,fun d hd=>(by cases hd),hx2,World.ownsRow_nil _ _ _ _,fun v hv=>(by cases hv),List.Pairwise.nil,fun k hk=>?_,by omega,fun g hg=>(by cases hg),fun v hv=>(by cases hv)⟩,by omega,by simp⟩
 ·have:=hb.size
  rcases hk with(hk | hk | hk | hk) | hk | hk
  ·exact hk.elim
  all_goals omega
 ·rcases hk with hk | hk | hk
  ·exact hM2 k hk
  ·rw[hk];exact⟨hx1'.lt,box_nofix hx1' (by unfold FixK;decide)⟩
  ·rw[hk];exact⟨hx2.lt,box_nofix hx2 (by unfold FixK;decide)⟩
 ·rcases hk with hk | hk | hk | ⟨v,hv,_⟩
  ·exact⟨.inr (.inl hk),fun e=>by have:=(hM k (hown k e)).1;omega⟩
  ·exact⟨.inr (.inr hk),fun e=>by have:=(hM k (hown k e)).1;omega⟩
  ·cases hk
  ·cases hv
set_option maxHeartbeats 4000000
set_option maxRecDepth 100000
/-- The law's steps, where they lie. -/
def Steps{n:Nat}(lo:Nat)(W0:World)(a:Option Addr)(l:List (St n)):Prop:=
 l=[]∨∃sb off,a=some ⟨sb,off,none⟩∧sb<lo∧∀(j:Nat) (S:St n),l[j]?=some S→(∀o,o<15→W0.cell? ⟨sb,off+j*15+o,none⟩=S.cs[o]?)∧StOk lo W0 S
theorem Pl.low{n:Nat}{W0 W:World}{lo b rb vx j:Nat}(h:Pl n W0 lo b rb vx j W):Below lo W0 W:=by
 obtain⟨M,O,laid,E,H,V,u,hp,-⟩:=h
 exact hp.low
theorem Pl.below{n:Nat}{W0 W W':World}{lo b rb vx j:Nat}(h:Pl n W0 lo b rb vx j W)(hb:Below W.heap.size W W'):Pl n W0 lo b rb vx j W':=by
 obtain⟨M,O,laid,E,H,V,u,hp,h1⟩:=h
 exact⟨M,O,laid,E,H,V,u,hp.below hb,h1⟩
theorem all_two{n:Nat}{W0 W:World}{lo b rb vx j:Nat}(h:Pl n W0 lo b rb vx j W)(hj:j≤1048576):
  Calls Tryz.prog 7 #[.pointer (some ⟨b,0,none⟩)] W fun e W'=> ∃(a:Option Addr) (k cap:Nat),e=.returned (.slice a k cap)∧Below W.heap.size W W'∧
   Calls Tryz.prog 8 #[.pointer (some ⟨rb,0,none⟩)] W' fun e W''=> ∃(a':Option Addr) (k' cap':Nat),e=.returned (.slice a' k' cap')∧Below W.heap.size W W''∧
    Calls Tryz.prog 6 #[.slice a k cap,.slice a' k' cap'] W'' fun e W3=>e=.returned (.bool true)∧Below W.heap.size W W3:=by
 obtain⟨M,O,laid,E,H,V,u,hp,h1,h2⟩:=h
 have hl:=hp.both.len
 have hi:=allI_len H
 refine(all_pl hp (by omega)).mono ?_
 rintro e W1 ⟨v,rfl,o1,b1⟩
 obtain⟨a,cap,rfl,n1⟩:=o1.isN (by omega)
 refine⟨a,_,cap,rfl,b1,?_⟩
 refine(rall_pl (hp.below b1) (by omega)).mono ?_
 rintro e W2 ⟨v',rfl,o2,b2⟩
 obtain⟨a',cap',rfl,n2⟩:=o2.isN (by omega)
 have b12:=b1.trans (b2.mono b1.size)
 refine⟨a',_,cap',rfl,b12,?_⟩
 refine(numbers_any _ _ a a' _ cap _ cap' W2 (n1.below b2) n2).mono ?_
 rintro e W3 ⟨he,b3⟩
 exact⟨by rw[he];simp,b12.trans (b3.mono b12.size)⟩
theorem plays_any{n:Nat}(l:List (St n))(a:Option Addr)(ll cap:Nat)(W0:World)(lo:Nat)(hlo:lo≤W0.heap.size)(hst:Steps lo W0 a l)(hll:ll=l.length)(hlen:ll≤1048576)(m:Int)(hm:W0.cell? ⟨splitLay_ren.g 1,0,none⟩=some (.int .i64 m))(hm0:splitLay_ren.g 1<lo)(hn38:n≤274877906944):
  Calls Tryz.prog 3 #[.slice a ll cap] W0 fun e W'=>e=.returned (.bool true)∧Below lo W0 W':=by
 have h1:=pl_new (n:=n) hlo
 have hstep:∀(j:Nat),j<ll→∃(S:St n) (sb off:Nat),a=some ⟨sb,off,none⟩∧sb<lo∧(∀o,o<15→W0.cell? ⟨sb,off+j*15+o,none⟩=S.cs[o]?)∧∀(b rb vx:Nat) (W:World),Pl n W0 lo b rb vx j W→Calls Tryz.prog 5 #[.pointer (some ⟨b,0,none⟩),.pointer (some ⟨rb,0,none⟩),.pointer (some ⟨vx,0,none⟩),.agg S.cs] W fun e W'=>e=.returned (.bool true)∧Pl n W0 lo b rb vx (j+1) W':=fun j hj=>by
  rcases hst with h0 | ⟨sb,off,ha,hsb,hk⟩
  ·rw[h0] at hll;simp at hll;omega
  ·obtain⟨k1,k2⟩:=hk j (l[j]'(by omega)) (List.getElem?_eq_getElem (by omega))
   exact⟨l[j]'(by omega),sb,off,ha,hsb,k1,fun b rb vx W hp=>based_pl hp _ k2 (by omega) m hm hm0 hn38⟩
 have HST:=hide hstep
 have HLO:=hide hlo
 clear hstep hst hll hm hm0 hn38 hlo
 go_enter Tryz.func3,Tryz.ntmps3
 go_wp2_with fail
 refine h1.mono ?_
 clear h1
 rintro e V1 ⟨b,rfl,hp⟩
 obtain⟨V2,hV2⟩:∃V2,(V1.alloc (.cells #[.slice none 0 0] 27)).alloc (.cells #[.slice none 0 0] 28)=V2:=⟨_,rfl⟩
 rw[hV2] at hp
 have HP:=hide hp
 have HV2:=hide hV2
 clear hp hV2
 go_wp2_with fail
 rw[unhide HV2]
 go_loopw [6] (fun i wr=> ∃(j:Nat),j≤ll∧i=.int .i64 j∧Pl n W0 lo b V1.heap.size (V1.heap.size+1) j wr) (fun i _=>ll-(intOf i).toNat)
 case atStart=>exact⟨0,Nat.zero_le _,rfl,unhide HP⟩
 case round=>
  clear HP HV2
  obtain⟨j,hj,rfl,hp⟩:=hrel
  by_cases hlt:j<ll
  ·obtain⟨S,sb,off,rfl,hsb,hc,hbd⟩:=(unhide HST) j hlt
   have hbd:=hbd b V1.heap.size (V1.heap.size+1) wr hp
   have hcell:∀o,o<15→wr.cell? ⟨sb,off+j*15+o,none⟩=S.cs[o]?:=fun o ho=>(hp.low.cell (p:=⟨sb,off+j*15+o,none⟩) hsb).trans (hc o ho)
   have c0:wr.cell? ⟨sb,off+j*15,none⟩=some (.int .i64 S.k):=hcell 0 (by omega)
   have c1:wr.cell? ⟨sb,off+j*15+1,none⟩=some (.int .i64 S.th.tv.k):=hcell 1 (by omega)
   have c2:wr.cell? ⟨sb,off+j*15+2,none⟩=some (.int .i64 S.th.tv.N):=hcell 2 (by omega)
   have c3:wr.cell? ⟨sb,off+j*15+3,none⟩=some (.string S.th.tv.s):=hcell 3 (by omega)
   have c4:wr.cell? ⟨sb,off+j*15+4,none⟩=some (.slice S.th.tv.a S.th.tv.len S.th.tv.cap):=hcell 4 (by omega)
   have c5:wr.cell? ⟨sb,off+j*15+5,none⟩=some (.int .i64 S.tb.tv.k):=hcell 5 (by omega)
   have c6:wr.cell? ⟨sb,off+j*15+6,none⟩=some (.int .i64 S.tb.tv.N):=hcell 6 (by omega)
   have c7:wr.cell? ⟨sb,off+j*15+7,none⟩=some (.string S.tb.tv.s):=hcell 7 (by omega)
   have c8:wr.cell? ⟨sb,off+j*15+8,none⟩=some (.slice S.tb.tv.a S.tb.tv.len S.tb.tv.cap):=hcell 8 (by omega)
   have c9:wr.cell? ⟨sb,off+j*15+9,none⟩=some (.bool S.first):=hcell 9 (by omega)
   have c10:wr.cell? ⟨sb,off+j*15+10,none⟩=some (.int .i64 S.N):=hcell 10 (by omega)
   have c11:wr.cell? ⟨sb,off+j*15+11,none⟩=some (.int .i64 S.tg.tv.k):=hcell 11 (by omega)
   have c12:wr.cell? ⟨sb,off+j*15+12,none⟩=some (.int .i64 S.tg.tv.N):=hcell 12 (by omega)
   have c13:wr.cell? ⟨sb,off+j*15+13,none⟩=some (.string S.tg.tv.s):=hcell 13 (by omega)
   have c14:wr.cell? ⟨sb,off+j*15+14,none⟩=some (.slice S.tg.tv.a S.tg.tv.len S.tg.tv.cap):=hcell 14 (by omega)
   have hj1:(j:Int)<ll:=by omega
   simp only[St.cs] at hbd
   clear hp hcell hc hsb HST
   go_wp2_with fail
   refine hbd.mono ?_
   clear hbd c0 c1 c2 c3 c4 c5 c6 c7 c8 c9 c10 c11 c12 c13 c14
   rintro e V3 ⟨rfl,hp3⟩
   have hA:=all_two hp3 (by omega)
   have HP3:=hide hp3
   clear hp3
   go_wp2_with fail
   refine hA.mono ?_
   clear hA
   rintro e V4 ⟨a4,k4,cap4,rfl,-,hB⟩
   go_wp2_with fail
   refine hB.mono ?_
   clear hB
   rintro e V5 ⟨a5,k5,cap5,rfl,-,hC⟩
   go_wp2_with fail
   refine hC.mono ?_
   clear hC
   rintro e V6 ⟨rfl,b6⟩
   have HP6:=hide ((unhide HP3).below b6)
   clear b6 HP3
   go_wp2_with fail
   go_roundw
   case rel=>exact⟨j+1,by omega,by go_num,unhide HP6⟩
   case measure=>simp[intOf];omega
  ·obtain rfl:j=ll:=by omega
   have hj1:¬(j:Int)<j:=by omega
   have HB:=hide hp.low
   clear hp
   go_wp2_with fail
   go_ret
   exact⟨rfl,unhide HB⟩
set_option maxRecDepth 100000
open Go.ChangeShapes Go.WideShapes Go.ChangeAt
theorem Tryz.cells8:Tryz.prog.cellsOf 36=8:=by kernel_rfl
theorem Tryz.cells15:Tryz.prog.cellsOf 38=15:=by kernel_rfl
theorem Tryz.cellsI:Tryz.prog.cellsOf 3=1:=by kernel_rfl
theorem Tryz.cellsB:Tryz.prog.cellsOf 4=1:=by kernel_rfl
theorem list8{α:Type}{l:List α}(h:l.length=8):∃a b c d e f g i,l=[a,b,c,d,e,f,g,i]:=by
 match l,h with
 | [a,b,c,d,e,f,g,i],_=>exact⟨a,b,c,d,e,f,g,i,rfl⟩
theorem list5{α:Type}{l:List α}(h:l.length=5):∃a b c d e,l=[a,b,c,d,e]:=by
 match l,h with
 | [a,b,c,d,e],_=>exact⟨a,b,c,d,e,rfl⟩
theorem list15{α:Type}{l:List α}(h:l.length=15):∃v0 v1 v2 v3 v4 v5 v6 v7 v8 v9 v10 v11 v12 v13 v14,l=[v0,v1,v2,v3,v4,v5,v6,v7,v8,v9,v10,v11,v12,v13,v14]:=by
 match l,h with
 | [v0,v1,v2,v3,v4,v5,v6,v7,v8,v9,v10,v11,v12,v13,v14],_=>exact⟨v0,v1,v2,v3,v4,v5,v6,v7,v8,v9,v10,v11,v12,v13,v14,rfl⟩
theorem wf_num{n:Int}(h:(Lit.int .i64 n).wf=true): -9223372036854775808≤n∧n≤9223372036854775807:=by
 simp only[Lit.wf,Bool.and_eq_true,decide_eq_true_eq] at h
 exact h
theorem num_of{n:Nat}{t:Tm n}(h:∀x∈parts t,Nw x):numC (code t):=fun y hy=>by
 obtain⟨x,hx,rfl⟩:=List.mem_map.1 hy
 exact h x hx
theorem cellsN15{w:World}{base:Nat}{a:Addr}{v0 v1 v2 v3 v4 v5 v6 v7 v8 v9 v10 v11 v12 v13 v14:Value}(h:w.cells? base a 15=some [v0,v1,v2,v3,v4,v5,v6,v7,v8,v9,v10,v11,v12,v13,v14]):a.spot=none∧∀o,o<15→w.cell? ⟨a.block,a.off+o,none⟩=([v0,v1,v2,v3,v4,v5,v6,v7,v8,v9,v10,v11,v12,v13,v14]:List Value)[o]?:=by
 unfold World.cells? at h
 split at h
 ·obtain⟨b,off,spot⟩:=a
  simp[List.range_succ,List.mapM_cons,Addr.add,Option.bind_eq_some_iff] at h
  obtain⟨h0,h1,h2,h3,h4,h5,h6,h7,h8,h9,h10,h11,h12,h13,h14⟩:=h
  have hs:spot=none:=World.cell?_spot h0
  subst hs
  refine⟨rfl,fun o ho=>?_⟩
  match o,ho with
  | 0,_=>exact h0
  | 1,_=>exact h1
  | 2,_=>exact h2
  | 3,_=>exact h3
  | 4,_=>exact h4
  | 5,_=>exact h5
  | 6,_=>exact h6
  | 7,_=>exact h7
  | 8,_=>exact h8
  | 9,_=>exact h9
  | 10,_=>exact h10
  | 11,_=>exact h11
  | 12,_=>exact h12
  | 13,_=>exact h13
  | 14,_=>exact h14
  | o+15,ho=>omega
 ·cases h
section
variable {H:Type} {enc:TypeId×Value→H} {w:World} {spare:Nat→Bool} {held:Bool} {fuel:Nat} {cs:List Value} {y:DataW H×List MemPlace}
theorem open_cl(h:DataW.trod enc Tryz.prog w 0 spare held fuel 36 cs=some y)(m:Nat)(hm:Rows.uptoBulk y.1≤m)(hlim:m≤2199023255552):
  ∃th tb:Tm m,cs=[.int .i64 th.tv.k,.int .i64 th.tv.N,.string th.tv.s,.slice th.tv.a th.tv.len th.tv.cap,.int .i64 tb.tv.k,.int .i64 tb.tv.N,.string tb.tv.s,.slice tb.tv.a tb.tv.len tb.tv.cap]∧IsT w.heap.size w th∧IsT w.heap.size w tb∧(code th).length+(code tb).length≤Rows.uptoBulk y.1∧(∀x∈parts th,Nw x):=by
 obtain⟨d,p⟩:=y
 obtain⟨xs,n,rfl,hd,hl,hxl,hfs⟩:=DataW.trod_struct Tryz.underlying36 h
 rw[Tryz.cells8] at hl
 have hx2:xs.length=2:=hxl
 clear hxl
 obtain⟨v0,v1,v2,v3,v4,v5,v6,v7,rfl⟩:=list8 hl
 have f0:DataW.trod enc Tryz.prog w 0 spare held n 34 (List.take (Tryz.prog.cellsOf 34) (List.drop 0 [v0,v1,v2,v3,v4,v5,v6,v7]))=xs[0]?:=hfs 0 _ rfl
 have f1:DataW.trod enc Tryz.prog w 0 spare held n 34 (List.take (Tryz.prog.cellsOf 34) (List.drop 4 [v0,v1,v2,v3,v4,v5,v6,v7]))=xs[1]?:=hfs 1 _ rfl
 rw[Tryz.cells28] at f0 f1
 simp only[List.drop_zero,List.drop_succ_cons,List.take_succ_cons,List.take_zero] at f0 f1
 clear hfs
 obtain⟨x0,x1,rfl⟩:∃x0 x1,xs=[x0,x1]:=by
  match xs,hx2 with
  | [x0,x1],_=>exact⟨x0,x1,rfl⟩
 simp only[List.getElem?_cons_zero,List.getElem?_cons_succ] at f0 f1
 have hd1:d=.agg ([x0,x1].map (·.1)):=(Prod.ext_iff.1 hd).1
 have hm':Rows.uptoBulk d≤m:=hm
 have hbk:Rows.uptoBulk x0.1+Rows.uptoBulk x1.1≤Rows.uptoBulk d:=by
  rw[hd1]
  simp only[Rows.uptoBulk,List.map_cons,List.map_nil,Rows.uptoBulkAll]
  omega
 obtain⟨th0,g0,hU0,l0,w0⟩:=open_nums n n (Nat.le_refl _) n (Nat.le_refl _) _ _ f0
 obtain⟨tb0,g1,hU1,l1,-⟩:=open_nums n n (Nat.le_refl _) n (Nat.le_refl _) _ _ f1
 have p0:(parts th0).length≤Rows.uptoBulk x0.1:=by simpa[code] using l0
 have p1:(parts tb0).length≤Rows.uptoBulk x1.1:=by simpa[code] using l1
 obtain⟨th,e0,hT0,q0⟩:=lower n th0 hU0 m (by omega) hlim
 obtain⟨tb,e1,hT1,q1⟩:=lower n tb0 hU1 m (by omega) hlim
 rw[←e0] at g0
 rw[←e1] at g1
 have l0':(code th).length≤Rows.uptoBulk x0.1:=by simpa[code,q0] using p0
 have l1':(code tb).length≤Rows.uptoBulk x1.1:=by simpa[code,q1] using p1
 simp only[List.cons.injEq,and_true] at g0 g1
 obtain⟨rfl,rfl,rfl,rfl⟩:=g0
 obtain⟨rfl,rfl,rfl,rfl⟩:=g1
 exact⟨th,tb,rfl,hT0,hT1,by show _≤Rows.uptoBulk d;omega,by rw[q0];exact w0⟩
theorem open_step(h:DataW.trod enc Tryz.prog w 0 spare held fuel 38 cs=some y)(m:Nat)(hm:Rows.uptoBulk y.1≤m+1)(hlim:m+1≤2199023255552)(hb:Rows.uptoBulk y.1≤1048576):
  ∃S:St m,cs=[.int .i64 S.k,.int .i64 S.th.tv.k,.int .i64 S.th.tv.N,.string S.th.tv.s,.slice S.th.tv.a S.th.tv.len S.th.tv.cap,.int .i64 S.tb.tv.k,.int .i64 S.tb.tv.N,.string S.tb.tv.s,.slice S.tb.tv.a S.tb.tv.len S.tb.tv.cap,.bool S.first,.int .i64 S.N,.int .i64 S.tg.tv.k,.int .i64 S.tg.tv.N,.string S.tg.tv.s,.slice S.tg.tv.a S.tg.tv.len S.tg.tv.cap]∧StOk w.heap.size w S:=by
 obtain⟨d,p⟩:=y
 obtain⟨xs,n,rfl,hd,hl,hxl,hfs⟩:=DataW.trod_struct Tryz.underlying38 h
 rw[Tryz.cells15] at hl
 have hx5:xs.length=5:=hxl
 clear hxl
 obtain⟨v0,v1,v2,v3,v4,v5,v6,v7,v8,v9,v10,v11,v12,v13,v14,rfl⟩:=list15 hl
 have f0:DataW.trod enc Tryz.prog w 0 spare held n 3 (List.take (Tryz.prog.cellsOf 3) (List.drop 0 [v0,v1,v2,v3,v4,v5,v6,v7,v8,v9,v10,v11,v12,v13,v14]))=xs[0]?:=hfs 0 _ rfl
 have f1:DataW.trod enc Tryz.prog w 0 spare held n 36 (List.take (Tryz.prog.cellsOf 36) (List.drop 1 [v0,v1,v2,v3,v4,v5,v6,v7,v8,v9,v10,v11,v12,v13,v14]))=xs[1]?:=hfs 1 _ rfl
 have f2:DataW.trod enc Tryz.prog w 0 spare held n 4 (List.take (Tryz.prog.cellsOf 4) (List.drop 9 [v0,v1,v2,v3,v4,v5,v6,v7,v8,v9,v10,v11,v12,v13,v14]))=xs[2]?:=hfs 2 _ rfl
 have f3:DataW.trod enc Tryz.prog w 0 spare held n 3 (List.take (Tryz.prog.cellsOf 3) (List.drop 10 [v0,v1,v2,v3,v4,v5,v6,v7,v8,v9,v10,v11,v12,v13,v14]))=xs[3]?:=hfs 3 _ rfl
 have f4:DataW.trod enc Tryz.prog w 0 spare held n 34 (List.take (Tryz.prog.cellsOf 34) (List.drop 11 [v0,v1,v2,v3,v4,v5,v6,v7,v8,v9,v10,v11,v12,v13,v14]))=xs[4]?:=hfs 4 _ rfl
 rw[Tryz.cellsI] at f0 f3
 rw[Tryz.cellsB] at f2
 rw[Tryz.cells8] at f1
 rw[Tryz.cells28] at f4
 simp only[List.drop_zero,List.drop_succ_cons,List.take_succ_cons,List.take_zero] at f0 f1 f2 f3 f4
 clear hfs
 obtain⟨x0,x1,x2,x3,x4,rfl⟩:=list5 hx5
 simp only[List.getElem?_cons_zero,List.getElem?_cons_succ] at f0 f1 f2 f3 f4
 have hd1:d=.agg ([x0,x1,x2,x3,x4].map (·.1)):=(Prod.ext_iff.1 hd).1
 have hm':Rows.uptoBulk d≤m+1:=hm
 have hb':Rows.uptoBulk d≤1048576:=hb
 have hbk:Rows.uptoBulk x1.1≤Rows.uptoBulk d∧Rows.uptoBulk x4.1≤Rows.uptoBulk d:=by
  rw[hd1]
  simp only[Rows.uptoBulk,List.map_cons,List.map_nil,Rows.uptoBulkAll]
  omega
 obtain⟨k,g0,-,-⟩:=DataW.trod_int Tryz.underlying3 f0
 obtain⟨th,tb,g1,hT0,hT1,hl1,hn1⟩:=open_cl f1 (m+1) (by omega) hlim
 obtain⟨bo,g2,-⟩:=DataW.trod_bool Tryz.underlying4 f2
 obtain⟨N,g3,-,hN⟩:=DataW.trod_int Tryz.underlying3 f3
 obtain⟨tg0,g4,hU,l4,w4⟩:=open_nums n n (Nat.le_refl _) n (Nat.le_refl _) _ _ f4
 have p4:(parts tg0).length≤Rows.uptoBulk x4.1:=by simpa[code] using l4
 obtain⟨tg,e4,hT4,q4⟩:=lower n tg0 hU (m+1) (by omega) hlim
 rw[←e4] at g4
 simp only[List.cons.injEq,and_true] at g0 g1 g2 g3 g4
 obtain⟨rfl,rfl,rfl,rfl,rfl,rfl,rfl,rfl⟩:=g1
 obtain⟨rfl,rfl,rfl,rfl⟩:=g4
 subst g0 g2 g3
 exact⟨⟨k,th,tb,bo,N,tg⟩,rfl,hT0,hT1,hT4,by show 2*_≤_;simp only;omega,num_of hn1,num_of (by rw[q4];exact w4),wf_num hN⟩
end
theorem open_steps{H:Type}{enc:TypeId×Value→H}{w:World}{r:Reach}{b0:Nat}{spare:Nat→Bool}{held:Bool}{v:Value}{d:DataW H}{p:List MemPlace}(hv:Value.okWide Tryz.prog w r b0 22 v)(h:DataW.Trod enc Tryz.prog w 0 spare held 22 v d p)(hbig:Rows.uptoBulk d≤1048576)(m:Nat)(hm:Rows.uptoBulk d≤m+1)(hlim:m+1≤2199023255552):
  ∃(a:Option Addr) (len cap:Nat) (l:List (St m)),v=.slice a len cap∧len=l.length∧len≤Rows.uptoBulk d∧Steps w.heap.size w a l:=by
 obtain⟨a,len,cap,rfl⟩:=okWide_slice Tryz.underlying22 hv
 obtain⟨fuel,hf⟩:=h
 have hf':DataW.trod enc Tryz.prog w 0 spare held fuel 22 [.slice a len cap]=some (d,p):=by simpa[Value.cells] using hf
 refine⟨a,len,cap,?_⟩
 rcases DataW.trod_slice Tryz.underlying22 hf' with⟨g3,hd3⟩ | ⟨a',len',cap',elems,rest,n',hn',g3,hd3,hb,hlc,hmx,hlen,hel,-,-⟩
 ·simp only[List.cons.injEq,and_true,Value.slice.injEq] at g3
  obtain⟨rfl,rfl,rfl⟩:=g3
  exact⟨[],rfl,rfl,Nat.zero_le _,.inl rfl⟩
 ·simp only[List.cons.injEq,and_true,Value.slice.injEq] at g3
  obtain⟨rfl,rfl,rfl⟩:=g3
  have hd3':d=DataW.slice (elems.map (·.1)) (rest.map (·.1)):=(Prod.ext_iff.1 hd3).1
  have hbl:∀x∈elems.map (·.1),Rows.uptoBulk x≤Rows.uptoBulk d:=fun x hx=>by
   have:=bulk_part hx
   rw[hd3']
   simp only[Rows.uptoBulk]
   omega
  have hll:len≤Rows.uptoBulk d:=by
   have:=bulk_len (elems.map (·.1))
   rw[List.length_map,hlen] at this
   rw[hd3']
   simp only[Rows.uptoBulk]
   omega
  by_cases hl0:len=0
  ·subst hl0
   exact⟨[],rfl,rfl,hll,.inl rfl⟩
  ·have hel':∀i,i<len→∃S:St m,w.cells? 0 (a'.add (i*15)) 15=some [.int .i64 S.k,.int .i64 S.th.tv.k,.int .i64 S.th.tv.N,.string S.th.tv.s,.slice S.th.tv.a S.th.tv.len S.th.tv.cap,.int .i64 S.tb.tv.k,.int .i64 S.tb.tv.N,.string S.tb.tv.s,.slice S.tb.tv.a S.tb.tv.len S.tb.tv.cap,.bool S.first,.int .i64 S.N,.int .i64 S.tg.tv.k,.int .i64 S.tg.tv.N,.string S.tg.tv.s,.slice S.tg.tv.a S.tg.tv.len S.tg.tv.cap]∧StOk w.heap.size w S:=by
    intro i hi
    have h1:=hel i hi
    rw[List.getElem?_eq_getElem (by omega)] at h1
    obtain⟨cs',h2,h3⟩:=Option.bind_eq_some_iff.1 h1
    have hc':=hbl _ (List.mem_map.2 ⟨_,List.getElem_mem (l:=elems) (n:=i) (by omega),rfl⟩)
    obtain⟨S,hu,hS⟩:=open_step h3 m (by omega) hlim (by omega)
    subst hu
    rw[Tryz.cells15] at h2
    exact⟨S,h2,hS⟩
   clear hel
   obtain⟨b,off,spot⟩:=a'
   have hspot:spot=none:=by
    obtain⟨S,h2,-⟩:=hel' 0 (by omega)
    obtain⟨s1,-⟩:=cellsN15 h2
    simpa[Addr.add] using s1
   subst hspot
   have hkid:∀i,i<len→∃S:St m,b<w.heap.size∧(∀o,o<15→w.cell? ⟨b,off+i*15+o,none⟩=S.cs[o]?)∧StOk w.heap.size w S:=by
    intro i hi
    obtain⟨S,h2,hS⟩:=hel' i hi
    rw[add_none] at h2
    obtain⟨-,k⟩:=cellsN15 h2
    have k0:=k 0 (by omega)
    exact⟨S,cell_lt (v:=.int .i64 S.k) k0,fun o ho=>(k o ho).trans (by unfold St.cs;simp),hS⟩
   obtain⟨kids,hkl,hks⟩:=list_of hkid
   obtain⟨_,hb0,_⟩:=hkid 0 (by omega)
   exact⟨kids,rfl,hkl.symm,hll,.inr ⟨b,off,rfl,hb0,fun j S hS=>(hks j S hS).2⟩⟩
/- Proved here: hornlaw.BasePlays returns true at any row of steps that can be read as data and is of bulk at most 1048576, and leaves it, and all else that lay, as it was; the tables of unicode/utf8 hold what the program's text lays. -/
set_option maxRecDepth 100000
open Go.Joins
theorem plays_own:ownKnob Tryz.prog.godebug=none:=by kernel_rfl
theorem plays_laidOut:laidOutB Tryz.prog=true:=by kernel_rfl
theorem plays_max{W:World}(h:W.ShapedOpen Tryz.prog):∃m,W.cell? ⟨splitLay_ren.g 1,0,none⟩=some (.int .i64 m):=
 cell_of_shapedOpen_int (zero:=#[.int .i64 0]) (t:=3) h (of_decide_eq_true (by kernel_rfl)) (by kernel_rfl) rfl (by kernel_rfl) (by kernel_rfl) Tryz.underlying3
theorem plays_bulk{H:Type}{d0:DataW H}(hk:Rows.uptoSmall H ([d0]++[])=true):Rows.uptoBulk d0≤1048576:=by
 have h:Rows.uptoBulkAll [d0]≤1048576:=of_decide_eq_true hk
 simp only[Rows.uptoBulkAll] at h
 omega
theorem plays_contract(H:Type)(enc:TypeId×Value→H)(W:World)(base:Nat)(args:Array Value)(ds gs:List (DataW H))(before:List MemPlace)
  (hval:∀(j:Nat) t v,Tryz.f3.params[j]?=some t→args[j]?=some v→Value.okWide Tryz.prog W .any base t v)
  (hW:DataW.Whole enc Tryz.prog Tryz.f3.params.toList Rows.basePlaysSpec.vars false W args.toList ds gs before) (hk:Rows.uptoSmall H (ds++gs)=true) (hS:W.ShapedOpen Tryz.prog):
  Calls Tryz.prog 3 args W fun e W'=> ∃v,e=.returned v∧Rows.basePlaysSpec.post enc Tryz.prog Tryz.f3 false true false false W args v W':=by
 have hW':=hW
 obtain⟨p,q,hA0,hV,rfl,hfz,hnd⟩:=hW
 have hA:DataW.TrodAll enc Tryz.prog W 0 (fun _=>true) true Tryz.f3.params.toList args.toList ds p:=hA0
 rw[Tryz.params3] at hA hval
 obtain⟨v0,d0,rfl,rfl,h0⟩:=trodAll_one hA
 obtain⟨rfl,rfl⟩:=trodVars_none hV
 have hb:=plays_bulk hk
 obtain⟨nn,hnn⟩:∃nn,nn=1048576:=⟨_,rfl⟩
 obtain⟨a,len,cap,l,ea,hll,hle,hst⟩:=open_steps (hval 0 22 v0 rfl rfl) h0 hb nn (by omega) (by omega)
 have lt0:∀x∈p,x.block<W.heap.size:=by obtain⟨m,hm⟩:=h0;exact DataW.trod_lt m _ _ _ hm
 obtain⟨m,hm⟩:=plays_max hS
 have hwalk:Calls Tryz.prog 3 #[v0] W fun e W'=>e=.returned (.bool true)∧Below W.heap.size W W':=by
  rw[ea];exact plays_any l a len cap W W.heap.size (Nat.le_refl _) hst hll (by omega) m hm (cell_lt hm) (by omega)
 clear hA0
 refine hwalk.mono fun e W' ⟨he,bel⟩=>?_
 subst he
 exact⟨_,rfl,_,_,_,[],_,[],hW',trodAll_mk1 (shut_bool Tryz.underlying4 _),(trodAll_mk1 (Below.trod plays_laidOut (by kernel_rfl) (of_decide_eq_true (by kernel_rfl)) h0 bel lt0)),rfl,bel.frame _,fun h=>by cases h⟩
/-- A block of cells, with others in it. -/
def layCells(cs:Array Value):Obj→Obj
 | .cells _ t frozen=>.cells cs t frozen
 | o=>o
def acceptCells:Array Value:=([128,191,160,191,128,159,144,191,128,143]++List.replicate 22 0:List Int).toArray.map (Value.int .u8)
def layTabs(h:Array Obj):Array Obj:=(h.modify 1 (layCells (Pinned.utf8FirstZ.map fun n:Nat=>Value.int .u8 (n:Int)).toArray)).modify 2 (layCells acceptCells)
def playsArgs:Array Value:=#[.slice none 0 0]
/-- A world for the witness: the settled one, the two tables holding what their initialisers lay. -/
noncomputable def playsWorld (os:Os):World:=
 {World.holding Tryz.prog os ⟨#[],#[],[]⟩ with heap:=layTabs (World.holding Tryz.prog os ⟨#[],#[],[]⟩).heap}
theorem plays_met(os:Os):laidMet Tryz.prog Rows.basePlaysUptoRow.laid ((playsWorld os).forCall (fun _ _=>0) ⟨#[],playsArgs,[]⟩).memory:=
 laidMet_of_run' 8 (by kernel_rfl) (by kernel_rfl)
theorem plays_reads(os:Os){H:Type}(enc:TypeId×Value→H):∃places,DataW.whole enc Tryz.prog ((playsWorld os).forCall (fun _ _=>0) ⟨#[],playsArgs,[]⟩).memory Tryz.f3.params.toList Rows.basePlaysSpec.vars false playsArgs.toList 8=some ([.nil],[],places):=
 ⟨[],by kernel_rfl⟩
theorem plays_lifted(os:Os)(started:os.Started)(H:Type)(enc:TypeId×Value→H)(F:Stop.Interp):
  ReturnsInHanded {} Tryz.checked os 3 .any ((Rows.OpenSpec.upto Rows.basePlaysSpec).preRow enc Tryz.prog Tryz.f3 Rows.basePlaysUptoRow.domain false Rows.basePlaysUptoRow.laid) (((Rows.OpenSpec.upto Rows.basePlaysSpec).at F).post enc Tryz.prog Tryz.f3 false true false false):=by
 obtain⟨places,hx⟩:=plays_reads os enc
 refine returnsInHanded_of_row (C:=Tryz.checked) (s:=Rows.OpenSpec.upto Rows.basePlaysSpec) plays_own started (by kernel_rfl) Tryz.func3
  (witness_row_at (enc:=enc) (C:=Tryz.checked) false (playsWorld os) playsArgs rfl (by kernel_rfl) (by kernel_rfl) (by kernel_rfl)
   (OpenSpec.preRow_of_cond 8 hx (by kernel_rfl) (fun k hk=>by cases hk;kernel_rfl) (by kernel_rfl) (plays_met os))) ?_
 intro W base args ds gs before hval hW _ hcond _ _ hS _
 exact plays_contract H enc W base args ds gs before hval hW (hcond _ rfl) hS
theorem plays_said:Rows.BasePlaysUptoSaid:=
 OpenClaim.holds_of_cond 3 Tryz.f3 rfl rfl rfl rfl rfl rfl rfl ⟨rfl,rfl,rfl,rfl,rfl⟩ rfl rfl rfl rfl rfl (by kernel_rfl) Tryz.func3 (by kernel_rfl)
  (of_decide_eq_true (by kernel_rfl)) (by unfold Func.isWrapper;first | (rw[if_pos (by decide +kernel)];kernel_rfl) | (rw[if_neg (by decide +kernel)];exact⟨rfl,rfl⟩))
  (fun os started H enc _ F=>by rw[OpenClaim.pre_eq_preRow];exact plays_lifted os started H enc F)
theorem plays_plain(f:FuncId)(fn:Func)(hf:Tryz.pinned.checked.prog.funcNamed "hornbook/hornlaw.BasePlays" =some f)(hfn:Tryz.pinned.checked.prog.funcs[f]?=some fn):
  false=Tryz.pinned.checked.prog.looks []∧∀(j:Nat) t,fn.params[j]?=some t→Tryz.pinned.checked.prog.wantsStandIn t=false:=by
 obtain rfl:f=3:=Option.some.inj ((show Tryz.prog.funcNamed "hornbook/hornlaw.BasePlays" =some 3 by kernel_rfl).symm.trans hf) |>.symm
 obtain rfl:fn=Tryz.f3:=(Option.some.inj (Tryz.func3.symm.trans hfn)).symm
 refine⟨by kernel_rfl,fun j t ht=>?_⟩
 rw[Tryz.params3] at ht
 have hm:t=22:=by simpa using Array.mem_of_getElem? ht
 subst hm
 exact(show Tryz.prog.wantsStandIn 22=false by kernel_rfl)
theorem basePlays_holds:Rows.BasePlaysUptoCardSaid:=
 Claim7.holds_tied_plain_at .later [] _ _ _ _ plays_said (fun _ h=>by cases h) (by kernel_rfl) (fun _ h=>by cases h) basePlaysUpto_row_tie rfl ⟨rfl,rfl⟩ (by kernel_rfl) rfl plays_plain (by kernel_rfl)
end Go.Proofs.YteaiefjmcinljaaGreatDoor
