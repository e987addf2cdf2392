import Derived.Test.YtjbdkbaacjfecaaDoorWk
import Derived.Outline
import Derived.Test.YtjbdkbaacjfecaaDoorTks
import Derived.WalkLawsBesides
namespace Go.Proofs.YtjbdkbaacjfecaaDoor
set_option maxHeartbeats 2000000
set_option maxRecDepth 100000
open Go.RowKit Go.Shelf
attribute [local go_sem] Oper.semAt_some
def TV.ok(x:TV):Bool:=wmB x.k x.N x.s x.len
def okT{n:Nat}(t:Tm n):Bool:=(parts t).all TV.ok
/-- What Check answers. -/
def chk{n:Nat}(t:Tm n):Int:=if okT t then 0 else 2
theorem chk_yes{n:Nat}{t:Tm n}(h:okT t=true):chk t=0:=if_pos h
theorem chk_no{n:Nat}{t:Tm n}(h:okT t=false):chk t=2:=if_neg (by simp[h])
/-- A box of a term's four cells. -/
def BoxT(W:World)(B:Nat)(x:TV):Prop:=W.heap[B]?=some (.cells #[.int .i64 x.k,.int .i64 x.N,.string x.s,.slice x.a x.len x.cap] 24 (0,0))
theorem BoxT.lt{W:World}{B:Nat}{x:TV}(h:BoxT W B x):B<W.heap.size:=(Array.getElem?_eq_some_iff.1 h).1
theorem BoxT.c0{W:World}{B:Nat}{x:TV}(h:BoxT W B x):W.cell? ⟨B,0,none⟩=some (.int .i64 x.k):=by simp[World.cell?,show W.heap[B]?=_ from h]
theorem BoxT.c1{W:World}{B:Nat}{x:TV}(h:BoxT W B x):W.cell? ⟨B,1,none⟩=some (.int .i64 x.N):=by simp[World.cell?,show W.heap[B]?=_ from h]
theorem BoxT.c2{W:World}{B:Nat}{x:TV}(h:BoxT W B x):W.cell? ⟨B,2,none⟩=some (.string x.s):=by simp[World.cell?,show W.heap[B]?=_ from h]
theorem BoxT.c3{W:World}{B:Nat}{x:TV}(h:BoxT W B x):W.cell? ⟨B,3,none⟩=some (.slice x.a x.len x.cap):=by simp[World.cell?,show W.heap[B]?=_ from h]
theorem BoxT.new(W:World)(x:TV):BoxT (W.alloc (.cells #[.int .i64 x.k,.int .i64 x.N,.string x.s,.slice x.a x.len x.cap] 24)) W.heap.size x:=World.alloc_heap_new W _
theorem BoxT.alloc{W:World}{B:Nat}{x:TV}(h:BoxT W B x)(o:Obj):BoxT (W.alloc o) B x:=(Below.heap_alloc W o B h.lt).trans h
theorem boxT_owC{β:Type}(K:Nat)(B:Nat)(f:β→TV):OwC 22 K (fun s W=>BoxT W B (f s)):=fun _ _ _ _ hs hg hr=>kept_otherK hg hr (show _=_ from hs) rfl (by simp[ofK])
theorem parts_in(F:Fence)(n:Nat)(h19:F.fn 46)(hro:F.round=none)(x:TV)(w:World):
  CallsIn F n Tryd.prog 46 #[x.val] w fun e w'=>e=.returned (.func (.func 62) #[] #[.pointer (some ⟨w.heap.size,0,none⟩)])∧w'=w.alloc (.cells #[.int .i64 x.k,.int .i64 x.N,.string x.s,.slice x.a x.len x.cap] 24):=by
 refine callsIn_of_wp Tryd.func46 rfl h19 ?_ hro;simp only[TV.val,Tryd.ntmps46,List.size_toArray,List.length_cons,List.length_nil,Nat.reduceAdd,Nat.reduceSub,Array.replicate_succ,Array.replicate_zero,List.push_toArray,List.append_toArray,List.nil_append,List.cons_append]
 gi_wp2
 go_ret
 exact⟨rfl,rfl⟩
theorem parts1_in(n l Bt n₀ n₁ Ba:Nat){d:Nat}(t:Tm d)(J Jx:List TV→World→Prop)(hJ:AbC 22 Ba J)
  (hY:∀pre x W,x∈parts t→J pre W→pre.length<(parts t).length→YieldAt Fence.wide (n-1) Tryd.prog l #[TV.val x] W fun e W'=>
   (e=.returned (.bool true)∧J (pre++[x]) W'∧Kp n₀ n₁ W W')∨(e=.returned (.bool false)∧Jx (pre++[x]) W'))
  (W:World) (hBt:BoxT W Bt t.tv) (hT:IsT n₀ W t) (hn0:n₀≤W.heap.size) (hn:n₁≤W.heap.size) (hBa:Ba≤W.heap.size) (h0:J [] W):
  CallsIn Fence.wide n Tryd.prog 62 #[.func (.yield l) #[] #[],.pointer (some ⟨Bt,0,none⟩)] W fun e W'=>(∃v,e=.returned v)∧
   ((∃ys,ys=parts t∧J ys W')∨(∃pre,pre <+: parts t∧Jx pre W')):=by
 cases d with
 | zero=>exact Empty.elim t
 | succ d=>
 have hp:=walk_in l n₀ n₁ (parts t).length Ba J Jx hJ t (fun m pre x W hx hj hl=>YieldAt.anyDepth rfl m (hY pre x W hx hj hl)) (n-1) W hT hn0 hn hBa h0 (Nat.le_refl _);simp only[TV.val] at hp;have c0:=hBt.c0;have c1:=hBt.c1;have c2:=hBt.c2;have c3:=hBt.c3;clear hY;refine callsIn_of_wp Tryd.func62 rfl trivial ?_ rfl;simp only[Tryd.ntmps62,List.size_toArray,List.length_cons,List.length_nil,Nat.reduceAdd,Nat.reduceSub,Array.replicate_succ,Array.replicate_zero,List.push_toArray,List.append_toArray,List.nil_append,List.cons_append]
 gi_wp2
 refine⟨trivial,(fun h=>by cases h),?_⟩;refine hp.mono ?_;clear hp;rintro e W1 ⟨⟨v,rfl⟩,hJ1⟩
 gi_wp2
 go_end0
 refine⟨⟨_,rfl⟩,?_⟩
 rcases hJ1 with h | ⟨q,hq,hx⟩
 ·exact .inl ⟨_,rfl,h⟩
 ·exact .inr ⟨q,hq,hx⟩
theorem parts_stops(n:Nat)(Bt n₀ n₁:Nat){d:Nat}(t:Tm d)(w:World)
  (hc:BoxT w Bt t.tv) (hT:IsT n₀ w t) (hn₀:n₀≤w.heap.size) (hn₁:n₁≤w.heap.size):
  SeqC 22 Fence.wide n Tryd.prog 62 #[.pointer (some ⟨Bt,0,none⟩)] (fun x:TV=>#[TV.val x]) (Kp n₀ n₁) (fun ys=>ys=parts t) (fun pre=>pre <+: parts t) (parts t).length w:=fun l J Jx W hW hJ _ hY h0=>
 parts1_in n l Bt n₀ n₁ _ t J Jx hJ (fun pre x W _ hj hl=>hY pre x W hj hl) W ((hW.block Bt hc.lt).trans hc) (hT.below (hW.mono hn₀)) (Nat.le_trans hn₀ hW.size) (Nat.le_trans hn₁ hW.size) (Nat.le_refl _) h0
theorem check_in(n:Nat)(hn:3≤n){d:Nat}(t:Tm d)(w:World)(hT:IsT w.heap.size w t):
  CallsIn Fence.wide n Tryd.prog 29 #[t.tv.val] w fun e W'=>e=.returned (.int .i64 (chk t))∧Below w.heap.size w W':=by
 have h1:1≤n:=by omega
 generalize hx0:t.tv=x0;have Hx0:=hide hx0;clear hx0;refine callsIn_of_wp_marks Tryd.func29 rfl trivial ?_ rfl;simp only[TV.val,Tryd.ntmps29,List.size_toArray,List.length_cons,List.length_nil,Nat.reduceAdd,Nat.reduceSub,Array.replicate_succ,Array.replicate_zero,List.push_toArray,List.append_toArray,List.nil_append,List.cons_append]
 gi_wp2_with (refine⟨trivial,?_⟩;gi_at_call 46;refine(parts_in Fence.wide (n-1) trivial rfl x0 _).mono ?_;rintro e w' ⟨rfl,rfl⟩)
 have bR:=(Boxed.new (w.alloc (.cells #[.int .i64 x0.k,.int .i64 x0.N,.string x0.s,.slice x0.a x0.len x0.cap] 24)) 25 (.int .i64 0)).alloc (.cells #[.int .i64 x0.k,.int .i64 x0.N,.string x0.s,.slice x0.a x0.len x0.cap] 24);have bT:=BoxT.new ((w.alloc (.cells #[.int .i64 x0.k,.int .i64 x0.N,.string x0.s,.slice x0.a x0.len x0.cap] 24)).alloc (.cells #[.int .i64 0] 25)) x0;simp only[World.size_alloc] at bR bT;have hB0:Below w.heap.size w (((w.alloc (.cells #[.int .i64 x0.k,.int .i64 x0.N,.string x0.s,.slice x0.a x0.len x0.cap] 24)).alloc (.cells #[.int .i64 0] 25)).alloc (.cells #[.int .i64 x0.k,.int .i64 x0.N,.string x0.s,.slice x0.a x0.len x0.cap] 24)):=(((Below.refl _ w).alloc (Nat.le_refl _) _).alloc (by simp) _).alloc (by simp;omega) _;have hsz:(((w.alloc (.cells #[.int .i64 x0.k,.int .i64 x0.N,.string x0.s,.slice x0.a x0.len x0.cap] 24)).alloc (.cells #[.int .i64 0] 25)).alloc (.cells #[.int .i64 x0.k,.int .i64 x0.N,.string x0.s,.slice x0.a x0.len x0.cap] 24)).heap.size=w.heap.size+3:=by simp
 obtain⟨W0,hW0⟩:∃W0,((w.alloc (.cells #[.int .i64 x0.k,.int .i64 x0.N,.string x0.s,.slice x0.a x0.len x0.cap] 24)).alloc (.cells #[.int .i64 0] 25)).alloc (.cells #[.int .i64 x0.k,.int .i64 x0.N,.string x0.s,.slice x0.a x0.len x0.cap] 24)=W0:=⟨_,rfl⟩;rw[hW0] at bR bT hB0 hsz⊢;clear hW0
 refine rangeC (k:=22) rfl h1 (gf:=62) (lb:=#[.pointer (some ⟨w.heap.size+1+1,0,none⟩)]) rfl trivial (enters_of Tryd.func62 (by kernel_rfl) rfl)
  (parts_stops (n-1) (w.heap.size+1+1) w.heap.size W0.heap.size t W0 (by rw[uh Hx0];exact bT) (hT.below hB0) (by omega) (Nat.le_refl _)) Kp.trans (Kp.putObj (w:=W0)) (Below.refl _ _) (fun _=>rfl)
  (fun pre W=>((pre.all TV.ok=true)∧Boxed W (w.heap.size+1) 25 (.int .i64 0))∧Below w.heap.size w W)
  (fun c pre W=>((c=.ret∧pre.all TV.ok=false)∧Boxed W (w.heap.size+1) 25 (.int .i64 2))∧Below w.heap.size w W)
  (OwC.and (OwC.and (owC_pure _ _ _) (owC_boxed _ _ _ _ _ rfl)) (owC_below (by omega) (Nat.le_refl _)))
  (fun c=>OwC.and (OwC.and (owC_pure _ _ _) (owC_boxed _ _ _ _ _ rfl)) (owC_below (by omega) (Nat.le_refl _)))
  ⟨⟨rfl,bR⟩,hB0⟩
  (fun x a' W=> ∃Bx,w.heap.size+1<Bx∧BoxT W Bx x∧a'={tmps:=#[.agg #[.int .i64 x0.k,.int .i64 x0.N,.string x0.s,.slice x0.a x0.len x0.cap],.pointer (some ⟨w.heap.size,0,none⟩),.pointer (some ⟨w.heap.size+1,0,none⟩),.pointer (some ⟨Bx,0,none⟩),.agg #[.int .i64 x0.k,.int .i64 x0.N,.string x0.s,.slice x0.a x0.len x0.cap],.func (.func 62) #[] #[.pointer (some ⟨w.heap.size+1+1,0,none⟩)],x.val,undef,undef,undef],defers:=[]})
  (fun x a' _ X Y row hs hg hr=>by obtain⟨Bx,h1,h2,h3⟩:=hs;exact⟨Bx,h1,boxT_owC _ Bx (fun(_:Unit)=>x) () X Y row h2 hg hr,h3⟩)
  ?assign ?body ?done ?stop
 case assign=>
  rintro l pre x W K ⟨⟨hp,bR1⟩,hB1⟩ hK;simp only[TV.val]
  gi_wp2
  exact hK _ _ ((KeepsOthers.alloc _ _).from _) ((Kp.refl _ _ W).alloc _) ⟨⟨hp,bR1.alloc _⟩,hB1.alloc hB1.size _⟩ ⟨W.heap.size,bR1.lt,BoxT.new W x,rfl⟩
 case body=>
  rintro l pre x a' W hl ⟨r,hr⟩ ⟨⟨hp,bR1⟩,hB1⟩ ⟨Bx,hBx,bX,rfl⟩ hlt;have c0:=bX.c0;have c1:=bX.c1;have c2:=bX.c2;have c3:=bX.c3;have h1':1≤n-1-1:=by omega
  have bR2:=bR1.alloc (.cells #[.int .i64 x.k,.int .i64 x.N,.string x.s,.slice x.a x.len x.cap] 24);have cR:=bR2.cell;have fR:=bR2.frozen;cases hw:wmB x.k x.N x.s x.len with
  | true=>
   gi_wp2_with (refine⟨trivial,?_⟩;gi_at_call 47;refine(CallsIn.inRound l (callsIn_wide.2 (wm_any _ _ _ _ _ _ _))).mono ?_;rintro e w' ⟨rfl,rfl⟩)
   exact⟨(KeepsOthers.alloc _ _).from _,(Kp.refl _ _ W).alloc _,⟨⟨by simp[hp,TV.ok,hw],bR2⟩,hB1.alloc hB1.size _⟩⟩
  | false=>
   gi_wp2_with (refine⟨trivial,?_⟩;gi_at_call 47;refine(CallsIn.inRound l (callsIn_wide.2 (wm_any _ _ _ _ _ _ _))).mono ?_;rintro e w' ⟨rfl,rfl⟩)
   exact⟨((KeepsOthers.alloc _ _).trans (KeepsOthers.setCell _ _ _)).from _,⟨⟨⟨rfl,by simp[TV.ok,hw]⟩,bR2.set _⟩,(hB1.alloc hB1.size _).setCell (p:=⟨w.heap.size+1,0,none⟩) (by simp) _⟩⟩
 case done=>
  rintro D ys W hD rfl ⟨⟨hp,bR1⟩,hB1⟩ hK;have cR:=bR1.cell;have fR:=bR1.frozen
  gi_wp2
  have hK':=(KeepsOthers.setCell W ⟨w.heap.size+1,0,none⟩ (.int .i64 0)).same D _ hK rfl;refine⟨by simp,.inl ⟨_,_,rfl,run_takeDeferred hK',?_⟩⟩;have hc5:=cell_kept (World.cell?_setCell_same' W ⟨w.heap.size+1,0,none⟩ (.int .i64 0) (by rw[cR];rfl)) (grownBy_putObj' _ D (.deferred none)) (fun r e=>by cases e;exact⟨_,hK',rfl⟩);refine⟨.int .i64 0,?_,by rw[chk_yes hp],(hB1.setCell (p:=⟨w.heap.size+1,0,none⟩) (by simp) _).trans (belowK_b (w:=w) (Nat.le_refl _) _ D _ _ (by omega) hK' rfl rfl)⟩;simp[results,Tryd.f29,go_sem,hc5]
 case stop=>
  rintro D c pre W hD hpre ⟨⟨⟨rfl,hp⟩,bR1⟩,hB1⟩ hK;have cR:=bR1.cell;have fR:=bR1.frozen
  gi_wp2
  refine⟨by simp,.inl ⟨_,_,rfl,run_takeDeferred hK,?_⟩⟩;have hc5:=cell_kept cR (grownBy_putObj' _ D (.deferred none)) (fun r e=>by cases e;exact⟨_,hK,rfl⟩)
  have hno:okT t=false:=by
   unfold okT;obtain⟨r,hr⟩:=hpre;rw[←hr,List.all_append,hp,Bool.false_and]
  refine⟨.int .i64 2,?_,by rw[chk_no hno],hB1.trans (belowK_b (w:=w) (Nat.le_refl _) W D _ _ (by omega) hK rfl rfl)⟩;simp[results,Tryd.f29,go_sem,hc5]
theorem check_any{d:Nat}(t:Tm d)(w:World)(hT:IsT w.heap.size w t):
  Calls Tryd.prog 29 #[t.tv.val] w fun e W'=>e=.returned (.int .i64 (chk t))∧Below w.heap.size w W':=
 callsIn_wide.1 (check_in 3 (Nat.le_refl _) t w hT)
set_option maxHeartbeats 1000000
set_option maxRecDepth 100000
theorem okT_succ{n:Nat}(x:TV)(kids:List (Tm n)):okT (n:=n+1) (x,kids)=(x.ok && kids.all okT):=by
 show(x::kids.flatMap parts).all TV.ok=_
 rw[List.all_cons,List.all_flatMap];rfl
theorem take_all{n:Nat}(kids:List (Tm n))(j:Nat)(u:Tm n)(h:kids[j]?=some u):(kids.take (j+1)).all okT=((kids.take j).all okT && okT u):=by
 obtain⟨hj,rfl⟩:=List.getElem?_eq_some_iff.1 h;rw[List.take_succ_eq_append_getElem hj,List.all_append,List.all_cons,List.all_nil,Bool.and_true]
theorem take_all_false{n:Nat}(kids:List (Tm n))(j:Nat)(h:(kids.take j).all okT=false):kids.all okT=false:=by
 rw[←List.take_append_drop j kids,List.all_append,h,Bool.false_and]
theorem formed_any:∀(n:Nat) (t:Tm n) (w:World),IsT w.heap.size w t→Calls Tryd.prog 6 #[t.tv.val] w fun e W'=>e=.returned (.bool (okT t))∧Below w.heap.size w W':=by
 intro n
 induction n with
 | zero=>intro t;exact Empty.elim t
 | succ n ih=>
  intro t w ht;obtain⟨⟨k,kN,s,a,len,cap⟩,kids⟩:=t;obtain⟨hlen,hmax,hsm,hkids⟩:=ht;simp only[Tm.tv,Tm.kids] at hlen hmax hsm hkids;rw[okT_succ];simp only[Tm.tv,TV.val,TV.ok];have HI:=hide ih;clear ih;have hB1:Below w.heap.size w (w.alloc (.cells #[.int .i64 k,.int .i64 kN,.string s,.slice a len cap] 24)):=(Below.refl _ w).alloc (Nat.le_refl _) _
  by_cases hk:k=1∨k=2∨k=3
  ·have hgo:wmB k kN s len=true→kids.all okT=true:=by
    intro h
    have:len=0:=by
     rcases hk with rfl | rfl | rfl <;> simp[wmB] at h <;> omega
    have:kids=[]:=List.length_eq_zero_iff.1 (by omega);subst this;rfl
   have hans:(wmB k kN s len && kids.all okT)=wmB k kN s len:=by
    cases h:wmB k kN s len
    ·rfl
    ·rw[hgo h];rfl
   rw[hans];clear hans hgo hkids hmax hsm HI hlen
   rcases hk with rfl | rfl | rfl
   all_goals
    go_enter Tryd.func6,Tryd.ntmps6
    go_wp2_with fail
   all_goals go_ret
   all_goals refine⟨?_,(Below.refl _ w).alloc (Nat.le_refl _) _⟩
   all_goals simp_all [wmB]
   all_goals(intros;omega)
  ·have hwm:wmB k kN s len=(decide (k=4) && (decide (kN=0) && decide ((s.size:Int)≤100)) && decide (1≤(len:Int)) && decide ((len:Int)≤50)):=by
    unfold wmB;rw[if_neg (by omega),if_neg (by omega),if_neg (by omega)]
    by_cases h4:k=4
    ·rw[if_pos h4,decide_eq_true h4];simp
    ·rw[if_neg h4,decide_eq_false h4];simp
   have hk1:(k == 1)=false:=by simp;omega
   have hk2:(k == 2)=false:=by simp;omega
   have hk3:(k == 3)=false:=by simp;omega
   have hl1:len≤kids.length:=by omega
   have hl2:kids.length≤len:=by omega
   clear hlen hk hB1;cases hwm':wmB k kN s len with
   | false=>
    rw[hwm'] at hwm;rw[Bool.false_and];clear hwm';have HW:=hide hwm;clear hwm hkids HI;go_enter Tryd.func6,Tryd.ntmps6
    go_wp2_with fail
    all_goals
     refine wp_loop_rounds 1 ?_;rw[rounds_succ];go_wp2_with fail
    all_goals first | (go_ret;exact⟨rfl,(Below.refl _ w).alloc (Nat.le_refl _) _⟩) | (exfalso;have h:=uh HW;clear HW;rw[decide_eq_true ‹k=4›,decide_eq_true ‹kN=0›,decide_eq_true ‹(s.size:Int)≤100›,decide_eq_true ‹1≤(len:Int)›,decide_eq_true ‹(len:Int)≤50›] at h;cases h)
   | true=>
    rw[hwm'] at hwm;simp only[Bool.true_and];simp at hwm;obtain⟨⟨⟨rfl,rfl,hs⟩,hn1⟩,hn2⟩:=hwm;clear hwm'
    by_cases hse:s.toList=[]
    all_goals
     go_enter Tryd.func6,Tryd.ntmps6
     go_wp2_with fail
     go_loopw [5,6] (fun o i wr=> ∃j:Nat,j≤len∧i=.int .i64 j∧o=.bool ((kids.take j).all okT)∧Below (w.heap.size+1) (w.alloc (.cells #[.int .i64 4,.int .i64 0,.string s,.slice a len cap] 24)) wr) (fun _ i _=>len-(intOf i).toNat)
     case atStart=>exact⟨0,Nat.zero_le _,rfl,by simp,Below.refl _ _⟩
     case round=>
      obtain⟨j,hj,rfl,rfl,hb⟩:=hrel;obtain⟨hc,hz⟩:wr.cell? ⟨w.heap.size,3,none⟩=some (.slice a len cap)∧w.heap.size+1≤wr.heap.size:=⟨(hb.cell (p:=⟨w.heap.size,3,none⟩) (by simp)).trans (by simp),by have:=hb.size;simp at this;omega⟩;cases ho:(kids.take j).all okT with
      | false=>
       have HO:=hide ho;clear ho hkids;go_wp2_with fail
       go_ret
       exact⟨by rw[take_all_false kids j (uh HO)];rfl,((Below.refl _ w).alloc (Nat.le_refl _) _).trans (hb.mono (by omega))⟩
      | true=>
       have HO:=hide ho;clear ho
       by_cases hlt:j<len
       ·obtain⟨u,hu⟩:∃u,kids[j]?=some u:=⟨kids[j]'(by omega),List.getElem?_eq_getElem (by omega)⟩
        have hne:kids≠[]:=by rintro rfl;simp at hu
        obtain⟨b,off,rfl,hbk,hk⟩:=hkids.resolve_left hne;obtain⟨⟨c0,c1,c2,c3⟩,hT⟩:=hk j u hu;have hbw:Below w.heap.size w wr:=((Below.refl _ w).alloc (Nat.le_refl _) _).trans (hb.mono (by omega));replace c0:=(hbw.cell (p:=⟨b,off+j*4,none⟩) hbk).trans c0;replace c1:=(hbw.cell (p:=⟨b,off+j*4+1,none⟩) hbk).trans c1;replace c2:=(hbw.cell (p:=⟨b,off+j*4+2,none⟩) hbk).trans c2;replace c3:=(hbw.cell (p:=⟨b,off+j*4+3,none⟩) hbk).trans c3;have ihu:=(uh HI) u wr ((hT.below hbw).mono (by omega));have HU:=hide hu;clear hT hk hkids hu hne hbw;simp only[TV.val] at ihu;go_wp2_with (go_at_call 6;refine ihu.mono ?_;clear ihu;rintro e W2 ⟨rfl,hb2⟩)
        go_roundw
        case rel=>exact⟨j+1,by omega,by go_num,by rw[take_all kids j u (uh HU),uh HO];rfl,hb.trans (hb2.mono (by omega))⟩
        case measure=>simp[intOf];omega
       ·have ht:kids.take j=kids:=List.take_of_length_le (by omega)
        have HT:=hide ht;clear ht hkids;go_wp2_with fail
        go_ret
        exact⟨by have h:=uh HO;rw[uh HT] at h;rw[h];rfl,((Below.refl _ w).alloc (Nat.le_refl _) _).trans (hb.mono (by omega))⟩
def cmp3(a b:Int):Int:=if a<b then -1 else if b<a then 1 else 0
def thenC(c d:Int):Int:=if c≠0 then c else d
/-- A comparison: -1, 0 or 1, of a total order. -/
structure IsCmp {α:Type} (f:α→α→Int):Prop where
 range:∀a b,-1≤f a b∧f a b≤1
 anti:∀a b,f b a= -f a b
 trans:∀a b c,f a b≤0→f b c≤0→f a c≤0∧(f a c=0→f a b=0∧f b c=0)
theorem cmp3_zero{a b:Int}:cmp3 a b=0↔a=b:=by
 unfold cmp3;split <;> (try split) <;> omega
def lexL{α:Type}(f:α→α→Int):List α→List α→Int
 | [],[]=>0
 | [],_::_=> -1
 | _::_,[]=>1
 | a::r,b::s=>thenC (f a b) (lexL f r s)
def all2{α:Type}(f:α→α→Bool):List α→List α→Bool
 | [],[]=>true
 | a::r,b::s=>f a b && all2 f r s
 | _,_=>false
/-! ### names -/
def cmpS(a b:List UInt8):Int:=if Op.bytesLess a b=true then -1 else if a=b then 0 else 1
/-! ### terms -/
def otop(x y:TV):Int:=thenC (cmp3 x.k y.k) (thenC (cmp3 x.N y.N) (thenC (cmp3 x.len y.len) (cmpS x.s.toList y.s.toList)))
def stop(x y:TV):Bool:=decide (x.k=y.k) && (decide (x.N=y.N) && (decide (x.s.toList=y.s.toList) && decide (x.len=y.len)))
def ordT:{n:Nat}→Tm n→Tm n→Int
 | 0,_,_=>0
 | _+1,a,b=>thenC (otop a.tv b.tv) (lexL ordT a.kids b.kids)
def sameT:{n:Nat}→Tm n→Tm n→Bool
 | 0,_,_=>true
 | _+1,a,b=>stop a.tv b.tv && all2 sameT a.kids b.kids
set_option maxHeartbeats 400000
theorem ret_int{k:IntKind}{a b:Int}(h:a=b):Ending.returned (.int k a)=.returned (.int k b):=by rw[h]
theorem cmp3_lt{a b:Int}(h:a<b): -1=cmp3 a b:=by unfold cmp3;rw[if_pos h]
theorem cmp3_gt{a b:Int}(h:b<a):1=cmp3 a b:=by unfold cmp3;rw[if_neg (by omega),if_pos h]
theorem cmp3_eq{a b:Int}(h1:b≤a)(h2:a≤b):0=cmp3 a b:=by unfold cmp3;rw[if_neg (by omega),if_neg (by omega)]
theorem cmpl_any(a b:Int)(w:World):Calls Tryd.prog 90 #[.int .i64 a,.int .i64 b] w fun e W'=>e=.returned (.int .i64 (cmp3 a b))∧W'=w:=by
 go_enter Tryd.func90,Tryd.ntmps90
 go_wp2
 all_goals go_ret
 all_goals refine⟨?_,rfl⟩
 ·exact ret_int (cmp3_lt ‹_›)
 ·exact ret_int (cmp3_gt ‹b<a›)
 ·exact ret_int (cmp3_eq ‹b≤a› ‹a≤b›)
end Go.Proofs.YtjbdkbaacjfecaaDoor
