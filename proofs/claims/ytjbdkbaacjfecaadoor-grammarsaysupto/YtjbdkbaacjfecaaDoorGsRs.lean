import Derived.Test.YtjbdkbaacjfecaaDoorGsFs
import Derived.Test.YtjbdkbaacjfecaaDoorGsJs
import Derived.Test.YtjbdkbaacjfecaaDoorGsLs
import Derived.Test.YtjbdkbaacjfecaaDoorGsOs
import Derived.Test.YtjbdkbaacjfecaaDoorGqQs
import Derived.Test.YtjbdkbaacjfecaaDoorGqYs
namespace Go.Proofs.YtjbdkbaacjfecaaDoor
set_option maxHeartbeats 4000000
open Go.RowKit Go.Shelf Go.Maps
/-- What Between gives, as its contract says it. -/
def BtwR(D ns M:Nat)(er:Int)(c:List Nd)(W:World)(e:Ending)(U:World):Prop:= ∃(y:TV) (m:Int),e=.returned (.tuple #[y.val,.int .i64 m,.int .i64 er])∧Below W.heap.size W U∧BtwP D ns M er c W.heap.size y m U
theorem btw_fit{D D' ns M M':Nat}{er er':Int}{c c':List Nd}{args:Array Value}{W:World}
  (h:Calls Tryd.prog 24 args W fun e U=> ∃(y:TV) (m:Int),e=.returned (.tuple #[y.val,.int .i64 m,.int .i64 er])∧Below W.heap.size W U∧BtwP D ns M er c W.heap.size y m U)
  (he:er=er') (hM:M=M') (hc:er=0→c=c') (hD:er=0→D≤D'):Calls Tryd.prog 24 args W (BtwR D' ns M' er' c' W):=by
 subst he hM;refine h.mono ?_;rintro e U ⟨y,m,e1,e2,e3⟩;exact⟨y,m,e1,e2,e3.1,e3.2.1,fun h0=>⟨(e3.2.2 h0).1,by rw[←hc h0];exact(e3.2.2 h0).2.mono (hD h0) (fun _ h=>h)⟩⟩
theorem var_S{D:Nat}{S:Nat→Prop}{W:World}(f:Int)(hD:1≤D):HoldsS D S W (varV f).val [varNd f]:=by
 have hT:IsT (n:=1) W.heap.size W ((varV f,[]):TV×List (Tm 0)):=⟨rfl,⟨by simp[Tm.tv,varV],by simp[Tm.tv,varV],by simp⟩,by show(⟨#[]⟩:ByteArray).size≤_;decide,.inl rfl⟩;have h:=holdsS_of (S:=S) hT ⟨.inl rfl,fun u hu=>by cases hu⟩
 have e:code (n:=1) ((varV f,[]):TV×List (Tm 0))=[varNd f]:=by
  rw[code_succ,List.flatMap_nil]
  show[((1:Int),f,(⟨#[]⟩:ByteArray).toList,0)]=_
  rw[emptyL];rfl
 rw[e] at h;exact h.mono hD (fun _ h=>h)
theorem bt_two(a b:Int):(if a≠0 then a else b)=firstE [a,b]:=by
 unfold firstE firstE firstE
 by_cases h:a=0
 ·rw[if_neg (by omega),if_pos h]
  by_cases h2:b=0
  ·rw[if_pos h2];exact h2
  ·rw[if_neg h2]
 ·rw[if_pos h,if_neg h]
theorem bt_one(a:Int):a=firstE [a]:=by
 unfold firstE firstE
 by_cases h:a=0
 ·rw[if_pos h];exact h
 ·rw[if_neg h]
theorem leaf_nd{x:TV}{nm:List UInt8}(hx:isB x nm 0=true)(hw:wmB x.k x.N x.s x.len=true):x.nd=(3,0,nm,0):=by
 have hl:x.len=0:=by have:=isB_len hx;omega
 have hn:=isB_name hx
 have hk:x.k=3:=by
  unfold isB at hx;simp only[Bool.and_eq_true,Bool.or_eq_true,decide_eq_true_eq] at hx
  rcases hx.1 with h | h
  ·exact h
  ·rcases wm_cases hw with⟨h1,_⟩ | ⟨h1,_⟩ | ⟨_,_,h2,_⟩ <;> omega
 have hN:x.N=0:=by
  unfold wmB at hw;rw[hk] at hw;simp at hw;exact hw.1.1
 unfold TV.nd;rw[hk,hn,hl,hN]
theorem rbtw_any(mm:Int):∀(n:Nat) (t:Tm n) (D ns:Nat) (xs xr:TV) (s r:List Nd) (f:Int) (W:World),1≤D→ns≤W.heap.size→IsT ns W t→okT t=true→(code t).length≤4398046511104→HoldsS D (· <ns) W xs.val s→HoldsS D (· <ns) W xr.val r→
  -1152921504606846976≤f→f+cntT t≤576460752303423488→D+3*n+8≤2199023255552→W.cell? ⟨splitLay_ren.g 1,0,none⟩=some (.int .i64 mm)→splitLay_ren.g 1<W.heap.size→
  Calls Tryd.prog 24 #[t.tv.val,xs.val,xr.val,.int .i64 f] W (BtwR (D+3*n+4) ns (cntT t) (berr t) (btwC t s r f) W):=by
 intro n
 induction n with
 | zero=>intro t;exact Empty.elim t
 | succ n ih=>
  intro t D ns xs xr s r f W hD hns hT ok hlen hs hr hf1 hf2 hlim hm hm0;have hwl:=hT.wl;have hcnt:=cnt_le t hwl;obtain⟨x,kids⟩:=t;have hk:=ok_kids ok;have hxl:x.len=kids.length:=hT.1;have hl50:kids.length≤50:=by rcases wm_cases hk.1 with⟨_,_,_,_,h⟩ | ⟨_,h⟩ | ⟨_,_,_,h⟩ <;> omega
  have hl:kids.length≤1099511627776:=by omega
  have IH:∀(u:Tm n),u∈kids→IsT ns W u→∀(ys yr:TV) (cs cr:List Nd) (g:Int),HoldsS D (· <ns) W ys.val cs→HoldsS D (· <ns) W yr.val cr→ -1152921504606846976≤g→g+cntT u≤576460752303423488→∀U,Below W.heap.size W U→
    Calls Tryd.prog 24 #[u.tv.val,ys.val,yr.val,.int .i64 g] U fun e U'=> ∃(y:TV) (m:Int),e=.returned (.tuple #[y.val,.int .i64 m,.int .i64 (berr u)])∧Below U.heap.size U U'∧BtwP (D+3*n+4) ns (cntT u) (berr u) (btwC u cs cr g) U.heap.size y m U':=fun u hu hTu ys yr cs cr g h1 h2 h3 h4 U hU=>
   ih u D ns ys yr cs cr g U hD (Nat.le_trans hns hU.size) (hTu.below (hU.mono hns)) (hk.2 u hu) (by
    have:(code u).length≤(kids.flatMap code).length:=(List.sublist_flatten_of_mem (List.mem_map_of_mem (f:=code) hu)).length_le;rw[code_succ,List.length_cons] at hlen;omega) (h1.below hU) (h2.below hU) h3 h4 (by omega) ((hU.cell hm0).trans hm) (Nat.lt_of_lt_of_le hm0 hU.size)
  by_cases e1:x.k=1
  ·have hF:formB x=1:=form_one.2 e1
   refine btw_fit (btw_var (x:=x) (kids:=kids) hT hns hl hs hr (beq_iff_eq.2 e1)) ?_ ?_ (fun _=>?_) (fun _=>by omega)
   ·rw[berr_succ,partE_succ,hF];rfl
   ·rw[cntT_succ,hF];rfl
   ·obtain rfl:=var_kids hwl ok e1
    rw[btwC_succ,if_pos hF,code_succ]
    rcases wm_cases hk.1 with⟨_,_,_,h1,h2⟩ | ⟨h1,_⟩ | ⟨h1,_⟩
    ·have:x.nd=varNd x.N:=by unfold TV.nd varNd;rw[e1,h1,h2]
     rw[this];rfl
    ·omega
    ·omega
  have k1:(x.k == 1)=false:=by simp[e1]
  by_cases e2:x.k=2
  ·have hF:formB x=0:=by unfold formB;rw[if_pos e2]
   refine btw_fit (btw_int (x:=x) (kids:=kids) (D:=D) (s:=s) hT hns hl k1 (beq_iff_eq.2 e2)) ?_ ?_ (fun h=>absurd h (by decide)) (fun h=>absurd h (by decide))
   ·rw[berr_succ,partE_succ,hF];rfl
   ·rw[cntT_succ,hF];rfl
  have k2:(x.k == 2)=false:=by simp[e2]
  have pair:x.len=2→∃a b Bk off,kids=[a,b]∧x.a=some ⟨Bk,off,none⟩∧Bk<ns∧cellsAt W Bk off a.tv∧cellsAt W Bk (off+4) b.tv∧IsT ns W a∧IsT ns W b:=fun hl2=>by
   obtain⟨a,b,rfl⟩:=two_kids hwl hl2
   rcases hT.2.2.2 with h4 | ⟨Bk,off,h1,h2,hcs⟩
   ·cases h4
   have ha:=hcs 0 a rfl;have hb:=hcs 1 b rfl;rw[Nat.zero_mul,Nat.add_zero] at ha;exact⟨a,b,Bk,off,rfl,h1,h2,ha.1,by simpa using hb.1,ha.2,hb.2⟩
  have one:x.len=1→∃a Bk off,kids=[a]∧x.a=some ⟨Bk,off,none⟩∧Bk<ns∧cellsAt W Bk off a.tv∧IsT ns W a:=fun hl1=>by
   obtain⟨a,rfl⟩:=one_kid hwl hl1
   rcases hT.2.2.2 with h4 | ⟨Bk,off,h1,h2,hcs⟩
   ·cases h4
   have ha:=hcs 0 a rfl;rw[Nat.zero_mul,Nat.add_zero] at ha;exact⟨a,Bk,off,rfl,h1,h2,ha.1,ha.2⟩
  cases q1:isB x [44] 2 with
  | true=>
   have hF:formB x=2:=by simp[formB,e1,e2,q1]
   have hx2:x.len=2:=form_two hF;obtain⟨a,b,Bk,off,rfl,ha,hB,hca,hcb,hTa,hTb⟩:=pair hx2;have hcn:cntT (n:=n+1) ((x,[a,b]):TV×List (Tm n))=1+cntT a+cntT b:=by rw[cntT_succ,if_pos (.inl hF)];simp;omega
   rw[hcn] at hf2 hcnt;refine btw_fit (btw_and (x:=x) (DD:=D+3*n+4) (a:=a) (b:=b) (er:=firstE [berr a,berr b]) ha hx2 hB hca hcb (bt_two _ _) (by omega) (by omega) (by omega) (IH a (by simp) hTa xs (varV f) s [varNd f] _ hs (var_S f hD) (by omega) (by omega)) (fun _=>IH b (by simp) hTb (varV f) xr [varNd f] r _ (var_S f hD) hr (by omega) (by omega)) hT hns hl k1 k2 q1) ?_ ?_ (fun _=>?_) (fun _=>by omega)
   ·rw[berr_succ,if_pos (.inl hF)];rfl
   ·rw[hcn]
   ·rw[btwC_succ,hF];rfl
  | false=>
  cases q2:isB x [45,62] 2 with
  | true=>
   have hF:formB x=2:=by simp[formB,e1,e2,q1,q2]
   have hx2:x.len=2:=form_two hF;obtain⟨a,b,Bk,off,rfl,ha,hB,hca,hcb,hTa,hTb⟩:=pair hx2;have hcn:cntT (n:=n+1) ((x,[a,b]):TV×List (Tm n))=1+cntT a+cntT b:=by rw[cntT_succ,if_pos (.inl hF)];simp;omega
   rw[hcn] at hf2 hcnt;refine btw_fit (btw_then (x:=x) (DD:=D+3*n+4) (a:=a) (b:=b) (er:=firstE [berr a,berr b]) ha hx2 hB hca hcb (bt_two _ _) (by omega) (by omega) (by omega) (IH a (by simp) hTa xs (varV f) s [varNd f] _ hs (var_S f hD) (by omega) (by omega)) (fun _=>IH b (by simp) hTb (varV f) xr [varNd f] r _ (var_S f hD) hr (by omega) (by omega)) hT hns hl k1 k2 q1 q2) ?_ ?_ (fun _=>?_) (fun _=>by omega)
   ·rw[berr_succ,if_pos (.inl hF)];rfl
   ·rw[hcn]
   ·rw[btwC_succ,hF];rfl
  | false=>
  cases q3:isB x [59] 2 with
  | true=>
   have hF:formB x=3:=by simp[formB,e1,e2,q1,q2,q3]
   have hx2:x.len=2:=form_three hF;obtain⟨a,b,Bk,off,rfl,ha,hB,hca,hcb,hTa,hTb⟩:=pair hx2;have hcn:cntT (n:=n+1) ((x,[a,b]):TV×List (Tm n))=0+cntT a+cntT b:=by rw[cntT_succ,if_neg (by omega),if_pos hF];simp
   rw[hcn] at hf2 hcnt;refine btw_fit (btw_or (x:=x) (DD:=D+3*n+4) (a:=a) (b:=b) (er:=firstE [berr a,berr b]) ha hx2 hB hca hcb (bt_two _ _) (by omega) (by omega) (by omega) (IH a (by simp) hTa xs xr s r _ hs hr (by omega) (by omega)) (fun _=>IH b (by simp) hTb xs xr s r _ hs hr (by omega) (by omega)) hT hns hl k1 k2 q1 q2 q3) ?_ ?_ (fun _=>?_) (fun _=>by omega)
   ·rw[berr_succ,if_pos (.inr (.inl hF))];rfl
   ·rw[hcn]
   ·rw[btwC_succ,hF,show f+((0:Nat):Int)=f by omega];rfl
  | false=>
  cases q4:isB x [92,43] 1 with
  | true=>
   have hF:formB x=4:=by simp[formB,e1,e2,q1,q2,q3,q4]
   have hx1:x.len=1:=form_four hF;obtain⟨a,Bk,off,rfl,ha,hB,hca,hTa⟩:=one hx1;have hcn:cntT (n:=n+1) ((x,[a]):TV×List (Tm n))=1+cntT a:=by rw[cntT_succ,if_pos (.inr hF)];simp
   rw[hcn] at hf2 hcnt;refine btw_fit (btw_not (x:=x) (D:=D) (DD:=D+3*n+4) (a:=a) (s:=s) (r:=r) (by omega) ha hx1 hB hca (by omega) (by omega) (IH a (by simp) hTa xs (varV f) s [varNd f] _ hs (var_S f hD) (by omega) (by omega)) hT hns hl hs hr k1 k2 q1 q2 q3 q4) ?_ ?_ (fun _=>?_) (fun _=>by omega)
   ·rw[berr_succ,if_pos (.inr (.inr hF))];exact bt_one _
   ·rw[hcn]
   ·rw[btwC_succ,hF,isB_name q4];rfl
  | false=>
  cases q5:isB x [91,93] 0 with
  | true=>
   have hF:formB x=5:=by simp[formB,e1,e2,q1,q2,q3,q4,q5]
   have hd:isB x [46] 2=false:=by
    cases h:isB x [46] 2 with
    | false=>rfl
    | true=>have h1:=isB_len h;have h2:=isB_len q5;omega
   have hL:listT (n:=n+1) ((x,kids):TV×List (Tm n))=true:=by rw[listT_succ,hd,q5];rfl
   refine btw_fit (btw_nil (x:=x) hT hns hl hs hr k1 k2 q1 q2 q3 q4 q5) ?_ ?_ (fun _=>?_) (fun _=>by omega)
   ·rw[berr_succ,partE_succ,hF,hL];rfl
   ·rw[cntT_succ,hF];rfl
   ·rw[btwC_succ,hF,endC_succ,hd];rfl
  | false=>
  cases q6:isB x [123,125] 0 with
  | true=>
   have hF:formB x=6:=by
    have hd:isB x [46] 2=false:=by
     cases h:isB x [46] 2 with
     | false=>rfl
     | true=>have h1:=isB_len h;have h2:=isB_len q6;omega
    simp[formB,e1,e2,q1,q2,q3,q4,q5,q6,hd]
   obtain rfl:=kids_nil hwl (by have:=isB_len q6;omega);refine btw_fit (btw_curl (x:=x) hT hns hl hs hr k1 k2 q1 q2 q3 q4 q5 q6) ?_ ?_ (fun _=>?_) (fun _=>by omega)
   ·rw[berr_succ,partE_succ,hF];rfl
   ·rw[cntT_succ,hF];rfl
   ·rw[btwC_succ,hF];rfl
  | false=>
  cases q7:isB x [33] 0 with
  | true=>
   have hn0:x.len=0:=by have:=isB_len q7;omega
   have hd:isB x [46] 2=false:=by
    cases h:isB x [46] 2 with
    | false=>rfl
    | true=>have h1:=isB_len h;omega
   have hd2:isB x [123,125] 1=false:=by
    cases h:isB x [123,125] 1 with
    | false=>rfl
    | true=>have h1:=isB_len h;omega
   have hF:formB x=7:=by simp[formB,e1,e2,q1,q2,q3,q4,q5,q6,q7,hd,hd2]
   obtain rfl:=kids_nil hwl hn0;refine btw_fit (btw_cut (x:=x) hT hns hl hs hr k1 k2 q1 q2 q3 q4 q5 q6 q7) ?_ ?_ (fun _=>?_) (fun _=>by omega)
   ·rw[berr_succ,partE_succ,hF];rfl
   ·rw[cntT_succ,hF];rfl
   ·have hnd:=leaf_nd q7 hk.1
    rw[btwC_succ,hF,code_succ,hnd];rfl
  | false=>
  cases q8:isB x [123,125] 1 with
  | true=>
   have hx1:x.len=1:=by have:=isB_len q8;omega
   have hd:isB x [46] 2=false:=by
    cases h:isB x [46] 2 with
    | false=>rfl
    | true=>have h1:=isB_len h;omega
   have hF:formB x=6:=by simp[formB,e1,e2,q1,q2,q3,q4,q5,q6,q8,hd]
   obtain⟨a,Bk,off,rfl,ha,hB,hca,hTa⟩:=one hx1;cases hb:bodyC a with
   | none=>
    refine btw_fit (btw_braces_no (x:=x) (D:=D) (s:=s) ha hx1 hB hca hTa (hk.2 a (by simp)) hb hT hns hl k1 k2 q1 q2 q3 q4 q5 q6 q7 q8) ?_ ?_ (fun h=>absurd h (by decide)) (fun h=>absurd h (by decide))
    ·rw[berr_succ,partE_succ,hF];simp[hb]
    ·rw[cntT_succ,hF];rfl
   | some cb=>
    refine btw_fit (btw_braces (x:=x) ha hx1 hB hca hTa (hk.2 a (by simp)) hb hT hns hl hs hr k1 k2 q1 q2 q3 q4 q5 q6 q7 q8) ?_ ?_ (fun _=>?_) (fun _=>by omega)
    ·rw[berr_succ,partE_succ,hF];simp[hb]
    ·rw[cntT_succ,hF];rfl
    ·rw[btwC_succ,hF]
     show _=(4,0,[44],2)::((bodyC a).getD []++eqC s r)
     rw[hb];rfl
  | false=>
  cases q9:isB x [46] 2 with
  | true=>
   have hF:formB x=5:=by simp[formB,e1,e2,q1,q2,q3,q4,q5,q9]
   have hwhy:=why_list (n:=n+1) ((x,kids):TV×List (Tm n)) hwl;cases hL:listT (n:=n+1) ((x,kids):TV×List (Tm n)) with
   | true=>
    have hel:=ents_len (n:=n+1) ((x,kids):TV×List (Tm n));refine btw_fit (btw_list (x:=x) ok (by omega) (hwhy.1 hL) hT hns hl hs hr k1 k2 q1 q2 q3 q4 q5 q6 q7 q8 q9) ?_ ?_ (fun _=>?_) (fun _=>by omega)
    ·rw[berr_succ,partE_succ,hF,hL];rfl
    ·rw[cntT_succ,hF];rfl
    ·rw[btwC_succ,hF,end_list _ hwl ok];rfl
   | false=>
    have hq:(whyS (n:=n+1) ((x,kids):TV×List (Tm n))).toList.isEmpty=false:=by rcases hwhy.2 hL with h | h <;> rw[h] <;> decide +kernel
    refine btw_fit (btw_list_no (x:=x) (D:=D) (s:=s) ok hq rfl hT hns hl k1 k2 q1 q2 q3 q4 q5 q6 q7 q8 q9) ?_ ?_ (fun h=>absurd h (by decide)) (fun h=>absurd h (by decide))
    ·rw[berr_succ,partE_succ,hF,hL];rfl
    ·rw[cntT_succ,hF];rfl
  | false=>
  by_cases hc:x.s.toList=[99,97,108,108]
  ·by_cases h0:0<x.len
   ·have hF:formB x=8:=by simp[formB,e1,e2,q1,q2,q3,q4,q5,q6,q7,q8,q9,show x.s.toList=callL from hc,h0]
    by_cases h8:kids.length+2≤8
    ·refine btw_fit (btw_call (x:=x) hc h0 h8 hT hns hs hr k1 k2 q1 q2 q3 q4 q5 q6 q7 q8 q9) ?_ ?_ (fun _=>?_) (fun _=>by omega)
     ·rw[berr_succ,partE_succ,hF];simp;omega
     ·rw[cntT_succ,hF];rfl
     ·rw[btwC_succ,hF,hxl,show x.s.toList=callL from hc];rfl
    ·refine btw_fit (btw_call_large (x:=x) (D:=D) (s:=s) hc h0 (by omega) hT hns hl k1 k2 q1 q2 q3 q4 q5 q6 q7 q8 q9) ?_ ?_ (fun h=>absurd h (by decide)) (fun h=>absurd h (by decide))
     ·rw[berr_succ,partE_succ,hF];simp;omega
     ·rw[cntT_succ,hF];rfl
   ·have hF:formB x=9:=by simp[formB,e1,e2,q1,q2,q3,q4,q5,q6,q7,q8,q9,show x.s.toList=callL from hc,h0]
    have hE:berr (n:=n+1) ((x,kids):TV×List (Tm n))=if resB x.s.toList ((kids.length:Nat)+2)=true then 7 else 0:=by
     rw[berr_succ,partE_succ,hF]
     show extE x=_
     rw[ext_order,if_neg (by omega),hxl]
    cases hres:resB x.s.toList ((kids.length:Nat)+2) with
    | true=>
     refine btw_fit (btw_none_clause (x:=x) (D:=D) (s:=s) hc h0 (by omega) hT hns hm hm0 hres k1 k2 q1 q2 q3 q4 q5 q6 q7 q8 q9) ?_ ?_ (fun h=>absurd h (by decide)) (fun h=>absurd h (by decide))
     ·rw[hE,hres];rfl
     ·rw[cntT_succ,hF];rfl
    | false=>
     refine btw_fit (btw_none (x:=x) hc h0 (by omega) hT hns hs hr hm hm0 hres k1 k2 q1 q2 q3 q4 q5 q6 q7 q8 q9) ?_ ?_ (fun _=>?_) (fun _=>by omega)
     ·rw[hE,hres];rfl
     ·rw[cntT_succ,hF];rfl
     ·rw[btwC_succ,hF,hxl];rfl
  ·have hF:formB x=9:=by simp[formB,e1,e2,q1,q2,q3,q4,q5,q6,q7,q8,q9,show¬x.s.toList=callL from hc]
   have hE:berr (n:=n+1) ((x,kids):TV×List (Tm n))=if 50<kids.length+2 then 9 else if resB x.s.toList ((kids.length:Nat)+2)=true then 7 else 0:=by
    rw[berr_succ,partE_succ,hF]
    show extE x=_
    rw[ext_order,hxl]
   by_cases h50:kids.length+2≤50
   ·rw[if_neg (by omega)] at hE
    cases hres:resB x.s.toList ((kids.length:Nat)+2) with
    | true=>
     refine btw_fit (btw_clause (x:=x) (D:=D) (s:=s) hc h50 hT hns hm hm0 hres k1 k2 q1 q2 q3 q4 q5 q6 q7 q8 q9) ?_ ?_ (fun h=>absurd h (by decide)) (fun h=>absurd h (by decide))
     ·rw[hE,hres];rfl
     ·rw[cntT_succ,hF];rfl
    | false=>
     refine btw_fit (btw_other (x:=x) hc h50 hT hns hs hr hm hm0 hres k1 k2 q1 q2 q3 q4 q5 q6 q7 q8 q9) ?_ ?_ (fun _=>?_) (fun _=>by omega)
     ·rw[hE,hres];rfl
     ·rw[cntT_succ,hF];rfl
     ·rw[btwC_succ,hF,hxl];rfl
   ·refine btw_fit (btw_large (x:=x) (D:=D) (s:=s) hc (by omega) hT hns hl k1 k2 q1 q2 q3 q4 q5 q6 q7 q8 q9) ?_ ?_ (fun h=>absurd h (by decide)) (fun h=>absurd h (by decide))
    ·rw[hE,if_pos (by omega)]
    ·rw[cntT_succ,hF];rfl
/-- Variables have no Args and no name; no part has more than fifty Args. -/
def okN(x:Nd):Bool:=(!(x.1 == 1) || (x.2.2.2 == 0 && x.2.2.1 == [])) && decide (x.2.2.2≤50)
theorem okLT_code{n:Nat}(t:Tm n):okLT t=(code t).all okN:=by
 unfold okLT code;rw[List.all_map];rfl
theorem okN_of{c:List Nd}(h:c.all okM=true):c.all okN=true:=by
 rw[List.all_eq_true] at h⊢;intro x hx;have:=h x hx;obtain⟨k,N,s,l⟩:=x;simp[okM] at this;simp[okN]
 by_cases h1:k=1
 ·simp[h1] at this⊢
  obtain⟨⟨_,hs⟩,hl⟩:=this;exact⟨⟨hl,hs⟩,by omega⟩
 ·simp[h1] at this⊢
  by_cases h2:k=2
  ·simp[h2] at this;omega
  ·by_cases h3:k=3
   ·simp[h3] at this;omega
   ·simp[h2,h3] at this;omega
theorem varN(N:Int):[varNd N].all okN=true:=by simp[okN,varNd]
theorem btw_okN{n:Nat}(t:Tm n)(hw:Wl t)(ok:okT t=true)(he:berr t=0){s r:List Nd}(f:Int)(hs:s.all okN=true)(hr:r.all okN=true):(btwC t s r f).all okN=true:=
 btw_all (p:=okN) (fun l j _ h1 h2=>by simp[okN];omega) (by decide) (fun u c hwu oku hb _=>okN_of (body_fine hwu oku hb).1) (fun x _ _=>by simp[okN,varNd]) t hw ok he (okN_of (by rw[←okT_m];exact ok)) s r f hs hr (fun i _=>by simp[okN,varNd])
theorem end_len:∀{n:Nat} (t:Tm n) (r:List Nd),(endC t r).length≤(code t).length+r.length:=by
 intro n
 induction n with
 | zero=>intro t;exact Empty.elim t
 | succ n ih=>
  intro t r;obtain⟨x,kids⟩:=t;rw[endC_succ,code_succ]
  by_cases hx:isB x [46] 2=true
  ·rw[if_pos hx]
   match kids with
   | []=>simp
   | [_]=>simp
   | [u,v]=>
    have:=ih v r;simp only[List.length_cons,List.length_append,List.flatMap_cons,List.flatMap_nil,List.append_nil];omega
   | _::_::_::_=>simp
  ·rw[if_neg hx];omega
theorem mul_one_le{a X:Nat}(ha:1≤a)(hX:1≤X):a+X≤a*X+1:=by
 obtain⟨b,rfl⟩:∃b,a=b+1:=⟨a-1,by omega⟩;rw[Nat.add_mul,Nat.one_mul];have:b*1≤b*X:=Nat.mul_le_mul_left b hX;omega
theorem btw_len:∀{n:Nat} (t:Tm n),Wl t→okT t=true→berr t=0→∀(s r:List Nd) (f:Int),1≤s.length→1≤r.length→(btwC t s r f).length≤(code t).length*(s.length+r.length+9):=by
 intro n
 induction n with
 | zero=>intro t;exact Empty.elim t
 | succ n ih=>
  intro t hw ok he s r f hs hr;have hpos:=code_pos t;have hml:=mul_one_le hpos (X:=s.length+r.length+9) (by omega);have hend:=end_len t r;obtain⟨x,kids⟩:=t;have hk:=ok_kids ok;have hwk:∀z∈kids,Wl z:=hw.2;have hcode:(code (n:=n+1) ((x,kids):TV×List (Tm n))).length=1+(kids.flatMap code).length:=by rw[code_succ,List.length_cons];omega
  have kid:∀u∈kids,(formB x=2∨formB x=3∨formB x=4)→berr u=0:=fun u hu hf=>by
   rw[berr_succ,if_pos hf] at he;exact first_zero he (berr u) (List.mem_map_of_mem hu)
  rw[btwC_succ]
  by_cases f1:formB x=1
  ·rw[if_pos f1];simp only[List.length_cons,List.length_append];omega
  rw[if_neg f1]
  by_cases f2:formB x=2
  ·rw[if_pos f2]
   obtain⟨a,b,rfl⟩:=two_kids hw (form_two f2);have i1:=ih a (hwk a (by simp)) (hk.2 a (by simp)) (kid a (by simp) (.inl f2)) s [varNd f] (f+1) hs (by simp);have i2:=ih b (hwk b (by simp)) (hk.2 b (by simp)) (kid b (by simp) (.inl f2)) [varNd f] r (f+1+cntT a) (by simp) hr;have j1:(code a).length*(s.length+[varNd f].length+9)≤(code a).length*(s.length+r.length+9):=Nat.mul_le_mul_left _ (by simp;omega);have j2:(code b).length*([varNd f].length+r.length+9)≤(code b).length*(s.length+r.length+9):=Nat.mul_le_mul_left _ (by simp;omega);rw[hcode];simp only[List.flatMap_cons,List.flatMap_nil,List.append_nil,List.length_append,List.length_cons,Nat.add_mul,Nat.one_mul] at i1 i2 j1 j2⊢;omega
  rw[if_neg f2]
  by_cases f3:formB x=3
  ·rw[if_pos f3]
   obtain⟨a,b,rfl⟩:=two_kids hw (form_three f3);have i1:=ih a (hwk a (by simp)) (hk.2 a (by simp)) (kid a (by simp) (.inr (.inl f3))) s r f hs hr;have i2:=ih b (hwk b (by simp)) (hk.2 b (by simp)) (kid b (by simp) (.inr (.inl f3))) s r (f+cntT a) hs hr;rw[hcode];simp only[List.flatMap_cons,List.flatMap_nil,List.append_nil,List.length_append,List.length_cons,Nat.add_mul,Nat.one_mul] at i1 i2⊢;omega
  rw[if_neg f3]
  by_cases f4:formB x=4
  ·rw[if_pos f4]
   obtain⟨a,rfl⟩:=one_kid hw (form_four f4);have i1:=ih a (hwk a (by simp)) (hk.2 a (by simp)) (kid a (by simp) (.inr (.inr f4))) s [varNd f] (f+1) hs (by simp);have j1:(code a).length*(s.length+[varNd f].length+9)≤(code a).length*(s.length+r.length+9):=Nat.mul_le_mul_left _ (by simp;omega);rw[hcode];simp only[eqC,List.flatMap_cons,List.flatMap_nil,List.append_nil,List.length_append,List.length_cons,Nat.add_mul,Nat.one_mul] at i1 j1⊢;omega
  rw[if_neg f4]
  by_cases f5:formB x=5
  ·rw[if_pos f5]
   simp only[List.length_cons,List.length_append];omega
  rw[if_neg f5]
  by_cases f6:formB x=6
  ·rw[if_pos f6]
   match kids,hcode with
   | [],hcode=>simp only[curlC,eqC,List.length_cons,List.length_append];omega
   | [u],hcode=>
    cases hb:bodyC u with
    | none=>simp only[curlC,hb,Option.getD_none,eqC,List.length_cons,List.length_append,List.length_nil];omega
    | some c=>
     have:=(body_fine (hwk u (by simp)) (hk.2 u (by simp)) hb).2;have hx:(1+(code u).length)*9≤(1+(code u).length)*(s.length+r.length+9):=Nat.mul_le_mul_left _ (by omega)
     have hy:(s.length+r.length+9)+(code u).length*9≤(1+(code u).length)*(s.length+r.length+9):=by
      rw[Nat.add_mul,Nat.one_mul];exact Nat.add_le_add_left (Nat.mul_le_mul_left _ (by omega)) _
     rw[hcode];simp only[curlC,hb,Option.getD_some,eqC,List.length_cons,List.length_append,List.flatMap_cons,List.flatMap_nil,List.append_nil] at hy⊢;omega
   | _::_::_,hcode=>
    rcases form_six f6 with h | h
    ·have:=hw.1;simp only[Tm.tv,Tm.kids,List.length_cons] at this;omega
    ·have:=hw.1;simp only[Tm.tv,Tm.kids,List.length_cons] at this;omega
  rw[if_neg f6]
  by_cases f7:formB x=7
  ·rw[if_pos f7];simp only[eqC,List.length_cons,List.length_append];omega
  rw[if_neg f7];simp only[List.length_cons,List.length_append];omega
end Go.Proofs.YtjbdkbaacjfecaaDoor
