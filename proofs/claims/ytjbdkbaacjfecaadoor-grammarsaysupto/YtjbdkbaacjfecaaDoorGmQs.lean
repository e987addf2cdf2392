import Derived.Test.YtjbdkbaacjfecaaDoorGmLs
import Derived.Test.YtjbdkbaacjfecaaDoorVss
import Derived.Test.YtjbdkbaacjfecaaDoorFs
namespace Go.Proofs.YtjbdkbaacjfecaaDoor
set_option maxHeartbeats 1000000
set_option maxRecDepth 100000
open Go.RowKit Go.Shelf Go.Maps
def swN(f:Int)(ms:List Int)(N:Int):List Nd:=[varNd (swapR ms f N)]
/-- Variables have no Args and no name; no part has more than fifty Args. -/
def okL(x:TV):Prop:=(x.k=1→x.len=0∧x.s.toList=[])∧x.len≤50
def okLT{n:Nat}(t:Tm n):Bool:=(parts t).all fun x=>(!(x.k == 1) || (x.len == 0 && x.s.toList == [])) && decide (x.len≤50)
theorem okL_kids{n:Nat}{x:TV}{kids:List (Tm n)}(h:okLT (n:=n+1) ((x,kids):TV×List (Tm n))=true):okL x∧∀u∈kids,okLT u=true:=by
 have h':(x::kids.flatMap parts).all (fun x=>(!(x.k == 1) || (x.len == 0 && x.s.toList == [])) && decide (x.len≤50))=true:=h;rw[List.all_cons,Bool.and_eq_true] at h';refine⟨?_,fun u hu=>?_⟩
 ·have h1:=h'.1
  simp only[Bool.and_eq_true,Bool.or_eq_true,Bool.not_eq_true',beq_eq_false_iff_ne,beq_iff_eq,decide_eq_true_eq] at h1;exact⟨fun e=>h1.1.resolve_left (fun h=>h e),h1.2⟩
 ·unfold okLT
  rw[List.all_eq_true] at h'⊢;exact fun y hy=>h'.2 y (List.mem_flatMap.2 ⟨u,hu,hy⟩)
theorem gswap_old(ms:List Int)(la:Option Addr)(ll lc:Nat)(f:Int)(N:Int)(s:ByteArray)(a:Option Addr)(cap:Nat)(W:World)(hl:IsN W la ll ms)(hN:N∉ms)(hs0:s.toList=[]):
  Calls Tryd.prog 28 #[.agg #[.int .i64 1,.int .i64 N,.string s,.slice a 0 cap],.slice la ll lc,.int .i64 f] W fun e W'=> ∃x:TV,e=.returned x.val∧Below W.heap.size W W'∧HoldsS 1 (Mix 0 W.heap.size) W' x.val (swN f ms N):=by
 have hH:=Head.new W ⟨1,N,s,a,0,cap⟩;simp only at hH;have hh:=has_any ms la ll lc N _ (hl.below hH.below);rw[hasI_no hN] at hh;have hren:swN f ms N=[varNd N]:=by unfold swN swapR;rw[if_neg hN]
 rw[hren];clear hl hren hN;go_enter Tryd.func28,Tryd.ntmps28
 go_wp2_with fail
 refine hh.mono ?_;clear hh;rintro e W1 ⟨rfl,hb1⟩;have hH:=hH.next hb1;have c0:=hH.ba.c0;have c1:=hH.ba.c1;have c2:=hH.ba.c2;have c3:=hH.ba.c3;simp only at c0 c1 c2 c3;obtain⟨⟨z0,z1,z2,z3⟩,y0,y1,y2,y3⟩:=zbox_kept hH.bz;have hlt:W.heap.size+1<W1.heap.size:=hH.lt;have b6:=set4_box hH.bz (⟨1,N,s,a,0,cap⟩:TV);have w0:=b6.c0;have w1:=b6.c1;have w2:=b6.c2;have w3:=b6.c3;have hT:IsT (n:=1) (set4 W1 (W.heap.size+1) 0 ⟨1,N,s,a,0,cap⟩).heap.size (set4 W1 (W.heap.size+1) 0 ⟨1,N,s,a,0,cap⟩) ((⟨1,N,s,a,0,cap⟩,[]):TV×List (Tm 0)):=⟨rfl,⟨by simp[Tm.tv],by simp[Tm.tv],by simp⟩,by rw[←bytes_long];simp[Tm.tv,hs0],.inl rfl⟩;have hfin:=holdsS_of (S:=Mix 0 W.heap.size) hT ⟨.inl rfl,fun u hu=>by cases hu⟩;rw[code_succ] at hfin;have e:(⟨1,N,s,a,0,cap⟩:TV).nd=varNd N:=by unfold TV.nd varNd;simp[hs0]
 rw[e] at hfin;have hbf:Below W.heap.size W (set4 W1 (W.heap.size+1) 0 ⟨1,N,s,a,0,cap⟩):=set4_below hH.below (by omega) 0 _;have HF:=hide (And.intro hbf hfin);clear b6 hT hfin e hbf hH hb1;go_wp2_with fail
 exact bodyPost_ret (v:=(⟨1,N,s,a,0,cap⟩:TV).val) (by
  have e:(((W1.setCell ⟨W.heap.size+1,0,none⟩ (.int .i64 1)).setCell ⟨W.heap.size+1,1,none⟩ (.int .i64 N)).setCell ⟨W.heap.size+1,2,none⟩ (.string s)).setCell ⟨W.heap.size+1,3,none⟩ (.slice a 0 cap)=set4 W1 (W.heap.size+1) 0 ⟨1,N,s,a,0,cap⟩:=rfl;rw[e];simp[results,Tryd.results28,go_sem,TV.val,w0,w1,w2,w3]) rfl ⟨_,rfl,(uh HF).1,(uh HF).2⟩
theorem gswap_var(ms:List Int)(la:Option Addr)(ll lc:Nat)(f:Int)(N:Int)(s:ByteArray)(a:Option Addr)(len cap:Nat)(W:World)(hl:IsN W la ll ms)(hf0:0≤f)(hf1:f≤2251799813685248)(hN:N∈ms):
  Calls Tryd.prog 28 #[.agg #[.int .i64 1,.int .i64 N,.string s,.slice a len cap],.slice la ll lc,.int .i64 f] W fun e W'=> ∃x:TV,e=.returned x.val∧Below W.heap.size W W'∧HoldsS 1 (Mix 0 W.heap.size) W' x.val (swN f ms N):=by
 have hH:=Head.new W ⟨1,N,s,a,len,cap⟩;simp only at hH;have hll:=hl.1;have hl2:=hl.2.1;have hh:=has_any ms la ll lc N _ (hl.below hH.below);have hidx:hasI ms N=(ms.idxOf N:Nat):=if_pos hN;have hlt0:ms.idxOf N<ms.length:=List.idxOf_lt_length_of_mem hN;rw[hidx] at hh;have hren:swN f ms N=[varNd (f+(ms.idxOf N:Nat))]:=by unfold swN swapR;rw[if_pos hN]
 rw[hren];have hpos:¬((ms.idxOf N:Nat):Int)<0:=by omega
 have hle:((ms.idxOf N:Nat):Int)≤1152921504606846976:=by omega
 clear hl hidx hN hren hlt0 hll;generalize ms.idxOf N=p at *;go_enter Tryd.func28,Tryd.ntmps28
 go_wp2_with fail
 refine hh.mono ?_;clear hh;rintro e W1 ⟨rfl,hb1⟩;replace hH:=hH.next hb1;have hv:=v_any (f+(p:Nat)) W1;simp only[TV.val,varV] at hv;have HH:=hide hH;have HB:=hide hb1;clear hH hb1;go_wp2_with fail
 refine hv.mono ?_;clear hv;rintro e W2 ⟨rfl,hb2⟩;have hH:=(uh HH).next hb2;obtain⟨⟨z0,z1,z2,z3⟩,y0,y1,y2,y3⟩:=zbox_kept hH.bz;have hlt:W.heap.size+1<W2.heap.size:=hH.lt;have hfin:HoldsS 1 (Mix 0 W.heap.size) (set4 W2 (W.heap.size+1) 0 (varV (f+(p:Nat)))) (varV (f+(p:Nat))).val [varNd (f+(p:Nat))]:=(varV_holds (f+(p:Nat)) W.heap.size _).holdsS.mono (Nat.le_refl _) (fun b hb=>.inr hb);have hbf:Below W.heap.size W (set4 W2 (W.heap.size+1) 0 (varV (f+(p:Nat)))):=set4_below hH.below (by omega) 0 _;have HF:=hide hfin;have HBF:=hide hbf;clear hfin hbf hH hb2;go_wp2_with fail
 refine bodyPost_ret (v:=(varV (f+(p:Nat))).val) ?_ rfl ⟨_,rfl,uh HBF,uh HF⟩;simp[results,Tryd.results28,go_sem,TV.val,varV,z0,z1,z2,z3]
theorem gswap_comp(ms:List Int)(la:Option Addr)(ll lc:Nat)(f:Int)(D:Nat){d:Nat}
  (ih:∀(u:Tm d) (W:World),IsN W la ll ms→IsT W.heap.size W u→okLT u=true→Calls Tryd.prog 28 #[u.tv.val,.slice la ll lc,.int .i64 f] W fun e W'=> ∃x:TV,e=.returned x.val∧Below W.heap.size W W'∧HoldsS D (Mix 0 W.heap.size) W' x.val ((code u).flatMap (subN (swN f ms))))
  (k N:Int) (s:ByteArray) (a:Option Addr) (len cap:Nat) (kids:List (Tm d)) (W:World) (hl:IsN W la ll ms) (hk1:k≠1) (hs:s.size≤9223372036854775807) (hl50:len≤50) (hlen:len=kids.length)
  (hkids:kids=[]∨∃b off,a=some ⟨b,off,none⟩∧b<W.heap.size∧∀j u,kids[j]?=some u→cellsAt W b (off+j*4) u.tv∧IsT W.heap.size W u) (hok:∀u∈kids,okLT u=true):
  Calls Tryd.prog 28 #[.agg #[.int .i64 k,.int .i64 N,.string s,.slice a len cap],.slice la ll lc,.int .i64 f] W fun e W'=> ∃x:TV,e=.returned x.val∧Below W.heap.size W W'∧HoldsS (D+1) (Mix 0 W.heap.size) W' x.val ((k,N,s.toList,len)::(kids.flatMap code).flatMap (subN (swN f ms))):=by
 have hl1:len≤kids.length:=by omega
 have hl2:kids.length≤len:=by omega
 have hk1':(k == 1)=false:=by simp[hk1]
 clear hlen hk1;have hH:=Head.new W ⟨k,N,s,a,len,cap⟩;simp only at hH;have HI:=hide ih;have HO:=hide hok;have HL:=hide hl;clear ih hok hl;obtain⟨i0,hi,hz0,hz1,hz2⟩:=info_parts Tryd.info28;go_enter Tryd.func28,Tryd.ntmps28
 go_wp2_with fail
 obtain⟨W2,hW2⟩:∃W2,(W.alloc (.cells #[.int .i64 k,.int .i64 N,.string s,.slice a len cap] 24)).alloc (.cells #[.int .i64 0,.int .i64 0,.string ⟨#[]⟩,.slice none 0 0] 24)=W2:=⟨_,rfl⟩;have hsz2:((W.alloc (.cells #[.int .i64 k,.int .i64 N,.string s,.slice a len cap] 24)).alloc (.cells #[.int .i64 0,.int .i64 0,.string ⟨#[]⟩,.slice none 0 0] 24)).heap.size=W.heap.size+2:=by simp
 rw[hW2] at hH hsz2⊢;clear hW2;have HH:=hide hH;have HSZ:=hide hsz2;clear hH hsz2
 go_loopw [8,9] (fun av i wr=> ∃(j:Nat) (l:List TV),j≤len∧i=.int .i64 j∧l.length=j∧Below (W.heap.size+2) W2 wr∧Made D (Mix 0 (W.heap.size+2)) (W.heap.size+2) wr av l (((kids.take j).flatMap code).flatMap (subN (swN f ms)))) (fun _ i _=>len-(intOf i).toNat)
 case atStart=>exact⟨0,[],Nat.zero_le _,rfl,rfl,Below.refl _ _,Made.zero _ _ _ _⟩
 case round=>
  obtain⟨j,l,hj,rfl,hll,hb,hm⟩:=hrel;have hb':Below W2.heap.size W2 wr:=by rw[uh HSZ];exact hb
  have hH:=(uh HH).next hb';have x2:=hH.ba.c2;have x3:=hH.ba.c3;have x0:=hH.ba.c0;have x1:=hH.ba.c1;simp only at x0 x1 x2 x3;have HHr:=hide hH;have HM:=hide hm;have HLL:=hide hll;clear hH hm hll
  by_cases hlt:j<len
  ·obtain⟨u,b,off,hu,rfl,⟨c0,c1,c2,c3⟩,hT,hbk⟩:=kid_at hkids (uh HHr).below hlt hl1
   have ihu:=(uh HI) u wr ((uh HL).below (uh HHr).below) hT ((uh HO) u (List.mem_of_getElem? hu));have hcode:=code_take kids j u hu;have HC:=hide hcode;clear hT hkids hu hcode;simp only[TV.val] at ihu;have hj1:(j:Int)<len:=by omega
   go_wp2_with fail
   refine ihu.mono ?_;clear ihu;rintro e W5 ⟨x,rfl,hb5,hx⟩;dsimp only[TV.val];clear x0 x1 x2 x3 c0 c1 c2 c3
   have hown5:(W5.alloc (.cells #[.int .i64 x.k,.int .i64 x.N,.string x.s,.slice x.a x.len x.cap] 24)).ownsRow (W.heap.size+2) 24 4 u8 l.length (l.flatMap TV.row):=
    owns_below (uh HM).owns (fun g hg=>by
     have hlt:=(owns_lt (uh HM).owns hg).2;exact(Below.heap_alloc _ _ _ (Nat.lt_of_lt_of_le hlt hb5.size)).trans (hb5.block g hlt))
   go_wp2_with (at_builtin;go_must (refine wpList_append_own_at _ rfl _ _ 22 rfl (W.heap.size+2) 24 i0 _ 4 56 Tryd.underlying22 hi hz0 hz1 hz2 rfl (by decide) u8 l.length (l.flatMap TV.row) rfl hown5 ⟨W5.heap.size,0,none⟩ 1 1 x.row rfl rfl new_cells row_one (by have:=uh HLL;unfold maxLen;omega) (by have:=uh HLL;omega) (by have:=hb5.size;have:=hb'.size;have:=uh HSZ;simp;omega) ?_;intro v' w1 hown' hgrow hnil hbk))
   have hgl:∀g,u8.ownBlock=some g→W.heap.size+2≤g∧g<wr.heap.size:=fun g hg=>owns_lt (uh HM).owns hg;have hwr:W.heap.size+2≤wr.heap.size:=by have:=hb'.size;have:=uh HSZ;omega
   have hmade:=(uh HM).next hb5 (hx.mono (Nat.le_refl _) (fun b hb=>⟨by unfold Mix at hb⊢;omega,fun e=>by have:=hgl b e;unfold Mix at hb;omega⟩)) hown' hgrow (by simpa using hbk);rw[←List.flatMap_append,←uh HC] at hmade;have hbel:Below (W.heap.size+2) W2 w1:=((hb.trans (hb5.mono hwr)).alloc (Nat.le_trans hwr hb5.size) _).grown hgrow (by have:=hb5.size;simp;omega) (fun g hg=>(hgl g hg).1);exact⟨⟨j+1,l++[x],by omega,by go_num,by simp[uh HLL],hbel,hmade⟩,by simp[intOf];omega⟩
  ·have hjl:j=len:=by omega
   have ht:kids.take j=kids:=List.take_of_length_le (by omega);have hm:=uh HM;rw[ht] at hm;obtain⟨a',cap',rfl,hfin⟩:=args_end (k:=k) (N:=N) (s:=s) (len:=len) (by rw[uh HLL,hjl]) hl50 hs (uh HHr).below (Nat.zero_le _) hm;obtain⟨⟨z0,z1,z2,z3⟩,y0,y1,y2,y3⟩:=zbox_kept (uh HHr).bz;have f3:wr.frozen? ⟨W.heap.size,3,none⟩=false:=by simp[World.frozen?,show wr.heap[W.heap.size]?=_ from(uh HHr).ba]
   obtain⟨f1,f2⟩:=hfin;have F1:=hide f1;have F2:=hide f2;have hlt':¬(j:Int)<(len:Int):=by omega
   clear f1 f2 hm ht hkids hjl;go_wp2_with fail
   refine bodyPost_ret (v:=(⟨k,N,s,a',len,cap'⟩:TV).val) ?_ rfl ⟨_,rfl,uh F1,uh F2⟩;simp[results,Tryd.results28,go_sem,TV.val,z0,z1,z2,z3]
theorem gswap_any(ms:List Int)(la:Option Addr)(ll lc:Nat)(f:Int)(hf0:0≤f)(hf1:f≤2251799813685248):∀(d:Nat) (t:Tm d) (W:World),IsN W la ll ms→IsT W.heap.size W t→okLT t=true→
  Calls Tryd.prog 28 #[t.tv.val,.slice la ll lc,.int .i64 f] W fun e W'=> ∃x:TV,e=.returned x.val∧Below W.heap.size W W'∧HoldsS (d+1) (Mix 0 W.heap.size) W' x.val ((code t).flatMap (subN (swN f ms))):=by
 intro d
 induction d with
 | zero=>intro t;exact Empty.elim t
 | succ d ih=>
  intro t W hl hT hok;obtain⟨⟨k,N,s,a,len,cap⟩,kids⟩:=t;obtain⟨hwm,hk⟩:=okL_kids hok;obtain⟨h1,h2,h3,h4⟩:=hT;simp only[Tm.tv,Tm.kids] at h1 h2 h3 h4 hwm;rw[code_succ];rw[List.flatMap_cons]
  by_cases hk1:k=1
  ·subst hk1
   obtain⟨hl0,hs0⟩:=hwm.1 rfl;simp only at hl0 hs0;subst hl0;have hnil:kids=[]:=List.length_eq_zero_iff.1 h1.symm;subst hnil
   by_cases hN:N∈ms
   ·refine(gswap_var ms la ll lc f N s a 0 cap W hl hf0 hf1 hN).mono fun e W' h=>?_
    obtain⟨x,he,hb',hv⟩:=h;exact⟨x,he,hb',by simpa[subN,TV.nd] using hv.mono (by omega) (fun _ h=>h)⟩
   ·refine(gswap_old ms la ll lc f N s a cap W hl hN hs0).mono fun e W' h=>?_
    obtain⟨x,he,hb',hv⟩:=h;exact⟨x,he,hb',by simpa[subN,TV.nd] using hv.mono (by omega) (fun _ h=>h)⟩
  ·have hl50:len≤50:=hwm.2
   refine(gswap_comp ms la ll lc f (d+1) ih k N s a len cap kids W hl hk1 h3 hl50 h1 h4 hk).mono fun e W' h=>?_;obtain⟨x,he,hb',hv⟩:=h;exact⟨x,he,hb',by simpa[subN,TV.nd,hk1] using hv.mono (by omega) (fun _ h=>h)⟩
set_option maxHeartbeats 1000000
set_option maxRecDepth 100000
/-- 1 more than the greatest of variables. -/
def behC(l:List Int):Int:=l.foldl (fun n N=>max n (N+1)) 0
theorem beh_take{l:List Int}{j:Nat}{N:Int}(h:l[j]?=some N):behC (l.take (j+1))=max (behC (l.take j)) (N+1):=by
 unfold behC;rw[List.take_add_one,h,List.foldl_append];rfl
theorem beh_lt:∀(l:List Int) (N:Int),N∈l→N<behC l:=by
 intro l;unfold behC
 have key:∀(l:List Int) (a:Int),a≤l.foldl (fun n N=>max n (N+1)) a∧∀N∈l,N<l.foldl (fun n N=>max n (N+1)) a:=by
  intro l
  induction l with
  | nil=>intro a;exact⟨Int.le_refl _,fun N h=>by cases h⟩
  | cons b l ih=>
   intro a;obtain⟨h1,h2⟩:=ih (max a (b+1));refine⟨by rw[List.foldl_cons];omega,fun N hN=>?_⟩;rw[List.foldl_cons]
   rcases List.mem_cons.1 hN with rfl | hN
   ·omega
   ·exact h2 N hN
 exact(key l 0).2
theorem beh_le{l:List Int}{a:Int}(ha:0≤a)(h:∀N∈l,N+1≤a):0≤behC l∧behC l≤a:=by
 unfold behC
 have key:∀(l:List Int) (b:Int),0≤b→b≤a→(∀N∈l,N+1≤a)→0≤l.foldl (fun n N=>max n (N+1)) b∧l.foldl (fun n N=>max n (N+1)) b≤a:=by
  intro l
  induction l with
  | nil=>intro b h0 h1 _;exact⟨h0,h1⟩
  | cons c l ih=>
   intro b h0 h1 h2;rw[List.foldl_cons];exact ih _ (by omega) (by have:=h2 c (by simp);omega) (fun N hN=>h2 N (by simp[hN]))
 exact key l 0 (Int.le_refl _) ha h
theorem rbehind_any(ns:List Int)(a:Option Addr)(len cap:Nat)(w:World)(hn:IsN w a len ns)(h0:∀N∈ns,0≤N∧N≤2251799813685248):
  Calls Tryd.prog 22 #[.slice a len cap] w fun e W'=>e=.returned (.int .i64 (behC ns))∧Below w.heap.size w W':=by
 have h1:=hn.1;have h2:=hn.2.1;have hl1:len≤ns.length:=by omega
 have hl2:ns.length≤len:=by omega
 clear h1;have HN:=hide hn;have HQ:=hide h0;clear hn h0;go_enter Tryd.func22,Tryd.ntmps22
 go_wp2_with fail
 go_loop [3,4] (fun n i=> ∃j:Nat,j≤len∧i=.int .i64 j∧n=.int .i64 (behC (ns.take j))) (fun _ i=>len-(intOf i).toNat)
 case atStart=>exact⟨0,Nat.zero_le _,rfl,rfl⟩
 case round=>
  obtain⟨j,hj,rfl,rfl⟩:=hrel
  by_cases hlt:j<len
  ·obtain⟨M,b,off,hM,rfl,c0⟩:=num_at (uh HN) hlt
   have hM2:=(uh HQ) M (List.mem_of_getElem? hM);have HB:=hide (beh_take hM);have hb:=beh_le (l:=ns.take j) (a:=2251799813685249) (by omega) (fun N hN=>by have:=((uh HQ) N (List.mem_of_mem_take hN)).2;omega);have hj1:(j:Int)<len:=by omega
   clear hM;generalize behC (ns.take j)=p at *;go_wp2_with fail
   go_round
   case rel=>exact⟨j+1,by omega,by go_num,by rw[uh HB]⟩
   case measure=>simp[intOf];omega
  ·have ht:ns.take j=ns:=List.take_of_length_le (by omega)
   have hj1:¬(j:Int)<len:=by omega
   rw[ht];clear ht;go_wp2_with fail
   all_goals go_ret
   all_goals exact⟨rfl,Below.refl _ _⟩
set_option maxHeartbeats 2000000
set_option maxRecDepth 100000
theorem okLT_of{n:Nat}{t:Tm n}(h:okT t=true):okLT t=true:=by
 unfold okT at h;unfold okLT;rw[List.all_eq_true] at h⊢;intro x hx;have hx':wmB x.k x.N x.s x.len=true:=h x hx;have h2:x.len≤50:=by rcases wm_cases hx' with⟨_,_,_,_,h⟩ | ⟨_,h⟩ | ⟨_,_,_,h⟩ <;> omega
 by_cases hk:x.k=1
 ·rcases wm_cases hx' with⟨_,_,_,hs,hl⟩ | ⟨h,_⟩ | ⟨h,_⟩
  ·simp[hs,hl]
  ·omega
  ·omega
 ·simp[hk,h2]
theorem gvars_var(base:Nat)(v:Value)(ns:List Int)(N:Int)(s:ByteArray)(a:Option Addr)(len cap:Nat)(w:World)(hown:OwnN base w v ns)(hbase:base≤w.heap.size)(hl:ns.length≤4398046511104)(hN:N∉ns):
  Calls Tryd.prog 40 #[.agg #[.int .i64 1,.int .i64 N,.string s,.slice a len cap],v] w fun e W'=> ∃v',e=.returned v'∧GrownN base v w v' (ns++[N]) W':=by
 obtain⟨va,vc,rfl,hisN⟩:=hown.isN (by omega);have hB1:=(Below.refl _ w).alloc (Nat.le_refl _) (.cells #[.int .i64 1,.int .i64 N,.string s,.slice a len cap] 24);have hh:=has_any ns va ns.length vc N _ (hisN.below hB1);have hneg:hasI ns N<0:=hasI_neg.2 hN;generalize hasI ns N=r at hh hneg;have hown1:OwnN base (w.alloc (.cells #[.int .i64 1,.int .i64 N,.string s,.slice a len cap] 24)) (.slice va ns.length vc) ns:=hown.kept (fun g hg=>hB1.block g (hown.lt hg).2);have hlt0:∀g,(Value.slice va ns.length vc).ownBlock=some g→base≤g∧g<w.heap.size:=fun g hg=>hown.lt hg;have HO:=hide hown1;have HLT:=hide hlt0;clear hisN hown hown1 hlt0 hN;obtain⟨i0,hi,hz0,hz1,hz2⟩:=info_parts Tryd.infoN;go_enter Tryd.func40,Tryd.ntmps40
 go_wp2_with fail
 refine hh.mono ?_;clear hh;rintro e W2 ⟨rfl,hb2⟩;have hbx:BoxT W2 w.heap.size ⟨1,N,s,a,len,cap⟩:=(hb2.block w.heap.size (by simp)).trans (BoxT.new w ⟨1,N,s,a,len,cap⟩);have x0:=hbx.c0;have x1:=hbx.c1;have x2:=hbx.c2;have x3:=hbx.c3;simp only at x0 x1 x2 x3;have hbw:Below w.heap.size w W2:=hB1.trans (hb2.mono hB1.size);have hneg':decide (r<0)=true:=by simpa using hneg
 have hown2:(W2.alloc (.cells #[.int .i64 N] 2)).ownsRow base 2 1 (.slice va ns.length vc) ns.length (i64s ns):=(uh HO).kept (fun g hg=>by
  have h1:=((uh HLT) g hg).2;exact(Below.heap_alloc _ _ _ (Nat.lt_of_lt_of_le h1 hbw.size)).trans (hb2.block g (by simp;omega)))
 have HBW:=hide hbw;have HB2:=hide hb2;have HB1:=hide hB1;clear hbx hbw hb2 hB1 HO;go_wp2_with (at_builtin;go_must (refine wpList_append_own_at _ rfl _ _ 47 rfl base 2 i0 _ 1 8 Tryd.underlying47 hi hz0 hz1 hz2 rfl (by decide) (.slice va ns.length vc) ns.length (i64s ns) rfl hown2 ⟨W2.heap.size,0,none⟩ 1 1 [.int .i64 N] rfl rfl one_new one_one (by unfold maxLen;omega) (by omega) (by have:=(uh HBW).size;simp;omega) ?_;intro v' w1 hown' hgrow hnil hbk))
 have hbw:=uh HBW;have hws:=hbw.size
 have hg1:GrB (fun k=>(Value.slice va ns.length vc).ownBlock=some k) w.heap.size w w1:=by
  refine(GrB.of_below hbw).trans ⟨hgrow.os,hgrow.tape,hgrow.output,?_,fun k hk hne=>?_⟩
  ·have:=hgrow.size;simp at this;omega
  ·rw[hgrow.block k (by simp;omega) (fun e=>hne e.symm)]
   exact Below.heap_alloc _ _ _ (by omega)
 have hfin:GrownN base (.slice va ns.length vc) w v' (ns++[N]) w1:=by
  refine⟨?_,hg1,?_⟩
  ·unfold OwnN
   rw[List.length_append];have:i64s (ns++[N])=i64s ns++[.int .i64 N]:=by simp[i64s]
   rw[this];exact hown'
  ·rcases hbk with e | e
   ·exact .inl e
   ·refine .inr fun g hg=>?_
    rw[e] at hg;simp at hg;omega
 exact bodyPost_ret (v:=v') (by simp[results,Tryd.results40,go_sem]) rfl ⟨_,rfl,hfin⟩
theorem gvars_old(base:Nat)(v:Value)(ns:List Int)(N:Int)(s:ByteArray)(a:Option Addr)(cap:Nat)(w:World)(hown:OwnN base w v ns)(hl:ns.length≤4398046511104)(hN:N∈ns):
  Calls Tryd.prog 40 #[.agg #[.int .i64 1,.int .i64 N,.string s,.slice a 0 cap],v] w fun e W'=> ∃v',e=.returned v'∧GrownN base v w v' ns W':=by
 obtain⟨va,vc,rfl,hisN⟩:=hown.isN (by omega);have hB1:=(Below.refl _ w).alloc (Nat.le_refl _) (.cells #[.int .i64 1,.int .i64 N,.string s,.slice a 0 cap] 24);have hh:=has_any ns va ns.length vc N _ (hisN.below hB1);have hneg:¬hasI ns N<0:=fun h=>(hasI_neg.1 h) hN;generalize hasI ns N=r at hh hneg;have hown1:OwnN base (w.alloc (.cells #[.int .i64 1,.int .i64 N,.string s,.slice a 0 cap] 24)) (.slice va ns.length vc) ns:=hown.kept (fun g hg=>hB1.block g (hown.lt hg).2);have hlt0:∀g,(Value.slice va ns.length vc).ownBlock=some g→base≤g∧g<w.heap.size:=fun g hg=>hown.lt hg;have HO:=hide hown1;have HLT:=hide hlt0;clear hisN hown hown1 hlt0 hN;obtain⟨i0,hi,hz0,hz1,hz2⟩:=info_parts Tryd.infoN;go_enter Tryd.func40,Tryd.ntmps40
 go_wp2_with fail
 refine hh.mono ?_;clear hh;rintro e W2 ⟨rfl,hb2⟩;have hbx:BoxT W2 w.heap.size ⟨1,N,s,a,0,cap⟩:=(hb2.block w.heap.size (by simp)).trans (BoxT.new w ⟨1,N,s,a,0,cap⟩);have x0:=hbx.c0;have x1:=hbx.c1;have x2:=hbx.c2;have x3:=hbx.c3;simp only at x0 x1 x2 x3;have hbw:Below w.heap.size w W2:=hB1.trans (hb2.mono hB1.size);have hneg':decide (r<0)=false:=by simpa using hneg
 have hfin:GrownN base (.slice va ns.length vc) w (.slice va ns.length vc) ns W2:=⟨(uh HO).kept (fun g hg=>hb2.block g (by have:=((uh HLT) g hg).2;simp;omega)),GrB.of_below hbw,.inl rfl⟩;have HF:=hide hfin;clear hbx hbw hb2 hB1 HO hfin;go_wp2_with fail
 refine wp_loop_rounds 1 ?_;rw[rounds_succ];go_wp2_with fail
 refine bodyPost_ret ?_ rfl ⟨_,rfl,uh HF⟩;simp[results,Tryd.results40,go_sem]
theorem gvars_any(base n₀:Nat)(hn₀:n₀≤base):∀(n:Nat) (t:Tm n) (v:Value) (ns:List Int) (w:World),IsT n₀ w t→okLT t=true→OwnN base w v ns→base≤w.heap.size→ns.length+(code t).length≤4398046511104→
  Calls Tryd.prog 40 #[t.tv.val,v] w fun e W'=> ∃v',e=.returned v'∧GrownN base v w v' (varsC ns (code t)) W':=by
 intro n
 induction n with
 | zero=>intro t;exact Empty.elim t
 | succ n ih=>
  intro t v ns w hT hok hown hbase hl;obtain⟨⟨k,N,s,a,len,cap⟩,kids⟩:=t;obtain⟨hwm,hk⟩:=okL_kids hok;obtain⟨hlen,hmax,hsm,hkids⟩:=hT;simp only[Tm.tv,Tm.kids] at hlen hmax hsm hkids hwm;rw[code_succ] at hl⊢;have hlk:ns.length+(kids.flatMap code).length+1≤4398046511104:=by simp only[List.length_cons] at hl;omega
  have est:varsC ns (TV.nd ⟨k,N,s,a,len,cap⟩::kids.flatMap code)=varsC (if k=1 then stpN ns N else ns) (kids.flatMap code):=rfl;rw[est];clear est
  by_cases hk1:k=1
  ·subst hk1
   have hl0:len=0:=(hwm.1 rfl).1;have hk0:kids=[]:=List.length_eq_zero_iff.1 (by omega);subst hk0;subst hl0;rw[if_pos rfl]
   by_cases hN:N∈ns
   ·have e2:varsC (stpN ns N) (([]:List (Tm n)).flatMap code)=ns:=by unfold stpN;rw[if_pos hN];rfl
    rw[e2];exact gvars_old base v ns N s a cap w hown (by omega) hN
   ·have e2:varsC (stpN ns N) (([]:List (Tm n)).flatMap code)=ns++[N]:=by unfold stpN;rw[if_neg hN];rfl
    rw[e2];exact gvars_var base v ns N s a 0 cap w hown hbase (by omega) hN
  ·rw[if_neg hk1]
   have hk1':(k == 1)=false:=by simp[hk1]
   simp only[Tm.tv,TV.val];have hl1:len≤kids.length:=by omega
   have hl2:kids.length≤len:=by omega
   have HI:=hide ih;have HO:=hide hk;have HOW:=hide hown;have hB1:=(Below.refl _ w).alloc (Nat.le_refl _) (.cells #[.int .i64 k,.int .i64 N,.string s,.slice a len cap] 24);have hown1:OwnN base (w.alloc (.cells #[.int .i64 k,.int .i64 N,.string s,.slice a len cap] 24)) v ns:=hown.kept (fun g hg=>hB1.block g (hown.lt hg).2);have hbx:=BoxT.new w ⟨k,N,s,a,len,cap⟩;obtain⟨va,vc,rfl⟩:=hown.slice;clear ih hk hown hok hlen hwm hl hk1;go_enter Tryd.func40,Tryd.ntmps40
   go_wp2_with fail
   obtain⟨W1,hW1⟩:∃W1,w.alloc (.cells #[.int .i64 k,.int .i64 N,.string s,.slice a len cap] 24)=W1:=⟨_,rfl⟩;have hsz:(w.alloc (.cells #[.int .i64 k,.int .i64 N,.string s,.slice a len cap] 24)).heap.size=w.heap.size+1:=by simp
   rw[hW1] at hB1 hown1 hbx hsz⊢;clear hW1;have HB1:=hide hB1;have HOW1:=hide hown1;have HBX:=hide hbx;have HSZ:=hide hsz;clear hB1 hown1 hbx hsz
   go_loopw [1,5] (fun ov i wr=> ∃j:Nat,j≤len∧i=.int .i64 j∧GrownN base (.slice va ns.length vc) W1 ov (varsC ns ((kids.take j).flatMap code)) wr) (fun _ i _=>len-(intOf i).toNat)
   case atStart=>exact⟨0,Nat.zero_le _,rfl,GrownN.refl (uh HOW1)⟩
   case round=>
    obtain⟨j,hj,rfl,hg⟩:=hrel;have hsz:=uh HSZ;have hgs:=hg.grb.size
    have hnb:∀b,b<base∨b=w.heap.size→¬(Value.slice va ns.length vc).ownBlock=some b:=fun b hb e=>by
     have:=(uh HOW).lt e;omega
    have hbr:BoxT wr w.heap.size ⟨k,N,s,a,len,cap⟩:=(hg.grb.block w.heap.size (by omega) (hnb _ (.inr rfl))).trans (uh HBX);have x3:=hbr.c3;simp only at x3;have hbw:Below n₀ w wr:=((uh HB1).mono (by omega)).trans (hg.grb.below (n₀:=n₀) (fun b e=>by have:=(uh HOW).lt e;omega) (by omega));have HG:=hide hg;clear hg hbr
    by_cases hlt:j<len
    ·obtain⟨u,b,off,hu,rfl,⟨c0,c1,c2,c3⟩,hT,hbk⟩:=kid_below hkids hbw hlt hl1
     have hpre:((kids.take j).flatMap code).length+(code u).length≤(kids.flatMap code).length:=by
      have h1:kids.flatMap code=(kids.take (j+1)).flatMap code++(kids.drop (j+1)).flatMap code:=by rw[←List.flatMap_append,List.take_append_drop]
      rw[h1,code_take kids j u hu];simp only[List.length_append];omega
     have hvl:=varsC_len ns ((kids.take j).flatMap code);have ihu:=(uh HI) u u1 _ wr hT ((uh HO) u (List.mem_of_getElem? hu)) (uh HG).own (by omega) (by omega);have hcode:=code_take kids j u hu;have HC:=hide hcode;clear hT hkids hu hcode;obtain⟨ua,uc,rfl⟩:=(uh HG).own.slice;simp only[TV.val] at ihu;have hj1:(j:Int)<len:=by omega
     go_wp2_with fail
     refine ihu.mono ?_;clear ihu;rintro e W5 ⟨v5,rfl,hg5⟩;have hnew:=(uh HG).trans hg5;rw[show varsC (varsC ns ((kids.take j).flatMap code)) (code u)=varsC ns ((kids.take (j+1)).flatMap code) by rw[uh HC];exact(stepsN_append _ _ _ _).symm] at hnew;have HN:=hide hnew;obtain⟨wa,wc,rfl⟩:=hg5.own.slice;clear hg5 hnew;go_wp2_with fail
     exact⟨⟨j+1,by omega,by go_num,uh HN⟩,by simp[intOf];omega⟩
    ·have ht:kids.take j=kids:=List.take_of_length_le (by omega)
     have hm:=uh HG;rw[ht] at hm
     have hfin:GrownN base (.slice va ns.length vc) w u1 (varsC ns (kids.flatMap code)) wr:=by
      refine⟨hm.own,(GrB.of_below (uh HB1)).trans (hm.grb.mono (by omega)),?_⟩
      rcases hm.blk with e | e
      ·exact .inl e
      ·exact .inr fun g hg=>by have:=e g hg;omega
     have HF:=hide hfin;obtain⟨ua,uc,rfl⟩:=(uh HG).own.slice;clear hm ht hkids hfin;go_wp2_with fail
     refine bodyPost_ret ?_ rfl ⟨_,rfl,uh HF⟩;simp[results,Tryd.results40,go_sem]
theorem vars_two(acc:List Int)(c d:List Nd):varsC acc (c++d)=varsC (varsC acc c) d:=by
 show stepsN stpN acc (c++d)=stepsN stpN (stepsN stpN acc c) d
 unfold stepsN;rw[List.foldl_append]
theorem gVars_row{n:Nat}(ts:List (Tm n))(a:Option Addr)(len cap:Nat)(w:World)(hlen:len=ts.length)(hmax:len≤9223372036854775807)(hok:∀u∈ts,okLT u=true)(hl:(ts.flatMap code).length≤4398046511104)
  (hts:ts=[]∨∃b off,a=some ⟨b,off,none⟩∧b<w.heap.size∧∀j u,ts[j]?=some u→cellsAt w b (off+j*4) u.tv∧IsT w.heap.size w u):
  Calls Tryd.prog 23 #[.slice a len cap] w fun e W'=> ∃v,e=.returned v∧Below w.heap.size w W'∧OwnN w.heap.size W' v (varsC [] (ts.flatMap code)):=by
 have hl1:len≤ts.length:=by omega
 have hl2:ts.length≤len:=by omega
 have HOK:=hide (And.intro hok hl);clear hlen hok hl;go_enter Tryd.func23,Tryd.ntmps23
 go_wp2_with fail
 go_loopw [3,4] (fun v i wr=> ∃j:Nat,j≤len∧i=.int .i64 j∧Hid (OwnN w.heap.size wr v (varsC [] ((ts.take j).flatMap code)))∧Below w.heap.size w wr) (fun _ i _=>len-(intOf i).toNat)
 case atStart=>exact⟨0,Nat.zero_le _,rfl,hide (OwnN.nil _ _),Below.refl _ _⟩
 case round=>
  obtain⟨j,hj,rfl,HO,hb⟩:=hrel
  by_cases hlt:j<len
  ·obtain⟨u,b,off,hu,rfl,⟨c0,c1,c2,c3⟩,hT,hbk⟩:=kid_at hts hb hlt hl1
   have hTw:IsT w.heap.size wr u:=by
    rcases hts with h | ⟨b',off',_,_,hk⟩
    ·rw[h] at hu;simp at hu
    ·exact(hk j u hu).2.below hb
   obtain⟨va,vc,rfl⟩:=(uh HO).slice;have e2:(ts.take (j+1)).flatMap code=(ts.take j).flatMap code++code u:=by rw[List.take_add_one,hu,List.flatMap_append];simp
   have hle:((ts.take j).flatMap code++code u).length≤4398046511104:=by
    rw[←e2];refine Nat.le_trans ?_ (uh HOK).2
    conv=>rhs;rw[←List.take_append_drop (j+1) ts,List.flatMap_append,List.length_append]
    omega
   have hv:=gvars_any w.heap.size w.heap.size (Nat.le_refl _) n u _ _ wr hTw ((uh HOK).1 u (List.mem_of_getElem? hu)) (uh HO) hb.size (by
    have:=varsC_len [] ((ts.take j).flatMap code);rw[List.length_append] at hle;rw[List.length_nil,Nat.zero_add] at this;omega)
   have HV:=hide hv;have HE:=hide e2;have hj1:(j:Int)<len:=by omega
   have hown:=hide (uh HO);clear hv e2 hle hT hTw hts hu HO;simp only[TV.val] at HV;go_wp2_with fail
   refine(uh HV).mono ?_;rintro e W1 ⟨v',rfl,hg⟩;have hfin:OwnN w.heap.size W1 v' (varsC [] ((ts.take (j+1)).flatMap code)):=by rw[uh HE,vars_two];exact hg.own
   have hbf:Below w.heap.size w W1:=hb.trans (hg.grb.below (n₀:=w.heap.size) (fun k e=>((uh hown).lt e).1) hb.size);have HF:=hide (And.intro hfin hbf);clear hfin hbf hg HV;go_wp2_with fail
   go_roundw
   case rel=>exact⟨j+1,by omega,by go_num,hide (uh HF).1,(uh HF).2⟩
   case measure=>simp[intOf];omega
  ·have ht:ts.take j=ts:=List.take_of_length_le (by omega)
   have hj1:¬(j:Int)<len:=by omega
   rw[ht] at HO;obtain⟨va,vc,rfl⟩:=(uh HO).slice;clear ht hts;go_wp2_with fail
   refine bodyPost_ret ?_ rfl ⟨_,rfl,hb,uh HO⟩;simp[results,Tryd.results23,go_sem]
end Go.Proofs.YtjbdkbaacjfecaaDoor
