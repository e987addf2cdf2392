import Derived.Test.YtjbdkbaacjfecaaDoorBbDs
import Derived.Test.YtjbdkbaacjfecaaDoorBaDs
import Derived.Test.YtjbdkbaacjfecaaDoorBbC
import Derived.Maps.AppendAt
import Derived.Test.YtjbdkbaacjfecaaDoorFs
namespace Go.Proofs.YtjbdkbaacjfecaaDoor
set_option maxHeartbeats 4000000
set_option maxRecDepth 100000
open Go.RowKit Go.Shelf
theorem gis_any(x:TV)(s:ByteArray)(n:Int)(w:World):Calls Tryd.prog 12 #[x.val,.string s,.int .i64 n] w fun e W'=>e=.returned (.bool (isB x s.toList n))∧Below w.heap.size w W':=by
 obtain⟨k,N,xs,a,len,cap⟩:=x;simp only[TV.val]
 by_cases h3:k=3
 ·subst h3
  go_enter Tryd.func12,Tryd.ntmps12
  go_wp2
  all_goals go_ret
  all_goals refine⟨?_,(Below.refl _ w).alloc (Nat.le_refl _) _⟩
  all_goals simp_all [isB]
 ·have h3':(k == 3)=false:=by simp[h3]
  by_cases h4:k=4
  ·subst h4
   go_enter Tryd.func12,Tryd.ntmps12
   go_wp2
   all_goals go_ret
   all_goals refine⟨?_,(Below.refl _ w).alloc (Nat.le_refl _) _⟩
   all_goals simp_all [isB]
  ·have h4':(k == 4)=false:=by simp[h4]
   have HV:Hid (isB ⟨k,N,xs,a,len,cap⟩ s.toList n=false):=by show isB _ _ _=_;simp[isB,h3,h4]
   clear h3 h4;go_enter Tryd.func12,Tryd.ntmps12
   go_wp2
   all_goals go_ret
   all_goals exact⟨by rw[HV.out];rfl,(Below.refl _ w).alloc (Nat.le_refl _) _⟩
theorem bytes_ext{s t:ByteArray}(h:s.toList=t.toList):s=t:=by
 rw[ByteArray.toList_eq,ByteArray.toList_eq] at h;exact ByteArray.ext (Array.toList_inj.1 h)
theorem l44:(⟨#[44]⟩:ByteArray).toList=[44]:=by decide +kernel
theorem lar:(⟨#[45,62]⟩:ByteArray).toList=[45,62]:=by decide +kernel
theorem lse:(⟨#[59]⟩:ByteArray).toList=[59]:=by decide +kernel
theorem lno:(⟨#[92,43]⟩:ByteArray).toList=[92,43]:=by decide +kernel
theorem lni:(⟨#[91,93]⟩:ByteArray).toList=[91,93]:=by decide +kernel
theorem ldo:(⟨#[46]⟩:ByteArray).toList=[46]:=by decide +kernel
theorem lcu:(⟨#[123,125]⟩:ByteArray).toList=[123,125]:=by decide +kernel
theorem lbx:(⟨#[33]⟩:ByteArray).toList=[33]:=by decide +kernel
theorem form_any(x:TV)(w:World):Calls Tryd.prog 33 #[x.val] w fun e W'=>e=.returned (.int .i64 (formB x))∧Below w.heap.size w W':=by
 have HI:Hid (∀V (s:ByteArray) (n:Int),Calls Tryd.prog 12 #[x.val,.string s,.int .i64 n] V fun e W'=>e=.returned (.bool (isB x s.toList n))∧Below V.heap.size V W'):=hide fun V s n=>gis_any x s n V;have HX:Hid (formB x=formB x):=rfl;obtain⟨k,N,xs,a,len,cap⟩:=x;obtain⟨W1,hW1⟩:∃W1,w.alloc (.cells #[.int .i64 k,.int .i64 N,.string xs,.slice a len cap] 24)=W1:=⟨_,rfl⟩;have bT:BoxT W1 w.heap.size ⟨k,N,xs,a,len,cap⟩:=by rw[←hW1];exact BoxT.new w ⟨k,N,xs,a,len,cap⟩
 have GW:Hid (Below w.heap.size w W1):=by rw[←hW1];exact(Below.refl _ w).alloc (Nat.le_refl _) _
 have s1:W1.heap.size=w.heap.size+1:=by rw[←hW1];simp
 simp only[TV.val] at HI⊢;have c0:=bT.c0;have c1:=bT.c1;have c2:=bT.c2;have c3:=bT.c3;simp only at c0 c1 c2 c3;have HB:=hide bT;clear bT
 by_cases k2:k=2
 ·subst k2
  have HF:Hid (formB ⟨2,N,xs,a,len,cap⟩=0):=rfl;clear HX HI;go_enter Tryd.func33,Tryd.ntmps33
  go_wp2_with fail
  try rw[hW1]
  go_wp2_with fail
  all_goals go_ret
  all_goals exact⟨by rw[uh HF];rfl,uh GW⟩
 have k2':(k == 2)=false:=by simp[k2]
 by_cases k1:k=1
 ·subst k1
  have HF:Hid (formB ⟨1,N,xs,a,len,cap⟩=1):=rfl;clear HX HI;go_enter Tryd.func33,Tryd.ntmps33
  go_wp2_with fail
  try rw[hW1]
  go_wp2_with fail
  all_goals go_ret
  all_goals exact⟨by rw[uh HF];rfl,uh GW⟩
 have k1':(k == 1)=false:=by simp[k1]
 have HF:Hid (formB ⟨k,N,xs,a,len,cap⟩=(if(isB ⟨k,N,xs,a,len,cap⟩ [44] 2 || isB ⟨k,N,xs,a,len,cap⟩ [45,62] 2)=true then 2 else if isB ⟨k,N,xs,a,len,cap⟩ [59] 2=true then 3 else if isB ⟨k,N,xs,a,len,cap⟩ [92,43] 1=true then 4 else if(isB ⟨k,N,xs,a,len,cap⟩ [91,93] 0 || isB ⟨k,N,xs,a,len,cap⟩ [46] 2)=true then 5 else if(isB ⟨k,N,xs,a,len,cap⟩ [123,125] 0 || isB ⟨k,N,xs,a,len,cap⟩ [123,125] 1)=true then 6 else if isB ⟨k,N,xs,a,len,cap⟩ [33] 0=true then 7 else if(decide (xs.toList=callL) && decide (0<len))=true then 8 else 9)):=by
  show formB _=_
  unfold formB;rw[if_neg (show¬(⟨k,N,xs,a,len,cap⟩:TV).k=2 from k2),if_neg (show¬(⟨k,N,xs,a,len,cap⟩:TV).k=1 from k1)]
 clear k1 k2 HX;obtain⟨x,hx⟩:∃x:TV,(⟨k,N,xs,a,len,cap⟩:TV)=x:=⟨_,rfl⟩;rw[hx] at HI HF HB⊢;have HC0:=hide hx;clear hx;go_enter Tryd.func33,Tryd.ntmps33
 go_wp2_with fail
 try rw[hW1]
 refine((uh HI) W1 _ _).mono ?_;rintro e V1 ⟨rfl,g1⟩;have HB:=hide ((uh HB).below g1 (uh HB).lt);have GW:=hide ((uh GW).trans (g1.mono (by have:=(uh GW).size;omega)));have c0:=(uh HB).c0;have c1:=(uh HB).c1;have c2:=(uh HB).c2;have c3:=(uh HB).c3;rw[←uh HC0] at c0 c1 c2 c3;simp only at c0 c1 c2 c3;rw[l44];clear g1;cases q1:isB x [44] 2 with
 | true=>
  go_wp2_with fail
  all_goals go_ret
  all_goals exact⟨by rw[uh HF,q1];rfl,uh GW⟩
 | false=>
  go_wp2_with fail
  refine((uh HI) V1 _ _).mono ?_;rintro e V2 ⟨rfl,g2⟩;have HB:=hide ((uh HB).below g2 (uh HB).lt);have GW:=hide ((uh GW).trans (g2.mono (by have:=(uh GW).size;omega)));have c0:=(uh HB).c0;have c1:=(uh HB).c1;have c2:=(uh HB).c2;have c3:=(uh HB).c3;rw[←uh HC0] at c0 c1 c2 c3;simp only at c0 c1 c2 c3;rw[lar];clear g2;cases q2:isB x [45,62] 2 with
  | true=>
   go_wp2_with fail
   all_goals go_ret
   all_goals exact⟨by rw[uh HF,q1,q2];rfl,uh GW⟩
  | false=>
   go_wp2_with fail
   refine((uh HI) V2 _ _).mono ?_;rintro e V3 ⟨rfl,g3⟩;have HB:=hide ((uh HB).below g3 (uh HB).lt);have GW:=hide ((uh GW).trans (g3.mono (by have:=(uh GW).size;omega)));have c0:=(uh HB).c0;have c1:=(uh HB).c1;have c2:=(uh HB).c2;have c3:=(uh HB).c3;rw[←uh HC0] at c0 c1 c2 c3;simp only at c0 c1 c2 c3;rw[lse];clear g3;cases q3:isB x [59] 2 with
   | true=>
    go_wp2_with fail
    all_goals go_ret
    all_goals exact⟨by rw[uh HF,q1,q2,q3];rfl,uh GW⟩
   | false=>
    go_wp2_with fail
    refine((uh HI) V3 _ _).mono ?_;rintro e V4 ⟨rfl,g4⟩;have HB:=hide ((uh HB).below g4 (uh HB).lt);have GW:=hide ((uh GW).trans (g4.mono (by have:=(uh GW).size;omega)));have c0:=(uh HB).c0;have c1:=(uh HB).c1;have c2:=(uh HB).c2;have c3:=(uh HB).c3;rw[←uh HC0] at c0 c1 c2 c3;simp only at c0 c1 c2 c3;rw[lno];clear g4;cases q4:isB x [92,43] 1 with
    | true=>
     go_wp2_with fail
     all_goals go_ret
     all_goals exact⟨by rw[uh HF,q1,q2,q3,q4];rfl,uh GW⟩
    | false=>
     go_wp2_with fail
     refine((uh HI) V4 _ _).mono ?_;rintro e V5 ⟨rfl,g5⟩;have HB:=hide ((uh HB).below g5 (uh HB).lt);have GW:=hide ((uh GW).trans (g5.mono (by have:=(uh GW).size;omega)));have c0:=(uh HB).c0;have c1:=(uh HB).c1;have c2:=(uh HB).c2;have c3:=(uh HB).c3;rw[←uh HC0] at c0 c1 c2 c3;simp only at c0 c1 c2 c3;rw[lni];clear g5;cases q5:isB x [91,93] 0 with
     | true=>
      go_wp2_with fail
      all_goals go_ret
      all_goals exact⟨by rw[uh HF,q1,q2,q3,q4,q5];rfl,uh GW⟩
     | false=>
      go_wp2_with fail
      refine((uh HI) V5 _ _).mono ?_;rintro e V6 ⟨rfl,g6⟩;have HB:=hide ((uh HB).below g6 (uh HB).lt);have GW:=hide ((uh GW).trans (g6.mono (by have:=(uh GW).size;omega)));have c0:=(uh HB).c0;have c1:=(uh HB).c1;have c2:=(uh HB).c2;have c3:=(uh HB).c3;rw[←uh HC0] at c0 c1 c2 c3;simp only at c0 c1 c2 c3;rw[ldo];clear g6;cases q6:isB x [46] 2 with
      | true=>
       go_wp2_with fail
       all_goals go_ret
       all_goals exact⟨by rw[uh HF,q1,q2,q3,q4,q5,q6];rfl,uh GW⟩
      | false=>
       go_wp2_with fail
       refine((uh HI) V6 _ _).mono ?_;rintro e V7 ⟨rfl,g7⟩;have HB:=hide ((uh HB).below g7 (uh HB).lt);have GW:=hide ((uh GW).trans (g7.mono (by have:=(uh GW).size;omega)));have c0:=(uh HB).c0;have c1:=(uh HB).c1;have c2:=(uh HB).c2;have c3:=(uh HB).c3;rw[←uh HC0] at c0 c1 c2 c3;simp only at c0 c1 c2 c3;rw[lcu];clear g7;cases q7:isB x [123,125] 0 with
       | true=>
        go_wp2_with fail
        all_goals go_ret
        all_goals exact⟨by rw[uh HF,q1,q2,q3,q4,q5,q6,q7];rfl,uh GW⟩
       | false=>
        go_wp2_with fail
        refine((uh HI) V7 _ _).mono ?_;rintro e V8 ⟨rfl,g8⟩;have HB:=hide ((uh HB).below g8 (uh HB).lt);have GW:=hide ((uh GW).trans (g8.mono (by have:=(uh GW).size;omega)));have c0:=(uh HB).c0;have c1:=(uh HB).c1;have c2:=(uh HB).c2;have c3:=(uh HB).c3;rw[←uh HC0] at c0 c1 c2 c3;simp only at c0 c1 c2 c3;rw[lcu];clear g8;cases q8:isB x [123,125] 1 with
        | true=>
         go_wp2_with fail
         all_goals go_ret
         all_goals exact⟨by rw[uh HF,q1,q2,q3,q4,q5,q6,q7,q8];rfl,uh GW⟩
        | false=>
         go_wp2_with fail
         refine((uh HI) V8 _ _).mono ?_;rintro e V9 ⟨rfl,g9⟩;have HB:=hide ((uh HB).below g9 (uh HB).lt);have GW:=hide ((uh GW).trans (g9.mono (by have:=(uh GW).size;omega)));have c0:=(uh HB).c0;have c1:=(uh HB).c1;have c2:=(uh HB).c2;have c3:=(uh HB).c3;rw[←uh HC0] at c0 c1 c2 c3;simp only at c0 c1 c2 c3;rw[lbx];clear g9;cases q9:isB x [33] 0 with
         | true=>
          go_wp2_with fail
          all_goals go_ret
          all_goals exact⟨by rw[uh HF,q1,q2,q3,q4,q5,q6,q7,q8,q9];rfl,uh GW⟩
         | false=>
          have HQ:=hide (show formB x=if(decide (xs.toList=callL) && decide (0<len))=true then 8 else 9 by rw[uh HF,q1,q2,q3,q4,q5,q6,q7,q8,q9];rfl);clear HF HI q1 q2 q3 q4 q5 q6 q7 q8 q9
          by_cases hc:xs=⟨#[99,97,108,108]⟩
          ·subst hc
           cases len with
           | zero=>
            go_wp2_with fail
            all_goals go_ret
            all_goals exact⟨by rw[uh HQ,callL_eq];rfl,uh GW⟩
           | succ len=>
            have hp:(0:Int)<((len+1:Nat):Int):=by omega
            go_wp2_with fail
            all_goals go_ret
            all_goals exact⟨by rw[uh HQ,callL_eq];simp,uh GW⟩
          ·have hl:¬xs.toList=callL:=fun h=>hc (bytes_ext (h.trans callL_eq.symm))
           go_wp2_with fail
           all_goals go_ret
           all_goals exact⟨by rw[uh HQ];simp[hl],uh GW⟩
set_option maxHeartbeats 4000000
set_option maxRecDepth 100000
theorem glist_any{n:Nat}(t:Tm n)(w:World)(hT:IsT w.heap.size w t)(ok:okT t=true):Calls Tryd.prog 52 #[t.tv.val] w fun e W'=>e=.returned (.bool (listT t))∧Below w.heap.size w W':=by
 have HIS:Hid (∀(V:World) (x:TV) (s:ByteArray) (m:Int),Calls Tryd.prog 12 #[.agg #[.int .i64 x.k,.int .i64 x.N,.string x.s,.slice x.a x.len x.cap],.string s,.int .i64 m] V fun e W'=>e=.returned (.bool (isB x s.toList m))∧Below V.heap.size V W'):=hide fun V x s m=>gis_any x s m V;obtain⟨W1,hW1⟩:∃W1,w.alloc (.cells #[.int .i64 t.tv.k,.int .i64 t.tv.N,.string t.tv.s,.slice t.tv.a t.tv.len t.tv.cap] 24)=W1:=⟨_,rfl⟩;have b1:BoxT W1 w.heap.size t.tv:=by rw[←hW1];exact BoxT.new w t.tv
 have g1:Below w.heap.size w W1:=by rw[←hW1];exact(Below.refl _ w).alloc (Nat.le_refl _) _
 have H0:=hide (And.intro b1 (And.intro g1 (hT.below g1)));have OK:=hide ok;clear b1 g1 hT ok;simp only[TV.val];go_enter Tryd.func52,Tryd.ntmps52
 go_wp2_with fail
 try rw[hW1]
 clear hW1;refine wp_loop_cps (fun R hR=>?_);have HR:=hide hR;clear hR
 have key:∀(n':Nat) (u:Tm n') (V:World) (p3 p4 p5 p6 p7 p8:Value),okT u=true→IsT w.heap.size V u→BoxT V w.heap.size u.tv→Below w.heap.size w V→listT u=listT t→R n' {tmps:=#[.agg #[.int .i64 t.tv.k,.int .i64 t.tv.N,.string t.tv.s,.slice t.tv.a t.tv.len t.tv.cap],.pointer (some ⟨w.heap.size,0,none⟩),.bool false,p3,p4,p5,p6,p7,p8,undef,undef],defers:=[]} V:=by
  intro n'
  induction n' with
  | zero=>intro u;exact Empty.elim u
  | succ n' ih=>
   intro u V p3 p4 p5 p6 p7 p8 ok hT bT gV hl;have HIH:=hide ih;clear ih;obtain⟨x,kids⟩:=u;have bx:BoxT V w.heap.size x:=bT;have c0:=bx.c0;have c1:=bx.c1;have c2:=bx.c2;have c3:=bx.c3;rw[listT_succ] at hl;cases hb:isB x [46] 2 with
   | false=>
    rw[hb] at hl;have HL:=hide hl;have HG:=hide (And.intro bx gV);clear hl bx gV hT bT HIH ok H0 OK;refine(uh HR) _ _ _ ?_;go_wp2_with fail
    refine((uh HIS) V x _ _).mono ?_;rintro e V1 ⟨rfl,h1⟩;rw[ldo,hb];have bx1:=(uh HG).1.below h1 (uh HG).1.lt;have gV1:=(uh HG).2.trans (h1.mono (uh HG).2.size);have HG1:=hide (And.intro bx1 gV1);have c0:=bx1.c0;have c1:=bx1.c1;have c2:=bx1.c2;have c3:=bx1.c3;clear bx1 gV1 h1 HG;go_wp2_with fail
    refine((uh HIS) V1 x _ _).mono ?_;rintro e V2 ⟨rfl,h2⟩;rw[lni];have HE:=hide ((uh HG1).2.trans (h2.mono (uh HG1).2.size));clear h2;go_wp2_with fail
    all_goals go_ret
    all_goals exact⟨by rw[←uh HL];rfl,uh HE⟩
   | true=>
    rw[hb] at hl;have hlen:x.len=2:=by have:=isB_len hb;omega
    obtain⟨a,v,rfl⟩:=two_kids hT.wl hlen;have hk:=ok_kids ok;have hT':=hT;obtain⟨_,_,_,h4⟩:=hT'
    rcases h4 with h4 | ⟨b,off,ha,hbn,hcs⟩
    ·cases h4
    obtain⟨⟨d0,d1,d2,d3⟩,hTv⟩:=hcs 1 v rfl;obtain⟨k,N,s,a',len,cap⟩:=x;simp only at ha hlen c0 c1 c2 c3;have ha':a'=some ⟨b,off,none⟩:=ha;subst ha' hlen;have HG:=hide (And.intro bx (And.intro gV (And.intro (hk.2 v (by simp)) (And.intro hTv hl))));have hbl:b≠w.heap.size:=by omega
    clear bx gV hT bT ok hk H0 OK hl hTv hcs ha;refine(uh HR) _ _ _ ?_;go_wp2_with fail
    refine((uh HIS) V ⟨k,N,s,some ⟨b,off,none⟩,2,cap⟩ _ _).mono ?_;rintro e V1 ⟨rfl,h1⟩;rw[ldo,hb];have q0:=(h1.cell (p:=⟨b,off+1*4,none⟩) (by have:=(uh HG).1.lt;show b<_;omega)).trans d0;have q1:=(h1.cell (p:=⟨b,off+1*4+1,none⟩) (by have:=(uh HG).1.lt;show b<_;omega)).trans d1;have q2:=(h1.cell (p:=⟨b,off+1*4+2,none⟩) (by have:=(uh HG).1.lt;show b<_;omega)).trans d2;have q3:=(h1.cell (p:=⟨b,off+1*4+3,none⟩) (by have:=(uh HG).1.lt;show b<_;omega)).trans d3;have bx1:=(uh HG).1.below h1 (uh HG).1.lt;have HG1:=hide (And.intro bx1 h1);have c0:=bx1.c0;have c1:=bx1.c1;have c2:=bx1.c2;have c3:=bx1.c3;simp only at c0 c1 c2 c3;obtain⟨f0,f1,f2,f3⟩:=bx1.frz;clear bx1 h1 d0 d1 d2 d3;go_wp2_with fail
    have gB:=(uh HG1).2.mono (show w.heap.size≤V.heap.size by have:=(uh HG).1.lt;omega);have hL:listT v=listT t:=by simpa using(uh HG).2.2.2.2
    exact(uh HIH) v (set4 V1 w.heap.size 0 v.tv) _ _ _ _ _ _ (uh HG).2.2.1 ((uh HG).2.2.2.1.below (set4_below gB (Nat.le_refl _) 0 _)) (set4_box (uh HG1).1 _) (set4_below ((uh HG).2.1.trans gB) (Nat.le_refl _) 0 _) hL
 exact⟨n,key n t W1 _ _ _ _ _ _ (uh OK) (uh H0).2.2 (uh H0).1 (uh H0).2.1 rfl⟩
theorem gext_any(x:TV)(w:World)(hl:x.len≤50):Calls Tryd.prog 32 #[x.val] w fun e W'=>e=.returned (.int .i64 (extE x))∧Below w.heap.size w W':=by
 have HRS:Hid (∀V,Calls Tryd.prog 51 #[.string x.s,.int .i64 (x.len+2)] V fun e W'=>e=.returned (.bool (resB x.s.toList (x.len+2)))∧Below V.heap.size V W'):=hide fun V=>bres_any x.s (x.len+2) V;obtain⟨W1,hW1⟩:∃W1,w.alloc (.cells #[.int .i64 x.k,.int .i64 x.N,.string x.s,.slice x.a x.len x.cap] 24)=W1:=⟨_,rfl⟩;have b1:BoxT W1 w.heap.size x:=by rw[←hW1];exact BoxT.new w x
 have g1:Below w.heap.size w W1:=by rw[←hW1];exact(Below.refl _ w).alloc (Nat.le_refl _) _
 have c2:=b1.c2;have c3:=b1.c3;have HG:=hide g1;clear b1 g1;simp only[TV.val];go_enter Tryd.func32,Tryd.ntmps32
 go_wp2_with fail
 try rw[hW1]
 go_wp2_with fail
 refine((uh HRS) W1).mono ?_;rintro e V1 ⟨rfl,h1⟩;have HG1:=hide ((uh HG).trans (h1.mono (uh HG).size));clear h1;cases hr:resB x.s.toList (x.len+2) with
 | true=>
  have HE:Hid (extE x=7):=by show extE x=7;unfold extE;rw[hr];rfl
  go_wp2_with fail
  all_goals go_ret
  all_goals exact⟨by rw[uh HE];rfl,uh HG1⟩
 | false=>
  by_cases h50:50<x.len+2
  ·have HE:Hid (extE x=9):=by show extE x=9;unfold extE;rw[hr,if_neg (by simp),if_pos h50]
   have h50':(50:Int)<(x.len:Int)+2:=by omega
   go_wp2_with fail
   all_goals go_ret
   all_goals exact⟨by rw[uh HE];rfl,uh HG1⟩
  ·have HE:Hid (extE x=0):=by show extE x=0;unfold extE;rw[hr,if_neg (by simp),if_neg h50]
   have h50':¬(50:Int)<(x.len:Int)+2:=by omega
   go_wp2_with fail
   all_goals go_ret
   all_goals exact⟨by rw[uh HE];rfl,uh HG1⟩
/-- The error of a head. -/
def headE(x:TV):Int:=if x.k=3∨x.k=4 then extE x else 7
theorem ghead_any(x:TV)(w:World)(hl:x.len≤50):Calls Tryd.prog 13 #[x.val] w fun e W'=>e=.returned (.int .i64 (headE x))∧Below w.heap.size w W':=by
 have HX:Hid (∀V,Calls Tryd.prog 32 #[.agg #[.int .i64 x.k,.int .i64 x.N,.string x.s,.slice x.a x.len x.cap]] V fun e W'=>e=.returned (.int .i64 (extE x))∧Below V.heap.size V W'):=hide fun V=>gext_any x V hl;obtain⟨W1,hW1⟩:∃W1,w.alloc (.cells #[.int .i64 x.k,.int .i64 x.N,.string x.s,.slice x.a x.len x.cap] 24)=W1:=⟨_,rfl⟩;have b1:BoxT W1 w.heap.size x:=by rw[←hW1];exact BoxT.new w x
 have g1:Below w.heap.size w W1:=by rw[←hW1];exact(Below.refl _ w).alloc (Nat.le_refl _) _
 have c0:=b1.c0;have c1:=b1.c1;have c2:=b1.c2;have c3:=b1.c3;have HG:=hide g1;clear b1 g1;obtain⟨k,N,s,a,len,cap⟩:=x;simp only[TV.val] at HX c0 c1 c2 c3⊢
 by_cases h3:k=3
 ·subst h3
  have HE:Hid (headE ⟨3,N,s,a,len,cap⟩=extE ⟨3,N,s,a,len,cap⟩):=rfl;go_enter Tryd.func13,Tryd.ntmps13
  go_wp2_with fail
  try rw[hW1]
  go_wp2_with fail
  refine((uh HX) W1).mono ?_;rintro e V1 ⟨rfl,h1⟩;have HG1:=hide ((uh HG).trans (h1.mono (uh HG).size));clear h1;go_wp2_with fail
  all_goals go_ret
  all_goals exact⟨by rw[uh HE];rfl,uh HG1⟩
 ·by_cases h4:k=4
  ·subst h4
   have HE:Hid (headE ⟨4,N,s,a,len,cap⟩=extE ⟨4,N,s,a,len,cap⟩):=rfl;go_enter Tryd.func13,Tryd.ntmps13
   go_wp2_with fail
   try rw[hW1]
   go_wp2_with fail
   refine((uh HX) W1).mono ?_;rintro e V1 ⟨rfl,h1⟩;have HG1:=hide ((uh HG).trans (h1.mono (uh HG).size));clear h1;go_wp2_with fail
   all_goals go_ret
   all_goals exact⟨by rw[uh HE];rfl,uh HG1⟩
  ·have HE:Hid (headE ⟨k,N,s,a,len,cap⟩=7):=if_neg (show¬(k=3∨k=4) by omega)
   have h3':(k != 3)=true:=by simp[h3]
   have h4':(k != 4)=true:=by simp[h4]
   clear h3 h4;go_enter Tryd.func13,Tryd.ntmps13
   go_wp2_with fail
   try rw[hW1]
   go_wp2_with fail
   all_goals go_ret
   all_goals exact⟨by rw[uh HE];rfl,uh HG⟩
def StkW(k w B:Nat)(W:World)(v:Value)(S:List (List Value)):Prop:=(∀r∈S,r.length=w)∧W.ownsRow B k w v S.length S.flatten
theorem flat_len{w:Nat}:∀{S:List (List Value)},(∀r∈S,r.length=w)→S.flatten.length=S.length*w
 | [],_=>by simp
 | a::S,h=>by
  have h1:=flat_len (S:=S) fun r hr=>h r (by simp[hr]);have h2:=h a (by simp);rw[List.flatten_cons,List.length_append,List.length_cons,h1,h2,Nat.add_mul];omega
theorem StkW.slice{k w B:Nat}{W:World}{v:Value}{S:List (List Value)}{e:List Value}(h:StkW k w B W v (S++[e])):∃g cap cur,v=.slice (some ⟨g,0,none⟩) (S.length+1) cap∧B≤g∧g<W.heap.size∧S.length+1≤cap∧cap≤maxLen∧W.heap[g]?=some (.cells cur k (0,0)):=by
 obtain⟨_,_,h2⟩:=h;rw[List.length_append,List.length_cons,List.length_nil] at h2
 rcases h2 with⟨_,h0⟩ | ⟨g,cap,cur,h3,h4,h5,h6,h7,h8⟩
 ·omega
 ·exact⟨g,cap,cur,h3,h4,(Array.getElem?_eq_some_iff.1 h5).1,h6,h7,h5⟩
theorem StkW.pop{k w B g cap:Nat}{W:World}{S:List (List Value)}{e:List Value}(h:StkW k w B W (.slice (some ⟨g,0,none⟩) (S.length+1) cap) (S++[e])):StkW k w B W (.slice (some ⟨g,0,none⟩) S.length cap) S:=by
 obtain⟨h0,h1,h2⟩:=h;have h0':∀r∈S,r.length=w:=fun r hr=>h0 r (List.mem_append_left _ hr);refine⟨h0',flat_len h0',?_⟩;rw[List.length_append,List.length_cons,List.length_nil] at h2
 rcases h2 with⟨h2,_⟩ | ⟨g',cap',cur,h2,h3,h4,h5,h6,h7,h8⟩
 ·cases h2
 ·simp only[Value.slice.injEq,Option.some.injEq,Addr.mk.injEq,and_true,true_and] at h2
  obtain⟨rfl,rfl⟩:=h2;refine .inr ⟨g,cap,cur,rfl,h3,h4,by omega,h6,h7,?_⟩;have:=congrArg (List.take (S.length*w)) h8;rw[List.take_take,Nat.min_eq_left (Nat.mul_le_mul_right _ (by omega)),List.flatten_append,List.take_left' (flat_len h0')] at this;exact this
theorem StkW.top{k w B g cap:Nat}{W:World}{S:List (List Value)}{e:List Value}(h:StkW k w B W (.slice (some ⟨g,0,none⟩) (S.length+1) cap) (S++[e])){j:Nat}{u:Value}(hu:e[j]?=some u):W.cell? ⟨g,S.length*w+j,none⟩=some u:=by
 have h0':∀r∈S,r.length=w:=fun r hr=>h.1 r (List.mem_append_left _ hr);have he:e.length=w:=h.1 e (by simp);have hj:j<e.length:=(List.getElem?_eq_some_iff.1 hu).1;have h2:=h.2;rw[List.length_append,List.length_cons,List.length_nil] at h2;have h1:=World.ownsRow.cellAt h2 (S.length*w+j) (by rw[Nat.add_mul];omega);rw[h1,List.flatten_append,List.getElem?_append_right (by rw[flat_len h0'];omega),flat_len h0',Nat.add_sub_cancel_left];simpa using hu
theorem StkW.kept{k w B:Nat}{W W':World}{v:Value}{S:List (List Value)}(h:StkW k w B W v S)(hk:∀g,v.ownBlock=some g→W'.heap[g]?=W.heap[g]?):StkW k w B W' v S:=by
 obtain⟨h0,h1,h2⟩:=h;refine⟨h0,h1,?_⟩
 rcases h2 with h2 | ⟨g,cap,cur,h2,h3,h4,h5⟩
 ·exact .inl h2
 ·exact .inr ⟨g,cap,cur,h2,h3,(hk g (by rw[h2];rfl)).trans h4,h5⟩
theorem StkW.lt{k w B:Nat}{W:World}{v:Value}{S:List (List Value)}(h:StkW k w B W v S){g:Nat}(hg:v.ownBlock=some g):B≤g∧g<W.heap.size∧∃cur,W.heap[g]?=some (.cells cur k (0,0)):=by
 obtain⟨_,_,h2⟩:=h
 rcases h2 with⟨h2,_⟩ | ⟨g',cap,cur,h2,h3,h4,_⟩
 ·rw[h2] at hg;cases hg
 ·rw[h2] at hg
  have:g'=g:=by simpa[Value.ownBlock] using hg
  subst this;exact⟨h3,(Array.getElem?_eq_some_iff.1 h4).1,cur,h4⟩
theorem StkW.below{k w B:Nat}{W W':World}{v:Value}{S:List (List Value)}(h:StkW k w B W v S)(hb:Below W.heap.size W W'):StkW k w B W' v S:=h.kept fun g hg=>hb.block g (h.lt hg).2.1
theorem StkW.one{k w B:Nat}{W:World}{arr:Array Value}{e:List Value}(he:e.length=w)(ha:arr.toList=e)(hB:B≤W.heap.size):StkW k w B (W.alloc (.cells arr k)) (.slice (some ⟨W.heap.size,0,none⟩) 1 1) [e]:=by
 refine⟨fun r hr=>by simp at hr;rw[hr];exact he,by simp[he],.inr ⟨W.heap.size,1,arr,rfl,hB,World.alloc_heap_new W _,Nat.le_refl _,by unfold maxLen;omega,?_,?_⟩⟩
 ·rw[←Array.length_toList,ha,he];omega
 ·rw[ha,List.take_of_length_le (by simp;omega)];simp
theorem StkW.push{k T ty:TypeId}{i:TypeInfo}{z:Value}{w bytes B h:Nat}{W:World}{v:Value}{S:List (List Value)}(hs:StkW k w B W v S)(hu:Tryd.prog.underlying T=some (.slice k))(hi:Tryd.prog.info? k=some i)(hz:i.zero=some z)(hsz:i.size=w)(hby:i.bytes=bytes)(hzs:z.cells.size=w)(hw:0<w)
  (E:List (List Value)) (arr:Array Value) (ha:arr.toList=E.flatten) (hE:∀r∈E,r.length=w) (h1:∀u∈E.flatten,u.oneCell'=true) (hh:W.heap.size=h) (hl:(S.length+E.length)*bytes≤140737488355328) (hm:S.length+E.length≤140737488355328) (hB:B≤W.heap.size):
  ∃v' X,(Builtin.append_ #[T,T] ty #[v,.slice (some ⟨h,0,none⟩) E.length E.length]).run Tryd.prog (W.alloc (.cells arr k))=.ok v' X∧StkW k w B X v' (S++E)∧(W.alloc (.cells arr k)).grownBy X v.ownBlock∧(v'.ownBlock=v.ownBlock∨v'.ownBlock=some (h+1)):=by
 have hn:=World.alloc_heap_new W (.cells arr k);rw[hh] at hn;have hs':StkW k w B (W.alloc (.cells arr k)) v S:=hs.below ((Below.refl _ W).alloc (Nat.le_refl _) _)
 obtain⟨v',X,r1,r2,r3,_,r5⟩:=run_append_own_at (P:=Tryd.prog) (W.alloc (.cells arr k)) B T ty k i z w bytes hu hi hz hsz hby hzs hw v S.length S.flatten hs'.2 ⟨h,0,none⟩ E.length E.length E.flatten (flat_len hE) (fun j u hu=>by
  rw[←ha] at hu;have:arr[j]?=some u:=by simpa using hu
  cases j with
  | zero=>simp[World.cell?,Addr.add,hn,this]
  | succ j=>simp[World.cell?,Addr.add,hn,this]) h1 (by unfold maxLen;omega) hl (by simp;omega)
 rw[World.size_alloc,hh] at r5;refine⟨v',X,r1,⟨fun r hr=>?_,?_⟩,r3,r5⟩
 ·rcases List.mem_append.1 hr with hr | hr
  ·exact hs.1 r hr
  ·exact hE r hr
 ·rw[List.length_append,List.flatten_append]
  exact r2
set_option maxHeartbeats 4000000
set_option maxRecDepth 100000
def bodB{n:Nat}(u:Tm n):Bool:=(bodyC u).isSome
theorem gbody_ok{n:Nat}(u:Tm n)(W:World)(hT:IsT W.heap.size W u)(ok:okT u=true)(hn:n≤274877906944):
  Calls Tryd.prog 65 #[u.tv.val] W fun e W'=> ∃x:TV,e=.returned (.tuple #[x.val,.int .i64 (if bodB u=true then 0 else 7)])∧Below W.heap.size W W':=
 (body_any u W.heap.size W hT (Nat.le_refl _) hn).mono fun e W' h=>by
  obtain⟨⟨D,x,h1,_⟩,h2⟩:=h;refine⟨x,?_,h2⟩;rw[h1];unfold bodyR bodB;rw[if_pos ok]
theorem bods_no{n:Nat}{ts:List (Tm n)}{j:Nat}{u:Tm n}(h:ts[j]?=some u)(hu:bodB u=false):ts.all bodB=false:=by
 rw[List.all_eq_false];exact⟨u,List.mem_of_getElem? h,by simp[hu]⟩
theorem take_bods{n:Nat}(ts:List (Tm n))(j:Nat)(u:Tm n)(h:ts[j]?=some u):(ts.take (j+1)).all bodB=((ts.take j).all bodB && bodB u):=by
 rw[List.take_add_one,h,List.all_append];simp
theorem ghave_any{n:Nat}(ts:List (Tm n))(a:Option Addr)(len cap:Nat)(w:World)(hlen:len=ts.length)(hmax:len≤9223372036854775807)(hok:∀u∈ts,okT u=true)(hn:n≤274877906944)
  (hts:ts=[]∨∃b off,a=some ⟨b,off,none⟩∧b<w.heap.size∧∀j u,ts[j]?=some u→cellsAt w b (off+j*4) u.tv∧IsT w.heap.size w u):
  Calls Tryd.prog 53 #[.slice a len cap] w fun e W'=>e=.returned (.bool (ts.all bodB))∧Below w.heap.size w W':=by
 have hl1:len≤ts.length:=by omega
 have hl2:ts.length≤len:=by omega
 have HOK:=hide hok;clear hlen hok;go_enter Tryd.func53,Tryd.ntmps53
 go_wp2_with fail
 go_loopw [9] (fun i wr=> ∃j:Nat,j≤len∧i=.int .i64 j∧(ts.take j).all bodB=true∧Below w.heap.size w wr) (fun i _=>len-(intOf i).toNat)
 case atStart=>exact⟨0,Nat.zero_le _,rfl,by simp,Below.refl _ _⟩
 case round=>
  obtain⟨j,hj,rfl,ho,hb⟩:=hrel;have HO:=hide ho;clear ho
  by_cases hlt:j<len
  ·obtain⟨u,b,off,hu,rfl,⟨c0,c1,c2,c3⟩,hT,hbk⟩:=kid_at hts hb hlt hl1
   obtain⟨W1,hW1⟩:∃W1,wr.alloc (.cells #[.int .i64 u.tv.k,.int .i64 u.tv.N,.string u.tv.s,.slice u.tv.a u.tv.len u.tv.cap] 24)=W1:=⟨_,rfl⟩;have g1:Below wr.heap.size wr W1:=by rw[←hW1];exact(Below.refl _ wr).alloc (Nat.le_refl _) _
   have bT:BoxT W1 wr.heap.size u.tv:=by rw[←hW1];exact BoxT.new wr u.tv
   have d0:=bT.c0;have d1:=bT.c1;have d2:=bT.c2;have d3:=bT.c3;clear bT
   have hc:Calls Tryd.prog 65 #[.agg #[.int .i64 u.tv.k,.int .i64 u.tv.N,.string u.tv.s,.slice u.tv.a u.tv.len u.tv.cap]] W1 fun e W2=> ∃x:TV,e=.returned (.tuple #[x.val,.int .i64 (if bodB u=true then 0 else 7)])∧Below wr.heap.size wr W2:=
    (gbody_ok u W1 ((hT.below g1).mono g1.size) ((uh HOK) u (List.mem_of_getElem? hu)) hn).mono fun e W2 h=>by
     obtain⟨x,h1,h2⟩:=h;exact⟨x,h1,g1.trans (h2.mono g1.size)⟩
   have hstop:=bods_no hu;have hnext:=take_bods ts j u hu;rw[uh HO,Bool.true_and] at hnext;clear hT hts hu g1;generalize bodB u=o at *;have HN:=hide hnext;have HS:=hide hstop;have HC:=hide hc;clear hnext hstop hc;cases o with
   | true=>
    go_wp2_with fail
    try rw[hW1]
    refine(uh HC).mono ?_;clear HC;rintro e W2 ⟨x,rfl,hb2⟩;simp only[TV.val,if_true];go_wp2_with fail
    go_roundw
    case rel=>exact⟨j+1,by omega,by go_num,uh HN,(hb.trans (hb2.mono hb.size)).alloc (by have:=hb.size;have:=hb2.size;omega) _⟩
    case measure=>simp[intOf];omega
   | false=>
    go_wp2_with fail
    try rw[hW1]
    refine(uh HC).mono ?_;clear HC;rintro e W2 ⟨x,rfl,hb2⟩;simp only[TV.val];go_wp2_with fail
    all_goals go_ret
    all_goals exact⟨by rw[(uh HS) (by simp)];rfl,(hb.trans (hb2.mono hb.size)).alloc (by have:=hb.size;have:=hb2.size;omega) _⟩
  ·have ht:ts.take j=ts:=List.take_of_length_le (by omega)
   have HT:=hide ht;clear ht hts;go_wp2_with fail
   all_goals go_ret
   all_goals exact⟨by have h:=uh HO;rw[uh HT] at h;rw[h];rfl,hb⟩
theorem ok_len{n:Nat}{x:TV}{kids:List (Tm n)}(ok:okT (n:=n+1) ((x,kids):TV×List (Tm n))=true):x.len≤50:=by
 rcases wm_cases (ok_kids ok).1 with⟨_,_,_,_,h⟩ | ⟨_,h⟩ | ⟨_,_,_,h⟩ <;> omega
theorem gpart_any{n:Nat}(t:Tm (n+1))(w:World)(hT:IsT w.heap.size w t)(ok:okT t=true)(hn:n≤274877906944):Calls Tryd.prog 34 #[t.tv.val] w fun e W'=>e=.returned (.int .i64 (partE t))∧Below w.heap.size w W':=by
 obtain⟨x,kids⟩:=t;have hk:=ok_kids ok;have hl:=ok_len ok;obtain⟨W1,hW1⟩:∃W1,w.alloc (.cells #[.int .i64 x.k,.int .i64 x.N,.string x.s,.slice x.a x.len x.cap] 24)=W1:=⟨_,rfl⟩;have bT:BoxT W1 w.heap.size x:=by rw[←hW1];exact BoxT.new w x
 have g1:Below w.heap.size w W1:=by rw[←hW1];exact(Below.refl _ w).alloc (Nat.le_refl _) _
 have HF:Hid (∀V,Calls Tryd.prog 33 #[.agg #[.int .i64 x.k,.int .i64 x.N,.string x.s,.slice x.a x.len x.cap]] V fun e W'=>e=.returned (.int .i64 (formB x))∧Below V.heap.size V W'):=hide fun V=>form_any x V;have HE:Hid (∀V,Calls Tryd.prog 32 #[.agg #[.int .i64 x.k,.int .i64 x.N,.string x.s,.slice x.a x.len x.cap]] V fun e W'=>e=.returned (.int .i64 (extE x))∧Below V.heap.size V W'):=hide fun V=>gext_any x V hl;have HL:Hid (∀V,Below w.heap.size w V→Calls Tryd.prog 52 #[.agg #[.int .i64 x.k,.int .i64 x.N,.string x.s,.slice x.a x.len x.cap]] V fun e W'=>e=.returned (.bool (listT (n:=n+1) ((x,kids):TV×List (Tm n))))∧Below V.heap.size V W'):=hide fun V hV=>glist_any (n:=n+1) ((x,kids):TV×List (Tm n)) V ((hT.below hV).mono hV.size) ok
 have HH:Hid (∀V,Below w.heap.size w V→Calls Tryd.prog 53 #[.slice x.a x.len x.cap] V fun e W'=>e=.returned (.bool (kids.all bodB))∧Below V.heap.size V W'):=hide fun V hV=>by
  have hTV:=(hT.below hV).mono hV.size;exact ghave_any kids x.a x.len x.cap V hTV.1 hTV.2.1.1 hk.2 hn hTV.2.2.2
 have HP:=hide (partE_succ x kids);have HB:=hide (And.intro bT g1);have c0:=bT.c0;have c1:=bT.c1;have c2:=bT.c2;have c3:=bT.c3;clear bT g1 hT ok hk;simp only[Tm.tv,TV.val];go_enter Tryd.func34,Tryd.ntmps34
 go_wp2_with fail
 try rw[hW1]
 go_wp2_with fail
 refine((uh HF) W1).mono ?_;rintro e V1 ⟨rfl,h1⟩;have bT:=(uh HB).1.below h1 (uh HB).1.lt;have g1:=(uh HB).2.trans (h1.mono (uh HB).2.size);have HB:=hide (And.intro bT g1);have c0:=bT.c0;have c1:=bT.c1;have c2:=bT.c2;have c3:=bT.c3;clear bT g1 h1 HF
 by_cases f0:formB x=0
 ·have HQ:=hide (show partE (n:=n) ((x,kids):TV×List (Tm n))=14 by rw[uh HP,if_pos f0])
  rw[f0];clear f0 HP HL HH HE;go_wp2_with fail
  all_goals go_ret
  all_goals exact⟨by rw[uh HQ];rfl,(uh HB).2⟩
 by_cases f5:formB x=5
 ·have HQ:=hide (show partE (n:=n) ((x,kids):TV×List (Tm n))=if listT (n:=n+1) ((x,kids):TV×List (Tm n))=true then 0 else 14 by rw[uh HP,if_neg f0,if_pos f5])
  rw[f5];clear f0 f5 HP HH HE;go_wp2_with fail
  refine((uh HL) V1 (uh HB).2).mono ?_;rintro e V2 ⟨rfl,h2⟩;have HB2:=hide ((uh HB).2.trans (h2.mono (uh HB).2.size));clear h2;cases hli:listT (n:=n+1) ((x,kids):TV×List (Tm n)) with
  | true=>
   rw[hli] at HQ;go_wp2_with fail
   all_goals go_ret
   all_goals exact⟨by rw[uh HQ];rfl,uh HB2⟩
  | false=>
   rw[hli] at HQ;go_wp2_with fail
   all_goals go_ret
   all_goals exact⟨by rw[uh HQ];rfl,uh HB2⟩
 by_cases f6:formB x=6
 ·have HQ:=hide (show partE (n:=n) ((x,kids):TV×List (Tm n))=if kids.all bodB=true then 0 else 14 by rw[uh HP,if_neg f0,if_neg f5,if_pos f6];rfl)
  rw[f6];clear f0 f5 f6 HP HL HE;go_wp2_with fail
  refine((uh HH) V1 (uh HB).2).mono ?_;rintro e V2 ⟨rfl,h2⟩;have HB2:=hide ((uh HB).2.trans (h2.mono (uh HB).2.size));clear h2;cases hli:kids.all bodB with
  | true=>
   rw[hli] at HQ;go_wp2_with fail
   all_goals go_ret
   all_goals exact⟨by rw[uh HQ];rfl,uh HB2⟩
  | false=>
   rw[hli] at HQ;go_wp2_with fail
   all_goals go_ret
   all_goals exact⟨by rw[uh HQ];rfl,uh HB2⟩
 by_cases f8:formB x=8
 ·have HQ:=hide (show partE (n:=n) ((x,kids):TV×List (Tm n))=if 8<x.len+2 then 9 else 0 by rw[uh HP,if_neg f0,if_neg f5,if_neg f6,if_pos f8])
  rw[f8];clear f0 f5 f6 f8 HP HL HE HH
  by_cases h8:8<x.len+2
  ·rw[if_pos h8] at HQ
   have h8':(8:Int)<(x.len:Int)+2:=by omega
   go_wp2_with fail
   all_goals go_ret
   all_goals exact⟨by rw[uh HQ];rfl,(uh HB).2⟩
  ·rw[if_neg h8] at HQ
   have h8':¬(8:Int)<(x.len:Int)+2:=by omega
   go_wp2_with fail
   all_goals go_ret
   all_goals exact⟨by rw[uh HQ];rfl,(uh HB).2⟩
 by_cases f9:formB x=9
 ·have HQ:=hide (show partE (n:=n) ((x,kids):TV×List (Tm n))=extE x by rw[uh HP,if_neg f0,if_neg f5,if_neg f6,if_neg f8,if_pos f9])
  rw[f9];clear f0 f5 f6 f8 f9 HP HL HH;go_wp2_with fail
  refine((uh HE) V1).mono ?_;rintro e V2 ⟨rfl,h2⟩;have HB2:=hide ((uh HB).2.trans (h2.mono (uh HB).2.size));clear h2;go_wp2_with fail
  all_goals go_ret
  all_goals exact⟨by rw[uh HQ];rfl,uh HB2⟩
 have HQ:=hide (show partE (n:=n) ((x,kids):TV×List (Tm n))=0 by rw[uh HP,if_neg f0,if_neg f5,if_neg f6,if_neg f8,if_neg f9]);clear HP HL HH HE;generalize formB x=fo at *;have e0:(fo == 0)=false:=by simp[f0]
 have e5:(fo == 5)=false:=by simp[f5]
 have e6:(fo == 6)=false:=by simp[f6]
 have e8:(fo == 8)=false:=by simp[f8]
 have e9:(fo == 9)=false:=by simp[f9]
 clear f0 f5 f6 f8 f9;go_wp2_with fail
 all_goals go_ret
 all_goals exact⟨by rw[uh HQ];rfl,(uh HB).2⟩
end Go.Proofs.YtjbdkbaacjfecaaDoor
