import Derived.Test.YteaiefjmcinljaaGreatDoorBfGs
namespace Go.Proofs.YteaiefjmcinljaaGreatDoor
set_option maxHeartbeats 4000000
set_option maxRecDepth 100000
open Go.RowKit Go.Shelf Go.Maps
def pu20(k:Nat):Bool:=Nat.blt k 8 || k == 12
def ds20(k:Nat):Nat:=k+100
def sl20(k:Nat):Bool:=Nat.ble 100 k && Nat.ble k 112
theorem own_cap{n base:Nat}{W:World}{a:Option Addr}{k cap:Nat}{H:List (Hd n)}(h:OwnH base W (.slice a k cap) H):H.length≤cap:=by
 rcases h.2 with⟨_,h0⟩ | ⟨g,cap',cur,e,_,_,h3,_⟩
 ·omega
 ·simp at e
  omega
structure R20 {n:Nat} (W3:World) (L:List (Hd n)) (a:Option Addr) (cap:Nat) (w:World):Prop where
 cp:L.length≤cap
 low:Below W3.heap.size W3 w
 row:IsH w a L.length L
 far:∀g off,a=some ⟨g,off,none⟩→W3.heap.size≤g∧g<w.heap.size
/-- The row of views, one longer. -/
structure A20 {n:Nat} (W3:World) (lo vb:Nat) (u:Value) (xs:List Value) (k:Nat) (L:List (Hd n)) (a:Option Addr) (cap:Nat) (W5:World) (u':Value) (w:World):Prop where
 r:R20 W3 L a cap W5
 own:w.ownsRow lo 58 2 u' (k+1) (xs++[.pointer (some ⟨vb,0,none⟩),.slice a L.length cap])
 gr:W5.grownBy w u.ownBlock
 at':u'.ownBlock=u.ownBlock∨u'.ownBlock=some W5.heap.size
def St20{n:Nat}(W3:World)(lo vb vx:Nat)(u:Value)(xs:List Value)(k:Nat)(L:List (Hd n))(b8 b9 b10 b11 b13:Bool)(v108 v109 v110 v111:Value)(w:World):Prop:=
 (b8=false→Below W3.heap.size W3 w)∧(b8=true→b10=false→∃a cap,v108=.slice a L.length cap∧R20 W3 L a cap w∧(b9=true→v109=.agg #[.pointer (some ⟨vb,0,none⟩),.slice a L.length cap]))∧
 (b10=true→b11=false→∃a cap B,R20 W3 L a cap w∧v110=.slice (some ⟨B,0,none⟩) 1 1∧w.cell? ⟨B,0,none⟩=some (.pointer (some ⟨vb,0,none⟩))∧w.cell? ⟨B,1,none⟩=some (.slice a L.length cap))∧
 (b11=true→b13=false→∃a cap W5,A20 W3 lo vb u xs k L a cap W5 v111 w)∧
 (b13=true→∃a cap W5 w5,A20 W3 lo vb u xs k L a cap W5 v111 w5∧w=w5.setCell ⟨vx,0,none⟩ v111)∧(b9=true→b8=true)∧(b10=true→b9=true)∧(b11=true→b10=true)∧(b13=true→b11=true)
def F20{n:Nat}(vx rb vb xb:Nat)(u:Value)(tg:Tm (n+1)):Nat→Value
 | 100=>.pointer (some ⟨vx,0,none⟩)
 | 101=>.pointer (some ⟨vx,0,none⟩)
 | 102=>.pointer (some ⟨vx,0,none⟩)
 | 103=>u
 | 104=>.pointer (some ⟨vb,0,none⟩)
 | 105=>.pointer (some ⟨rb,0,none⟩)
 | 106=>.pointer (some ⟨xb,11,none⟩)
 | 107=>.agg #[.int .i64 tg.tv.k,.int .i64 tg.tv.N,.string tg.tv.s,.slice tg.tv.a tg.tv.len tg.tv.cap]
 | _=>.pointer (some ⟨vx,0,none⟩)
def I20{n:Nat}(vx rb vb xb lo:Nat)(u:Value)(tg:Tm (n+1))(xs:List Value)(k:Nat)(L:List (Hd n))(a0:Act)(W3:World)(l:Array Bool)(ac:Act)(w:World):Prop:=
 ∃f:Nat→Value,ac=⟨lay sl20 a0.tmps f,a0.defers⟩∧Pures pu20 ds20 (F20 vx rb vb xb u tg) l f∧St20 W3 lo vb vx u xs k L (l.getD 8 false) (l.getD 9 false) (l.getD 10 false) (l.getD 11 false) (l.getD 13 false) (f 108) (f 109) (f 110) (f 111) w∧(l.getD 11 false=true→l.getD 3 false=true)∧(l.getD 8 false=true→l.getD 7 false=true)
theorem fl_keep{l:Array Bool}{i p q:Nat}(hi:i<l.size)(hne:p≠i)(h:l.getD p false=true→l.getD q false=true):(l.setIfInBounds i true).getD p false=true→(l.setIfInBounds i true).getD q false=true:=fun hp=>by
 rw[flag_set hi,if_neg hne] at hp
 rw[flag_set hi]
 split
 ·rfl
 ·exact h hp
theorem fl_new{l:Array Bool}{i p q:Nat}(hi:i<l.size)(hq:l.getD q false=true):(l.setIfInBounds i true).getD p false=true→(l.setIfInBounds i true).getD q false=true:=fun _=>by
 rw[flag_set hi]
 split
 ·rfl
 ·exact hq
theorem I20.take{n:Nat}{vx rb vb xb lo:Nat}{u:Value}{tg:Tm (n+1)}{xs:List Value}{k:Nat}{L:List (Hd n)}{a0:Act}{W3:World}{l:Array Bool}{f:Nat→Value}{w:World}{i:Nat}(hi:l.getD i true=false)(hp:i<8∨i=12)(hpu:Pures pu20 ds20 (F20 vx rb vb xb u tg) l f)(hs:St20 W3 lo vb vx u xs k L (l.getD 8 false) (l.getD 9 false) (l.getD 10 false) (l.getD 11 false) (l.getD 13 false) (f 108) (f 109) (f 110) (f 111) w)(h3:l.getD 11 false=true→l.getD 3 false=true)(h7:l.getD 8 false=true→l.getD 7 false=true):
  I20 vx rb vb xb lo u tg xs k L a0 W3 (l.setIfInBounds i true) ⟨(lay sl20 a0.tmps f).setIfInBounds (i+100) (F20 vx rb vb xb u tg (i+100)),a0.defers⟩ w:=by
 obtain⟨h1,h2⟩:=flag_no hi
 refine⟨upd f (ds20 i) (F20 vx rb vb xb u tg (ds20 i)),?_,hpu.take h1,?_,fl_keep h1 (by omega) h3,fl_keep h1 (by omega) h7⟩
 ·rw[lay_put _ _ _ _ _ (by simp[sl20];omega)]
  rfl
 ·rw[flag_set h1,flag_set h1,flag_set h1,flag_set h1,flag_set h1,if_neg (by omega),if_neg (by omega),if_neg (by omega),if_neg (by omega),if_neg (by omega),upd_off _ _ (by unfold ds20;omega),upd_off _ _ (by unfold ds20;omega),upd_off _ _ (by unfold ds20;omega),upd_off _ _ (by unfold ds20;omega)]
  exact hs
theorem pu20_off{k s:Nat}(h:pu20 k=true)(hs:108≤s∧s≤111):ds20 k≠s:=by
 have:k<8∨k=12:=by simpa[pu20] using h
 unfold ds20
 omega
theorem no20{b b':Bool}(h:b'=true→b=true)(hb:b=false):b'=false:=Bool.eq_false_iff.2 fun e=>by rw[h e] at hb;cases hb
theorem wp_view20{n:Nat}(vx rb vb xb lo:Nat)(u:Value)(tg:Tm (n+1))(xs:List Value)(k:Nat)(L:List (Hd n))(a0:Act)(W3:World)(Q:Exit→Act→World→Prop)(hsz:a0.tmps.size=113)(h1:a0.tmps[1]?=some (.pointer (some ⟨rb,0,none⟩)))(h2:a0.tmps[2]?=some (.pointer (some ⟨vx,0,none⟩)))(h7:a0.tmps[7]?=some (.pointer (some ⟨xb,0,none⟩)))(h15:a0.tmps[15]?=some (.pointer (some ⟨vb,0,none⟩)))
  (cx:W3.cell? ⟨vx,0,none⟩=some u) (hxl:vx<W3.heap.size) (hbl:xb<W3.heap.size) (p0:W3.cell? ⟨xb,11,none⟩=some (.int .i64 tg.tv.k)) (p1:W3.cell? ⟨xb,12,none⟩=some (.int .i64 tg.tv.N)) (p2:W3.cell? ⟨xb,13,none⟩=some (.string tg.tv.s)) (p3:W3.cell? ⟨xb,14,none⟩=some (.slice tg.tv.a tg.tv.len tg.tv.cap))
  (hR:∀X,Below W3.heap.size W3 X→Calls Tryz.prog 33 #[.pointer (some ⟨rb,0,none⟩),.agg #[.int .i64 tg.tv.k,.int .i64 tg.tv.N,.string tg.tv.s,.slice tg.tv.a tg.tv.len tg.tv.cap]] X fun e W'=> ∃v,e=.returned v∧OwnH X.heap.size W' v L∧Below X.heap.size X W')
  (hown:W3.ownsRow lo 58 2 u k xs) (hk:k≤4194304) (hlo:lo≤W3.heap.size) (hbx:Boxed W3 vx 28 u) (hux:u.ownBlock≠some vx)
  (hQ:∀(f:Nat→Value) (a:Option Addr) (cap:Nat) (W5 w5:World) (u':Value),A20 W3 lo vb u xs k L a cap W5 u' w5→Q .normal ⟨lay sl20 a0.tmps f,a0.defers⟩ (w5.setCell ⟨vx,0,none⟩ u')):
  (Code.region 20 #[{dst:=some 100,op:=Op.move (Operand.tmp 2),type:=31,pos:= "base.go:128",after:=#[],guard:=none},{dst:=some 101,op:=Op.move (Operand.tmp 2),type:=31,pos:= "base.go:128",after:=#[],guard:=none},{dst:=some 102,op:=Op.nilCheck (Operand.tmp 101),type:=0,pos:= "base.go:128",after:=#[{on:=1,ground:=Ground.data}],guard:=none},{dst:=some 103,op:=Op.load 28 (Operand.tmp 102),type:=28,pos:= "base.go:128",after:=#[{on:=2,ground:=Ground.data}],guard:=none},{dst:=some 104,op:=Op.move (Operand.tmp 15),type:=56,pos:= "base.go:128",after:=#[],guard:=none},{dst:=some 105,op:=Op.move (Operand.tmp 1),type:=30,pos:= "base.go:128",after:=#[],guard:=none},{dst:=some 106,op:=Op.fieldAddr 38 (Operand.tmp 7) 4,type:=0,pos:= "base.go:128",after:=#[],guard:=none},{dst:=some 107,op:=Op.load 34 (Operand.tmp 106),type:=34,pos:= "base.go:128",after:=#[{on:=6,ground:=Ground.data}],guard:=none},{dst:=some 108,op:=Op.call {callee:=Callee.value (Operand.func 33),args:=#[Operand.tmp 105,Operand.tmp 107],argTypes:=#[30,34]},type:=25,pos:= "base.go:128",after:=#[{on:=5,ground:=Ground.data},{on:=7,ground:=Ground.data}],guard:=none},{dst:=some 109,op:=Op.build 58 #[(0,Operand.tmp 104),(1,Operand.tmp 108)],type:=58,pos:= "base.go:128",after:=#[{on:=4,ground:=Ground.data},{on:=8,ground:=Ground.data}],guard:=none},{dst:=some 110,op:=Op.buildSlice 28 1 #[(0,Operand.tmp 109)],type:=28,pos:= "base.go:128",after:=#[{on:=9,ground:=Ground.data}],guard:=none},{dst:=some 111,op:=Op.call {callee:=Callee.builtin Builtin.append,args:=#[Operand.tmp 103,Operand.tmp 110],argTypes:=#[28,28]},type:=28,pos:= "base.go:128",after:=#[{on:=3,ground:=Ground.data},{on:=10,ground:=Ground.data},{on:=8,ground:=Ground.chain}],guard:=none},{dst:=some 112,op:=Op.nilCheck (Operand.tmp 100),type:=0,pos:= "base.go:128",after:=#[{on:=0,ground:=Ground.data},{on:=0,ground:=Ground.phase},{on:=1,ground:=Ground.phase},{on:=2,ground:=Ground.phase},{on:=3,ground:=Ground.phase},{on:=4,ground:=Ground.phase},{on:=5,ground:=Ground.phase},{on:=6,ground:=Ground.phase},{on:=7,ground:=Ground.phase},{on:=8,ground:=Ground.phase},{on:=9,ground:=Ground.phase},{on:=10,ground:=Ground.phase},{on:=11,ground:=Ground.phase}],guard:=none},{dst:=none,op:=Op.store 28 (Operand.tmp 112) (Operand.tmp 111),type:=0,pos:= "base.go:128",after:=#[{on:=12,ground:=Ground.data},{on:=11,ground:=Ground.data},{on:=11,ground:=Ground.chain},{on:=0,ground:=Ground.phase},{on:=1,ground:=Ground.phase},{on:=2,ground:=Ground.phase},{on:=3,ground:=Ground.phase},{on:=4,ground:=Ground.phase},{on:=5,ground:=Ground.phase},{on:=6,ground:=Ground.phase},{on:=7,ground:=Ground.phase},{on:=8,ground:=Ground.phase},{on:=9,ground:=Ground.phase},{on:=10,ground:=Ground.phase},{on:=11,ground:=Ground.phase}],guard:=none}] true).wp Tryz.prog Q a0 W3:=by
 refine wp_region_inv (by kernel_rfl) (I20 vx rb vb xb lo u tg xs k L a0 W3) (rank_of (by kernel_rfl)) ?_ ?_ ?_
 ·intro l ac v i o hls hI ho hl haft K hK
  obtain⟨f,rfl,hpu,hst,hs3,hs8⟩:=hI
  have HS3:=hide hs3
  have HS8:=hide hs8
  have e1:(lay sl20 a0.tmps f)[1]?=some (.pointer (some ⟨rb,0,none⟩)):=(lay_off _ _ _ _ rfl).trans h1
  have e2:(lay sl20 a0.tmps f)[2]?=some (.pointer (some ⟨vx,0,none⟩)):=(lay_off _ _ _ _ rfl).trans h2
  have e7:(lay sl20 a0.tmps f)[7]?=some (.pointer (some ⟨xb,0,none⟩)):=(lay_off _ _ _ _ rfl).trans h7
  have e15:(lay sl20 a0.tmps f)[15]?=some (.pointer (some ⟨vb,0,none⟩)):=(lay_off _ _ _ _ rfl).trans h15
  have es:∀k,sl20 k=true→(lay sl20 a0.tmps f)[k]?=some (f k):=fun k hk=>lay_slot _ _ _ _ hk (by simp[sl20] at hk;omega)
  have HP:=hide hpu
  have HS:=hide hst
  have HK:=hide hK
  have HF:=hide haft
  have HQ:=hide hQ
  have HR:=hide hR
  have HO:=hide (And.intro hown (And.intro hk (And.intro hlo (And.intro hbx hux))))
  have HC:=hide (And.intro cx (And.intro p0 (And.intro p1 (And.intro p2 p3))))
  have HL:=hide (And.intro hxl hbl)
  clear hpu hst hK haft hQ hR hs3 hs8 hown hbx hux cx p0 p1 p2 p3 hk hlo
  rcases i with _|_|_|_|_|_|_|_|_|_|_|_|_|_|i
  ·obtain rfl:=Option.some.inj ho
   clear ho
   clear es
   go_simp
   exact(unhide HK) _ _ (I20.take (i:=0) hl (by omega) (unhide HP) (unhide HS) (unhide HS3) (unhide HS8))
  ·obtain rfl:=Option.some.inj ho
   clear ho
   clear es
   go_simp
   exact(unhide HK) _ _ (I20.take (i:=1) hl (by omega) (unhide HP) (unhide HS) (unhide HS3) (unhide HS8))
  ·obtain rfl:=Option.some.inj ho
   clear ho
   have ed:(lay sl20 a0.tmps f)[101]?=some (.pointer (some ⟨vx,0,none⟩)):=by rw[es 101 rfl];exact congrArg some ((unhide HP) 1 rfl ((unhide HF) {on:=1,ground:=.data} (by simp) rfl))
   clear es
   go_simp
   exact(unhide HK) _ _ (I20.take (i:=2) hl (by omega) (unhide HP) (unhide HS) (unhide HS3) (unhide HS8))
  ·obtain rfl:=Option.some.inj ho
   clear ho
   have ed:(lay sl20 a0.tmps f)[102]?=some (.pointer (some ⟨vx,0,none⟩)):=by rw[es 102 rfl];exact congrArg some ((unhide HP) 2 rfl ((unhide HF) {on:=2,ground:=.data} (by simp) rfl))
   have hB:Below W3.heap.size W3 v:=by
    cases h8:l.getD 8 false with
    | false=>exact(unhide HS).1 h8
    | true=>
     cases h10:l.getD 10 false with
     | false=>obtain⟨a,cap,_,r,_⟩:=(unhide HS).2.1 h8 h10;exact r.low
     | true=>
      have h11:l.getD 11 false=false:=Bool.eq_false_iff.2 fun hq=>by have h9:=(unhide HS3) hq;rw[(flag_no hl).2] at h9;cases h9
      obtain⟨a,cap,B,r,_⟩:=(unhide HS).2.2.1 h10 h11
      exact r.low
   have cx:=(hB.cell (p:=⟨vx,0,none⟩) (unhide HL).1).trans (unhide HC).1
   clear hB
   clear es
   go_simp
   exact(unhide HK) _ _ (I20.take (i:=3) hl (by omega) (unhide HP) (unhide HS) (unhide HS3) (unhide HS8))
  ·obtain rfl:=Option.some.inj ho
   clear ho
   clear es
   go_simp
   exact(unhide HK) _ _ (I20.take (i:=4) hl (by omega) (unhide HP) (unhide HS) (unhide HS3) (unhide HS8))
  ·obtain rfl:=Option.some.inj ho
   clear ho
   clear es
   go_simp
   exact(unhide HK) _ _ (I20.take (i:=5) hl (by omega) (unhide HP) (unhide HS) (unhide HS3) (unhide HS8))
  ·obtain rfl:=Option.some.inj ho
   clear ho
   clear es
   go_simp
   exact(unhide HK) _ _ (I20.take (i:=6) hl (by omega) (unhide HP) (unhide HS) (unhide HS3) (unhide HS8))
  ·obtain rfl:=Option.some.inj ho
   clear ho
   have ed:(lay sl20 a0.tmps f)[106]?=some (.pointer (some ⟨xb,11,none⟩)):=by rw[es 106 rfl];exact congrArg some ((unhide HP) 6 rfl ((unhide HF) {on:=6,ground:=.data} (by simp) rfl))
   have h8:l.getD 8 false=false:=Bool.eq_false_iff.2 fun hq=>by have h9:=(unhide HS8) hq;rw[(flag_no hl).2] at h9;cases h9
   have hB:=(unhide HS).1 h8
   have p0:=(hB.cell (p:=⟨xb,11,none⟩) (unhide HL).2).trans (unhide HC).2.1
   have p1:=(hB.cell (p:=⟨xb,12,none⟩) (unhide HL).2).trans (unhide HC).2.2.1
   have p2:=(hB.cell (p:=⟨xb,13,none⟩) (unhide HL).2).trans (unhide HC).2.2.2.1
   have p3:=(hB.cell (p:=⟨xb,14,none⟩) (unhide HL).2).trans (unhide HC).2.2.2.2
   clear hB
   clear es
   go_simp
   exact(unhide HK) _ _ (I20.take (i:=7) hl (by omega) (unhide HP) (unhide HS) (unhide HS3) (unhide HS8))
  ·obtain rfl:=Option.some.inj ho
   clear ho
   have ed:(lay sl20 a0.tmps f)[105]?=some (.pointer (some ⟨rb,0,none⟩)):=by rw[es 105 rfl];exact congrArg some ((unhide HP) 5 rfl ((unhide HF) {on:=5,ground:=.data} (by simp) rfl))
   have ee:(lay sl20 a0.tmps f)[107]?=some (.agg #[.int .i64 tg.tv.k,.int .i64 tg.tv.N,.string tg.tv.s,.slice tg.tv.a tg.tv.len tg.tv.cap]):=by rw[es 107 rfl];exact congrArg some ((unhide HP) 7 rfl ((unhide HF) {on:=7,ground:=.data} (by simp) rfl))
   have h8:=(flag_no hl).2
   have h9:=no20 (unhide HS).2.2.2.2.2.1 h8
   have h10:=no20 (unhide HS).2.2.2.2.2.2.1 h9
   have h11:=no20 (unhide HS).2.2.2.2.2.2.2.1 h10
   have h13:=no20 (unhide HS).2.2.2.2.2.2.2.2 h11
   have hB:=(unhide HS).1 h8
   have hR:=(unhide HR) v hB
   have HB:=hide hB
   clear es hB
   go_simp
   refine hR.mono ?_
   rintro e w' ⟨av,rfl,oh,b4⟩
   obtain⟨a,cap,rfl,hI,hfar⟩:=oh.isH
   have hcp:=own_cap oh
   refine(unhide HK) _ _ ⟨upd f 108 (.slice a L.length cap),by show(⟨(lay sl20 a0.tmps f).setIfInBounds 108 _,a0.defers⟩:Act)=_;rw[lay_put _ _ _ _ _ rfl],(unhide HP).other (flag_no hl).1 rfl (fun k hk=>pu20_off hk (by omega)) _,?_,fl_keep (flag_no hl).1 (by omega) (unhide HS3),fl_new (flag_no hl).1 ((unhide HF) {on:=7,ground:=.data} (by simp) rfl)⟩
   rw[flag_set (flag_no hl).1,flag_set (flag_no hl).1,flag_set (flag_no hl).1,flag_set (flag_no hl).1,flag_set (flag_no hl).1,if_pos rfl,if_neg (by omega),if_neg (by omega),if_neg (by omega),if_neg (by omega)]
   rw[h9,h10,h11,h13,upd_at,upd_off _ _ (by omega),upd_off _ _ (by omega),upd_off _ _ (by omega)]
   refine⟨fun h=>(by cases h),fun _ _=>⟨a,cap,rfl,⟨hcp,(unhide HB).trans (b4.mono (unhide HB).size),hI,fun g off e=>?_⟩,fun h=>(by cases h)⟩,fun h=>(by cases h),fun h=>(by cases h),fun h=>(by cases h),fun h=>(by cases h),fun h=>(by cases h),fun h=>(by cases h),fun h=>(by cases h)⟩
   rcases hfar with e0 | ⟨g',e0,k1,k2⟩
   ·rw[e0] at e;cases e
   ·rw[e0] at e;simp at e;rw[←e.1];exact⟨Nat.le_trans (unhide HB).size k1,k2⟩
  ·obtain rfl:=Option.some.inj ho
   clear ho
   have h8:l.getD 8 false=true:=(unhide HF) {on:=8,ground:=.data} (by simp) rfl
   have h9:=(flag_no hl).2
   have h10:=no20 (unhide HS).2.2.2.2.2.2.1 h9
   have h11:=no20 (unhide HS).2.2.2.2.2.2.2.1 h10
   have h13:=no20 (unhide HS).2.2.2.2.2.2.2.2 h11
   obtain⟨a,cap,e8,r,_⟩:=(unhide HS).2.1 h8 h10
   have ed:(lay sl20 a0.tmps f)[104]?=some (.pointer (some ⟨vb,0,none⟩)):=by rw[es 104 rfl];exact congrArg some ((unhide HP) 4 rfl ((unhide HF) {on:=4,ground:=.data} (by simp) rfl))
   have ee:(lay sl20 a0.tmps f)[108]?=some (.slice a L.length cap):=by rw[es 108 rfl,e8]
   have HE:=hide (And.intro e8 r)
   clear es e8 r
   go_simp
   refine(unhide HK) _ _ ⟨upd f 109 (.agg #[.pointer (some ⟨vb,0,none⟩),.slice a L.length cap]),by rw[lay_put _ _ _ _ _ rfl],(unhide HP).other (flag_no hl).1 rfl (fun k hk=>pu20_off hk (by omega)) _,?_,fl_keep (flag_no hl).1 (by omega) (unhide HS3),fl_keep (flag_no hl).1 (by omega) (unhide HS8)⟩
   rw[flag_set (flag_no hl).1,flag_set (flag_no hl).1,flag_set (flag_no hl).1,flag_set (flag_no hl).1,flag_set (flag_no hl).1,if_neg (by omega),if_pos rfl,if_neg (by omega),if_neg (by omega),if_neg (by omega)]
   rw[h8,h10,h11,h13,upd_off _ _ (by omega),upd_at,upd_off _ _ (by omega),upd_off _ _ (by omega)]
   exact⟨fun h=>(by cases h),fun _ _=>⟨a,cap,(unhide HE).1,(unhide HE).2,fun _=>rfl⟩,fun h=>(by cases h),fun h=>(by cases h),fun h=>(by cases h),fun _=>rfl,fun h=>(by cases h),fun h=>(by cases h),fun h=>(by cases h)⟩
  ·obtain rfl:=Option.some.inj ho
   clear ho
   have h9:l.getD 9 false=true:=(unhide HF) {on:=9,ground:=.data} (by simp) rfl
   have h8:=(unhide HS).2.2.2.2.2.1 h9
   have h10:=(flag_no hl).2
   have h11:=no20 (unhide HS).2.2.2.2.2.2.2.1 h10
   have h13:=no20 (unhide HS).2.2.2.2.2.2.2.2 h11
   obtain⟨a,cap,e8,r,e9⟩:=(unhide HS).2.1 h8 h10
   have ee:(lay sl20 a0.tmps f)[109]?=some (.agg #[.pointer (some ⟨vb,0,none⟩),.slice a L.length cap]):=by rw[es 109 rfl,e9 h9]
   have HE:=hide r
   clear es e8 r e9
   go_simp
   have hnw:=World.alloc_heap_new v (.cells #[.pointer (some ⟨vb,0,none⟩),.slice a L.length cap] 58)
   have hba:=(Below.refl _ v).alloc (Nat.le_refl _) (.cells #[.pointer (some ⟨vb,0,none⟩),.slice a L.length cap] 58)
   refine(unhide HK) _ _ ⟨upd f 110 (.slice (some ⟨v.heap.size,0,none⟩) 1 1),by rw[lay_put _ _ _ _ _ rfl],(unhide HP).other (flag_no hl).1 rfl (fun k hk=>pu20_off hk (by omega)) _,?_,fl_keep (flag_no hl).1 (by omega) (unhide HS3),fl_keep (flag_no hl).1 (by omega) (unhide HS8)⟩
   rw[flag_set (flag_no hl).1,flag_set (flag_no hl).1,flag_set (flag_no hl).1,flag_set (flag_no hl).1,flag_set (flag_no hl).1,if_neg (by omega),if_neg (by omega),if_pos rfl,if_neg (by omega),if_neg (by omega)]
   rw[h8,h9,h11,h13,upd_off _ _ (by omega),upd_off _ _ (by omega),upd_at,upd_off _ _ (by omega)]
   refine⟨fun h=>(by cases h),fun _ h=>(by cases h),fun _ _=>⟨a,cap,v.heap.size,⟨(unhide HE).cp,(unhide HE).low.trans (hba.mono (unhide HE).low.size),(unhide HE).row.below hba,fun g off e=>⟨((unhide HE).far g off e).1,Nat.lt_of_lt_of_le ((unhide HE).far g off e).2 hba.size⟩⟩,rfl,?_,?_⟩,fun h=>(by cases h),fun h=>(by cases h),fun _=>rfl,fun _=>rfl,fun h=>(by cases h),fun h=>(by cases h)⟩
   ·simp only[World.cell?,hnw];rfl
   ·simp only[World.cell?,hnw];rfl
  ·obtain rfl:=Option.some.inj ho
   clear ho
   have h10:l.getD 10 false=true:=(unhide HF) {on:=10,ground:=.data} (by simp) rfl
   have h9:=(unhide HS).2.2.2.2.2.2.1 h10
   have h8:=(unhide HS).2.2.2.2.2.1 h9
   have h11:=(flag_no hl).2
   have h13:=no20 (unhide HS).2.2.2.2.2.2.2.2 h11
   have ed:(lay sl20 a0.tmps f)[103]?=some (u):=by rw[es 103 rfl];exact congrArg some ((unhide HP) 3 rfl ((unhide HF) {on:=3,ground:=.data} (by simp) rfl))
   obtain⟨a,cap,B,r,e10,c0,c1⟩:=(unhide HS).2.2.1 h10 h11
   have ee:(lay sl20 a0.tmps f)[110]?=some (.slice (some ⟨B,0,none⟩) 1 1):=by rw[es 110 rfl,e10]
   have hown:v.ownsRow lo 58 2 u k xs:=owns_below (unhide HO).1 (fun g hg=>r.low.block g (owns_lt (unhide HO).1 hg).2)
   obtain⟨v',w',hrun,hown',hgr',hat'⟩:=app_view lo u k xs hown B _ _ c0 c1 rfl rfl (unhide HO).2.1 (Nat.le_trans (unhide HO).2.2.1 r.low.size)
   refine step_append_run rfl (Operand.tmp 103) (Operand.tmp 110) 28 28 rfl rfl u (.slice (some ⟨B,0,none⟩) 1 1) (by simp[Act.eval,ed]) (by simp[Act.eval,ee]) hrun ?_
   refine(unhide HK) _ _ ⟨upd f 111 v',by show(⟨(lay sl20 a0.tmps f).setIfInBounds 111 v',a0.defers⟩:Act)=_;rw[lay_put _ _ _ _ _ rfl],(unhide HP).other (flag_no hl).1 rfl (fun k hk=>pu20_off hk (by omega)) _,?_,fl_new (flag_no hl).1 ((unhide HF) {on:=3,ground:=.data} (by simp) rfl),fl_keep (flag_no hl).1 (by omega) (unhide HS8)⟩
   rw[flag_set (flag_no hl).1,flag_set (flag_no hl).1,flag_set (flag_no hl).1,flag_set (flag_no hl).1,flag_set (flag_no hl).1,if_neg (by omega),if_neg (by omega),if_neg (by omega),if_pos rfl,if_neg (by omega)]
   rw[h8,h9,h10,h13,upd_off _ _ (by omega),upd_off _ _ (by omega),upd_off _ _ (by omega),upd_at]
   exact⟨fun h=>(by cases h),fun _ h=>(by cases h),fun _ h=>(by cases h),fun _ _=>⟨a,cap,v,r,hown',hgr',hat'⟩,fun h=>(by cases h),fun _=>rfl,fun _=>rfl,fun _=>rfl,fun h=>(by cases h)⟩
  ·obtain rfl:=Option.some.inj ho
   clear ho
   have ed:(lay sl20 a0.tmps f)[100]?=some (.pointer (some ⟨vx,0,none⟩)):=by rw[es 100 rfl];exact congrArg some ((unhide HP) 0 rfl ((unhide HF) {on:=0,ground:=.data} (by simp) rfl))
   clear es
   go_simp
   exact(unhide HK) _ _ (I20.take (i:=12) hl (by omega) (unhide HP) (unhide HS) (unhide HS3) (unhide HS8))
  ·obtain rfl:=Option.some.inj ho
   clear ho
   have ed:(lay sl20 a0.tmps f)[112]?=some (.pointer (some ⟨vx,0,none⟩)):=by rw[es 112 rfl];exact congrArg some ((unhide HP) 12 rfl ((unhide HF) {on:=12,ground:=.data} (by simp) rfl))
   have h11:l.getD 11 false=true:=(unhide HF) {on:=11,ground:=.data} (by simp) rfl
   have h13:=(flag_no hl).2
   obtain⟨a,cap,W5,hA⟩:=(unhide HS).2.2.2.1 h11 h13
   obtain⟨gg,cp,e111⟩:∃gg cp,f 111=.slice (some ⟨gg,0,none⟩) (k+1) cp:=by
    rcases hA.own.2 with⟨_,hz⟩ | ⟨gg,cp,cur,e,_⟩
    ·omega
    ·exact⟨gg,cp,e⟩
   have ee:(lay sl20 a0.tmps f)[111]?=some (.slice (some ⟨gg,0,none⟩) (k+1) cp):=by rw[es 111 rfl,e111]
   have hb5:Boxed v vx 28 u:=(hA.gr.block vx (Nat.lt_of_lt_of_le (unhide HL).1 hA.r.low.size) (fun e=>(unhide HO).2.2.2.2 e.symm)).trans (boxed_at' (unhide HO).2.2.2.1 hA.r.low)
   have cb:=hb5.cell
   have fb:=hb5.frozen
   have HA:=hide hA
   have h10:=(unhide HS).2.2.2.2.2.2.2.1 h11
   have h9:=(unhide HS).2.2.2.2.2.2.1 h10
   have h8:=(unhide HS).2.2.2.2.2.1 h9
   have HFV:=hide e111
   clear es hA hb5 e111
   go_simp
   refine(unhide HK) _ _ ⟨f,rfl,(unhide HP).same (flag_no hl).1 rfl,?_,fl_keep (flag_no hl).1 (by omega) (unhide HS3),fl_keep (flag_no hl).1 (by omega) (unhide HS8)⟩
   rw[flag_set (flag_no hl).1,flag_set (flag_no hl).1,flag_set (flag_no hl).1,flag_set (flag_no hl).1,flag_set (flag_no hl).1,if_neg (by omega),if_neg (by omega),if_neg (by omega),if_neg (by omega),if_pos rfl]
   rw[h8,h9,h10,h11]
   exact⟨fun h=>(by cases h),fun _ h=>(by cases h),fun _ h=>(by cases h),fun _ h=>(by cases h),fun _=>⟨a,cap,W5,v,unhide HA,by rw[unhide HFV]⟩,fun _=>rfl,fun _=>rfl,fun _=>rfl,fun _=>rfl⟩
  ·cases ho
 ·intro l ac v hI hall
  obtain⟨f,rfl,hpu,hst,-,-⟩:=hI
  obtain⟨a,cap,W5,w5,hA,rfl⟩:=hst.2.2.2.2.1 (hall 13 (by decide))
  exact hQ f a cap W5 w5 (f 111) hA
 ·refine⟨fun k=>a0.tmps.getD k undef,by rw[lay_self],Pures.none _ _ _ _ _,?_,fun h=>?_,fun h=>?_⟩
  ·rw[rep_no,rep_no,rep_no,rep_no,rep_no]
   exact⟨fun _=>(Below.refl _ W3).drew,fun h=>(by cases h),fun h=>(by cases h),fun h=>(by cases h),fun h=>(by cases h),fun h=>(by cases h),fun h=>(by cases h),fun h=>(by cases h),fun h=>(by cases h)⟩
  ·rw[rep_no] at h;cases h
  ·rw[rep_no] at h;cases h
theorem wp_view20'{n:Nat}{vx rb vb xb lo:Nat}{u:Value}{tg:Tm (n+1)}{xs:List Value}{k:Nat}{L:List (Hd n)}{v0 v3 v4 v5 v6 v8 v9 v10 v11 v12 v13 v14 v16 v17 v18 v19 v20 v21 v22 v23 v24 v25 v26 v27 v28 v29 v30 v31 v32 v33 v34 v35 v36 v37 v38 v39 v40 v41 v42 v43 v44 v45 v46 v47 v48 v49 v50 v51 v52 v53 v54 v55 v56 v57 v58 v59 v60 v61 v62 v63 v64 v65 v66 v67 v68 v69 v70 v71 v72 v73 v74 v75 v76 v77 v78 v79 v80 v81 v82 v83 v84 v85 v86 v87 v88 v89 v90 v91 v92 v93 v94 v95 v96 v97 v98 v99 v100 v101 v102 v103 v104 v105 v106 v107 v108 v109 v110 v111 v112:Value}{d:List Deferred}{W3:World}{Q:Exit→Act→World→Prop}
  (cx:W3.cell? ⟨vx,0,none⟩=some u) (hxl:vx<W3.heap.size) (hbl:xb<W3.heap.size) (p0:W3.cell? ⟨xb,11,none⟩=some (.int .i64 tg.tv.k)) (p1:W3.cell? ⟨xb,12,none⟩=some (.int .i64 tg.tv.N)) (p2:W3.cell? ⟨xb,13,none⟩=some (.string tg.tv.s)) (p3:W3.cell? ⟨xb,14,none⟩=some (.slice tg.tv.a tg.tv.len tg.tv.cap))
  (hR:∀X,Below W3.heap.size W3 X→Calls Tryz.prog 33 #[.pointer (some ⟨rb,0,none⟩),.agg #[.int .i64 tg.tv.k,.int .i64 tg.tv.N,.string tg.tv.s,.slice tg.tv.a tg.tv.len tg.tv.cap]] X fun e W'=> ∃v,e=.returned v∧OwnH X.heap.size W' v L∧Below X.heap.size X W')
  (hown:W3.ownsRow lo 58 2 u k xs) (hk:k≤4194304) (hlo:lo≤W3.heap.size) (hbx:Boxed W3 vx 28 u) (hux:u.ownBlock≠some vx)
  (hQ:∀(u100 u101 u102 u103 u104 u105 u106 u107 u108 u109 u110 u111 u112:Value) (a:Option Addr) (cap:Nat) (W5 w5:World) (u':Value),A20 W3 lo vb u xs k L a cap W5 u' w5→Q .normal ⟨#[v0,.pointer (some ⟨rb,0,none⟩),.pointer (some ⟨vx,0,none⟩),v3,v4,v5,v6,.pointer (some ⟨xb,0,none⟩),v8,v9,v10,v11,v12,v13,v14,.pointer (some ⟨vb,0,none⟩),v16,v17,v18,v19,v20,v21,v22,v23,v24,v25,v26,v27,v28,v29,v30,v31,v32,v33,v34,v35,v36,v37,v38,v39,v40,v41,v42,v43,v44,v45,v46,v47,v48,v49,v50,v51,v52,v53,v54,v55,v56,v57,v58,v59,v60,v61,v62,v63,v64,v65,v66,v67,v68,v69,v70,v71,v72,v73,v74,v75,v76,v77,v78,v79,v80,v81,v82,v83,v84,v85,v86,v87,v88,v89,v90,v91,v92,v93,v94,v95,v96,v97,v98,v99,u100,u101,u102,u103,u104,u105,u106,u107,u108,u109,u110,u111,u112],d⟩ (w5.setCell ⟨vx,0,none⟩ u')):
  (Code.region 20 #[{dst:=some 100,op:=Op.move (Operand.tmp 2),type:=31,pos:= "base.go:128",after:=#[],guard:=none},{dst:=some 101,op:=Op.move (Operand.tmp 2),type:=31,pos:= "base.go:128",after:=#[],guard:=none},{dst:=some 102,op:=Op.nilCheck (Operand.tmp 101),type:=0,pos:= "base.go:128",after:=#[{on:=1,ground:=Ground.data}],guard:=none},{dst:=some 103,op:=Op.load 28 (Operand.tmp 102),type:=28,pos:= "base.go:128",after:=#[{on:=2,ground:=Ground.data}],guard:=none},{dst:=some 104,op:=Op.move (Operand.tmp 15),type:=56,pos:= "base.go:128",after:=#[],guard:=none},{dst:=some 105,op:=Op.move (Operand.tmp 1),type:=30,pos:= "base.go:128",after:=#[],guard:=none},{dst:=some 106,op:=Op.fieldAddr 38 (Operand.tmp 7) 4,type:=0,pos:= "base.go:128",after:=#[],guard:=none},{dst:=some 107,op:=Op.load 34 (Operand.tmp 106),type:=34,pos:= "base.go:128",after:=#[{on:=6,ground:=Ground.data}],guard:=none},{dst:=some 108,op:=Op.call {callee:=Callee.value (Operand.func 33),args:=#[Operand.tmp 105,Operand.tmp 107],argTypes:=#[30,34]},type:=25,pos:= "base.go:128",after:=#[{on:=5,ground:=Ground.data},{on:=7,ground:=Ground.data}],guard:=none},{dst:=some 109,op:=Op.build 58 #[(0,Operand.tmp 104),(1,Operand.tmp 108)],type:=58,pos:= "base.go:128",after:=#[{on:=4,ground:=Ground.data},{on:=8,ground:=Ground.data}],guard:=none},{dst:=some 110,op:=Op.buildSlice 28 1 #[(0,Operand.tmp 109)],type:=28,pos:= "base.go:128",after:=#[{on:=9,ground:=Ground.data}],guard:=none},{dst:=some 111,op:=Op.call {callee:=Callee.builtin Builtin.append,args:=#[Operand.tmp 103,Operand.tmp 110],argTypes:=#[28,28]},type:=28,pos:= "base.go:128",after:=#[{on:=3,ground:=Ground.data},{on:=10,ground:=Ground.data},{on:=8,ground:=Ground.chain}],guard:=none},{dst:=some 112,op:=Op.nilCheck (Operand.tmp 100),type:=0,pos:= "base.go:128",after:=#[{on:=0,ground:=Ground.data},{on:=0,ground:=Ground.phase},{on:=1,ground:=Ground.phase},{on:=2,ground:=Ground.phase},{on:=3,ground:=Ground.phase},{on:=4,ground:=Ground.phase},{on:=5,ground:=Ground.phase},{on:=6,ground:=Ground.phase},{on:=7,ground:=Ground.phase},{on:=8,ground:=Ground.phase},{on:=9,ground:=Ground.phase},{on:=10,ground:=Ground.phase},{on:=11,ground:=Ground.phase}],guard:=none},{dst:=none,op:=Op.store 28 (Operand.tmp 112) (Operand.tmp 111),type:=0,pos:= "base.go:128",after:=#[{on:=12,ground:=Ground.data},{on:=11,ground:=Ground.data},{on:=11,ground:=Ground.chain},{on:=0,ground:=Ground.phase},{on:=1,ground:=Ground.phase},{on:=2,ground:=Ground.phase},{on:=3,ground:=Ground.phase},{on:=4,ground:=Ground.phase},{on:=5,ground:=Ground.phase},{on:=6,ground:=Ground.phase},{on:=7,ground:=Ground.phase},{on:=8,ground:=Ground.phase},{on:=9,ground:=Ground.phase},{on:=10,ground:=Ground.phase},{on:=11,ground:=Ground.phase}],guard:=none}] true).wp Tryz.prog Q ⟨#[v0,.pointer (some ⟨rb,0,none⟩),.pointer (some ⟨vx,0,none⟩),v3,v4,v5,v6,.pointer (some ⟨xb,0,none⟩),v8,v9,v10,v11,v12,v13,v14,.pointer (some ⟨vb,0,none⟩),v16,v17,v18,v19,v20,v21,v22,v23,v24,v25,v26,v27,v28,v29,v30,v31,v32,v33,v34,v35,v36,v37,v38,v39,v40,v41,v42,v43,v44,v45,v46,v47,v48,v49,v50,v51,v52,v53,v54,v55,v56,v57,v58,v59,v60,v61,v62,v63,v64,v65,v66,v67,v68,v69,v70,v71,v72,v73,v74,v75,v76,v77,v78,v79,v80,v81,v82,v83,v84,v85,v86,v87,v88,v89,v90,v91,v92,v93,v94,v95,v96,v97,v98,v99,v100,v101,v102,v103,v104,v105,v106,v107,v108,v109,v110,v111,v112],d⟩ W3:=
 wp_view20 vx rb vb xb lo u tg xs k L _ W3 Q rfl rfl rfl rfl rfl cx hxl hbl p0 p1 p2 p3 hR hown hk hlo hbx hux fun f a cap W5 w5 u' hA=>hQ (f 100) (f 101) (f 102) (f 103) (f 104) (f 105) (f 106) (f 107) (f 108) (f 109) (f 110) (f 111) (f 112) a cap W5 w5 u' hA
end Go.Proofs.YteaiefjmcinljaaGreatDoor
