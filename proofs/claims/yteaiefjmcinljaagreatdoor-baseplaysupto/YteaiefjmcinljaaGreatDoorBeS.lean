import Derived.Test.YteaiefjmcinljaaGreatDoorBeLs
namespace Go.Proofs.YteaiefjmcinljaaGreatDoor
set_option maxHeartbeats 4000000
set_option maxRecDepth 100000
open Go.RowKit Go.Shelf Go.Maps
theorem box9_frz{W:World}{B:Nat}{x:TV}(h:BoxT W B x)(o:Nat):W.frozen? ⟨B,o,none⟩=false:=by simp[World.frozen?,show W.heap[B]?=_ from h]
theorem box9_cell{W:World}{B o:Nat}{arr:Array Value}{T:TypeId}(h:W.heap[B]?=some (.cells arr T (0,0)))(v:Value):(W.setCell ⟨B,o,none⟩ v).heap[B]?=some (.cells (arr.setIfInBounds o v) T (0,0)):=by
 obtain⟨hlt,hk⟩:=Array.getElem?_eq_some_iff.1 h
 show(W.heap.modify B _)[B]?=_
 rw[Array.getElem?_eq_getElem (by rw[Array.size_modify];exact hlt),Array.getElem_modify_self,hk]
 rfl
theorem box9_set4{W:World}{B:Nat}{y:TV}(h:BoxT W B y)(x:TV):BoxT (set4 W B 0 x) B x:=
 box9_cell (box9_cell (box9_cell (box9_cell h _) _) _) _
theorem set9_other(W:World)(B:Nat)(x:TV)(k:Nat)(h:k≠B):(set4 W B 0 x).heap[k]?=W.heap[k]?:=
 (Below.heap_setCell _ _ _ k h).trans ((Below.heap_setCell _ _ _ k h).trans ((Below.heap_setCell _ _ _ k h).trans (Below.heap_setCell _ _ _ k h)))
def zT:TV:=⟨0,0,⟨#[]⟩,none,0,0⟩
def pu9(k:Nat):Bool:=Nat.blt k 8
def ds9(k:Nat):Nat:=if k<8 then k+53 else if k=8 then 9 else 10
def sl9(k:Nat):Bool:=(Nat.ble 9 k && Nat.ble k 10) || (Nat.ble 53 k && Nat.ble k 60)
def Bx9(lo:Nat)(x:TV)(a s:Bool)(v:Value)(w:World):Prop:=a=true→∃B,v=.pointer (some ⟨B,0,none⟩)∧lo≤B∧BoxT w B (if s=true then x else zT)
structure St9 (W3:World) (x y:TV) (b8 b9 b10 b11:Bool) (v9 v10:Value) (w:World):Prop where
 low:Below W3.heap.size W3 w
 one:Bx9 W3.heap.size x b8 b10 v9 w
 two:Bx9 W3.heap.size y b9 b11 v10 w
 far:b8=true→b9=true→v9≠v10
 s1:b10=true→b8=true
 s2:b11=true→b9=true
section
variable {gb hb bx ox by' oy lg cg lh ch:Nat} {x y:TV} {a0:Act} {W3:World}
def F9(gb hb bx ox by' oy lg cg lh ch:Nat)(x y:TV):Nat→Value
 | 53=>.pointer (some ⟨gb,3,none⟩)
 | 54=>.slice (some ⟨bx,ox,none⟩) lg cg
 | 55=>.pointer (some ⟨bx,ox,none⟩)
 | 56=>.agg #[.int .i64 x.k,.int .i64 x.N,.string x.s,.slice x.a x.len x.cap]
 | 57=>.pointer (some ⟨hb,3,none⟩)
 | 58=>.slice (some ⟨by',oy,none⟩) lh ch
 | 59=>.pointer (some ⟨by',oy,none⟩)
 | _=>.agg #[.int .i64 y.k,.int .i64 y.N,.string y.s,.slice y.a y.len y.cap]
def I9(gb hb bx ox by' oy lg cg lh ch:Nat)(x y:TV)(a0:Act)(W3:World)(l:Array Bool)(ac:Act)(w:World):Prop:=
 ∃f:Nat→Value,ac=⟨lay sl9 a0.tmps f,a0.defers⟩∧Pures pu9 ds9 (F9 gb hb bx ox by' oy lg cg lh ch x y) l f∧St9 W3 x y (l.getD 8 false) (l.getD 9 false) (l.getD 10 false) (l.getD 11 false) (f 9) (f 10) w
theorem I9.take{l:Array Bool}{f:Nat→Value}{w:World}{i:Nat}(hi:l.getD i true=false)(hp:i<8)(hpu:Pures pu9 ds9 (F9 gb hb bx ox by' oy lg cg lh ch x y) l f)(hs:St9 W3 x y (l.getD 8 false) (l.getD 9 false) (l.getD 10 false) (l.getD 11 false) (f 9) (f 10) w):
  I9 gb hb bx ox by' oy lg cg lh ch x y a0 W3 (l.setIfInBounds i true) ⟨(lay sl9 a0.tmps f).setIfInBounds (i+53) (F9 gb hb bx ox by' oy lg cg lh ch x y (i+53)),a0.defers⟩ w:=by
 obtain⟨h1,h2⟩:=flag_no hi
 have hd:ds9 i=i+53:=by simp[ds9,hp]
 rw[←hd]
 refine⟨_,by rw[lay_put _ _ _ _ _ (by rw[hd];simp[sl9];omega)],hpu.take h1,?_⟩
 rw[flag_set h1,flag_set h1,flag_set h1,flag_set h1,if_neg (by omega),if_neg (by omega),if_neg (by omega),if_neg (by omega),upd_off _ _ (by omega),upd_off _ _ (by omega)]
 exact hs
end
theorem Bx9.grow{lo:Nat}{x:TV}{a s:Bool}{v:Value}{w w':World}(h:Bx9 lo x a s v w)(hk:∀B,v=.pointer (some ⟨B,0,none⟩)→B<w.heap.size→w'.heap[B]?=w.heap[B]?):Bx9 lo x a s v w':=fun ha=>by
 obtain⟨B,e,h1,h2⟩:=h ha
 exact⟨B,e,h1,(hk B e h2.lt).trans h2⟩
theorem pu9_off{k s:Nat}(h:pu9 k=true)(hs:s=9∨s=10):ds9 k≠s:=by
 have:k<8:=by simpa[pu9] using h
 simp[ds9,this]
 omega
theorem wp_nine(gb hb bx ox by' oy lg cg lh ch:Nat)(x y:TV)(a0:Act)(W3:World)(Q:Exit→Act→World→Prop)(hsz:a0.tmps.size=104)(h3:a0.tmps[3]?=some (.pointer (some ⟨gb,0,none⟩)))(h7:a0.tmps[7]?=some (.pointer (some ⟨hb,0,none⟩)))
  (kk3:W3.cell? ⟨gb,3,none⟩=some (.slice (some ⟨bx,ox,none⟩) lg cg)) (x3:W3.cell? ⟨hb,3,none⟩=some (.slice (some ⟨by',oy,none⟩) lh ch)) (hl5:gb<W3.heap.size) (hl6:hb<W3.heap.size) (hlx:bx<W3.heap.size) (hly:by'<W3.heap.size)
  (p0:W3.cell? ⟨bx,ox,none⟩=some (.int .i64 x.k)) (p1:W3.cell? ⟨bx,ox+1,none⟩=some (.int .i64 x.N)) (p2:W3.cell? ⟨bx,ox+2,none⟩=some (.string x.s)) (p3:W3.cell? ⟨bx,ox+3,none⟩=some (.slice x.a x.len x.cap))
  (q0:W3.cell? ⟨by',oy,none⟩=some (.int .i64 y.k)) (q1:W3.cell? ⟨by',oy+1,none⟩=some (.int .i64 y.N)) (q2:W3.cell? ⟨by',oy+2,none⟩=some (.string y.s)) (q3:W3.cell? ⟨by',oy+3,none⟩=some (.slice y.a y.len y.cap))
  (_hz1:(0:Int)<(lg:Int)) (_hz2:(0:Int)<(lh:Int)) (hn1:0<lg) (hn2:0<lh)
  (hQ:∀(f:Nat→Value) (W:World) (b1 b2:Nat),Below W3.heap.size W3 W→W3.heap.size≤b1→W3.heap.size≤b2→b1≠b2→BoxT W b1 x→BoxT W b2 y→f 9=.pointer (some ⟨b1,0,none⟩)→f 10=.pointer (some ⟨b2,0,none⟩)→Q .normal ⟨lay sl9 a0.tmps f,a0.defers⟩ W):
  (Code.region 9 #[{dst:=some 53,op:=Op.fieldAddr 34 (Operand.tmp 3) 3,type:=0,pos:= "base.go:158",after:=#[],guard:=none},{dst:=some 54,op:=Op.load 32 (Operand.tmp 53),type:=32,pos:= "base.go:158",after:=#[{on:=0,ground:=Ground.data}],guard:=none},{dst:=some 55,op:=Op.indexAddr 32 (Operand.tmp 54) (Operand.const (Value.int IntKind.i64 0)),type:=0,pos:= "base.go:158",after:=#[{on:=1,ground:=Ground.data}],guard:=none},{dst:=some 56,op:=Op.load 34 (Operand.tmp 55),type:=34,pos:= "base.go:158",after:=#[{on:=2,ground:=Ground.data}],guard:=none},{dst:=some 57,op:=Op.fieldAddr 34 (Operand.tmp 7) 3,type:=0,pos:= "base.go:158",after:=#[{on:=10,ground:=Ground.gcOnly Departure.lateStores}],guard:=none},{dst:=some 58,op:=Op.load 32 (Operand.tmp 57),type:=32,pos:= "base.go:158",after:=#[{on:=4,ground:=Ground.data},{on:=10,ground:=Ground.gcOnly Departure.lateStores}],guard:=none},{dst:=some 59,op:=Op.indexAddr 32 (Operand.tmp 58) (Operand.const (Value.int IntKind.i64 0)),type:=0,pos:= "base.go:158",after:=#[{on:=5,ground:=Ground.data},{on:=10,ground:=Ground.gcOnly Departure.lateStores}],guard:=none},{dst:=some 60,op:=Op.load 34 (Operand.tmp 59),type:=34,pos:= "base.go:158",after:=#[{on:=6,ground:=Ground.data},{on:=10,ground:=Ground.gcOnly Departure.lateStores}],guard:=none},{dst:=some 9,op:=Op.alloc 34,type:=0,pos:= "base.go:158",after:=#[],guard:=none},{dst:=some 10,op:=Op.alloc 34,type:=0,pos:= "base.go:158",after:=#[],guard:=none},{dst:=none,op:=Op.store 34 (Operand.tmp 9) (Operand.tmp 56),type:=0,pos:= "base.go:158",after:=#[{on:=8,ground:=Ground.data},{on:=3,ground:=Ground.data},{on:=0,ground:=Ground.phase},{on:=1,ground:=Ground.phase},{on:=2,ground:=Ground.phase},{on:=3,ground:=Ground.phase},{on:=4,ground:=Ground.textOnly Departure.lateStores},{on:=5,ground:=Ground.textOnly Departure.lateStores},{on:=6,ground:=Ground.textOnly Departure.lateStores},{on:=7,ground:=Ground.textOnly Departure.lateStores},{on:=8,ground:=Ground.phase},{on:=9,ground:=Ground.phase}],guard:=none},{dst:=none,op:=Op.store 34 (Operand.tmp 10) (Operand.tmp 60),type:=0,pos:= "base.go:158",after:=#[{on:=9,ground:=Ground.data},{on:=7,ground:=Ground.data},{on:=10,ground:=Ground.chain},{on:=0,ground:=Ground.phase},{on:=1,ground:=Ground.phase},{on:=2,ground:=Ground.phase},{on:=3,ground:=Ground.phase},{on:=4,ground:=Ground.phase},{on:=5,ground:=Ground.phase},{on:=6,ground:=Ground.phase},{on:=7,ground:=Ground.phase},{on:=8,ground:=Ground.phase},{on:=9,ground:=Ground.phase},{on:=10,ground:=Ground.phase}],guard:=none}] true).wp Tryz.prog Q a0 W3:=by
 refine wp_region_inv (by kernel_rfl) (I9 gb hb bx ox by' oy lg cg lh ch x y a0 W3) (rank_of (by kernel_rfl)) ?_ ?_ ?_
 ·intro l ac v i o hls hI ho hl haft K hK
  obtain⟨f,rfl,hpu,hst⟩:=hI
  have e3:(lay sl9 a0.tmps f)[3]?=some (.pointer (some ⟨gb,0,none⟩)):=(lay_off _ _ _ _ rfl).trans h3
  have e7:(lay sl9 a0.tmps f)[7]?=some (.pointer (some ⟨hb,0,none⟩)):=(lay_off _ _ _ _ rfl).trans h7
  have es:∀k,sl9 k=true→(lay sl9 a0.tmps f)[k]?=some (f k):=fun k hk=>lay_slot _ _ _ _ hk (by simp[sl9] at hk;omega)
  have hB:=hst.low
  have kk3':=(hB.cell (p:=⟨gb,3,none⟩) hl5).trans kk3
  have x3':=(hB.cell (p:=⟨hb,3,none⟩) hl6).trans x3
  have p0':=(hB.cell (p:=⟨bx,ox,none⟩) hlx).trans p0
  have p1':=(hB.cell (p:=⟨bx,ox+1,none⟩) hlx).trans p1
  have p2':=(hB.cell (p:=⟨bx,ox+2,none⟩) hlx).trans p2
  have p3':=(hB.cell (p:=⟨bx,ox+3,none⟩) hlx).trans p3
  have q0':=(hB.cell (p:=⟨by',oy,none⟩) hly).trans q0
  have q1':=(hB.cell (p:=⟨by',oy+1,none⟩) hly).trans q1
  have q2':=(hB.cell (p:=⟨by',oy+2,none⟩) hly).trans q2
  have q3':=(hB.cell (p:=⟨by',oy+3,none⟩) hly).trans q3
  have HB:=hide hB
  have HP:=hide hpu
  have HS:=hide hst
  have HK:=hide hK
  have HF:=hide haft
  have HQ:=hide hQ
  clear hpu hst hK haft hB hQ kk3 x3 p0 p1 p2 p3 q0 q1 q2 q3
  rcases i with _|_|_|_|_|_|_|_|_|_|_|_|i
  ·obtain rfl:=Option.some.inj ho
   clear ho
   clear es
   go_simp
   exact(unhide HK) _ _ (I9.take (i:=0) hl (by omega) (unhide HP) (unhide HS))
  ·obtain rfl:=Option.some.inj ho
   clear ho
   have ed:(lay sl9 a0.tmps f)[53]?=some (.pointer (some ⟨gb,3,none⟩)):=by rw[es 53 rfl];exact congrArg some ((unhide HP) 0 rfl ((unhide HF) {on:=0,ground:=.data} (by simp) rfl))
   clear es
   go_simp
   exact(unhide HK) _ _ (I9.take (i:=1) hl (by omega) (unhide HP) (unhide HS))
  ·obtain rfl:=Option.some.inj ho
   clear ho
   have ed:(lay sl9 a0.tmps f)[54]?=some (.slice (some ⟨bx,ox,none⟩) lg cg):=by rw[es 54 rfl];exact congrArg some ((unhide HP) 1 rfl ((unhide HF) {on:=1,ground:=.data} (by simp) rfl))
   clear es
   go_simp
   exact(unhide HK) _ _ (I9.take (i:=2) hl (by omega) (unhide HP) (unhide HS))
  ·obtain rfl:=Option.some.inj ho
   clear ho
   have ed:(lay sl9 a0.tmps f)[55]?=some (.pointer (some ⟨bx,ox,none⟩)):=by rw[es 55 rfl];exact congrArg some ((unhide HP) 2 rfl ((unhide HF) {on:=2,ground:=.data} (by simp) rfl))
   clear es
   go_simp
   exact(unhide HK) _ _ (I9.take (i:=3) hl (by omega) (unhide HP) (unhide HS))
  ·obtain rfl:=Option.some.inj ho
   clear ho
   clear es
   go_simp
   exact(unhide HK) _ _ (I9.take (i:=4) hl (by omega) (unhide HP) (unhide HS))
  ·obtain rfl:=Option.some.inj ho
   clear ho
   have ed:(lay sl9 a0.tmps f)[57]?=some (.pointer (some ⟨hb,3,none⟩)):=by rw[es 57 rfl];exact congrArg some ((unhide HP) 4 rfl ((unhide HF) {on:=4,ground:=.data} (by simp) rfl))
   clear es
   go_simp
   exact(unhide HK) _ _ (I9.take (i:=5) hl (by omega) (unhide HP) (unhide HS))
  ·obtain rfl:=Option.some.inj ho
   clear ho
   have ed:(lay sl9 a0.tmps f)[58]?=some (.slice (some ⟨by',oy,none⟩) lh ch):=by rw[es 58 rfl];exact congrArg some ((unhide HP) 5 rfl ((unhide HF) {on:=5,ground:=.data} (by simp) rfl))
   clear es
   go_simp
   exact(unhide HK) _ _ (I9.take (i:=6) hl (by omega) (unhide HP) (unhide HS))
  ·obtain rfl:=Option.some.inj ho
   clear ho
   have ed:(lay sl9 a0.tmps f)[59]?=some (.pointer (some ⟨by',oy,none⟩)):=by rw[es 59 rfl];exact congrArg some ((unhide HP) 6 rfl ((unhide HF) {on:=6,ground:=.data} (by simp) rfl))
   clear es
   go_simp
   exact(unhide HK) _ _ (I9.take (i:=7) hl (by omega) (unhide HP) (unhide HS))
  ·obtain rfl:=Option.some.inj ho
   clear ho es
   have hst0:l.getD 10 false=false:=Bool.eq_false_iff.2 fun hq=>by have h9:=(unhide HS).s1 hq;rw[(flag_no hl).2] at h9;cases h9
   go_simp
   refine(unhide HK) _ _ ⟨upd f 9 (.pointer (some ⟨v.heap.size,0,none⟩)),by rw[lay_put _ _ _ _ _ rfl],(unhide HP).other (flag_no hl).1 rfl (fun k hk=>pu9_off hk (by omega)) _,?_⟩
   rw[flag_set (flag_no hl).1,flag_set (flag_no hl).1,flag_set (flag_no hl).1,flag_set (flag_no hl).1,if_pos rfl,if_neg (by omega),if_neg (by omega),if_neg (by omega),upd_at,upd_off _ _ (by omega),hst0]
   have hB:=unhide HB
   have hnew:Bx9 W3.heap.size x true false (.pointer (some ⟨v.heap.size,0,none⟩)) (v.alloc (.cells #[.int .i64 0,.int .i64 0,.string ⟨#[]⟩,.slice none 0 0] 34)):=fun _=>⟨v.heap.size,rfl,hB.size,BoxT.new v zT⟩
   have hold:=(unhide HS).two.grow (w':=v.alloc (.cells #[.int .i64 0,.int .i64 0,.string ⟨#[]⟩,.slice none 0 0] 34)) (fun B _ hlt=>Below.heap_alloc _ _ _ hlt)
   have hne:∀{aa ss:Bool} {vv:Value} {z:TV},Bx9 W3.heap.size z aa ss vv v→aa=true→vv≠ .pointer (some ⟨v.heap.size,0,none⟩):=fun h ha e=>by
    obtain⟨B,e1,_,hb⟩:=h ha
    have:=hb.lt
    rw[e1] at e
    first | (simp at e;omega) | simp at e
   exact⟨hB.alloc hB.size _,hnew,hold,(fun _ h9=>(hne (unhide HS).two h9).symm),(fun h=>(by cases h)),(unhide HS).s2⟩
  ·obtain rfl:=Option.some.inj ho
   clear ho es
   have hst0:l.getD 11 false=false:=Bool.eq_false_iff.2 fun hq=>by have h9:=(unhide HS).s2 hq;rw[(flag_no hl).2] at h9;cases h9
   go_simp
   refine(unhide HK) _ _ ⟨upd f 10 (.pointer (some ⟨v.heap.size,0,none⟩)),by rw[lay_put _ _ _ _ _ rfl],(unhide HP).other (flag_no hl).1 rfl (fun k hk=>pu9_off hk (by omega)) _,?_⟩
   rw[flag_set (flag_no hl).1,flag_set (flag_no hl).1,flag_set (flag_no hl).1,flag_set (flag_no hl).1,if_neg (by omega),if_pos rfl,if_neg (by omega),if_neg (by omega),upd_off _ _ (by omega),upd_at,hst0]
   have hB:=unhide HB
   have hnew:Bx9 W3.heap.size y true false (.pointer (some ⟨v.heap.size,0,none⟩)) (v.alloc (.cells #[.int .i64 0,.int .i64 0,.string ⟨#[]⟩,.slice none 0 0] 34)):=fun _=>⟨v.heap.size,rfl,hB.size,BoxT.new v zT⟩
   have hold:=(unhide HS).one.grow (w':=v.alloc (.cells #[.int .i64 0,.int .i64 0,.string ⟨#[]⟩,.slice none 0 0] 34)) (fun B _ hlt=>Below.heap_alloc _ _ _ hlt)
   have hne:∀{aa ss:Bool} {vv:Value} {z:TV},Bx9 W3.heap.size z aa ss vv v→aa=true→vv≠ .pointer (some ⟨v.heap.size,0,none⟩):=fun h ha e=>by
    obtain⟨B,e1,_,hb⟩:=h ha
    have:=hb.lt
    rw[e1] at e
    first | (simp at e;omega) | simp at e
   exact⟨hB.alloc hB.size _,hold,hnew,(fun h8 _=>hne (unhide HS).one h8),(unhide HS).s1,(fun h=>(by cases h))⟩
  ·obtain rfl:=Option.some.inj ho
   clear ho
   have ed:(lay sl9 a0.tmps f)[56]?=some (.agg #[.int .i64 x.k,.int .i64 x.N,.string x.s,.slice x.a x.len x.cap]):=by rw[es 56 rfl];exact congrArg some ((unhide HP) 3 rfl ((unhide HF) {on:=3,ground:=.data} (by simp) rfl))
   have hal:l.getD 8 false=true:=(unhide HF) {on:=8,ground:=.data} (by simp) rfl
   have hno:=(flag_no hl).2
   obtain⟨B,eB,hlo,hbx⟩:=(unhide HS).one hal
   rw[hno] at hbx
   simp only[Bool.false_eq_true,if_false] at hbx
   have eb:(lay sl9 a0.tmps f)[9]?=some (.pointer (some ⟨B,0,none⟩)):=by rw[es 9 rfl,eB]
   have m0:=hbx.c0
   have m1:=hbx.c1
   have m2:=hbx.c2
   have m3:=hbx.c3
   have z0:=box9_frz hbx 0
   have z1:=box9_frz hbx 1
   have z2:=box9_frz hbx 2
   have z3:=box9_frz hbx 3
   have HBX:=hide hbx
   have HE:=hide eB
   have HLO:=hide hlo
   have HAL:=hide hal
   clear es hbx eB hlo hal hno kk3' x3' p0' p1' p2' p3' q0' q1' q2' q3'
   go_simp
   have hB:=unhide HB
   have hfin:St9 W3 x y ((l.setIfInBounds 10 true).getD 8 false) ((l.setIfInBounds 10 true).getD 9 false) ((l.setIfInBounds 10 true).getD 10 false) ((l.setIfInBounds 10 true).getD 11 false) (f 9) (f 10) (set4 v B 0 x):=by
    have hlo:=unhide HLO
    rw[flag_set (flag_no hl).1,flag_set (flag_no hl).1,flag_set (flag_no hl).1,flag_set (flag_no hl).1,if_neg (by omega),if_neg (by omega),if_pos rfl,if_neg (by omega)]
    have hnew:Bx9 W3.heap.size x (l.getD 8 false) true (f 9) (set4 v B 0 x):=fun _=>⟨B,unhide HE,hlo,box9_set4 (unhide HBX) x⟩
    have hold:=(unhide HS).two
    refine⟨⟨hB.os,hB.tape,hB.output,by simpa[set4] using hB.size,fun k hk=>(set9_other v B x k (by omega)).trans (hB.block k hk)⟩,hnew,?_,(unhide HS).far,fun _=>unhide HAL,(unhide HS).s2⟩
    intro hoth
    obtain⟨B',e',h1',h2'⟩:=hold hoth
    refine⟨B',e',h1',(set9_other v B x B' (fun e=>?_)).trans h2'⟩
    have hf:=(unhide HS).far (unhide HAL) hoth
    rw[unhide HE,e',e] at hf
    exact hf rfl
   exact(unhide HK) _ _ ⟨f,rfl,(unhide HP).same (flag_no hl).1 rfl,hfin⟩
  ·obtain rfl:=Option.some.inj ho
   clear ho
   have ed:(lay sl9 a0.tmps f)[60]?=some (.agg #[.int .i64 y.k,.int .i64 y.N,.string y.s,.slice y.a y.len y.cap]):=by rw[es 60 rfl];exact congrArg some ((unhide HP) 7 rfl ((unhide HF) {on:=7,ground:=.data} (by simp) rfl))
   have hal:l.getD 9 false=true:=(unhide HF) {on:=9,ground:=.data} (by simp) rfl
   have hno:=(flag_no hl).2
   obtain⟨B,eB,hlo,hbx⟩:=(unhide HS).two hal
   rw[hno] at hbx
   simp only[Bool.false_eq_true,if_false] at hbx
   have eb:(lay sl9 a0.tmps f)[10]?=some (.pointer (some ⟨B,0,none⟩)):=by rw[es 10 rfl,eB]
   have m0:=hbx.c0
   have m1:=hbx.c1
   have m2:=hbx.c2
   have m3:=hbx.c3
   have z0:=box9_frz hbx 0
   have z1:=box9_frz hbx 1
   have z2:=box9_frz hbx 2
   have z3:=box9_frz hbx 3
   have HBX:=hide hbx
   have HE:=hide eB
   have HLO:=hide hlo
   have HAL:=hide hal
   clear es hbx eB hlo hal hno kk3' x3' p0' p1' p2' p3' q0' q1' q2' q3'
   go_simp
   have hB:=unhide HB
   have hfin:St9 W3 x y ((l.setIfInBounds 11 true).getD 8 false) ((l.setIfInBounds 11 true).getD 9 false) ((l.setIfInBounds 11 true).getD 10 false) ((l.setIfInBounds 11 true).getD 11 false) (f 9) (f 10) (set4 v B 0 y):=by
    have hlo:=unhide HLO
    rw[flag_set (flag_no hl).1,flag_set (flag_no hl).1,flag_set (flag_no hl).1,flag_set (flag_no hl).1,if_neg (by omega),if_neg (by omega),if_neg (by omega),if_pos rfl]
    have hnew:Bx9 W3.heap.size y (l.getD 9 false) true (f 10) (set4 v B 0 y):=fun _=>⟨B,unhide HE,hlo,box9_set4 (unhide HBX) y⟩
    have hold:=(unhide HS).one
    refine⟨⟨hB.os,hB.tape,hB.output,by simpa[set4] using hB.size,fun k hk=>(set9_other v B y k (by omega)).trans (hB.block k hk)⟩,?_,hnew,(unhide HS).far,(unhide HS).s1,fun _=>unhide HAL⟩
    intro hoth
    obtain⟨B',e',h1',h2'⟩:=hold hoth
    refine⟨B',e',h1',(set9_other v B y B' (fun e=>?_)).trans h2'⟩
    have hf:=(unhide HS).far hoth (unhide HAL)
    rw[unhide HE,e',e] at hf
    exact hf rfl
   exact(unhide HK) _ _ ⟨f,rfl,(unhide HP).same (flag_no hl).1 rfl,hfin⟩
  ·cases ho
 ·intro l ac v hI hall
  obtain⟨f,rfl,hpu,hst⟩:=hI
  have g8:=hall 8 (by decide)
  have g9:=hall 9 (by decide)
  have g10:=hall 10 (by decide)
  have g11:=hall 11 (by decide)
  rw[g8,g9,g10,g11] at hst
  obtain⟨b1,e1,k1,h1⟩:=hst.one rfl
  obtain⟨b2,e2,k2,h2⟩:=hst.two rfl
  exact hQ f v b1 b2 hst.low k1 k2 (fun e=>hst.far rfl rfl (by rw[e1,e2,e])) h1 h2 e1 e2
 ·refine⟨fun k=>a0.tmps.getD k undef,by rw[lay_self],Pures.none _ _ _ _ _,?_⟩
  rw[rep_no,rep_no,rep_no,rep_no]
  exact⟨(Below.refl _ W3).drew,(fun h=>by cases h),(fun h=>by cases h),(fun h=>by cases h),(fun h=>by cases h),(fun h=>by cases h)⟩
end Go.Proofs.YteaiefjmcinljaaGreatDoor
