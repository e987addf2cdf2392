import Derived.Test.YteaiefjmcinljaaGreatDoorBdWs
namespace Go.Proofs.YteaiefjmcinljaaGreatDoor
set_option maxHeartbeats 2000000
set_option maxRecDepth 100000
open Go.RowKit Go.Shelf Go.Maps
def Hd.row{n:Nat}(h:Hd n):List Value:=[.int .i64 h.id,.int .i64 h.th.tv.k,.int .i64 h.th.tv.N,.string h.th.tv.s,.slice h.th.tv.a h.th.tv.len h.th.tv.cap,.int .i64 h.tb.tv.k,.int .i64 h.tb.tv.N,.string h.tb.tv.s,.slice h.tb.tv.a h.tb.tv.len h.tb.tv.cap,.bool h.on]
theorem hRow_len{n:Nat}(H:List (Hd n)):(H.flatMap Hd.row).length=H.length*10:=by
 induction H with
 | nil=>rfl
 | cons x l ih=>rw[List.flatMap_cons,List.length_append,ih];simp[Hd.row];omega
theorem hRow_at{n:Nat}:∀(H:List (Hd n)) (j:Nat) (h:Hd n),H[j]?=some h→∀q u,h.row[q]?=some u→(H.flatMap Hd.row)[j*10+q]?=some u
 | [],j,p,h=>by simp at h
 | y::l,0,p,h=>by
  intro q u hu
  simp at h;subst h
  rw[List.flatMap_cons,List.getElem?_append_left (by have:=(List.getElem?_eq_some_iff.1 hu).1;simpa[Hd.row] using this)]
  simpa using hu
 | y::l,j+1,p,h=>by
  intro q u hu
  have ih:=hRow_at l j p (by simpa using h) q u hu
  rw[List.flatMap_cons,List.getElem?_append_right (by simp[Hd.row];omega)]
  rw[show(j+1)*10+q-y.row.length=j*10+q by simp[Hd.row];omega]
  exact ih
theorem hRow_one{n:Nat}(H:List (Hd n)):∀u∈H.flatMap Hd.row,u.oneCell'=true:=fun u hu=>by
 obtain⟨x,_,hx⟩:=List.mem_flatMap.1 hu
 simp[Hd.row] at hx
 rcases hx with rfl | rfl | rfl | rfl | rfl | rfl | rfl | rfl | rfl | rfl <;> rfl
theorem hRow_inv{n:Nat}:∀(H:List (Hd n)) (q:Nat) (u:Value),(H.flatMap Hd.row)[q]?=some u→∃h,H[q / 10]?=some h∧h.row[q % 10]?=some u
 | [],q,u,h=>by simp at h
 | y::l,q,u,h=>by
  rw[List.flatMap_cons] at h
  by_cases hq:q<10
  ·rw[List.getElem?_append_left (by simpa[Hd.row] using hq)] at h
   exact⟨y,by rw[Nat.div_eq_of_lt hq];rfl,by rw[Nat.mod_eq_of_lt hq];exact h⟩
  ·rw[List.getElem?_append_right (by simp[Hd.row];omega)] at h
   obtain⟨d,h1,h2⟩:=hRow_inv l (q-10) u (by simpa[Hd.row] using h)
   have e1:q / 10=(q-10) / 10+1:=by omega
   have e2:q % 10=(q-10) % 10:=by omega
   exact⟨d,by rw[e1];simpa using h1,by rw[e2];exact h2⟩
theorem HdAt.row{n:Nat}{W:World}{b o:Nat}{h:Hd n}(k:HdAt W b o h):∀q u,h.row[q]?=some u→W.cell? ⟨b,o+q,none⟩=some u:=fun q u hu=>by
 have hq:=(List.getElem?_eq_some_iff.1 hu).1
 have hl:h.row.length=10:=rfl
 rw[hl] at hq
 have:q=0∨q=1∨q=2∨q=3∨q=4∨q=5∨q=6∨q=7∨q=8∨q=9:=by omega
 rcases this with rfl | rfl | rfl | rfl | rfl | rfl | rfl | rfl | rfl | rfl <;> (simp[Hd.row] at hu;subst hu)
 ·exact k.c0
 ·exact k.c1.1
 ·exact k.c1.2.1
 ·exact k.c1.2.2.1
 ·exact k.c1.2.2.2
 ·exact k.c5.1
 ·exact k.c5.2.1
 ·exact k.c5.2.2.1
 ·exact k.c5.2.2.2
 ·exact k.c9
theorem HdAt.of{n:Nat}{W:World}{b o:Nat}{h:Hd n}(k:∀q u,h.row[q]?=some u→W.cell? ⟨b,o+q,none⟩=some u):HdAt W b o h:=
 ⟨k 0 _ rfl,⟨k 1 _ rfl,k 2 _ rfl,k 3 _ rfl,k 4 _ rfl⟩,⟨k 5 _ rfl,k 6 _ rfl,k 7 _ rfl,k 8 _ rfl⟩,k 9 _ rfl⟩
theorem IsH.cells{n:Nat}{W:World}{b off len:Nat}{H:List (Hd n)}(h:IsH W (some ⟨b,off,none⟩) len H):∀j u,(H.flatMap Hd.row)[j]?=some u→W.cell? ((⟨b,off,none⟩:Addr).add j)=some u:=fun j u hu=>by
 rcases h.2 with h0 | ⟨b',off',e,hlt,hk⟩
 ·subst h0;simp at hu
 ·simp at e
  obtain⟨rfl,rfl⟩:=e
  obtain⟨d,h1,h2⟩:=hRow_inv H j u hu
  have:=(hk _ d h1).row _ u h2
  rw[addr_add]
  rw[show off+j / 10*10+j % 10=off+j by omega] at this
  exact this
/-- A row that the call made. -/
def OwnH{n:Nat}(base:Nat)(W:World)(v:Value)(H:List (Hd n)):Prop:=W.ownsRow base 63 10 v H.length (H.flatMap Hd.row)
theorem OwnH.isH{n base:Nat}{W:World}{v:Value}{H:List (Hd n)}(h:OwnH base W v H):∃a cap,v=.slice a H.length cap∧IsH W a H.length H∧(a=none∨∃g,a=some ⟨g,0,none⟩∧base≤g∧g<W.heap.size):=by
 obtain⟨_,h2⟩:=h
 rcases h2 with⟨hv,hn⟩ | ⟨g,cap,cur,hv,hg,hb,_,_,_,htk⟩
 ·have h0:H=[]:=List.length_eq_zero_iff.1 hn
  subst h0
  exact⟨none,0,hv,⟨rfl,.inl rfl⟩,.inl rfl⟩
 ·have hlt:g<W.heap.size:=(Array.getElem?_eq_some_iff.1 hb).1
  refine⟨_,cap,hv,⟨rfl,.inr ⟨g,0,rfl,hlt,fun j d hd=>HdAt.of fun q u hu=>?_⟩⟩,.inr ⟨g,rfl,hg,hlt⟩⟩
  have h3:=hRow_at H j d hd q u hu
  rw[←htk,List.getElem?_take] at h3
  split at h3
  ·rw[Nat.zero_add]
   simp[World.cell?,hb]
   simpa using h3
  ·cases h3
theorem Tryz.infoH:(Tryz.prog.info? 63).map (fun i=>(i.zero,i.size,i.bytes))=some (some (.agg #[.int .i64 0,.int .i64 0,.int .i64 0,.string ⟨#[]⟩,.slice none 0 0,.int .i64 0,.int .i64 0,.string ⟨#[]⟩,.slice none 0 0,.bool false]),10,128):=by kernel_rfl
/-- One that is taken away. -/
def offAt{n:Nat}(H:List (Hd n))(j:Nat)(d:Hd n):List (Hd n):=H.set j {d with on:=false}
theorem isH_off{n:Nat}{W:World}{g len j:Nat}{H:List (Hd n)}{d:Hd n}(h:IsH W (some ⟨g,0,none⟩) len H)(hd:H[j]?=some d):IsH (W.setCell ⟨g,j*10+9,none⟩ (.bool false)) (some ⟨g,0,none⟩) len (offAt H j d):=by
 refine⟨by rw[h.1];simp[offAt],?_⟩
 rcases h.2 with h0 | ⟨b,off,e,hlt,hk⟩
 ·subst h0;simp at hd
 ·simp at e
  obtain⟨rfl,rfl⟩:=e
  refine .inr ⟨g,0,rfl,by simpa using hlt,fun i x hx=>HdAt.of fun q u hu=>?_⟩
  have hq:q<10:=(List.getElem?_eq_some_iff.1 hu).1
  have hjl:=(List.getElem?_eq_some_iff.1 hd).1
  unfold offAt at hx
  rw[List.getElem?_set] at hx
  by_cases hij:j=i
  ·subst hij
   rw[if_pos rfl,if_pos hjl] at hx
   cases hx
   by_cases h9:q=9
   ·subst h9
    have hu':u=.bool false:=by simpa[Hd.row] using hu.symm
    subst hu'
    have k9:=(hk j d hd).c9
    rw[Nat.zero_add] at k9⊢
    exact World.cell?_setCell_same _ _ _ k9
   ·have hu':d.row[q]?=some u:=by
     have:q=0∨q=1∨q=2∨q=3∨q=4∨q=5∨q=6∨q=7∨q=8:=by omega
     rcases this with rfl | rfl | rfl | rfl | rfl | rfl | rfl | rfl | rfl <;> exact hu
    rw[World.cell?_setCell_other _ _ _ _ (by intro e;simp at e <;> omega)]
    exact(hk j d hd).row q u hu'
  ·rw[if_neg hij] at hx
   rw[World.cell?_setCell_other _ _ _ _ (by intro e;simp at e <;> omega)]
   exact(hk i x hx).row q u hu
theorem ownH_row{n base len g cp:Nat}{W:World}{H:List (Hd n)}(hl:len=H.length)(h:W.ownsRow base 63 10 (.slice (some ⟨g,0,none⟩) len cp) len (H.flatMap Hd.row)):IsH W (some ⟨g,0,none⟩) len H:=by
 subst hl
 obtain⟨a,cap,e,hI,_⟩:=OwnH.isH (H:=H) h
 simp at e
 rw[e.1]
 exact hI
theorem off_cell{n:Nat}{W:World}{g j:Nat}{H:List (Hd n)}{d d':Hd n}{b off:Nat}(hd:H[j]?=some d)(h:H[j]?=some d'∧some ⟨g,0,none⟩=some (⟨b,off,none⟩:Addr)∧b<W.heap.size∧W.cell? ⟨b,off+j*10,none⟩=some (.int .i64 d'.id)∧
  (W.cell? ⟨b,off+j*10+1,none⟩=some (.int .i64 d'.th.tv.k)∧W.cell? ⟨b,off+j*10+2,none⟩=some (.int .i64 d'.th.tv.N)∧W.cell? ⟨b,off+j*10+3,none⟩=some (.string d'.th.tv.s)∧W.cell? ⟨b,off+j*10+4,none⟩=some (.slice d'.th.tv.a d'.th.tv.len d'.th.tv.cap))∧
  (W.cell? ⟨b,off+j*10+5,none⟩=some (.int .i64 d'.tb.tv.k)∧W.cell? ⟨b,off+j*10+6,none⟩=some (.int .i64 d'.tb.tv.N)∧W.cell? ⟨b,off+j*10+7,none⟩=some (.string d'.tb.tv.s)∧W.cell? ⟨b,off+j*10+8,none⟩=some (.slice d'.tb.tv.a d'.tb.tv.len d'.tb.tv.cap))∧
  W.cell? ⟨b,off+j*10+9,none⟩=some (.bool d'.on)):W.cell? ⟨g,j*10+9,none⟩=some (.bool d.on):=by
 obtain⟨h1,h2,-,-,-,-,h9⟩:=h
 simp at h2
 obtain⟨rfl,rfl⟩:=h2
 rw[hd] at h1
 cases h1
 simpa using h9
/-- What Remove does to the row. -/
inductive RemH {n:Nat} (H:List (Hd n)) (id:Int):Int→List (Hd n)→Prop
 | no:H.any (hitB id)=false→RemH H id 8 H
 | yes (j:Nat) (d:Hd n):H[j]?=some d→hitB id d=true→(H.take j).any (hitB id)=false→RemH H id 0 (offAt H j d)
/-- hornref's Base, in its box. -/
structure RB {n:Nat} (W:World) (rb:Nat) (X:Nat→Prop) (H:List (Hd n)):Prop where
 ex:∃a cap,Boxed W rb 27 (.slice a H.length cap)∧IsH W a H.length H∧(a=none→H=[]∧cap=0)∧∀b off,a=some ⟨b,off,none⟩→X b∧b≠rb∧b<W.heap.size
theorem RB.below{n rb:Nat}{X:Nat→Prop}{W W':World}{H:List (Hd n)}(h:RB W rb X H)(hb:Below W.heap.size W W'):RB W' rb X H:=by
 obtain⟨a,cap,h1,h2,h0,h3⟩:=h.ex
 exact⟨a,cap,boxed_at' h1 hb,h2.below hb,h0,fun b off e=>⟨(h3 b off e).1,(h3 b off e).2.1,Nat.lt_of_lt_of_le (h3 b off e).2.2 hb.size⟩⟩
theorem rremove_any{n:Nat}(rb:Nat)(X:Nat→Prop)(H:List (Hd n))(id:Int)(w:World)(hr:RB w rb X H)(hlo:∀k,w.heap.size≤k→X k)(hlen:H.length≤4194304):
  Calls Tryz.prog 12 #[.pointer (some ⟨rb,0,none⟩),.int .i64 id] w fun e W'=> ∃(r:Int) (H':List (Hd n)),e=.returned (.int .i64 r)∧RemH H id r H'∧RB W' rb X H'∧GrB (fun k=>k=rb) w.heap.size w W':=by
 obtain⟨a,cap,hb,hH,-,hfar⟩:=hr.ex
 have HH:=hide hH
 have HB:=hide hb
 have HFAR:=hide hfar
 have hrb:=hb.lt
 have HRB:=hide hr
 obtain⟨i0,hi,hz0,hz1,hz2⟩:=info_parts Tryz.infoH
 have HLO:=hide hlo
 clear hH hb hr hfar hlo
 obtain⟨len,hlenE⟩:∃len,len=H.length:=⟨_,rfl⟩
 rw[←hlenE] at HH HB hlen
 have hl1:H.length≤len:=by omega
 have HLE:=hide hlenE
 clear hlenE
 go_enter Tryz.func12,Tryz.ntmps12
 go_wp2_with fail
 go_loopw [5] (fun i wr=> ∃j:Nat,j≤len∧i=.int .i64 j∧wr=w∧Hid ((H.take j).any (hitB id)=false)) (fun i _=>len-(intOf i).toNat)
 case atStart=>exact⟨0,Nat.zero_le _,rfl,rfl,hide (by simp)⟩
 case round=>
  obtain⟨j,hj,rfl,rfl,HS⟩:=hrel
  have r0:=(unhide HB).cell
  have rf:=(unhide HB).frozen
  by_cases hlt:j<len
  ·obtain⟨d,b,off,hd,rfl,hbk,c0,⟨c1,c2,c3,c4⟩,⟨c5,c6,c7,c8⟩,c9⟩:=hd_at (unhide HH) (Below.refl _ _) hlt
   have HD:=hide hd
   have hj1:(j:Int)<len:=by omega
   clear hd c1 c2 c3 c4 c5 c6 c7 c8
   have next:Hid (hitB id d=false→Hid ((H.take (j+1)).any (hitB id)=false)):=hide fun h=>hide (by rw[any_take (unhide HD) (unhide HS)];exact h)
   cases hE:(d.id == id) with
   | false=>
    have HN:=hide (next.out (by simp[hitB,hE]))
    clear next
    go_wp2_with fail
    go_roundw
    case rel=>exact⟨j+1,by omega,by go_num,trivial,HN.out⟩
    case measure=>simp[intOf];omega
   | true=>
    cases hO:d.on with
    | false=>
     have HN:=hide (next.out (by simp[hitB,hO]))
     rw[hO] at c9
     clear next hO
     go_wp2_with fail
     go_roundw
     case rel=>exact⟨j+1,by omega,by go_num,trivial,HN.out⟩
     case measure=>simp[intOf];omega
    | true=>
     have HG:=hide (show RemH H id 0 (offAt H j d) from .yes j d (unhide HD) (by simp[hitB,hE,hO]) (unhide HS))
     have hown:wr.ownsRow wr.heap.size 63 10 (.slice none 0 0) 0 []:=⟨rfl,.inl ⟨rfl,rfl⟩⟩
     have HCE:=hide (unhide HH).cells
     have HRL:=hide (hRow_len H)
     rw[hO] at c9
     clear next hO
     have hlen0:len≠0:=by omega
     go_wp2_with (at_builtin;go_must (refine wpList_append_own_at _ rfl _ _ 25 rfl wr.heap.size 63 i0 _ 10 128 Tryz.underlying25 hi hz0 hz1 hz2 rfl (by decide) (.slice none 0 0) 0 [] rfl hown ⟨b,off,none⟩ len cap (H.flatMap Hd.row) rfl (by rw[unhide HRL];rw[←unhide HLE]) (unhide HCE) (hRow_one H) (by unfold maxLen;omega) (by omega) (Nat.le_refl _) ?_;intro v' w1 hown' hgrow hnil hbk';rw[Nat.zero_add,List.nil_append] at hown';obtain⟨g,cp,cur,rfl,hg,hgb,hcp,-,hcs,htk⟩:=hown'.2.resolve_left (fun h=>hlen0 h.2);have hbox:=(unhide HB).kept hgrow (by simp[Value.ownBlock]);have r1:=hbox.cell;have rf1:=hbox.frozen;have hI:=ownH_row (H:=H) (unhide HLE) hown';have hk9:=((hd_at hI (Below.refl _ _) hlt).elim fun d' h=>h.elim fun b' h=>h.elim fun off' h=>off_cell (unhide HD) h);have hfz:w1.frozen? ⟨g,j*10+9,none⟩=false:=(by simp[World.frozen?,hgb]);have hgr:g≠rb:=(by omega);have hglt:g<w1.heap.size:=(Array.getElem?_eq_some_iff.1 hgb).1;have HI:=hide hI;have HGR:=hide hgrow;have HBX:=hide hbox;clear hown' hgrow hbox hnil hbk' hgb hI))
     go_ret
     have hb2:Boxed (w1.setCell ⟨rb,0,none⟩ (.slice (some ⟨g,0,none⟩) len cp)) rb 27 (.slice (some ⟨g,0,none⟩) len cp):=(unhide HBX).set _
     have hI2:IsH (w1.setCell ⟨rb,0,none⟩ (.slice (some ⟨g,0,none⟩) len cp)) (some ⟨g,0,none⟩) len H:=(unhide HI).kept (by simp) (fun b' off' e _=>by simp at e;rw[←e.1];exact Below.heap_setCell _ _ _ g hgr)
     have hl2:(offAt H j d).length=len:=by rw[unhide HLE];simp[offAt]
     refine⟨0,offAt H j d,rfl,unhide HG,⟨some ⟨g,0,none⟩,cp,?_,?_,(fun e=>by cases e),fun b' off' e=>?_⟩,⟨(unhide HGR).os,(unhide HGR).tape,(unhide HGR).output,by simpa using(unhide HGR).size,fun k hk hn=>?_⟩⟩
     ·rw[hl2]
      exact(Below.heap_setCell _ _ _ rb (fun e=>hgr e.symm)).trans hb2
     ·rw[hl2]
      exact isH_off hI2 (unhide HD)
     ·simp at e
      rw[←e.1]
      exact⟨(unhide HLO) g (by omega),hgr,by simpa using hglt⟩
     ·exact(Below.heap_setCell _ _ _ k (show k≠g by omega)).trans ((Below.heap_setCell _ _ _ k hn).trans ((unhide HGR).block k hk (by simp[Value.ownBlock])))
  ·obtain rfl:j=len:=by omega
   have hj1:¬(j:Int)<j:=by omega
   have hall:=unhide HS
   rw[List.take_of_length_le (by omega)] at hall
   have HG:=hide (show RemH H id 8 H from .no hall)
   clear hall
   go_wp2_with fail
   go_ret
   exact⟨8,rfl,H,unhide HG,unhide HRB,GrB.refl _ _ _⟩
section
variable {P:Program} {ops:Array Oper} {Q:Exit→Act→World→Prop} {md:Region.Mode}
theorem count_listed{l:List Bool}{i:Nat}(h:l[i]?=some false):(l.set i true).count false+1=l.count false:=by
 induction l generalizing i with
 | nil=>simp at h
 | cons b l ih=>
  cases i with
  | zero=>simp at h;subst h;simp
  | succ i=>
   have:=ih (i:=i) (by simpa using h)
   cases b <;> simp <;> omega
theorem listed_false{listed:Array Bool}{i:Nat}(h:listed.getD i true=false):listed.toList[i]?=some false:=by
 rw[Array.getElem?_toList]
 cases hk:listed[i]? with
 | none=>simp[hk] at h
 | some b=>simp[hk] at h;rw[h]
theorem all_listed(hrank:∀i o,ops[i]?=some o→∀e∈o.after,Region.binds md e=true→e.on<i){listed:Array Bool}(hs:listed.size=ops.size)(hr:Region.ready md ops listed=[]):∀i,i<ops.size→listed.getD i false=true:=by
 intro i
 induction i using Nat.strongRecOn with
 | _ i ih=>
  intro hi
  cases hb:listed[i]? with
  | none=>rw[Array.getElem?_eq_none_iff] at hb;omega
  | some b=>
   cases b with
   | true=>simp[hb]
   | false=>
    have hm:i∈Region.ready md ops listed:=mem_ready.2 ⟨by simp[hb],ops[i]'hi,Array.getElem?_eq_getElem hi,fun e he hbe=>by
     have hlt:=hrank i _ (Array.getElem?_eq_getElem hi) e he hbe
     exact ih e.on hlt (by omega)⟩
    rw[hr] at hm
    cases hm
theorem wpAny_inv(I:Array Bool→Act→World→Prop)(hrank:∀i o,ops[i]?=some o→∀e∈o.after,Region.binds md e=true→e.on<i)
  (hstep:∀(listed:Array Bool) (a:Act) (w:World) (i:Nat) (o:Oper),listed.size=ops.size→I listed a w→ops[i]?=some o→listed.getD i true=false→(∀e∈o.after,Region.binds md e=true→listed.getD e.on false=true)→
   ∀K:Act→World→Prop,(∀a w,I (listed.setIfInBounds i true) a w→K a w)→if Region.wanted o (yielded ops a.tmps)=true then Oper.wp P o a w K Q else K (a.put o.dst undef) w)
  (hend:∀(listed:Array Bool) (a:Act) (w:World),I listed a w→(∀i,i<ops.size→listed.getD i false=true)→Q .normal a w):
  ∀(fuel:Nat) (listed:Array Bool) (a:Act) (w:World),listed.size=ops.size→listed.toList.count false≤fuel→I listed a w→wpAny P md ops Q fuel listed a w:=by
 intro fuel
 induction fuel with
 | zero=>
  intro listed a w hs hc hI
  have hr:Region.ready md ops listed=[]:=by
   cases he:Region.ready md ops listed with
   | nil=>rfl
   | cons j r=>
    have hj:j∈Region.ready md ops listed:=by rw[he];exact List.mem_cons_self ..
    have h1:=count_listed (listed_false (mem_ready.1 hj).1)
    omega
  exact⟨hr,hend listed a w hI (all_listed hrank hs hr)⟩
 | succ fuel ih=>
  intro listed a w hs hc hI
  refine⟨fun hr=>hend listed a w hI (all_listed hrank hs hr),fun i hi=>?_⟩
  obtain⟨h1,o,ho,h2⟩:=mem_ready.1 hi
  refine wpOp_step ho fun K' hK=>hstep listed a w i o hs hI ho h1 h2 K' fun a' w' hI'=>hK a' w' (ih _ a' w' (by simpa using hs) ?_ hI')
  have h3:=count_listed (listed_false h1)
  rw[Array.toList_setIfInBounds]
  omega
theorem wp_region_inv(hm:P.follows .mixedOrders=true)(I:Array Bool→Act→World→Prop)(hrank:∀i o,ops[i]?=some o→∀e∈o.after,Region.binds .any e=true→e.on<i)
  (hstep:∀(listed:Array Bool) (a:Act) (w:World) (i:Nat) (o:Oper),listed.size=ops.size→I listed a w→ops[i]?=some o→listed.getD i true=false→(∀e∈o.after,Region.binds .any e=true→listed.getD e.on false=true)→
   ∀K:Act→World→Prop,(∀a w,I (listed.setIfInBounds i true) a w→K a w)→if Region.wanted o (yielded ops a.tmps)=true then Oper.wp P o a w K Q else K (a.put o.dst undef) w)
  (hend:∀(listed:Array Bool) (a:Act) (w:World),I listed a w→(∀i,i<ops.size→listed.getD i false=true)→Q .normal a w) {id:Nat} {a:Act} {w:World} (h0:I (Array.replicate ops.size false) a w.drew):(Code.region id ops true).wp P Q a w:=
 wp_region_any hm (wpAny_inv I hrank hstep hend ops.size _ a _ (by simp) (by simp) h0)
end
/-- One place of a function made anew. -/
def upd{α:Type}(f:Nat→α)(j:Nat)(v:α):Nat→α:=fun i=>if i=j then v else f i
@[simp] theorem upd_at {α:Type} (f:Nat→α) (j:Nat) (v:α):upd f j v j=v:=by simp[upd]
theorem upd_off{α:Type}(f:Nat→α){i j:Nat}(v:α)(h:i≠j):upd f j v i=f i:=by simp[upd,h]
def layL(sl:Nat→Bool)(f:Nat→Value):Nat→List Value→List Value
 | _,[]=>[]
 | k,v::l=>(match sl k with | true=>f k | false=>v)::layL sl f (k+1) l
/-- The frame's slots with the region's own by f. -/
def lay(sl:Nat→Bool)(t:Array Value)(f:Nat→Value):Array Value:=(layL sl f 0 t.toList).toArray
section
variable (sl:Nat→Bool)
theorem layL_at(f:Nat→Value):∀(l:List Value) (k i:Nat),(layL sl f k l)[i]?=l[i]?.map fun v=>match sl (k+i) with | true=>f (k+i) | false=>v:=by
 intro l
 induction l with
 | nil=>intro k i;simp[layL]
 | cons v l ih=>
  intro k i
  cases i with
  | zero=>simp[layL]
  | succ i=>
   have h:=ih (k+1) i
   rw[show k+1+i=k+(i+1) by omega] at h
   simpa[layL] using h
theorem lay_at(t:Array Value)(f:Nat→Value)(i:Nat):(lay sl t f)[i]?=t[i]?.map fun v=>match sl i with | true=>f i | false=>v:=by
 have h:=layL_at sl f t.toList 0 i
 rw[Nat.zero_add] at h
 simpa[lay] using h
theorem lay_slot(t:Array Value)(f:Nat→Value)(i:Nat)(hs:sl i=true)(hi:i<t.size):(lay sl t f)[i]?=some (f i):=by
 rw[lay_at,Array.getElem?_eq_getElem hi]
 simp[hs]
theorem lay_off(t:Array Value)(f:Nat→Value)(i:Nat)(hs:sl i=false):(lay sl t f)[i]?=t[i]?:=by
 rw[lay_at]
 simp[hs]
theorem lay_put(t:Array Value)(f:Nat→Value)(d:Nat)(v:Value)(hs:sl d=true):(lay sl t f).setIfInBounds d v=lay sl t (upd f d v):=by
 apply Array.ext_getElem?
 intro i
 rw[Array.getElem?_setIfInBounds,lay_at,lay_at]
 have hsz:(lay sl t f).size=t.size:=by
  have:∀(l:List Value) (k:Nat),(layL sl f k l).length=l.length:=by
   intro l
   induction l with
   | nil=>intro k;rfl
   | cons v l ih=>intro k;simp[layL,ih]
  simp[lay,this]
 rw[hsz]
 by_cases e:d=i
 ·subst e
  rw[if_pos rfl]
  split
  ·rename_i h;rw[Array.getElem?_eq_getElem h];simp[hs]
  ·rename_i h;rw[Array.getElem?_eq_none (by omega)];rfl
 ·rw[if_neg e,upd_off _ _ (fun h=>e h.symm)]
theorem lay_self(t:Array Value):lay sl t (fun k=>t.getD k undef)=t:=by
 apply Array.ext_getElem?
 intro i
 rw[lay_at]
 cases h:t[i]? with
 | none=>rfl
 | some v=>cases sl i <;> simp[h]
end
def rankB(ops:Array Oper):Bool:=(List.range ops.size).all fun i=>(ops.getD i default).after.all fun e=> !Region.binds .any e || Nat.blt e.on i
theorem rank_of{ops:Array Oper}(h:rankB ops=true):∀i o,ops[i]?=some o→∀e∈o.after,Region.binds .any e=true→e.on<i:=fun i o ho e he hb=>by
 have hi:i<ops.size:=(Array.getElem?_eq_some_iff.1 ho).1
 have h1:=List.all_eq_true.1 h i (List.mem_range.2 hi)
 rw[show ops.getD i default=o by simp[ho]] at h1
 have h2:=(Array.all_eq_true_iff_forall_mem.1 h1) e he
 simpa[hb] using h2
theorem flag_set{l:Array Bool}{i:Nat}(hi:i<l.size)(k:Nat):(l.setIfInBounds i true).getD k false=if k=i then true else l.getD k false:=by
 simp only[Array.getD_eq_getD_getElem?,Array.getElem?_setIfInBounds]
 by_cases e:i=k
 ·subst e;simp[hi]
 ·rw[if_neg e,if_neg (fun h=>e h.symm)]
theorem flag_no{l:Array Bool}{i:Nat}(h:l.getD i true=false):i<l.size∧l.getD i false=false:=by
 simp only[Array.getD_eq_getD_getElem?] at h⊢
 cases hk:l[i]? with
 | none=>simp[hk] at h
 | some b=>simp[hk] at h;subst h;exact⟨(Array.getElem?_eq_some_iff.1 hk).1,by simp⟩
theorem rep_no(m i:Nat):(Array.replicate m false).getD i false=false:=by
 simp only[Array.getD_eq_getD_getElem?,Array.getElem?_replicate]
 split <;> rfl
/-- Values of slots that hold wherever they have come up. -/
def Pures(pu:Nat→Bool)(ds:Nat→Nat)(F:Nat→Value)(l:Array Bool)(f:Nat→Value):Prop:= ∀k,pu k=true→l.getD k false=true→f (ds k)=F (ds k)
theorem Pures.take{pu:Nat→Bool}{ds:Nat→Nat}{F:Nat→Value}{l:Array Bool}{f:Nat→Value}(h:Pures pu ds F l f){i:Nat}(hi:i<l.size):Pures pu ds F (l.setIfInBounds i true) (upd f (ds i) (F (ds i))):=fun k hp hk=>by
 by_cases e:ds k=ds i
 ·rw[e,upd_at]
 ·rw[upd_off _ _ e]
  rw[flag_set hi] at hk
  split at hk
  ·rename_i h';exact(e (by rw[h'])).elim
  ·exact h k hp hk
theorem Pures.other{pu:Nat→Bool}{ds:Nat→Nat}{F:Nat→Value}{l:Array Bool}{f:Nat→Value}(h:Pures pu ds F l f){i s:Nat}(hi:i<l.size)(hpi:pu i=false)(hs:∀k,pu k=true→ds k≠s)(v:Value):Pures pu ds F (l.setIfInBounds i true) (upd f s v):=fun k hp hk=>by
 rw[upd_off _ _ (hs k hp)]
 rw[flag_set hi] at hk
 split at hk
 ·rename_i h';subst h';rw[hpi] at hp;cases hp
 ·exact h k hp hk
theorem Pures.same{pu:Nat→Bool}{ds:Nat→Nat}{F:Nat→Value}{l:Array Bool}{f:Nat→Value}(h:Pures pu ds F l f){i:Nat}(hi:i<l.size)(hpi:pu i=false):Pures pu ds F (l.setIfInBounds i true) f:=fun k hp hk=>by
 rw[flag_set hi] at hk
 split at hk
 ·rename_i h';subst h';rw[hpi] at hp;cases hp
 ·exact h k hp hk
theorem Pures.none(pu:Nat→Bool)(ds:Nat→Nat)(F:Nat→Value)(m:Nat)(f:Nat→Value):Pures pu ds F (Array.replicate m false) f:=fun k _ hk=>by rw[rep_no] at hk;cases hk
/-- What Add lays down. -/
def addH{n:Nat}(H:List (Hd n))(first:Bool)(th tb:Tm (n+1)):List (Hd n):=
 if first=true then⟨-((H.length:Int)+1),th,tb,true⟩::H else H++[⟨(H.length:Int)+1,th,tb,true⟩]
theorem plain_err{n:Nat}(th tb:Tm (n+1)):(plainR th tb).1=remE th tb:=by
 rw[plain_rem]
 split
 ·rename_i h;exact h.symm
 ·rfl
theorem step_append_run{w w':World}{ops:Array Oper}{o:Oper}{a:Act}{K:Act→World→Prop}{Q:Exit→Act→World→Prop}{E:Prop}(hgd:o.guard=none)(s x:Operand)(t ty:TypeId)
  (ho:o.op=.call {callee:=.builtin .append,args:=#[s,x],argTypes:=#[t,t]}) (hty:o.type=ty) (v v2:Value) {v':Value} (hs:a.eval s=v) (hx:a.eval x=v2) (hrun:(Builtin.append_ #[t,t] ty #[v,v2]).run Tryz.prog w=.ok v' w') (h:K (a.put o.dst v') w'):
  if Region.wanted o (yielded ops a.tmps)=true then Oper.wp Tryz.prog o a w K Q else E:=by
 rw[if_pos (by simp[Region.wanted,hgd])]
 subst hty
 unfold Oper.wp execOp
 simp only[ho,resolve,invoke,builtin,Sem.run_bind,Sem.run_pure,Result.andThen_ok,List.map_toArray,List.map_cons,List.map_nil,hs,hx,hrun]
 exact h
theorem app_row{n:Nat}{V:World}{a:Option Addr}{cap:Nat}{H:List (Hd n)}(base:Nat)(v:Value)(k:Nat)(xs:List Value)(hown:V.ownsRow base 63 10 v k xs)(hH:IsH V a H.length H)(ha:a=none→H=[]∧cap=0)(hk:k+H.length≤4194304)(hbase:base≤V.heap.size):
  ∃v' w',(Builtin.append_ #[25,25] 25 #[v,.slice a H.length cap]).run Tryz.prog V=.ok v' w'∧w'.ownsRow base 63 10 v' (k+H.length) (xs++H.flatMap Hd.row)∧V.grownBy w' v.ownBlock∧(v'.ownBlock=v.ownBlock∨v'.ownBlock=some V.heap.size):=by
 obtain⟨i0,hi,hz0,hz1,hz2⟩:=info_parts Tryz.infoH
 cases a with
 | none=>
  obtain⟨rfl,rfl⟩:=ha rfl
  exact⟨v,V,run_append_owned_none (w:=V) base _ _ 63 i0 10 Tryz.underlying25 hi v k xs hown,by simpa using hown,World.grownBy.refl V _,.inl rfl⟩
 | some ad=>
  obtain⟨v',w',h1,h2,h3,_,h5⟩:=run_append_own_at (P:=Tryz.prog) (w:=V) base 25 25 63 i0 _ 10 128 Tryz.underlying25 hi hz0 hz1 hz2 rfl (by decide) v k xs hown ad H.length cap (H.flatMap Hd.row) (hRow_len H) (fun j u hu=>by
   rcases hH.2 with h0 | ⟨b,off,e,_,_⟩
   ·subst h0;simp at hu
   ·cases e;exact hH.cells j u hu) (hRow_one H) (by unfold maxLen;omega) (by omega) hbase
  exact⟨v',w',h1,h2,h3,h5⟩
end Go.Proofs.YteaiefjmcinljaaGreatDoor
