import Derived.Test.YteaiefjmcinljaaGreatDoorBeM
import Derived.Test.YteaiefjmcinljaaGreatDoorBeOs
namespace Go.Proofs.YteaiefjmcinljaaGreatDoor
set_option maxHeartbeats 4000000
set_option maxRecDepth 100000
open Go.RowKit Go.Shelf Go.Maps
theorem rview_any{n:Nat}(rb:Nat)(X:Nat→Prop)(H:List (Hd n))(tg:Tm (n+1))(w:World)(hr:RB w rb X H)(hlen:H.length≤1048576)(hT:IsT w.heap.size w tg)(hd:∀d∈H,IsT w.heap.size w d.th):
  Calls Tryz.prog 33 #[.pointer (some ⟨rb,0,none⟩),tg.tv.val] w fun e W'=> ∃v,e=.returned v∧OwnH w.heap.size W' v (H.filter (viewB tg))∧Below w.heap.size w W':=by
 obtain⟨a,cap,hb,hH,-,-⟩:=hr.ex
 obtain⟨i0,hi,zi0,zi1,zi2⟩:=info_parts Tryz.infoH
 obtain⟨len,hlenE⟩:∃len,len=H.length:=⟨_,rfl⟩
 rw[←hlenE] at hb hH hlen
 have hl1:H.length≤len:=by omega
 have hb1:Below w.heap.size w (w.alloc (.cells #[.int .i64 tg.tv.k,.int .i64 tg.tv.N,.string tg.tv.s,.slice tg.tv.a tg.tv.len tg.tv.cap] 34)):=(Below.refl _ w).alloc (Nat.le_refl _) _
 have hg1:=BoxT.new w tg.tv
 have hs1:(w.alloc (.cells #[.int .i64 tg.tv.k,.int .i64 tg.tv.N,.string tg.tv.s,.slice tg.tv.a tg.tv.len tg.tv.cap] 34)).heap.size=w.heap.size+1:=by simp
 simp only[TV.val]
 go_enter Tryz.func33,Tryz.ntmps33
 go_wp2_with fail
 obtain⟨W1,hW1⟩:∃W1,w.alloc (.cells #[.int .i64 tg.tv.k,.int .i64 tg.tv.N,.string tg.tv.s,.slice tg.tv.a tg.tv.len tg.tv.cap] 34)=W1:=⟨_,rfl⟩
 rw[hW1] at hb1 hg1 hs1⊢
 clear hW1
 have HB:=hide (boxed_at' hb hb1)
 have HH:=hide (hH.below hb1)
 have HG:=hide hg1
 have HB1:=hide hb1
 have HS1:=hide hs1
 have HT:=hide hT
 have HDT:=hide hd
 have HLE:=hide hlenE
 clear hb hH hg1 hb1 hs1 hT hd hr hlenE
 go_loopw [5,6] (fun v i wr=> ∃j:Nat,j≤len∧i=.int .i64 j∧Below W1.heap.size W1 wr∧OwnH W1.heap.size wr v ((H.take j).filter (viewB tg))) (fun _ i _=>len-(intOf i).toNat)
 case atStart=>exact⟨0,Nat.zero_le _,rfl,Below.refl _ _,rfl,.inl ⟨rfl,rfl⟩⟩
 case round=>
  obtain⟨j,hj,rfl,hbl,hown⟩:=hrel
  have r0:wr.cell? ⟨rb,0,none⟩=some (.slice a len cap):=(boxed_at' (unhide HB) hbl).cell
  by_cases hlt:j<len
  ·obtain⟨d,b,off,hdj,rfl,hbk,c0,⟨c1,c2,c3,c4⟩,⟨c5,c6,c7,c8⟩,c9⟩:=hd_at (unhide HH) hbl hlt
   have htk:=filter_take (p:=viewB tg) hdj
   have hj1:(j:Int)<len:=by omega
   have HOW:=hide hown
   have HTK:=hide htk
   have HD:=hide hdj
   have hgx:BoxT wr w.heap.size tg.tv:=(hbl.block w.heap.size (by have:=unhide HS1;omega)).trans (unhide HG)
   have k0:=hgx.c0
   have k1:=hgx.c1
   have k2:=hgx.c2
   have k3:=hgx.c3
   have hrl:rb<wr.heap.size:=(boxed_at' (unhide HB) hbl).lt
   have hbl2:b<wr.heap.size:=by have:=hbl.size;omega
   have hgl:w.heap.size<wr.heap.size:=hgx.lt
   clear hown htk hdj hgx
   cases hO:d.on with
   | false=>
    rw[hO] at c9
    have hno:viewB tg d=false:=by simp[viewB,hO]
    have HN:=hide hno
    clear hno hO
    have hbn:Below W1.heap.size W1 (wr.alloc (.cells #[.int .i64 d.th.tv.k,.int .i64 d.th.tv.N,.string d.th.tv.s,.slice d.th.tv.a d.th.tv.len d.th.tv.cap] 34)):=hbl.alloc hbl.size _
    have HBN:=hide hbn
    clear hbn
    go_wp2_with fail
    go_roundw
    case rel=>exact⟨j+1,by omega,by go_num,unhide HBN,by rw[unhide HTK,if_neg (by simp[unhide HN])];exact owns_below (unhide HOW) (fun g hg=>Below.heap_alloc _ _ _ (owns_lt (unhide HOW) hg).2)⟩
    case measure=>simp[intOf];omega
   | true=>
    rw[hO] at c9
    have HON:=hide hO
    have hB2:Below wr.heap.size wr (wr.alloc (.cells #[.int .i64 d.th.tv.k,.int .i64 d.th.tv.N,.string d.th.tv.s,.slice d.th.tv.a d.th.tv.len d.th.tv.cap] 34)):=(Below.refl _ wr).alloc (Nat.le_refl _) _
    have hx2:=BoxT.new wr d.th.tv
    have his:=ris_any d.th.tv tg.tv.s tg.tv.len (wr.alloc (.cells #[.int .i64 d.th.tv.k,.int .i64 d.th.tv.N,.string d.th.tv.s,.slice d.th.tv.a d.th.tv.len d.th.tv.cap] 34))
    simp only[TV.val] at his
    go_wp2_with fail
    obtain⟨W2,hW2⟩:∃W2,wr.alloc (.cells #[.int .i64 d.th.tv.k,.int .i64 d.th.tv.N,.string d.th.tv.s,.slice d.th.tv.a d.th.tv.len d.th.tv.cap] 34)=W2:=⟨_,rfl⟩
    rw[hW2] at hB2 hx2 his⊢
    clear hW2
    refine his.mono ?_
    clear his
    rintro e W3 ⟨rfl,b3⟩
    have hB3:Below wr.heap.size wr W3:=hB2.trans (b3.mono hB2.size)
    have hx3:BoxT W3 wr.heap.size d.th.tv:=(b3.block _ hx2.lt).trans hx2
    have hbn:Below W1.heap.size W1 W3:=hbl.trans (hB3.mono hbl.size)
    have how3:OwnH W1.heap.size W3 u5 ((H.take j).filter (viewB tg)):=owns_below (unhide HOW) (fun g hg=>hB3.block g (owns_lt (unhide HOW) hg).2)
    clear hB2 hx2 b3
    cases hIs:isB d.th.tv tg.tv.s.toList tg.tv.len with
    | false=>
     have hno:viewB tg d=false:=by simp[viewB,hIs]
     have HN:=hide hno
     have HF:=hide (And.intro hbn how3)
     clear hno hIs hbn how3 hx3 hB3
     go_wp2_with fail
     go_roundw
     case rel=>exact⟨j+1,by omega,by go_num,(unhide HF).1,by rw[unhide HTK,if_neg (by simp[unhide HN])];exact(unhide HF).2⟩
     case measure=>simp[intOf];omega
    | true=>
     have HIS:=hide hIs
     have hdl:d.th.tv.len=tg.tv.len:=by
      simp only[isB,Bool.and_eq_true,beq_iff_eq] at hIs
      have:=hIs.2.2
      omega
     have cc0:=(hB3.cell (p:=⟨b,off+j*10,none⟩) hbl2).trans c0
     have cc1:=(hB3.cell (p:=⟨b,off+j*10+1,none⟩) hbl2).trans c1
     have cc2:=(hB3.cell (p:=⟨b,off+j*10+2,none⟩) hbl2).trans c2
     have cc3:=(hB3.cell (p:=⟨b,off+j*10+3,none⟩) hbl2).trans c3
     have cc4:=(hB3.cell (p:=⟨b,off+j*10+4,none⟩) hbl2).trans c4
     have cc5:=(hB3.cell (p:=⟨b,off+j*10+5,none⟩) hbl2).trans c5
     have cc6:=(hB3.cell (p:=⟨b,off+j*10+6,none⟩) hbl2).trans c6
     have cc7:=(hB3.cell (p:=⟨b,off+j*10+7,none⟩) hbl2).trans c7
     have cc8:=(hB3.cell (p:=⟨b,off+j*10+8,none⟩) hbl2).trans c8
     have cc9:=(hB3.cell (p:=⟨b,off+j*10+9,none⟩) hbl2).trans c9
     have rr0:=(hB3.cell (p:=⟨rb,0,none⟩) hrl).trans r0
     have kk0:=(hB3.cell (p:=⟨w.heap.size,0,none⟩) hgl).trans k0
     have kk1:=(hB3.cell (p:=⟨w.heap.size,1,none⟩) hgl).trans k1
     have kk2:=(hB3.cell (p:=⟨w.heap.size,2,none⟩) hgl).trans k2
     have kk3:=(hB3.cell (p:=⟨w.heap.size,3,none⟩) hgl).trans k3
     have hs3:=hB3.size
     have hl3:b<W3.heap.size:=by omega
     have hl4:rb<W3.heap.size:=by omega
     have hl5:w.heap.size<W3.heap.size:=by omega
     have hl6:=hx3.lt
     have x0:=hx3.c0
     have x1:=hx3.c1
     have x2:=hx3.c2
     have x3:=hx3.c3
     have HF:=hide (And.intro hbn how3)
     have HCC:=hide (And.intro rr0 (show HdAt W3 b (off+j*10) d from⟨cc0,⟨cc1,cc2,cc3,cc4⟩,⟨cc5,cc6,cc7,cc8⟩,by rw[unhide HON];exact cc9⟩))
     clear cc0 cc1 cc2 cc3 cc4 cc5 cc6 cc7 cc8 cc9 rr0
     clear hIs hbn how3 hx3 hB3 c0 c1 c2 c3 c4 c5 c6 c7 c8 c9 r0 k0 k1 k2 k3 hO hrl hbl2 hgl
     by_cases hz:tg.tv.len=0
     ·have hz1:¬(0:Int)<(tg.tv.len:Int):=by omega
      have hk0:tg.kids=[]:=by have h:=(unhide HT).1;rw[hz] at h;exact List.length_eq_zero_iff.1 h.symm
      have HB36:=hide (Below.refl W3.heap.size W3)
      have HK0:=hide hk0
      have HZ:=hide hz
      clear hk0 hz hdl x0 x1 x2 x3
      have HV:=hide (show viewB tg d=true by have h1:=unhide HIS;have h2:=unhide HON;simp[viewB,h1,h2,firstB,unhide HK0])
      have hdr:=(unhide HCC).2
      have rr:=(unhide HCC).1
      have d0:=hdr.c0
      have d1:=hdr.c1.1
      have d2:=hdr.c1.2.1
      have d3:=hdr.c1.2.2.1
      have d4:=hdr.c1.2.2.2
      have d5:=hdr.c5.1
      have d6:=hdr.c5.2.1
      have d7:=hdr.c5.2.2.1
      have d8:=hdr.c5.2.2.2
      have d9:=hdr.c9
      clear hdr
      go_wp2_with (at_builtin;have how6:OwnH W1.heap.size W3 u5 ((H.take j).filter (viewB tg)):=(owns_below (unhide HF).2 (fun g hg=>(unhide HB36).block g (owns_lt (unhide HF).2 hg).2));have hB16:Below W1.heap.size W1 W3:=((unhide HF).1.trans ((unhide HB36).mono (unhide HF).1.size));have hln:((H.take j).filter (viewB tg)).length≤j:=Nat.le_trans (List.length_filter_le _ _) (by simp;omega);have hown2:=owns_below how6 (fun g hg=>Below.heap_alloc W3 (.cells (d.row.toArray) 63) g (owns_lt how6 hg).2);have hnew:=hd_new W3 d;simp only[Hd.row] at hown2 hnew;go_must (refine wpList_append_own_at _ rfl _ _ 25 rfl W1.heap.size 63 i0 _ 10 128 Tryz.underlying25 hi zi0 zi1 zi2 rfl (by decide) u5 ((H.take j).filter (viewB tg)).length (((H.take j).filter (viewB tg)).flatMap Hd.row) rfl hown2 ⟨W3.heap.size,0,none⟩ 1 1 d.row rfl rfl hnew (fun u hu=>hRow_one [d] u (by simpa using hu)) (by unfold maxLen;omega) (by omega) (by have:=hB16.size;simp;omega) ?_;intro v' w1 hown' hgrow hnil hbk;have hbn:Below W1.heap.size W1 w1:=((hB16.alloc hB16.size _).grown hgrow (by have:=hB16.size;simp;omega) (fun g hg=>(owns_lt how6 hg).1));have HN:=hide (And.intro hbn hown');clear hbn hown' hgrow hnil hbk hown2 hnew how6 hB16 d0 d1 d2 d3 d4 d5 d6 d7 d8 d9 rr))
      go_roundw
      case rel=>exact⟨j+1,by omega,by go_num,(unhide HN).1,by rw[unhide HTK,if_pos (unhide HV)];have h:=(unhide HN).2;unfold OwnH;simpa[List.flatMap_append] using h⟩
      case measure=>simp[intOf];omega
     ·have hz1:(0:Int)<(tg.tv.len:Int):=by omega
      obtain⟨x,rx,bx,ox,ex,eax,hbx,cx,sx⟩:=first_cells (unhide HT) hz
      obtain⟨y,ry,by',oy,ey,eay,hby,cy,sy⟩:=first_cells ((unhide HDT) d (List.mem_of_getElem? (unhide HD))) (by rw[hdl];exact hz)
      have hBW:Below w.heap.size w W3:=(unhide HB1).trans ((unhide HF).1.mono (unhide HB1).size)
      obtain⟨p0,p1,p2,p3⟩:=cx.kept (hBW.block bx hbx)
      obtain⟨q0,q1,q2,q3⟩:=cy.kept (hBW.block by' hby)
      have hlx:bx<W3.heap.size:=by omega
      have hly:by'<W3.heap.size:=by omega
      rw[eax] at kk3
      rw[eay] at x3
      have HEX:=hide (And.intro ex ey)
      have hdl1:(d.th.tv.len:Int)=tg.tv.len:=by omega
      have hz2:(0:Int)<(d.th.tv.len:Int):=by omega
      obtain⟨q,hq⟩:∃q,(decide (x.tv.k=1) || (decide (y.tv.k=1) || (decide (x.tv.k=y.tv.k∧x.tv.N=y.tv.N∧x.tv.s.toList=y.tv.s.toList) && ((x.tv.len:Int) == y.tv.len))))=q:=⟨_,rfl⟩
      have HQQ:=hide hq
      have hvq:viewB tg d=q:=by
       have h1:=unhide HIS
       have h2:=unhide HON
       simp only[viewB,h1,h2,Bool.true_and,firstB,(unhide HEX).1,(unhide HEX).2]
       exact hq
      clear cx cy ex ey eax eay hz hdl hq
      cases q with
      | true=>
       have HV:=hide hvq
       clear hvq
       go_wp2_with (first | (refine wp_firsts (by assumption) kk3 x3 hl5 hl6 hlx hly p0 p1 p2 p3 q0 q1 q2 q3 sx sy hz1 hz2 (unhide HQQ) ?_;intro W4 w9 w10 w11 w53 w54 w55 w56 w57 w58 w59 w60 w61 w62 w63 w64 w65 w66 w67 w68 w69 w70 w71 w72 w73 w74 w75 w76 w77 w78 w79 w80 w81 w82 w83 w84 w85 w86 w87 w88 w89 w90 w91 hb4;have HB4:=hide hb4;clear hb4;have HB36:=HB4;have hdr:=(unhide HCC).2.kept ((unhide HB36).block b hl3);have rr:=((unhide HB36).cell (p:=⟨rb,0,none⟩) hl4).trans (unhide HCC).1;have d0:=hdr.c0;have d1:=hdr.c1.1;have d2:=hdr.c1.2.1;have d3:=hdr.c1.2.2.1;have d4:=hdr.c1.2.2.2;have d5:=hdr.c5.1;have d6:=hdr.c5.2.1;have d7:=hdr.c5.2.2.1;have d8:=hdr.c5.2.2.2;have d9:=hdr.c9;clear hdr) | (at_builtin;have how6:OwnH W1.heap.size W4 u5 ((H.take j).filter (viewB tg)):=(owns_below (unhide HF).2 (fun g hg=>(unhide HB36).block g (owns_lt (unhide HF).2 hg).2));have hB16:Below W1.heap.size W1 W4:=((unhide HF).1.trans ((unhide HB36).mono (unhide HF).1.size));have hln:((H.take j).filter (viewB tg)).length≤j:=Nat.le_trans (List.length_filter_le _ _) (by simp;omega);have hown2:=owns_below how6 (fun g hg=>Below.heap_alloc W4 (.cells (d.row.toArray) 63) g (owns_lt how6 hg).2);have hnew:=hd_new W4 d;simp only[Hd.row] at hown2 hnew;go_must (refine wpList_append_own_at _ rfl _ _ 25 rfl W1.heap.size 63 i0 _ 10 128 Tryz.underlying25 hi zi0 zi1 zi2 rfl (by decide) u5 ((H.take j).filter (viewB tg)).length (((H.take j).filter (viewB tg)).flatMap Hd.row) rfl hown2 ⟨W4.heap.size,0,none⟩ 1 1 d.row rfl rfl hnew (fun u hu=>hRow_one [d] u (by simpa using hu)) (by unfold maxLen;omega) (by omega) (by have:=hB16.size;simp;omega) ?_;intro v' w1 hown' hgrow hnil hbk;have hbn:Below W1.heap.size W1 w1:=((hB16.alloc hB16.size _).grown hgrow (by have:=hB16.size;simp;omega) (fun g hg=>(owns_lt how6 hg).1));have HN:=hide (And.intro hbn hown');clear hbn hown' hgrow hnil hbk hown2 hnew how6 hB16 d0 d1 d2 d3 d4 d5 d6 d7 d8 d9 rr)))
       go_roundw
       case rel=>exact⟨j+1,by omega,by go_num,(unhide HN).1,by rw[unhide HTK,if_pos (unhide HV)];have h:=(unhide HN).2;unfold OwnH;simpa[List.flatMap_append] using h⟩
       case measure=>simp[intOf];omega
      | false=>
       have HV:=hide hvq
       clear hvq
       go_wp2_with (refine wp_firsts (by assumption) kk3 x3 hl5 hl6 hlx hly p0 p1 p2 p3 q0 q1 q2 q3 sx sy hz1 hz2 (unhide HQQ) ?_;intro W4 w9 w10 w11 w53 w54 w55 w56 w57 w58 w59 w60 w61 w62 w63 w64 w65 w66 w67 w68 w69 w70 w71 w72 w73 w74 w75 w76 w77 w78 w79 w80 w81 w82 w83 w84 w85 w86 w87 w88 w89 w90 w91 hb4;have HB4:=hide hb4;clear hb4)
       go_roundw
       case rel=>exact⟨j+1,by omega,by go_num,(unhide HF).1.trans ((unhide HB4).mono (unhide HF).1.size),by rw[unhide HTK,if_neg (by simp[unhide HV])];exact owns_below (unhide HF).2 (fun g hg=>(unhide HB4).block g (owns_lt (unhide HF).2 hg).2)⟩
       case measure=>simp[intOf];omega
  ·obtain rfl:j=len:=by omega
   have hj1:¬(j:Int)<j:=by omega
   rw[List.take_of_length_le (by omega)] at hown
   have HOW:=hide (owns_mono hown (by have:=unhide HS1;omega:w.heap.size≤W1.heap.size))
   have HBL:=hide ((unhide HB1).trans (hbl.mono (unhide HB1).size))
   clear hown hbl
   go_wp2_with fail
   exact bodyPost_ret (v:=u5) (by simp[results,Tryz.results33,go_sem]) rfl ⟨_,rfl,unhide HOW,unhide HBL⟩
/-- What is known of a clause that was laid down: its terms lie where the arguments do. -/
structure HdOk {n:Nat} (lo:Nat) (W0:World) (d:Hd n):Prop where
 th:IsT lo W0 d.th
 tb:IsT lo W0 d.tb
 fst:FirstIs (code d.th)
 kind:d.th.tv.k=3∨d.th.tv.k=4
/-- A view in the law's row: its block, what it still gives, hornref's row. -/
structure Vw (n:Nat) where
 vb:Nat
 a:Option Addr
 cap:Nat
 A1:List En
 A2:List En
 last:Int
 Ls:List En
 L:List (Hd n)
def Vw.row{n:Nat}(v:Vw n):List Value:=[.pointer (some ⟨v.vb,0,none⟩),.slice v.a v.L.length v.cap]
structure VwOk {n:Nat} (lo:Nat) (W0:World) (M:Nat→Prop) (W:World) (v:Vw n):Prop where
 ok:VOK M W v.vb v.A1 v.A2 v.last
 seq:Seq v.A1 v.A2 v.last v.Ls
 says:v.Ls.map En.say=v.L.map Hd.say
 row:IsH W v.a v.L.length v.L
 far:∀g off,v.a=some ⟨g,off,none⟩→¬M g∧g<W.heap.size
 hds:∀d∈v.L,HdOk lo W0 d
 cp:v.L.length≤v.cap
/-- The base, with the predicates that it knows. -/
def BaseK{n:Nat}(M:Nat→Prop)(W:World)(b:Nat)(laid:Int)(O:Nat→Prop)(E:List En)(H:List (Hd n)):Prop:=
 ∃(me mf ce cf:Nat) (ge gf:Lit→Option Addr) (F:Lit→Option Fam),BOK M W b me mf laid ce cf ge gf F E∧(∀k,O k↔Own b me mf F k)∧∀p,(∃f,F p=some f)↔∃d∈H,predC (code d.th)=p
/-- The law's own blocks that change. -/
def Zs{n:Nat}(rb vx:Nat)(u:Value)(V:List (Vw n))(k:Nat):Prop:=k=rb∨k=vx∨u.ownBlock=some k∨∃v∈V,k=v.vb
structure PlS {n:Nat} (W0:World) (lo b rb vx:Nat) (M O:Nat→Prop) (laid:Int) (E:List En) (H:List (Hd n)) (V:List (Vw n)) (u:Value) (W:World):Prop where
 low:Below lo W0 W
 hi:∀k,M k→lo≤k
 los:lo≤W0.heap.size
 mu:Mut M W
 bs:BaseK M W b laid O E H
 rbs:RB W rb (fun k=> ¬M k) H
 both:Both laid E H
 hds:∀d∈H,HdOk lo W0 d
 box:Boxed W vx 28 u
 row:W.ownsRow lo 58 2 u V.length (V.flatMap Vw.row)
 each:∀v∈V,VwOk lo W0 M W v
 vbs:V.Pairwise fun x y=>x.vb≠y.vb
 zs:∀k,Zs rb vx u V k→M k∧¬O k
 ap1:rb≠vx
 ap2:∀g,u.ownBlock=some g→g≠rb∧g≠vx
 ap3:∀v∈V,v.vb≠rb∧v.vb≠vx∧u.ownBlock≠some v.vb
section
variable {n:Nat} {M M' Y O O':Nat→Prop} {W W' W0:World} {lo b rb vx:Nat} {laid:Int} {E:List En} {H:List (Hd n)} {V:List (Vw n)} {u:Value}
theorem BOK.step2{me mf ce cf:Nat}{ge gf:Lit→Option Addr}{F:Lit→Option Fam}(h:BOK M W b me mf laid ce cf ge gf F E)(hM:Mut M W)(g:GrB Y W.heap.size W W')(hY:∀k,Y k→M k∧¬Own b me mf F k)(h1:∀k,Own b me mf F k→M' k)(h2:∀k,M' k→M k∨W.heap.size≤k):BOK M' W' b me mf laid ce cf ge gf F E:=
 {h.frame hM g (fun k hk=>⟨(hY k hk).1,fun e=>(hY k hk).2 (.inl e),fun e=>(hY k hk).2 (.inr (.inl e)),fun e=>(hY k hk).2 (.inr (.inr (.inl e))),fun p f hp=>⟨fun e=>(hY k hk).2 (.inr (.inr (.inr ⟨p,f,hp,.inl e⟩))),fun e=>(hY k hk).2 (.inr (.inr (.inr ⟨p,f,hp,.inr e⟩)))⟩⟩) with
  ents:=fun e he=>(h.ents e he).step hM g (fun k hk=>(hY k hk).1) h2
  mem:=⟨h1 _ (.inl rfl),h1 _ (.inr (.inl rfl)),h1 _ (.inr (.inr (.inl rfl))),fun p f hp=>⟨h1 _ (.inr (.inr (.inr ⟨p,f,hp,.inl rfl⟩))),h1 _ (.inr (.inr (.inr ⟨p,f,hp,.inr rfl⟩)))⟩⟩}
theorem BaseK.step(h:BaseK M W b laid O E H)(hM:Mut M W)(g:GrB Y W.heap.size W W')(hY:∀k,Y k→M k∧¬O k)(h1:∀k,O k→M' k)(h2:∀k,M' k→M k∨W.heap.size≤k):BaseK M' W' b laid O E H:=by
 obtain⟨me,mf,ce,cf,ge,gf,F,hB,hO,hF⟩:=h
 exact⟨me,mf,ce,cf,ge,gf,F,hB.step2 hM g (fun k hk=>⟨(hY k hk).1,fun e=>(hY k hk).2 ((hO k).2 e)⟩) (fun k hk=>h1 k ((hO k).2 hk)) h2,hO,hF⟩
theorem RB.step{X X':Nat→Prop}(h:RB W rb X H)(g:GrB Y W.heap.size W W')(hY:∀k,Y k→k≠rb∧¬X k)(hX:∀k,X k→k<W.heap.size→X' k):RB W' rb X' H:=by
 obtain⟨a,cap,h1,h2,h0,h3⟩:=h.ex
 refine⟨a,cap,(g.block rb h1.lt (fun e=>(hY rb e).1 rfl)).trans h1,h2.kept g.size (fun b' off e hb=>g.block b' hb (fun hy=>(hY b' hy).2 (h3 b' off e).1)),h0,fun b' off e=>?_⟩
 obtain⟨k1,k2,k3⟩:=h3 b' off e
 exact⟨hX b' k1 k3,k2,Nat.lt_of_lt_of_le k3 g.size⟩
theorem VwOk.step{v:Vw n}(h:VwOk lo W0 M W v)(hM:Mut M W)(g:GrB Y W.heap.size W W')(hY:∀k,Y k→M k∧k≠v.vb)(h1:M' v.vb)(h2:∀k,M' k→M k∨W.heap.size≤k):VwOk lo W0 M' W' v:=by
 have hk:=h.ok.kept hM g hY
 refine⟨⟨hk.blk,hk.srt,fun e he=>⟨(h.ok.ents e he).1.step hM g (fun k hk=>(hY k hk).1) h2,(hk.ents e he).2⟩,h1⟩,h.seq,h.says,h.row.kept g.size (fun b' off e hb=>g.block b' hb (fun hy=>(h.far b' off e).1 (hY b' hy).1)),fun g' off e=>?_,h.hds,h.cp⟩
 obtain⟨k1,k2⟩:=h.far g' off e
 exact⟨fun hm=>(h2 g' hm).elim k1 (fun hh=>absurd k2 (by omega)),Nat.lt_of_lt_of_le k2 g.size⟩
theorem low_step(h:Below lo W0 W)(hlo:lo≤W0.heap.size)(hM:∀k,M k→lo≤k)(g:GrB Y W.heap.size W W')(hY:∀k,Y k→M k):Below lo W0 W':=
 h.trans (g.below (n₀:=lo) (fun k hk=>hM k (hY k hk)) (Nat.le_trans hlo h.size))
theorem box_grb{T:TypeId}{v:Value}(h:Boxed W b T v)(g:GrB Y W.heap.size W W')(hY:¬Y b):Boxed W' b T v:=(g.block b h.lt hY).trans h
end
/-- The same, whatever it is made of; so many steps were taken. -/
def Pl(n:Nat)(W0:World)(lo b rb vx:Nat)(j:Nat)(W:World):Prop:=
 ∃(M O:Nat→Prop) (laid:Int) (E:List En) (H:List (Hd n)) (V:List (Vw n)) (u:Value),PlS W0 lo b rb vx M O laid E H V u W∧laid≤j∧V.length≤j
structure St (n:Nat) where
 k:Int
 th:Tm (n+1)
 tb:Tm (n+1)
 first:Bool
 N:Int
 tg:Tm (n+1)
def St.cs{n:Nat}(S:St n):Array Value:=#[.int .i64 S.k,.int .i64 S.th.tv.k,.int .i64 S.th.tv.N,.string S.th.tv.s,.slice S.th.tv.a S.th.tv.len S.th.tv.cap,.int .i64 S.tb.tv.k,.int .i64 S.tb.tv.N,.string S.tb.tv.s,.slice S.tb.tv.a S.tb.tv.len S.tb.tv.cap,.bool S.first,.int .i64 S.N,.int .i64 S.tg.tv.k,.int .i64 S.tg.tv.N,.string S.tg.tv.s,.slice S.tg.tv.a S.tg.tv.len S.tg.tv.cap]
structure StOk {n:Nat} (lo:Nat) (W0:World) (S:St n):Prop where
 th:IsT lo W0 S.th
 tb:IsT lo W0 S.tb
 tg:IsT lo W0 S.tg
 len:2*((code S.th).length+(code S.tb).length+1)≤4194304
 nth:numC (code S.th)
 ntg:numC (code S.tg)
 N0: -9223372036854775808≤S.N∧S.N≤9223372036854775807
/-- A step in its box. -/
def BoxS{n:Nat}(W:World)(B:Nat)(S:St n):Prop:=W.heap[B]?=some (.cells S.cs 38 (0,0))
theorem BoxS.lt{n:Nat}{W:World}{B:Nat}{S:St n}(h:BoxS W B S):B<W.heap.size:=(Array.getElem?_eq_some_iff.1 h).1
theorem BoxS.new{n:Nat}(W:World)(S:St n):BoxS (W.alloc (.cells S.cs 38)) W.heap.size S:=World.alloc_heap_new W _
theorem BoxS.kept{n:Nat}{A W:World}{B:Nat}{S:St n}(h:BoxS A B S)(hb:W.heap[B]?=A.heap[B]?):BoxS W B S:=hb.trans h
theorem BoxS.cell{n:Nat}{W:World}{B:Nat}{S:St n}(h:BoxS W B S)(o:Nat):W.cell? ⟨B,o,none⟩=S.cs[o]?:=by
 have h':W.heap[B]?=some (.cells S.cs 38 (0,0)):=h
 simp only[World.cell?,h']
 rfl
theorem BoxS.c{n:Nat}{W:World}{B:Nat}{S:St n}(h:BoxS W B S):
  W.cell? ⟨B,0,none⟩=some (.int .i64 S.k)∧(W.cell? ⟨B,1,none⟩=some (.int .i64 S.th.tv.k)∧W.cell? ⟨B,2,none⟩=some (.int .i64 S.th.tv.N)∧W.cell? ⟨B,3,none⟩=some (.string S.th.tv.s)∧W.cell? ⟨B,4,none⟩=some (.slice S.th.tv.a S.th.tv.len S.th.tv.cap))∧
  (W.cell? ⟨B,5,none⟩=some (.int .i64 S.tb.tv.k)∧W.cell? ⟨B,6,none⟩=some (.int .i64 S.tb.tv.N)∧W.cell? ⟨B,7,none⟩=some (.string S.tb.tv.s)∧W.cell? ⟨B,8,none⟩=some (.slice S.tb.tv.a S.tb.tv.len S.tb.tv.cap))∧W.cell? ⟨B,9,none⟩=some (.bool S.first)∧W.cell? ⟨B,10,none⟩=some (.int .i64 S.N)∧
  (W.cell? ⟨B,11,none⟩=some (.int .i64 S.tg.tv.k)∧W.cell? ⟨B,12,none⟩=some (.int .i64 S.tg.tv.N)∧W.cell? ⟨B,13,none⟩=some (.string S.tg.tv.s)∧W.cell? ⟨B,14,none⟩=some (.slice S.tg.tv.a S.tg.tv.len S.tg.tv.cap)):=
 ⟨h.cell 0,⟨h.cell 1,h.cell 2,h.cell 3,h.cell 4⟩,⟨h.cell 5,h.cell 6,h.cell 7,h.cell 8⟩,h.cell 9,h.cell 10,⟨h.cell 11,h.cell 12,h.cell 13,h.cell 14⟩⟩
section
variable {n:Nat} {M M' Y O O':Nat→Prop} {W W' W0:World} {lo b rb vx:Nat} {laid:Int} {E:List En} {H:List (Hd n)} {V:List (Vw n)} {u:Value}
theorem PlS.below(h:PlS W0 lo b rb vx M O laid E H V u W)(hb:Below W.heap.size W W'):PlS W0 lo b rb vx M O laid E H V u W':=by
 have g:GrB (fun _=>False) W.heap.size W W':=GrB.of_below hb
 exact⟨low_step h.low h.los h.hi g (fun _ e=>e.elim),h.hi,h.los,h.mu.grow g (fun _ e=>e.elim),h.bs.step h.mu g (fun _ e=>e.elim) (fun k hk=>by obtain⟨me,mf,ce,cf,ge,gf,F,hB,hO,hF⟩:=h.bs;rcases(hO k).1 hk with rfl | rfl | rfl | ⟨p,f,hf,rfl | rfl⟩;exact hB.mem.1;exact hB.mem.2.1;exact hB.mem.2.2.1;exact(hB.mem.2.2.2 p f hf).1;exact(hB.mem.2.2.2 p f hf).2) (fun _ hk=>.inl hk),
  h.rbs.step g (fun _ e=>e.elim) (fun _ hk _=>hk),h.both,h.hds,box_grb h.box g (fun e=>e),owns_below h.row (fun g' hg=>hb.block g' (owns_lt h.row hg).2),fun v hv=>(h.each v hv).step h.mu g (fun _ e=>e.elim) (h.each v hv).ok.mem (fun _ hk=>.inl hk),h.vbs,h.zs,h.ap1,h.ap2,h.ap3⟩
theorem PlS.own(h:PlS W0 lo b rb vx M O laid E H V u W){k:Nat}(hk:O k):M k:=by
 obtain⟨me,mf,ce,cf,ge,gf,F,hB,hO,hF⟩:=h.bs
 rcases(hO k).1 hk with rfl | rfl | rfl | ⟨p,f,hf,rfl | rfl⟩
 ·exact hB.mem.1
 ·exact hB.mem.2.1
 ·exact hB.mem.2.2.1
 ·exact(hB.mem.2.2.2 p f hf).1
 ·exact(hB.mem.2.2.2 p f hf).2
theorem PlS.based(h:PlS W0 lo b rb vx M O laid E H V u W)(g:GrB O W.heap.size W W')(h1:∀k,M k→M' k)(h2:∀k,M' k→M k∨W.heap.size≤k)(hO:∀k,O' k→O k∨W.heap.size≤k)(hM:Mut M' W'){laid':Int}{E':List En}{H':List (Hd n)}(hb:BaseK M' W' b laid' O' E' H')(hr:RB W' rb (fun k=> ¬M' k) H→RB W' rb (fun k=> ¬M' k) H')(hboth:Both laid' E' H')(hds:∀d∈H',HdOk lo W0 d):PlS W0 lo b rb vx M' O' laid' E' H' V u W':=by
 have hz:∀k,Zs rb vx u V k→¬O k:=fun k hk=>(h.zs k hk).2
 have hzl:∀k,Zs rb vx u V k→k<W.heap.size:=fun k hk=>(h.mu k (h.zs k hk).1).1
 have hlo:lo≤W.heap.size:=Nat.le_trans h.los h.low.size
 refine⟨low_step h.low h.los h.hi g (fun k hk=>h.own hk),fun k hk=>(h2 k hk).elim (h.hi k) (fun e=>Nat.le_trans hlo e),h.los,hM,hb,hr (h.rbs.step g (fun k hk=>⟨fun e=>hz k (.inl e) hk,fun e=>e (h.own hk)⟩) (fun k hk hl hm=>(h2 k hm).elim hk (fun e=>absurd hl (by omega)))),hboth,hds,
  box_grb h.box g (hz vx (.inr (.inl rfl))),owns_below h.row (fun g' hg=>g.block g' (owns_lt h.row hg).2 (hz g' (.inr (.inr (.inl hg))))),fun v hv=>(h.each v hv).step h.mu g (fun k hk=>⟨h.own hk,fun e=>hz k (.inr (.inr (.inr ⟨v,hv,e⟩))) hk⟩) (h1 _ (h.each v hv).ok.mem) h2,h.vbs,fun k hk=>⟨h1 k (h.zs k hk).1,fun ho=>(hO k ho).elim (hz k hk) (fun e=>absurd (hzl k hk) (by omega))⟩,h.ap1,h.ap2,h.ap3⟩
theorem PlS.refed(h:PlS W0 lo b rb vx M O laid E H V u W)(g:GrB (fun k=>k=rb) W.heap.size W W'){H':List (Hd n)}(hr:RB W' rb (fun k=> ¬M k) H')(hb:BaseK M W b laid O E H')(hboth:Both laid E H')(hds:∀d∈H',HdOk lo W0 d):PlS W0 lo b rb vx M O laid E H' V u W':=by
 have hm:=h.zs rb (.inl rfl)
 have hY:∀k,k=rb→M k∧¬O k:=fun k hk=>by rw[hk];exact hm
 have hnf:∀k,k=rb→NoFix W' k:=fun k hk c t o hc=>by
  obtain⟨a,cap,hbx,-⟩:=hr.ex
  rw[hk] at hc
  rw[show W'.heap[rb]?=_ from hbx] at hc
  simp at hc
  rw[←hc.2.1]
  unfold FixK
  decide
 exact⟨low_step h.low h.los h.hi g (fun k hk=>(hY k hk).1),h.hi,h.los,h.mu.grow g hnf,hb.step h.mu g hY (fun k hk=>h.own hk) (fun _ hk=>.inl hk),hr,hboth,hds,
  box_grb h.box g (fun e=>h.ap1 e.symm),owns_below h.row (fun g' hg=>g.block g' (owns_lt h.row hg).2 (h.ap2 g' hg).1),fun v hv=>(h.each v hv).step h.mu g (fun k hk=>⟨(hY k hk).1,fun e=>(h.ap3 v hv).1 (by rw[←e,hk])⟩) (h.each v hv).ok.mem (fun _ hk=>.inl hk),h.vbs,h.zs,h.ap1,h.ap2,h.ap3⟩
end
theorem rem_ok{n:Nat}{th tb:Tm (n+1)}(h:remE th tb=0):okT th=true∧okT tb=true∧plainE (wroteC th tb) (code th) (code tb)=0:=by
 unfold remE at h
 split at h
 ·rename_i h';exact⟨h'.1,h'.2,h⟩
 ·cases h
theorem rem_kind{n:Nat}{th tb:Tm (n+1)}(h:remE th tb=0):th.tv.k=3∨th.tv.k=4:=by
 obtain⟨okh,okb,hp⟩:=rem_ok h
 have hbad:headBad th.tv=false:=by
  cases hb:headBad th.tv with
  | false=>rfl
  | true=>
   exfalso
   unfold plainE wroteC at hp
   split at hp
   ·rename_i h' b' e
    split at e
    ·unfold makeC at e
     split at e
     ·split at e
      ·rename_i u v hk
       cases hbb:bodyC v with
       | none=>rw[hbb] at e;simp[makeJ] at e
       | some c=>
        rw[hbb] at e
        cases hhu:headBad u.tv with
        | true=>rw[hhu] at e;simp[makeJ] at e
        | false=>
         rw[hhu] at e
         have e':(clRen (code u) c (code u),clRen (code u) c c)=(h',b'):=Option.some.inj e
         split at hp
         ·rename_i hpp
          have h1:(clRen (code u) c (code u)).length=(code th).length:=by rw[←hpp.1];exact congrArg (fun x=>x.1.length) e'
          rw[clRen_len,←lift_code th,code_kids th.lift,hk] at h1
          simp at h1
          omega
         ·cases hp
      ·cases e
     ·rw[show th.lift.tv=th.tv from lift_tv th,hb] at e
      simp[makeJ] at e
    ·rw[hb] at e
     cases hbb:bodyC tb with
     | none=>rw[hbb] at e;simp[makeJ] at e
     | some c=>rw[hbb] at e;simp[makeJ] at e
   ·cases hp
 have hc:=ok_top okh
 cases hk:(decide (th.tv.k=3) || decide (th.tv.k=4)) with
 | true=>simpa using hk
 | false=>rw[head_call hc hk] at hbad;cases hbad
end Go.Proofs.YteaiefjmcinljaaGreatDoor
