import Derived.Test.YteaiefjmcinljaaGreatDoorOs
import Derived.BigRegion
import Derived.Test.YteaiefjmcinljaaGreatDoorPs
import Derived.Maps.RangeWalk
import Derived.Maps.OwnSet
import Derived.Maps.Views
namespace Go.Proofs.YteaiefjmcinljaaGreatDoor
set_option maxHeartbeats 1000000
set_option maxRecDepth 100000
open Go.RowKit Go.Shelf Go.Maps
theorem number_world(w:World)(x:TV)(f:Int):∃W5,((((w.alloc (.cells #[.int .i64 x.k,.int .i64 x.N,.string x.s,.slice x.a x.len x.cap] 34)).alloc (.cells #[.int .i64 0,.int .i64 0,.string ⟨#[]⟩,.slice none 0 0] 34)).alloc (.cells #[.int .i64 f] 2)).alloc (.map #[] 0)).alloc (.cells #[.map (some (w.heap.size+3))] 184)=W5∧
  Below w.heap.size w W5∧W5.heap.size=w.heap.size+5∧BoxT W5 w.heap.size x∧W5.heap[w.heap.size+1]?=some (.cells #[.int .i64 0,.int .i64 0,.string ⟨#[]⟩,.slice none 0 0] 34 (0,0))∧NumI f (w.heap.size+3) (w.heap.size+4) (w.heap.size+2) [] W5:=by
 refine⟨_,rfl,((((Below.refl _ w).alloc (Nat.le_refl _) _).alloc (by simp) _).alloc (by simp;omega) _ |>.alloc (by simp;omega) _).alloc (by simp;omega) _,by simp,(((BoxT.new w x).alloc _).alloc _ |>.alloc _).alloc _,?_,?_⟩
 ·have h:=World.alloc_heap_new (w.alloc (.cells #[.int .i64 x.k,.int .i64 x.N,.string x.s,.slice x.a x.len x.cap] 34)) (.cells #[.int .i64 0,.int .i64 0,.string ⟨#[]⟩,.slice none 0 0] 34)
  rw[World.size_alloc] at h
  exact(Below.heap_alloc _ _ _ (by simp <;> omega)).trans ((Below.heap_alloc _ _ _ (by simp <;> omega)).trans ((Below.heap_alloc _ _ _ (by simp)).trans h))
 ·refine⟨List.nodup_nil,(fun N hN=>by cases hN),?_,?_,.map [],?_,(fun N=>by simp[Maps.has]),(fun N hN=>by cases hN)⟩
  ·have h:=World.alloc_heap_new ((((w.alloc (.cells #[.int .i64 x.k,.int .i64 x.N,.string x.s,.slice x.a x.len x.cap] 34)).alloc (.cells #[.int .i64 0,.int .i64 0,.string ⟨#[]⟩,.slice none 0 0] 34)).alloc (.cells #[.int .i64 f] 2)).alloc (.map #[] 0)) (.cells #[.map (some (w.heap.size+3))] 184)
   simp only[World.size_alloc] at h
   exact h
  ·have h:=World.alloc_heap_new ((w.alloc (.cells #[.int .i64 x.k,.int .i64 x.N,.string x.s,.slice x.a x.len x.cap] 34)).alloc (.cells #[.int .i64 0,.int .i64 0,.string ⟨#[]⟩,.slice none 0 0] 34)) (.cells #[.int .i64 f] 2)
   simp only[World.size_alloc] at h
   have h2:=(Below.heap_alloc _ (.cells #[.map (some (w.heap.size+3))] 184) _ (by simp <;> omega)).trans ((Below.heap_alloc _ (.map #[] 0) _ (by simp)).trans h)
   simpa using h2
  ·have h:=World.ownsMap_made (H:=Unit) (((w.alloc (.cells #[.int .i64 x.k,.int .i64 x.N,.string x.s,.slice x.a x.len x.cap] 34)).alloc (.cells #[.int .i64 0,.int .i64 0,.string ⟨#[]⟩,.slice none 0 0] 34)).alloc (.cells #[.int .i64 f] 2)) Tryz.prog 2 (plainElem Tryz.prog 2)
   simp only[World.size_alloc] at h
   exact h.alloc _
theorem number_any{n:Nat}(t:Tm n)(f:Int)(w:World)(hT:IsT w.heap.size w t)(hok:okT t=true)(hf0:0≤f)(hf1:f≤1099511627776):
  Calls Tryz.prog 89 #[t.tv.val,.int .i64 f] w fun e W'=> ∃x:TV,e=.returned (.tuple #[x.val,.int .i64 (f+((stepsN stpN [] (code t)).length:Nat))])∧Below w.heap.size w W'∧HoldsT (n+1) w.heap.size W' x.val ((code t).flatMap (subN (renN f (stepsN stpN [] (code t))))):=by
 obtain⟨W5,hW5,hB5,hs5,hbt,hz5,hI5⟩:=number_world w t.tv f
 have hrep:=replace_anyX (stately_num (f:=f) (mb:=w.heap.size+3) (bb:=w.heap.size+4) (nb:=w.heap.size+2) (n₀:=w.heap.size) (lo:=w.heap.size+5) (by omega) ⟨by omega,by omega⟩ (by omega) ⟨by omega,by omega⟩) 102 #[.pointer (some ⟨w.heap.size+4,0,none⟩),.pointer (some ⟨w.heap.size+2,0,none⟩)] 1 (by omega) (enters_of Tryz.func102 (by kernel_rfl) rfl)
  (number1_becomes hf0 hf1 ⟨by omega,by omega,by omega⟩ ⟨by omega,by omega,by omega⟩) n t W5 [] (by omega) hI5 (hT.below hB5) hok
 have hmm:= @run_makeMap Tryz.prog
 have c0:=hbt.c0
 have c1:=hbt.c1
 have c2:=hbt.c2
 have c3:=hbt.c3
 generalize stepsN stpN [] (code t)=cv at hrep⊢
 have HB5:=hide hB5
 have HS5:=hide hs5
 have HZ5:=hide hz5
 clear hT hok hI5 hB5 hz5 hbt hs5
 simp only[TV.val] at hrep⊢
 go_enter Tryz.func89,Tryz.ntmps89
 go_wp2_with fail
 refine hrep.mono ?_
 clear hrep c0 c1 c2 c3 hmm hW5
 rintro e W6 ⟨v,rfl,hg6,hI6,hv⟩
 obtain⟨t6,ht6,-⟩:=hv _ (Nat.le_refl _)
 subst ht6
 have hs6:w.heap.size+5≤W6.heap.size:=by have:=hg6.size;have:=unhide HS5;omega
 have hB6:Below w.heap.size w W6:=(unhide HB5).trans (hg6.below (fun k hx=>by rcases hx with rfl | rfl <;> omega) (by have:=unhide HS5;omega))
 have hz6:W6.heap[w.heap.size+1]?=some (.cells #[.int .i64 0,.int .i64 0,.string ⟨#[]⟩,.slice none 0 0] 34 (0,0)):=(hg6.block _ (by have:=unhide HS5;omega) (fun hx=>by rcases hx with hx | hx <;> omega)).trans (unhide HZ5)
 have hb7:Below W6.heap.size W6 (W6.alloc (.cells #[.int .i64 t6.tv.k,.int .i64 t6.tv.N,.string t6.tv.s,.slice t6.tv.a t6.tv.len t6.tv.cap] 34)):=(Below.refl _ W6).alloc (Nat.le_refl _) _
 have hbx:=BoxT.new W6 t6.tv
 have hz7:=(hb7.block (w.heap.size+1) (by omega)).trans hz6
 have hn7:=(hb7.block (w.heap.size+2) (by omega)).trans hI6.next
 have hv7:HoldsT (n+1) W5.heap.size (W6.alloc (.cells #[.int .i64 t6.tv.k,.int .i64 t6.tv.N,.string t6.tv.s,.slice t6.tv.a t6.tv.len t6.tv.cap] 34)) t6.tv.val ((code t).flatMap (subN (renN f cv))):=hv.below hb7
 have hlt5:w.heap.size+1<W5.heap.size:=by have:=unhide HS5;omega
 have hfin:=(holds_set4 hv7 hlt5 0 t6.tv).mono (lo':=w.heap.size) (Nat.le_refl _) (by omega)
 have hbf:=set4_below (hB6.trans (hb7.mono hB6.size)) (b:=w.heap.size+1) (by omega) 0 t6.tv
 have hx:(W6.alloc (.cells #[.int .i64 t6.tv.k,.int .i64 t6.tv.N,.string t6.tv.s,.slice t6.tv.a t6.tv.len t6.tv.cap] 34)).cell? ⟨w.heap.size+1+1,0,none⟩=some (.int .i64 (f+(cv.length:Nat))):=(one_cell hn7).1
 obtain⟨⟨z0,z1,z2,z3⟩,f0,f1,f2,f3⟩:=zbox_kept hz7
 have b0:=hbx.c0
 have b1:=hbx.c1
 have b2:=hbx.c2
 have b3:=hbx.c3
 have HF:=hide (And.intro hbf hfin)
 clear hg6 hI6 hv hB6 hz6 hbx hz7 hn7 hv7 hfin hbf hb7
 simp only[TV.val]
 go_wp2_with fail
 go_region
 all_goals
  go_wp2_with fail
  exact bodyPost_ret (v:=.tuple #[t6.tv.val,.int .i64 (f+(cv.length:Nat))]) (by simp[results,Tryz.results89,go_sem,TV.val,z0,z1,z2,z3]) rfl ⟨_,rfl,(unhide HF).1.drew,(unhide HF).2.below (Below.refl _ _).drew⟩
set_option maxHeartbeats 1000000
set_option maxRecDepth 100000
theorem isVar_any(N:Int)(w:World):Calls Tryz.prog 88 #[.int .i64 N] w fun e W'=>e=.returned (.bool (decide (0≤N) && decide (N≤1099511627776)))∧Below w.heap.size w W':=by
 go_enter Tryz.func88,Tryz.ntmps88
 go_wp2
 all_goals go_ret
 all_goals refine⟨?_,Below.refl _ _⟩
 all_goals first | (simp_all;done) | (simp_all;intros;omega)
theorem steps_nodup:∀(c:List Nd) (acc:List Int),acc.Nodup→(stepsN stpN acc c).Nodup
 | [],_,h=>h
 | x::c,acc,h=>by
  have e:stepsN stpN acc (x::c)=stepsN stpN (if x.1=1 then stpN acc x.2.1 else acc) c:=rfl
  rw[e]
  refine steps_nodup c _ ?_
  split
  ·unfold stpN
   split
   ·exact h
   ·rename_i hm
    rw[List.nodup_append]
    exact⟨h,by simp,fun a ha b hb=>by simp at hb;subst hb;exact fun e=>hm (e▸ha)⟩
  ·exact h
theorem steps_lenT{n:Nat}{t:Tm n}(h:okT t=true):(stepsN stpN [] (code t)).length≤1099511627777:=
 nodup_range (steps_nodup (code t) [] List.nodup_nil) fun N hN=>by
  rcases(steps_mem (code t) [] N).1 hN with h' | ⟨x,hx,hk,rfl⟩
  ·cases h'
  ·rw[okT_m,List.all_eq_true] at h
   have hx':=h x hx
   obtain⟨k,N,s,len⟩:=x
   simp only at hk
   subst hk
   simp[okM] at hx'
   exact hx'.1.1
/-- What Rename answers, of a term: the number of the first variable it did not give, or an error. -/
def RenAll{n:Nat}(t:Tm n)(f:Int)(lo:Nat)(W':World)(x:TV)(k r:Int):Prop:=
 (0≤f∧f≤1099511627776∧f+((stepsN stpN [] (code t)).length:Nat)≤1099511627777∧r=0∧k=f+((stepsN stpN [] (code t)).length:Nat)∧HoldsT (n+1) lo W' x.val (canon f (code t)))∨
 (0≤f∧f≤1099511627776∧¬f+((stepsN stpN [] (code t)).length:Nat)≤1099511627777∧r=9∧k=0∧x=⟨0,0,⟨#[]⟩,none,0,0⟩)∨
 (¬(0≤f∧f≤1099511627776)∧r=1∧k=0∧x=⟨0,0,⟨#[]⟩,none,0,0⟩)
theorem rename_full{n:Nat}(t:Tm n)(f:Int)(w:World)(hT:IsT w.heap.size w t)(hok:okT t=true):
  Calls Tryz.prog 65 #[t.tv.val,.int .i64 f] w fun e W'=> ∃(x:TV) (k r:Int),e=.returned (.tuple #[x.val,.int .i64 k,.int .i64 r])∧Below w.heap.size w W'∧RenAll t f w.heap.size W' x k r:=by
 have hH:=Head.new w t.tv
 have hB1:Below w.heap.size w ((w.alloc (.cells #[.int .i64 t.tv.k,.int .i64 t.tv.N,.string t.tv.s,.slice t.tv.a t.tv.len t.tv.cap] 34)).alloc (.cells #[.int .i64 0,.int .i64 0,.string ⟨#[]⟩,.slice none 0 0] 34)):=((Below.refl _ w).alloc (Nat.le_refl _) _).alloc (by simp) _
 have hck:=check_any t _ ((hT.below hB1).mono hB1.size)
 rw[chk_yes hok] at hck
 by_cases hf:0≤f∧f≤1099511627776
 ·obtain⟨hf0,hf1⟩:=hf
  have hnm:=fun(W:World) (hb:Below w.heap.size w W)=>number_any t f W ((hT.below hb).mono hb.size) hok hf0 hf1
  have hlen:(stepsN stpN [] (code t)).length≤1099511627777:=steps_lenT hok
  obtain⟨L,hL⟩:∃L,(stepsN stpN [] (code t)).length=L:=⟨_,rfl⟩
  rw[hL] at hnm hlen
  have HLL:=hide hL
  clear hL
  have hiv:=fun(W:World)=>isVar_any f W
  have hdd:(decide (0≤f) && decide (f≤1099511627776))=true:=by simp[hf0,hf1]
  simp only[hdd] at hiv
  have hwr:IntKind.i64.wrap (f+(L:Nat)-1)=f+(L:Nat)-1:=by simp[IntKind.wrap,IntKind.bits,IntKind.signed];omega
  simp only[TV.val] at hnm hck⊢
  have HNM:=hide hnm
  clear hT hok hnm hdd hB1
  go_enter Tryz.func65,Tryz.ntmps65
  go_wp2_with fail
  refine hck.mono ?_
  clear hck
  rintro e W1 ⟨rfl,hb1⟩
  replace hH:=hH.next hb1
  clear hb1
  go_wp2_with fail
  refine(hiv _).mono ?_
  clear hiv
  rintro e W2 ⟨rfl,hb2⟩
  replace hH:=hH.next hb2
  clear hb2
  have c0:=hH.ba.c0
  have c1:=hH.ba.c1
  have c2:=hH.ba.c2
  have c3:=hH.ba.c3
  go_wp2_with fail
  refine((unhide HNM) W2 hH.below).mono ?_
  clear c0 c1 c2 c3 HNM
  rintro e W3 ⟨x,rfl,hb3,hx⟩
  have hb4:Below W3.heap.size W3 (W3.alloc (.cells #[.int .i64 x.k,.int .i64 x.N,.string x.s,.slice x.a x.len x.cap] 34)):=(Below.refl _ W3).alloc (Nat.le_refl _) _
  have hb24:=hb3.trans (hb4.mono hb3.size)
  have hlt2:=hH.lt
  replace hH:=hH.next hb24
  have hbx:=BoxT.new W3 x
  have hx4:HoldsT (n+1) W2.heap.size (W3.alloc (.cells #[.int .i64 x.k,.int .i64 x.N,.string x.s,.slice x.a x.len x.cap] 34)) x.val (canon f (code t)):=hx.below hb4
  obtain⟨⟨z0,z1,z2,z3⟩,y0,y1,y2,y3⟩:=zbox_kept hH.bz
  by_cases hbig:f+(L:Nat)-1≤1099511627776
  ·have hg:¬1099511627776<f+(L:Nat)-1:=by omega
   have hfin:=(holds_set4 hx4 hlt2 0 x).mono (lo':=w.heap.size) (Nat.le_refl _) (by omega)
   have hbf:=set4_below hH.below (b:=w.heap.size+1) (by omega) 0 x
   have b0:=hbx.c0
   have b1:=hbx.c1
   have b2:=hbx.c2
   have b3:=hbx.c3
   have HF:=hide (And.intro hbf hfin)
   clear hfin hbf hx4 hx hbx hH hb3 hb4 hb24
   go_wp2_with fail
   exact bodyPost_ret (v:=.tuple #[x.val,.int .i64 (f+(L:Nat)),.int .i64 0]) (by simp[results,Tryz.results65,go_sem,TV.val,z0,z1,z2,z3]) rfl ⟨x,_,0,rfl,(unhide HF).1,.inl ⟨hf0,hf1,by rw[unhide HLL];omega,rfl,by rw[unhide HLL],(unhide HF).2⟩⟩
  ·have hg:1099511627776<f+(L:Nat)-1:=by omega
   have hbf:=set4_below hH.below (b:=w.heap.size+1) (by omega) 0 ⟨0,0,⟨#[]⟩,none,0,0⟩
   have HF:=hide hbf
   clear hbf hx4 hx hbx hH hb3 hb4 hb24 hbig
   go_wp2_with fail
   exact bodyPost_ret (v:=.tuple #[.agg #[.int .i64 0,.int .i64 0,.string ⟨#[]⟩,.slice none 0 0],.int .i64 0,.int .i64 9]) (by simp[results,Tryz.results65,go_sem,z0,z1,z2,z3]) rfl ⟨⟨0,0,⟨#[]⟩,none,0,0⟩,0,9,rfl,unhide HF,.inr (.inl ⟨hf0,hf1,by rw[unhide HLL];omega,rfl,rfl,rfl⟩)⟩
 ·have hiv:=fun(W:World)=>isVar_any f W
  have hdd:(decide (0≤f) && decide (f≤1099511627776))=false:=by
   rw[Bool.and_eq_false_iff,decide_eq_false_iff_not,decide_eq_false_iff_not];omega
  simp only[hdd] at hiv
  simp only[TV.val] at hck⊢
  clear hT hok hdd hB1
  have HFF:=hide hf
  clear hf
  go_enter Tryz.func65,Tryz.ntmps65
  go_wp2_with fail
  refine hck.mono ?_
  clear hck
  rintro e W1 ⟨rfl,hb1⟩
  replace hH:=hH.next hb1
  clear hb1
  go_wp2_with fail
  refine(hiv _).mono ?_
  clear hiv
  rintro e W2 ⟨rfl,hb2⟩
  replace hH:=hH.next hb2
  clear hb2
  obtain⟨⟨z0,z1,z2,z3⟩,y0,y1,y2,y3⟩:=zbox_kept hH.bz
  have hbf:=set4_below hH.below (b:=w.heap.size+1) (by omega) 0 ⟨0,0,⟨#[]⟩,none,0,0⟩
  have HF:=hide hbf
  clear hbf hH
  go_wp2_with fail
  exact bodyPost_ret (v:=.tuple #[.agg #[.int .i64 0,.int .i64 0,.string ⟨#[]⟩,.slice none 0 0],.int .i64 0,.int .i64 1]) (by simp[results,Tryz.results65,go_sem,z0,z1,z2,z3]) rfl ⟨⟨0,0,⟨#[]⟩,none,0,0⟩,0,1,rfl,unhide HF,.inr (.inr ⟨unhide HFF,rfl,rfl,rfl⟩)⟩
set_option maxHeartbeats 1000000
set_option maxRecDepth 100000
def i64s(l:List Int):List Value:=l.map (Value.int .i64)
/-- Numbers that lie in a row. -/
def IsN(W:World)(a:Option Addr)(len:Nat)(ns:List Int):Prop:=
 len=ns.length∧len≤1152921504606846976∧(ns=[]∨∃b off,a=some ⟨b,off,none⟩∧b<W.heap.size∧∀(j:Nat) N,ns[j]?=some N→W.cell? ⟨b,off+j,none⟩=some (.int .i64 N))
theorem IsN.below{W W':World}{a:Option Addr}{len:Nat}{ns:List Int}(h:IsN W a len ns)(hb:Below W.heap.size W W'):IsN W' a len ns:=by
 obtain⟨h1,h2,h3⟩:=h
 refine⟨h1,h2,?_⟩
 rcases h3 with h3 | ⟨b,off,ha,hlt,hk⟩
 ·exact .inl h3
 ·exact .inr ⟨b,off,ha,Nat.lt_of_lt_of_le hlt hb.size,fun j N hj=>(hb.cell (p:=⟨b,off+j,none⟩) hlt).trans (hk j N hj)⟩
/-- A row of numbers of the call's own. -/
def OwnN(base:Nat)(W:World)(v:Value)(ns:List Int):Prop:=W.ownsRow base 2 1 v ns.length (i64s ns)
theorem OwnN.isN{base:Nat}{W:World}{v:Value}{ns:List Int}(h:OwnN base W v ns)(hl:ns.length≤1152921504606846976):∃a cap,v=.slice a ns.length cap∧IsN W a ns.length ns:=by
 obtain⟨_,h2⟩:=h
 rcases h2 with⟨hv,hn⟩ | ⟨g,cap,cur,hv,hg,hb,_,_,_,htk⟩
 ·exact⟨none,0,by rw[hv,hn],rfl,hl,.inl (List.length_eq_zero_iff.1 hn)⟩
 ·refine⟨_,cap,hv,rfl,hl,.inr ⟨g,0,rfl,(Array.getElem?_eq_some_iff.1 hb).1,fun j N hj=>?_⟩⟩
  have hj':(i64s ns)[j]?=some (.int .i64 N):=by unfold i64s;rw[List.getElem?_map,hj];rfl
  rw[←htk,List.getElem?_take] at hj'
  split at hj'
  ·simp[World.cell?,hb]
   simpa using hj'
  ·cases hj'
theorem OwnN.nil(base:Nat)(W:World):OwnN base W (.slice none 0 0) []:=⟨rfl,.inl ⟨rfl,rfl⟩⟩
theorem num_at{W:World}{a:Option Addr}{len:Nat}{ns:List Int}(h:IsN W a len ns){j:Nat}(hj:j<len):∃N b off,ns[j]?=some N∧a=some ⟨b,off,none⟩∧W.cell? ⟨b,off+j,none⟩=some (.int .i64 N):=by
 obtain⟨h1,_,h3⟩:=h
 obtain⟨N,hN⟩:∃N,ns[j]?=some N:=⟨ns[j]'(by omega),List.getElem?_eq_getElem (by omega)⟩
 have hne:ns≠[]:=by rintro rfl;simp at hN
 obtain⟨b,off,ha,_,hk⟩:=h3.resolve_left hne
 exact⟨N,b,off,hN,ha,hk j N hN⟩
/-- What Has answers. -/
def hasI(ns:List Int)(N:Int):Int:=if N∈ns then(ns.idxOf N:Nat) else -1
theorem hasI_at{ns:List Int}{N:Int}{j:Nat}(h:ns[j]?=some N)(hn:∀i M,ns[i]?=some M→i<j→M≠N):hasI ns N=(j:Nat):=by
 unfold hasI
 rw[if_pos (List.mem_of_getElem? h)]
 obtain⟨hj,hjN⟩:=List.getElem?_eq_some_iff.1 h
 have h1:ns.idxOf N<ns.length:=List.idxOf_lt_length_of_mem (List.mem_of_getElem? h)
 have h2:ns[ns.idxOf N]=N:=List.getElem_idxOf h1
 have h3:¬ns.idxOf N<j:=fun hlt=>hn _ _ (List.getElem?_eq_getElem h1) hlt h2
 have h4:¬j<ns.idxOf N:=fun hlt=>by
  have:=List.not_of_lt_findIdx (p:=(· == N)) (xs:=ns) (i:=j) hlt
  simp[hjN] at this
 have:ns.idxOf N=j:=by omega
 rw[this]
theorem hasI_no{ns:List Int}{N:Int}(h:N∉ns):hasI ns N= -1:=if_neg h
theorem hasI_neg{ns:List Int}{N:Int}:hasI ns N<0↔N∉ns:=by
 unfold hasI
 split <;> simp_all
theorem has_any(ns:List Int)(a:Option Addr)(len cap:Nat)(N:Int)(w:World)(hn:IsN w a len ns):
  Calls Tryz.prog 98 #[.slice a len cap,.int .i64 N] w fun e W'=>e=.returned (.int .i64 (hasI ns N))∧Below w.heap.size w W':=by
 have h1:=hn.1
 have h2:=hn.2.1
 have hl1:len≤ns.length:=by omega
 have hl2:ns.length≤len:=by omega
 clear h1
 have HN:=hide hn
 clear hn
 go_enter Tryz.func98,Tryz.ntmps98
 go_wp2_with fail
 go_loop [5] (fun i=> ∃j:Nat,j≤len∧i=.int .i64 j∧∀(i:Nat) M,ns[i]?=some M→i<j→M≠N) (fun i=>len-(intOf i).toNat)
 case atStart=>exact⟨0,Nat.zero_le _,rfl,fun i M _ h=>by omega⟩
 case round=>
  obtain⟨j,hj,rfl,hs⟩:=hrel
  have HS:=hide hs
  clear hs
  by_cases hlt:j<len
  ·obtain⟨M,b,off,hM,rfl,c0⟩:=num_at (unhide HN) hlt
   have HM:=hide hM
   clear hM
   have hj1:(j:Int)<len:=by omega
   by_cases hV:M=N
   ·have hV':(M == N)=true:=by simp[hV]
    have HV:=hide hV
    clear hV
    go_wp2_with fail
    go_ret
    exact⟨by rw[hasI_at (by rw[←unhide HV];exact unhide HM) (unhide HS)];rfl,Below.refl _ _⟩
   ·have hV':(M == N)=false:=by simp[hV]
    have HV:=hide hV
    clear hV
    go_wp2_with fail
    go_round
    case rel=>exact⟨j+1,by omega,by go_num,fun i q hq hi=>by
     by_cases e:i=j
     ·subst e;rw[unhide HM] at hq;cases hq;exact unhide HV
     ·exact(unhide HS) i q hq (by omega)⟩
    case measure=>simp[intOf];omega
  ·have hno:N∉ns:=fun h=>by
    obtain⟨i,hi⟩:=List.mem_iff_getElem?.1 h
    exact(unhide HS) i N hi (by have:=(List.getElem?_eq_some_iff.1 hi).1;omega) rfl
   have HNO:=hide hno
   clear hno
   go_wp2_with fail
   go_ret
   exact⟨by rw[hasI_no (unhide HNO)];rfl,Below.refl _ _⟩
set_option maxHeartbeats 1000000
set_option maxRecDepth 100000
theorem Tryz.infoN:(Tryz.prog.info? 2).map (fun i=>(i.zero,i.size,i.bytes))=some (some (.int .i64 0),1,8):=by kernel_rfl
theorem OwnN.kept{base:Nat}{W W':World}{v:Value}{ns:List Int}(h:OwnN base W v ns)(hb:∀g,v.ownBlock=some g→W'.heap[g]?=W.heap[g]?):OwnN base W' v ns:=owns_below h hb
theorem OwnN.lt{base:Nat}{W:World}{v:Value}{ns:List Int}(h:OwnN base W v ns){g:Nat}(hg:v.ownBlock=some g):base≤g∧g<W.heap.size:=owns_lt h hg
theorem OwnN.slice{base:Nat}{W:World}{v:Value}{ns:List Int}(h:OwnN base W v ns):∃a cap,v=.slice a ns.length cap:=by
 obtain⟨_,h2⟩:=h
 rcases h2 with⟨hv,hn⟩ | ⟨g,cap,cur,hv,_⟩
 ·exact⟨none,0,by rw[hv,hn]⟩
 ·exact⟨_,cap,hv⟩
/-- A row that has grown: the row, and that of what lay only the row's own block may be another. -/
structure GrownN (base:Nat) (v:Value) (W:World) (v':Value) (ns:List Int) (W':World):Prop where
 own:OwnN base W' v' ns
 grb:GrB (fun k=>v.ownBlock=some k) W.heap.size W W'
 blk:v'.ownBlock=v.ownBlock∨∀g,v'.ownBlock=some g→W.heap.size≤g
theorem GrownN.refl{base:Nat}{v:Value}{W:World}{ns:List Int}(h:OwnN base W v ns):GrownN base v W v ns W:=⟨h,GrB.refl _ _ _,.inl rfl⟩
theorem GrownN.trans{base:Nat}{v v1 v2:Value}{W W1 W2:World}{ns ns':List Int}(h:GrownN base v W v1 ns W1)(k:GrownN base v1 W1 v2 ns' W2):GrownN base v W v2 ns' W2:=by
 have hs:=h.grb.size
 refine⟨k.own,h.grb.trans ⟨k.grb.os,k.grb.tape,k.grb.output,k.grb.size,fun b hb hne=>k.grb.block b (by omega) fun e=>?_⟩,?_⟩
 ·rcases h.blk with e' | e'
  ·exact hne (e'▸e)
  ·have:=e' b e;omega
 ·rcases k.blk with e | e
  ·rw[e];exact h.blk
  ·exact .inr fun g hg=>by have:=e g hg;omega
theorem one_new{W:World}{N:Int}:∀j u,([.int .i64 N]:List Value)[j]?=some u→(W.alloc (.cells #[.int .i64 N] 2)).cell? ((⟨W.heap.size,0,none⟩:Addr).add j)=some u:=by
 intro j u hj
 rw[addr_add,Nat.zero_add]
 match j,hj with
 | 0,hj=>simp at hj;subst hj;simp
 | j+1,hj=>simp at hj
theorem one_one{N:Int}:∀u∈([.int .i64 N]:List Value),u.oneCell'=true:=by
 intro u hu
 simp at hu
 subst hu
 rfl
theorem rvars_var(base:Nat)(v:Value)(ns:List Int)(N:Int)(s:ByteArray)(a:Option Addr)(len cap:Nat)(w:World)(hown:OwnN base w v ns)(hbase:base≤w.heap.size)(hl:ns.length≤4194304)(hN:N∉ns):
  Calls Tryz.prog 97 #[.agg #[.int .i64 1,.int .i64 N,.string s,.slice a len cap],v] w fun e W'=> ∃v',e=.returned v'∧GrownN base v w v' (ns++[N]) W':=by
 obtain⟨va,vc,rfl,hisN⟩:=hown.isN (by omega)
 have hB1:=(Below.refl _ w).alloc (Nat.le_refl _) (.cells #[.int .i64 1,.int .i64 N,.string s,.slice a len cap] 34)
 have hh:=has_any ns va ns.length vc N _ (hisN.below hB1)
 have hneg:hasI ns N<0:=hasI_neg.2 hN
 generalize hasI ns N=r at hh hneg
 have hown1:OwnN base (w.alloc (.cells #[.int .i64 1,.int .i64 N,.string s,.slice a len cap] 34)) (.slice va ns.length vc) ns:=hown.kept (fun g hg=>hB1.block g (hown.lt hg).2)
 have hlt0:∀g,(Value.slice va ns.length vc).ownBlock=some g→base≤g∧g<w.heap.size:=fun g hg=>hown.lt hg
 have HO:=hide hown1
 have HLT:=hide hlt0
 clear hisN hown hown1 hlt0 hN
 obtain⟨i0,hi,hz0,hz1,hz2⟩:=info_parts Tryz.infoN
 go_enter Tryz.func97,Tryz.ntmps97
 go_wp2_with fail
 refine hh.mono ?_
 clear hh
 rintro e W2 ⟨rfl,hb2⟩
 have hbx:BoxT W2 w.heap.size ⟨1,N,s,a,len,cap⟩:=(hb2.block w.heap.size (by simp)).trans (BoxT.new w ⟨1,N,s,a,len,cap⟩)
 have x0:=hbx.c0
 have x1:=hbx.c1
 have x2:=hbx.c2
 have x3:=hbx.c3
 simp only at x0 x1 x2 x3
 have hbw:Below w.heap.size w W2:=hB1.trans (hb2.mono hB1.size)
 have hneg':decide (r<0)=true:=by simpa using hneg
 have hown2:(W2.alloc (.cells #[.int .i64 N] 2)).ownsRow base 2 1 (.slice va ns.length vc) ns.length (i64s ns):=(unhide HO).kept (fun g hg=>by
  have h1:=((unhide HLT) g hg).2
  exact(Below.heap_alloc _ _ _ (Nat.lt_of_lt_of_le h1 hbw.size)).trans (hb2.block g (by simp;omega)))
 have HBW:=hide hbw
 have HB2:=hide hb2
 have HB1:=hide hB1
 clear hbx hbw hb2 hB1 HO
 go_wp2_with (at_builtin;go_must (refine wpList_append_own_at _ rfl _ _ 149 rfl base 2 i0 _ 1 8 Tryz.underlying149 hi hz0 hz1 hz2 rfl (by decide) (.slice va ns.length vc) ns.length (i64s ns) rfl hown2 ⟨W2.heap.size,0,none⟩ 1 1 [.int .i64 N] rfl rfl one_new one_one (by unfold maxLen;omega) (by omega) (by have:=(unhide HBW).size;simp;omega) ?_;intro v' w1 hown' hgrow hnil hbk))
 have hbw:=unhide HBW
 have hws:=hbw.size
 have hg1:GrB (fun k=>(Value.slice va ns.length vc).ownBlock=some k) w.heap.size w w1:=by
  refine(GrB.of_below hbw).trans ⟨hgrow.os,hgrow.tape,hgrow.output,?_,fun k hk hne=>?_⟩
  ·have:=hgrow.size;simp at this;omega
  ·rw[hgrow.block k (by simp;omega) (fun e=>hne e.symm)]
   exact Below.heap_alloc _ _ _ (by omega)
 have hfin:GrownN base (.slice va ns.length vc) w v' (ns++[N]) w1:=by
  refine⟨?_,hg1,?_⟩
  ·unfold OwnN
   rw[List.length_append]
   have:i64s (ns++[N])=i64s ns++[.int .i64 N]:=by simp[i64s]
   rw[this]
   exact hown'
  ·rcases hbk with e | e
   ·exact .inl e
   ·refine .inr fun g hg=>?_
    rw[e] at hg
    simp at hg
    omega
 exact bodyPost_ret (v:=v') (by simp[results,Tryz.results97,go_sem]) rfl ⟨_,rfl,hfin⟩
theorem rvars_old(base:Nat)(v:Value)(ns:List Int)(N:Int)(s:ByteArray)(a:Option Addr)(cap:Nat)(w:World)(hown:OwnN base w v ns)(hl:ns.length≤4194304)(hN:N∈ns):
  Calls Tryz.prog 97 #[.agg #[.int .i64 1,.int .i64 N,.string s,.slice a 0 cap],v] w fun e W'=> ∃v',e=.returned v'∧GrownN base v w v' ns W':=by
 obtain⟨va,vc,rfl,hisN⟩:=hown.isN (by omega)
 have hB1:=(Below.refl _ w).alloc (Nat.le_refl _) (.cells #[.int .i64 1,.int .i64 N,.string s,.slice a 0 cap] 34)
 have hh:=has_any ns va ns.length vc N _ (hisN.below hB1)
 have hneg:¬hasI ns N<0:=fun h=>(hasI_neg.1 h) hN
 generalize hasI ns N=r at hh hneg
 have hown1:OwnN base (w.alloc (.cells #[.int .i64 1,.int .i64 N,.string s,.slice a 0 cap] 34)) (.slice va ns.length vc) ns:=hown.kept (fun g hg=>hB1.block g (hown.lt hg).2)
 have hlt0:∀g,(Value.slice va ns.length vc).ownBlock=some g→base≤g∧g<w.heap.size:=fun g hg=>hown.lt hg
 have HO:=hide hown1
 have HLT:=hide hlt0
 clear hisN hown hown1 hlt0 hN
 obtain⟨i0,hi,hz0,hz1,hz2⟩:=info_parts Tryz.infoN
 go_enter Tryz.func97,Tryz.ntmps97
 go_wp2_with fail
 refine hh.mono ?_
 clear hh
 rintro e W2 ⟨rfl,hb2⟩
 have hbx:BoxT W2 w.heap.size ⟨1,N,s,a,0,cap⟩:=(hb2.block w.heap.size (by simp)).trans (BoxT.new w ⟨1,N,s,a,0,cap⟩)
 have x0:=hbx.c0
 have x1:=hbx.c1
 have x2:=hbx.c2
 have x3:=hbx.c3
 simp only at x0 x1 x2 x3
 have hbw:Below w.heap.size w W2:=hB1.trans (hb2.mono hB1.size)
 have hneg':decide (r<0)=false:=by simpa using hneg
 have hfin:GrownN base (.slice va ns.length vc) w (.slice va ns.length vc) ns W2:=⟨(unhide HO).kept (fun g hg=>hb2.block g (by have:=((unhide HLT) g hg).2;simp;omega)),GrB.of_below hbw,.inl rfl⟩
 have HF:=hide hfin
 clear hbx hbw hb2 hB1 HO hfin
 go_wp2_with fail
 refine wp_loop_rounds 1 ?_
 rw[rounds_succ]
 go_wp2_with fail
 refine bodyPost_ret ?_ rfl ⟨_,rfl,unhide HF⟩
 simp[results,Tryz.results97,go_sem]
/-- The variables of a term, behind those that there are. -/
abbrev varsC(acc:List Int)(c:List Nd):List Int:=stepsN stpN acc c
theorem varsC_len(acc:List Int)(c:List Nd):(varsC acc c).length≤acc.length+c.length:=by
 induction c generalizing acc with
 | nil=>simp[varsC,stepsN]
 | cons x c ih=>
  have e:varsC acc (x::c)=varsC (if x.1=1 then stpN acc x.2.1 else acc) c:=rfl
  rw[e]
  refine Nat.le_trans (ih _) ?_
  simp only[List.length_cons]
  split
  ·unfold stpN
   split
   ·omega
   ·simp;omega
  ·omega
theorem rvars_any(base n₀:Nat)(hn₀:n₀≤base):∀(n:Nat) (t:Tm n) (v:Value) (ns:List Int) (w:World),IsT n₀ w t→okT t=true→OwnN base w v ns→base≤w.heap.size→ns.length+(code t).length≤4194304→
  Calls Tryz.prog 97 #[t.tv.val,v] w fun e W'=> ∃v',e=.returned v'∧GrownN base v w v' (varsC ns (code t)) W':=by
 intro n
 induction n with
 | zero=>intro t;exact Empty.elim t
 | succ n ih=>
  intro t v ns w hT hok hown hbase hl
  obtain⟨⟨k,N,s,a,len,cap⟩,kids⟩:=t
  obtain⟨hwm,hk⟩:=ok_kids hok
  obtain⟨hlen,hmax,hsm,hkids⟩:=hT
  simp only[Tm.tv,Tm.kids] at hlen hmax hsm hkids hwm
  rw[code_succ] at hl⊢
  have hlk:ns.length+(kids.flatMap code).length+1≤4194304:=by simp only[List.length_cons] at hl;omega
  have est:varsC ns (TV.nd ⟨k,N,s,a,len,cap⟩::kids.flatMap code)=varsC (if k=1 then stpN ns N else ns) (kids.flatMap code):=rfl
  rw[est]
  clear est
  by_cases hk1:k=1
  ·subst hk1
   have hl0:len=0:=by
    rcases wm_cases hwm with⟨_,_,_,_,h⟩ | ⟨h,_⟩ | ⟨h,_⟩
    ·exact h
    ·omega
    ·omega
   have hk0:kids=[]:=List.length_eq_zero_iff.1 (by omega)
   subst hk0
   subst hl0
   rw[if_pos rfl]
   by_cases hN:N∈ns
   ·have e2:varsC (stpN ns N) (([]:List (Tm n)).flatMap code)=ns:=by unfold stpN;rw[if_pos hN];rfl
    rw[e2]
    exact rvars_old base v ns N s a cap w hown (by omega) hN
   ·have e2:varsC (stpN ns N) (([]:List (Tm n)).flatMap code)=ns++[N]:=by unfold stpN;rw[if_neg hN];rfl
    rw[e2]
    exact rvars_var base v ns N s a 0 cap w hown hbase (by omega) hN
  ·rw[if_neg hk1]
   have hk1':(k == 1)=false:=by simp[hk1]
   simp only[Tm.tv,TV.val]
   have hl1:len≤kids.length:=by omega
   have hl2:kids.length≤len:=by omega
   have HI:=hide ih
   have HO:=hide hk
   have HOW:=hide hown
   have hB1:=(Below.refl _ w).alloc (Nat.le_refl _) (.cells #[.int .i64 k,.int .i64 N,.string s,.slice a len cap] 34)
   have hown1:OwnN base (w.alloc (.cells #[.int .i64 k,.int .i64 N,.string s,.slice a len cap] 34)) v ns:=hown.kept (fun g hg=>hB1.block g (hown.lt hg).2)
   have hbx:=BoxT.new w ⟨k,N,s,a,len,cap⟩
   obtain⟨va,vc,rfl⟩:=hown.slice
   clear ih hk hown hok hlen hwm hl hk1
   go_enter Tryz.func97,Tryz.ntmps97
   go_wp2_with fail
   obtain⟨W1,hW1⟩:∃W1,w.alloc (.cells #[.int .i64 k,.int .i64 N,.string s,.slice a len cap] 34)=W1:=⟨_,rfl⟩
   have hsz:(w.alloc (.cells #[.int .i64 k,.int .i64 N,.string s,.slice a len cap] 34)).heap.size=w.heap.size+1:=by simp
   rw[hW1] at hB1 hown1 hbx hsz⊢
   clear hW1
   have HB1:=hide hB1
   have HOW1:=hide hown1
   have HBX:=hide hbx
   have HSZ:=hide hsz
   clear hB1 hown1 hbx hsz
   go_loopw [1,5] (fun ov i wr=> ∃j:Nat,j≤len∧i=.int .i64 j∧GrownN base (.slice va ns.length vc) W1 ov (varsC ns ((kids.take j).flatMap code)) wr) (fun _ i _=>len-(intOf i).toNat)
   case atStart=>exact⟨0,Nat.zero_le _,rfl,GrownN.refl (unhide HOW1)⟩
   case round=>
    obtain⟨j,hj,rfl,hg⟩:=hrel
    have hsz:=unhide HSZ
    have hgs:=hg.grb.size
    have hnb:∀b,b<base∨b=w.heap.size→¬(Value.slice va ns.length vc).ownBlock=some b:=fun b hb e=>by
     have:=(unhide HOW).lt e
     omega
    have hbr:BoxT wr w.heap.size ⟨k,N,s,a,len,cap⟩:=(hg.grb.block w.heap.size (by omega) (hnb _ (.inr rfl))).trans (unhide HBX)
    have x3:=hbr.c3
    simp only at x3
    have hbw:Below n₀ w wr:=((unhide HB1).mono (by omega)).trans (hg.grb.below (n₀:=n₀) (fun b e=>by have:=(unhide HOW).lt e;omega) (by omega))
    have HG:=hide hg
    clear hg hbr
    by_cases hlt:j<len
    ·obtain⟨u,b,off,hu,rfl,⟨c0,c1,c2,c3⟩,hT,hbk⟩:=kid_below hkids hbw hlt hl1
     have hpre:((kids.take j).flatMap code).length+(code u).length≤(kids.flatMap code).length:=by
      have h1:kids.flatMap code=(kids.take (j+1)).flatMap code++(kids.drop (j+1)).flatMap code:=by rw[←List.flatMap_append,List.take_append_drop]
      rw[h1,code_take kids j u hu]
      simp only[List.length_append]
      omega
     have hvl:=varsC_len ns ((kids.take j).flatMap code)
     have ihu:=(unhide HI) u u1 _ wr hT ((unhide HO) u (List.mem_of_getElem? hu)) (unhide HG).own (by omega) (by omega)
     have hcode:=code_take kids j u hu
     have HC:=hide hcode
     clear hT hkids hu hcode
     obtain⟨ua,uc,rfl⟩:=(unhide HG).own.slice
     simp only[TV.val] at ihu
     have hj1:(j:Int)<len:=by omega
     go_wp2_with fail
     refine ihu.mono ?_
     clear ihu
     rintro e W5 ⟨v5,rfl,hg5⟩
     have hnew:=(unhide HG).trans hg5
     rw[show varsC (varsC ns ((kids.take j).flatMap code)) (code u)=varsC ns ((kids.take (j+1)).flatMap code) by rw[unhide HC];exact(stepsN_append _ _ _ _).symm] at hnew
     have HN:=hide hnew
     obtain⟨wa,wc,rfl⟩:=hg5.own.slice
     clear hg5 hnew
     go_wp2_with fail
     exact⟨⟨j+1,by omega,by go_num,unhide HN⟩,by simp[intOf];omega⟩
    ·have ht:kids.take j=kids:=List.take_of_length_le (by omega)
     have hm:=unhide HG
     rw[ht] at hm
     have hfin:GrownN base (.slice va ns.length vc) w u1 (varsC ns (kids.flatMap code)) wr:=by
      refine⟨hm.own,(GrB.of_below (unhide HB1)).trans (hm.grb.mono (by omega)),?_⟩
      rcases hm.blk with e | e
      ·exact .inl e
      ·exact .inr fun g hg=>by have:=e g hg;omega
     have HF:=hide hfin
     obtain⟨ua,uc,rfl⟩:=(unhide HG).own.slice
     clear hm ht hkids hfin
     go_wp2_with fail
     refine bodyPost_ret ?_ rfl ⟨_,rfl,unhide HF⟩
     simp[results,Tryz.results97,go_sem]
end Go.Proofs.YteaiefjmcinljaaGreatDoor
