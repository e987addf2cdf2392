import Derived.Test.YtjbdkbaacjfecaaDoorOs
import Derived.BigRegion
import Derived.Test.YtjbdkbaacjfecaaDoorSs
import Derived.Maps.RangeWalk
import Derived.Maps.OwnSet
import Derived.Maps.Views
namespace Go.Proofs.YtjbdkbaacjfecaaDoor
set_option maxHeartbeats 1000000
set_option maxRecDepth 100000
open Go.RowKit Go.Shelf Go.Maps
/-- The map of numbers given, the box that holds it, the counter. -/
structure NumI (f:Int) (mb bb nb:Nat) (c:List Int) (W:World):Prop where
 nodup:c.Nodup
 key:∀N∈c,0≤N∧N≤1099511627776
 box:W.heap[bb]?=some (.cells #[.map (some mb)] 82 (0,0))
 next:W.heap[nb]?=some (.cells #[.int .i64 (f+(c.length:Nat))] 2 (0,0))
 map:∃E:DataW Unit,W.ownsMap Tryd.prog 2 (plainElem Tryd.prog 2) mb c.length E∧(∀N,Maps.has E (.int .i64 N)=true↔N∈c)∧∀N∈c,∀z,E.atKey (.int .i64 N) z=.lit (.int .i64 (f+(c.idxOf N:Nat)))
theorem numI_keep{f:Int}{mb bb nb lo:Nat}(h1:mb<lo)(h2:bb<lo)(h3:nb<lo){c:List Int}{W W':World}(h:NumI f mb bb nb c W)(hb:Below lo W W'):NumI f mb bb nb c W':=by
 obtain⟨E,⟨es,clock,e1,e2⟩,e3⟩:=h.map;exact⟨h.nodup,h.key,(hb.block _ h2).trans h.box,(hb.block _ h3).trans h.next,E,⟨es,clock,(hb.block _ h1).trans e1,e2⟩,e3⟩
theorem nodup_range{c:List Int}(hn:c.Nodup)(hk:∀N∈c,0≤N∧N≤1099511627776):c.length≤1099511627777:=by
 have h1:=nodup_le 1099511627777 (c.map Int.toNat) (by
  rw[List.Nodup,List.pairwise_map];exact List.Pairwise.imp_of_mem (fun {p q} hp hq hne e=>hne (by have:=hk p hp;have:=hk q hq;omega)) hn) (fun x hx=>by
  obtain⟨q,hq,rfl⟩:=List.mem_map.1 hx;have:=hk q hq;omega)
 simpa using h1
theorem stately_num{f:Int}{mb bb nb n₀ lo:Nat}(h0:n₀≤lo)(h1:n₀≤mb∧mb<lo)(h2:bb<lo)(h3:n₀≤nb∧nb<lo):Stately (NumI f mb bb nb) (fun k=>k=mb∨k=nb) n₀ lo stpN (renN f) where
 low:=h0
 blocks:=by rintro k (rfl | rfl) <;> assumption
 keep:=fun s W W' h _ hb=>numI_keep h1.2 h2 h3.2 h hb
 stay:=fun s N l=>by
  obtain⟨d,hd⟩:=stepsN_ext l (stpN s N);unfold renN;rw[hd,idxOf_ext (stpN_mem s N)]
theorem Tryd.zero2(w:World):(zeroValue 2).run Tryd.prog w=.ok (.int .i64 0) w:=by kernel_rfl
theorem wf_i64{N:Int}(h0:0≤N)(h1:N≤9223372036854775807):(Lit.int .i64 N).wf=true:=by simp[Lit.wf,IntKind.min,IntKind.max,IntKind.signed,IntKind.bits];omega
theorem numI_look{f:Int}{mb bb nb:Nat}{c:List Int}{W:World}(h:NumI f mb bb nb c W){N:Int}(h0:0≤N)(h1:N≤1099511627776)(hN:N∈c):
  (Instr.lookup 82 (.map (some mb)) (.int .i64 N) true).run Tryd.prog W=.ok (.tuple #[.int .i64 (f+(c.idxOf N:Nat)),.bool true]) W:=by
 obtain⟨E,e1,e2,e3⟩:=h.map;obtain⟨v,ps,hrun,hv⟩:=e1.look_ok Tryd.keyed2 Tryd.underlying82 (Tryd.zero2 W) (plainElem_int Tryd.underlying2 (by decide)) (key_i64 h0 h1);rw[(e2 N).2 hN] at hrun;rw[e3 N hN] at hv;obtain⟨y,rfl,hy,_⟩:=plainElem_int_inv Tryd.underlying2 hv;simp at hy;rw[hrun,hy.1]
theorem numI_miss{f:Int}{mb bb nb:Nat}{c:List Int}{W:World}(h:NumI f mb bb nb c W){N:Int}(h0:0≤N)(h1:N≤1099511627776)(hN:N∉c):
  (Instr.lookup 82 (.map (some mb)) (.int .i64 N) true).run Tryd.prog W=.ok (.tuple #[.int .i64 0,.bool false]) W:=by
 obtain⟨E,e1,e2,e3⟩:=h.map;obtain⟨v,ps,hrun,hv⟩:=e1.look_ok Tryd.keyed2 Tryd.underlying82 (Tryd.zero2 W) (plainElem_int Tryd.underlying2 (by decide)) (key_i64 h0 h1)
 have hf:Maps.has E (.int .i64 N)=false:=by
  cases hh:Maps.has E (.int .i64 N) with
  | false=>rfl
  | true=>exact(hN ((e2 N).1 hh)).elim
 rw[hf] at hrun;rw[atKey_of_not_has hf] at hv;obtain⟨y,rfl,hy,_⟩:=plainElem_int_inv Tryd.underlying2 hv;simp at hy;rw[hrun,hy.1]
theorem one_cell{W:World}{b:Nat}{v:Value}{T:TypeId}(h:W.heap[b]?=some (.cells #[v] T (0,0))):W.cell? ⟨b,0,none⟩=some v∧W.frozen? ⟨b,0,none⟩=false:=by
 constructor <;> simp[World.cell?,World.frozen?,h]
theorem set_one{W:World}{b:Nat}{v v':Value}{T:TypeId}(h:W.heap[b]?=some (.cells #[v] T (0,0))):(W.setCell ⟨b,0,none⟩ v').heap[b]?=some (.cells #[v'] T (0,0)):=by
 obtain⟨hlt,hk⟩:=Array.getElem?_eq_some_iff.1 h
 show(W.heap.modify b _)[b]?=_
 rw[Array.getElem?_eq_getElem (by rw[Array.size_modify];exact hlt),Array.getElem_modify_self,hk];rfl
theorem numI_put{f:Int}{mb bb nb:Nat}{c:List Int}{W:World}(h:NumI f mb bb nb c W)(hf0:0≤f)(hf1:f≤1099511627776)(hne:mb≠bb∧mb≠nb∧bb≠nb){N:Int}(h0:0≤N)(h1:N≤1099511627776)(hN:N∉c):
  ∃W',(Instr.mapUpdate 82 (.map (some mb)) (.int .i64 N) (.int .i64 (f+(c.length:Nat)))).run Tryd.prog W=.ok () W'∧W.grownBy W' (some mb)∧W'.heap[nb]?=some (.cells #[.int .i64 (f+(c.length:Nat))] 2 (0,0))∧NumI f mb bb nb (c++[N]) (W'.setCell ⟨nb,0,none⟩ (.int .i64 (f+(c.length:Nat)+1))):=by
 have hle:=nodup_range h.nodup h.key;obtain⟨E,e1,e2,e3⟩:=h.map;have hm:=e1.isMap;obtain⟨W',hrun,f1,f2⟩:=e1.update Tryd.keyed2 Tryd.underlying82 (by unfold maxLen;omega) (key_i64 h0 h1) (plainElem_int Tryd.underlying2 (wf_i64 (N:=f+(c.length:Nat)) (by omega) (by omega)));have hkl:WideAt.IsKeyLit (.int .i64 N):=Tryd.keyed2.key (key_i64 h0 h1);have hlt:∀{k:Nat} {o:Obj},W.heap[k]?=some o→k<W.heap.size:=fun hk=>(Array.getElem?_eq_some_iff.1 hk).1;have hnx:W'.heap[nb]?=some (.cells #[.int .i64 (f+(c.length:Nat))] 2 (0,0)):=(f2.block nb (hlt h.next) (by simpa using hne.2.1.symm)).trans h.next;have hbx:W'.heap[bb]?=some (.cells #[.map (some mb)] 82 (0,0)):=(f2.block bb (hlt h.box) (by simpa using hne.1.symm)).trans h.box;refine⟨W',hrun,f2,hnx,⟨?_,?_,?_,?_,_,f1.setCell (a:=⟨nb,0,none⟩) hne.2.1 _ |>.mono (by simp),?_,?_⟩⟩
 ·rw[List.nodup_append]
  exact⟨h.nodup,by simp,fun a ha b hb=>by simp at hb;subst hb;exact fun e=>hN (e▸ha)⟩
 ·intro M hM
  rcases List.mem_append.1 hM with hM | hM
  ·exact h.key M hM
  ·simp at hM;subst hM;exact⟨h0,h1⟩
 ·rw[Below.heap_setCell _ _ _ _ (by simpa using hne.2.2)];exact hbx
 ·rw[set_one hnx]
  have:f+((c++[N]).length:Nat)=f+(c.length:Nat)+1:=by simp;omega
  rw[this]
 ·intro M
  by_cases e:M=N
  ·subst e
   rw[has_put_same hm hkl];simp
  ·rw[has_put_other (by simpa using e),e2 M]
   simp[e]
 ·intro M hM z
  by_cases e:M=N
  ·subst e
   rw[atKey_put_same hm hkl];have:(c++[M]).idxOf M=c.length:=by rw[List.idxOf_append,if_neg hN];simp
   rw[this]
  ·have hMc:M∈c:=by simpa[e] using hM
   rw[atKey_put_other (by simpa using e),e3 M hMc,idxOf_ext hMc]
theorem zbox_new(W:World):(W.alloc (.cells #[.int .i64 0,.int .i64 0,.string ⟨#[]⟩,.slice none 0 0] 24)).heap[W.heap.size]?=some (.cells #[.int .i64 0,.int .i64 0,.string ⟨#[]⟩,.slice none 0 0] 24 (0,0)):=World.alloc_heap_new W _
theorem number1_old{f:Int}{mb bb nb:Nat}{c:List Int}(N:Int)(W:World)(h0:0≤N)(h1:N≤1099511627776)(hlt:mb<W.heap.size∧bb<W.heap.size∧nb<W.heap.size)(hI:NumI f mb bb nb c W)(hN:N∈c):
  Calls Tryd.prog 49 #[.int .i64 N,.pointer (some ⟨bb,0,none⟩),.pointer (some ⟨nb,0,none⟩)] W fun e W'=>e=.returned (varV (f+(c.idxOf N:Nat))).val∧Below W.heap.size W W':=by
 have hB1:Below W.heap.size W (W.alloc (.cells #[.int .i64 0,.int .i64 0,.string ⟨#[]⟩,.slice none 0 0] 24)):=(Below.refl _ W).alloc (Nat.le_refl _) _;have hI1:=numI_keep hlt.1 hlt.2.1 hlt.2.2 hI hB1;have hrun:=numI_look hI1 h0 h1 hN;obtain⟨m0,-⟩:=one_cell hI1.box;have hz:=zbox_new W;generalize hM:f+(c.idxOf N:Nat)=M at hrun⊢;obtain⟨W1,hW1⟩:∃W1,W.alloc (.cells #[.int .i64 0,.int .i64 0,.string ⟨#[]⟩,.slice none 0 0] 24)=W1:=⟨_,rfl⟩;have HW1:=hide hW1;rw[hW1] at hB1 hz;have HB1:=hide hB1;have HZ:=hide hz;have hva:=variable_any M W1;rw[←hW1] at hva;clear hI hI1 hN hM hB1 hz hW1 h0 h1 hlt;simp only[TV.val,varV] at hva⊢;go_enter Tryd.func49,Tryd.ntmps49
 go_wp2_with fail
 refine hva.mono ?_;clear hva;rintro e W2 ⟨rfl,hb2⟩;rw[uh HW1] at hb2;obtain⟨⟨z0,z1,z2,z3⟩,y0,y1,y2,y3⟩:=zbox_kept ((hb2.block W.heap.size (Array.getElem?_eq_some_iff.1 (uh HZ)).1).trans (uh HZ));have hbf:Below W.heap.size W (set4 W2 W.heap.size 0 (varV M)):=set4_below ((uh HB1).trans (hb2.mono (uh HB1).size)) (Nat.le_refl _) 0 _;have HBF:=hide hbf;clear hbf hb2;go_wp2_with fail
 exact bodyPost_ret (v:=(varV M).val) (by simp[results,Tryd.results49,go_sem,TV.val,varV,z0,z1,z2,z3]) rfl ⟨rfl,uh HBF⟩
theorem number1_new{f:Int}{mb bb nb:Nat}{c:List Int}(hf0:0≤f)(hf1:f≤1099511627776)(hne:mb≠bb∧mb≠nb∧bb≠nb)(N:Int)(W:World)(h0:0≤N)(h1:N≤1099511627776)(hlt:mb<W.heap.size∧bb<W.heap.size∧nb<W.heap.size)(hI:NumI f mb bb nb c W)(hN:N∉c):
  Calls Tryd.prog 49 #[.int .i64 N,.pointer (some ⟨bb,0,none⟩),.pointer (some ⟨nb,0,none⟩)] W fun e W'=>e=.returned (varV (f+(c.length:Nat))).val∧GrB (fun k=>k=mb∨k=nb) W.heap.size W W'∧NumI f mb bb nb (c++[N]) W':=by
 have hle:=nodup_range hI.nodup hI.key;have hB1:Below W.heap.size W (W.alloc (.cells #[.int .i64 0,.int .i64 0,.string ⟨#[]⟩,.slice none 0 0] 24)):=(Below.refl _ W).alloc (Nat.le_refl _) _;have hI1:=numI_keep hlt.1 hlt.2.1 hlt.2.2 hI hB1;have hrun:=numI_miss hI1 h0 h1 hN;obtain⟨m0,-⟩:=one_cell hI1.box;obtain⟨x0,-⟩:=one_cell hI1.next;obtain⟨W2,hup,hg2,hnx2,hI3⟩:=numI_put hI1 hf0 hf1 hne h0 h1 hN;obtain⟨x2,x2f⟩:=one_cell hnx2;have hz:=zbox_new W;have hwr:IntKind.i64.wrap (f+(c.length:Nat)+1)=f+(c.length:Nat)+1:=by simp[IntKind.wrap,IntKind.bits,IntKind.signed];omega
 have hz2:W2.heap[W.heap.size]?=some (.cells #[.int .i64 0,.int .i64 0,.string ⟨#[]⟩,.slice none 0 0] 24 (0,0)):=(hg2.block W.heap.size (by simp) (by simp;omega)).trans hz;have hz3:(W2.setCell ⟨nb,0,none⟩ (.int .i64 (f+(c.length:Nat)+1))).heap[W.heap.size]?=some (.cells #[.int .i64 0,.int .i64 0,.string ⟨#[]⟩,.slice none 0 0] 24 (0,0)):=by rw[Below.heap_setCell _ _ _ _ (by simp;omega)];exact hz2
 have hg3:GrB (fun k=>k=mb∨k=nb) W.heap.size W (W2.setCell ⟨nb,0,none⟩ (.int .i64 (f+(c.length:Nat)+1))):=by
  have hs:=hg2.size;have hs1:=hB1.size
  exact⟨hg2.os,hg2.tape,hg2.output,by simp;omega,fun k hk hx=>by
   rw[Below.heap_setCell _ _ _ _ (fun e=>hx (.inr (by simpa using e))),hg2.block k (by omega) (by simpa using fun e=>hx (.inl e)),hB1.block k hk]⟩
 have hva:=variable_any (f+(c.length:Nat)) (W2.setCell ⟨nb,0,none⟩ (.int .i64 (f+(c.length:Nat)+1)));have HZ3:=hide hz3;have HG3:=hide hg3;have HI3:=hide hI3;have HL:=hide hlt;clear hI hI1 hN hB1 hz hg2 hnx2 hI3 hz2 hz3 hg3 h0 h1 hlt hle;simp only[TV.val,varV] at hva⊢;go_enter Tryd.func49,Tryd.ntmps49
 go_wp2_with fail
 refine hva.mono ?_;clear hva;rintro e W4 ⟨rfl,hb4⟩;obtain⟨W3,hW3⟩:∃W3,W2.setCell ⟨nb,0,none⟩ (.int .i64 (f+(c.length:Nat)+1))=W3:=⟨_,rfl⟩;rw[hW3] at hb4 HZ3 HG3 HI3;have hw3:W.heap.size<W3.heap.size:=(Array.getElem?_eq_some_iff.1 (uh HZ3)).1;obtain⟨⟨z0,z1,z2,z3⟩,y0,y1,y2,y3⟩:=zbox_kept ((hb4.block W.heap.size hw3).trans (uh HZ3));have hgf:GrB (fun k=>k=mb∨k=nb) W.heap.size W (set4 W4 W.heap.size 0 (varV (f+(c.length:Nat)))):=((uh HG3).trans (GrB.of_below (hb4.mono (by omega)))).set4 (Nat.le_refl _) 0 _;have hIf:NumI f mb bb nb (c++[N]) (set4 W4 W.heap.size 0 (varV (f+(c.length:Nat)))):=numI_keep (uh HL).1 (uh HL).2.1 (uh HL).2.2 (uh HI3) (set4_below (hb4.mono (by omega)) (Nat.le_refl _) 0 _);have HF:=hide (And.intro hgf hIf);clear hgf hIf hb4 hW3;go_wp2_with fail
 exact bodyPost_ret (v:=(varV (f+(c.length:Nat))).val) (by simp[results,Tryd.results49,go_sem,TV.val,varV,z0,z1,z2,z3]) rfl ⟨rfl,uh HF⟩
theorem number1_becomes{f:Int}{mb bb nb lo:Nat}(hf0:0≤f)(hf1:f≤1099511627776)(hne:mb≠bb∧mb≠nb∧bb≠nb)(hlo:mb<lo∧bb<lo∧nb<lo):
  BecomesX 49 #[.pointer (some ⟨bb,0,none⟩),.pointer (some ⟨nb,0,none⟩)] (NumI f mb bb nb) (fun k=>k=mb∨k=nb) lo stpN (renN f) 1:=fun N W c h0 h1 hW hI=>by
 have hlt:mb<W.heap.size∧bb<W.heap.size∧nb<W.heap.size:=⟨by omega,by omega,by omega⟩
 by_cases hN:N∈c
 ·have e:stpN c N=c:=if_pos hN
  rw[e];refine(number1_old N W h0 h1 hlt hI hN).mono fun e W' h=>?_;exact⟨_,h.1,GrB.of_below h.2,numI_keep hlt.1 hlt.2.1 hlt.2.2 hI h.2,varV_holds _ _ _⟩
 ·have e:stpN c N=c++[N]:=if_neg hN
  rw[e];refine(number1_new hf0 hf1 hne N W h0 h1 hlt hI hN).mono fun e W' h=>?_;refine⟨_,h.1,h.2.1,h.2.2,?_⟩
  have:renN f (c++[N]) N=[varNd (f+(c.length:Nat))]:=by
   unfold renN;rw[List.idxOf_append,if_neg hN];simp
  rw[this];exact varV_holds _ _ _
set_option maxHeartbeats 1000000
set_option maxRecDepth 100000
theorem number_world(w:World)(x:TV)(f:Int):∃W5,((((w.alloc (.cells #[.int .i64 x.k,.int .i64 x.N,.string x.s,.slice x.a x.len x.cap] 24)).alloc (.cells #[.int .i64 0,.int .i64 0,.string ⟨#[]⟩,.slice none 0 0] 24)).alloc (.cells #[.int .i64 f] 2)).alloc (.map #[] 0)).alloc (.cells #[.map (some (w.heap.size+3))] 82)=W5∧
  Below w.heap.size w W5∧W5.heap.size=w.heap.size+5∧BoxT W5 w.heap.size x∧W5.heap[w.heap.size+1]?=some (.cells #[.int .i64 0,.int .i64 0,.string ⟨#[]⟩,.slice none 0 0] 24 (0,0))∧NumI f (w.heap.size+3) (w.heap.size+4) (w.heap.size+2) [] W5:=by
 refine⟨_,rfl,((((Below.refl _ w).alloc (Nat.le_refl _) _).alloc (by simp) _).alloc (by simp;omega) _ |>.alloc (by simp;omega) _).alloc (by simp;omega) _,by simp,(((BoxT.new w x).alloc _).alloc _ |>.alloc _).alloc _,?_,?_⟩
 ·have h:=World.alloc_heap_new (w.alloc (.cells #[.int .i64 x.k,.int .i64 x.N,.string x.s,.slice x.a x.len x.cap] 24)) (.cells #[.int .i64 0,.int .i64 0,.string ⟨#[]⟩,.slice none 0 0] 24)
  rw[World.size_alloc] at h;exact(Below.heap_alloc _ _ _ (by simp <;> omega)).trans ((Below.heap_alloc _ _ _ (by simp <;> omega)).trans ((Below.heap_alloc _ _ _ (by simp)).trans h))
 ·refine⟨List.nodup_nil,(fun N hN=>by cases hN),?_,?_,.map [],?_,(fun N=>by simp[Maps.has]),(fun N hN=>by cases hN)⟩
  ·have h:=World.alloc_heap_new ((((w.alloc (.cells #[.int .i64 x.k,.int .i64 x.N,.string x.s,.slice x.a x.len x.cap] 24)).alloc (.cells #[.int .i64 0,.int .i64 0,.string ⟨#[]⟩,.slice none 0 0] 24)).alloc (.cells #[.int .i64 f] 2)).alloc (.map #[] 0)) (.cells #[.map (some (w.heap.size+3))] 82)
   simp only[World.size_alloc] at h;exact h
  ·have h:=World.alloc_heap_new ((w.alloc (.cells #[.int .i64 x.k,.int .i64 x.N,.string x.s,.slice x.a x.len x.cap] 24)).alloc (.cells #[.int .i64 0,.int .i64 0,.string ⟨#[]⟩,.slice none 0 0] 24)) (.cells #[.int .i64 f] 2)
   simp only[World.size_alloc] at h;have h2:=(Below.heap_alloc _ (.cells #[.map (some (w.heap.size+3))] 82) _ (by simp <;> omega)).trans ((Below.heap_alloc _ (.map #[] 0) _ (by simp)).trans h);simpa using h2
  ·have h:=World.ownsMap_made (H:=Unit) (((w.alloc (.cells #[.int .i64 x.k,.int .i64 x.N,.string x.s,.slice x.a x.len x.cap] 24)).alloc (.cells #[.int .i64 0,.int .i64 0,.string ⟨#[]⟩,.slice none 0 0] 24)).alloc (.cells #[.int .i64 f] 2)) Tryd.prog 2 (plainElem Tryd.prog 2)
   simp only[World.size_alloc] at h;exact h.alloc _
theorem number_any{n:Nat}(t:Tm n)(f:Int)(w:World)(hT:IsT w.heap.size w t)(hok:okT t=true)(hf0:0≤f)(hf1:f≤1099511627776):
  Calls Tryd.prog 31 #[t.tv.val,.int .i64 f] w fun e W'=> ∃x:TV,e=.returned (.tuple #[x.val,.int .i64 (f+((stepsN stpN [] (code t)).length:Nat))])∧Below w.heap.size w W'∧HoldsT (n+1) w.heap.size W' x.val ((code t).flatMap (subN (renN f (stepsN stpN [] (code t))))):=by
 obtain⟨W5,hW5,hB5,hs5,hbt,hz5,hI5⟩:=number_world w t.tv f
 have hrep:=replace_anyX (stately_num (f:=f) (mb:=w.heap.size+3) (bb:=w.heap.size+4) (nb:=w.heap.size+2) (n₀:=w.heap.size) (lo:=w.heap.size+5) (by omega) ⟨by omega,by omega⟩ (by omega) ⟨by omega,by omega⟩) 49 #[.pointer (some ⟨w.heap.size+4,0,none⟩),.pointer (some ⟨w.heap.size+2,0,none⟩)] 1 (by omega) (enters_of Tryd.func49 (by kernel_rfl) rfl)
  (number1_becomes hf0 hf1 ⟨by omega,by omega,by omega⟩ ⟨by omega,by omega,by omega⟩) n t W5 [] (by omega) hI5 (hT.below hB5) hok
 have hmm:= @run_makeMap Tryd.prog;have c0:=hbt.c0;have c1:=hbt.c1;have c2:=hbt.c2;have c3:=hbt.c3;generalize stepsN stpN [] (code t)=cv at hrep⊢;have HB5:=hide hB5;have HS5:=hide hs5;have HZ5:=hide hz5;clear hT hok hI5 hB5 hz5 hbt hs5;simp only[TV.val] at hrep⊢;go_enter Tryd.func31,Tryd.ntmps31
 go_wp2_with fail
 refine hrep.mono ?_;clear hrep c0 c1 c2 c3 hmm hW5;rintro e W6 ⟨v,rfl,hg6,hI6,hv⟩;obtain⟨t6,ht6,-⟩:=hv _ (Nat.le_refl _);subst ht6;have hs6:w.heap.size+5≤W6.heap.size:=by have:=hg6.size;have:=uh HS5;omega
 have hB6:Below w.heap.size w W6:=(uh HB5).trans (hg6.below (fun k hx=>by rcases hx with rfl | rfl <;> omega) (by have:=uh HS5;omega));have hz6:W6.heap[w.heap.size+1]?=some (.cells #[.int .i64 0,.int .i64 0,.string ⟨#[]⟩,.slice none 0 0] 24 (0,0)):=(hg6.block _ (by have:=uh HS5;omega) (fun hx=>by rcases hx with hx | hx <;> omega)).trans (uh HZ5);have hb7:Below W6.heap.size W6 (W6.alloc (.cells #[.int .i64 t6.tv.k,.int .i64 t6.tv.N,.string t6.tv.s,.slice t6.tv.a t6.tv.len t6.tv.cap] 24)):=(Below.refl _ W6).alloc (Nat.le_refl _) _;have hbx:=BoxT.new W6 t6.tv;have hz7:=(hb7.block (w.heap.size+1) (by omega)).trans hz6;have hn7:=(hb7.block (w.heap.size+2) (by omega)).trans hI6.next;have hv7:HoldsT (n+1) W5.heap.size (W6.alloc (.cells #[.int .i64 t6.tv.k,.int .i64 t6.tv.N,.string t6.tv.s,.slice t6.tv.a t6.tv.len t6.tv.cap] 24)) t6.tv.val ((code t).flatMap (subN (renN f cv))):=hv.below hb7;have hlt5:w.heap.size+1<W5.heap.size:=by have:=uh HS5;omega
 have hfin:=(holds_set4 hv7 hlt5 0 t6.tv).mono (lo':=w.heap.size) (Nat.le_refl _) (by omega);have hbf:=set4_below (hB6.trans (hb7.mono hB6.size)) (b:=w.heap.size+1) (by omega) 0 t6.tv;have hx:(W6.alloc (.cells #[.int .i64 t6.tv.k,.int .i64 t6.tv.N,.string t6.tv.s,.slice t6.tv.a t6.tv.len t6.tv.cap] 24)).cell? ⟨w.heap.size+1+1,0,none⟩=some (.int .i64 (f+(cv.length:Nat))):=(one_cell hn7).1;obtain⟨⟨z0,z1,z2,z3⟩,f0,f1,f2,f3⟩:=zbox_kept hz7;have b0:=hbx.c0;have b1:=hbx.c1;have b2:=hbx.c2;have b3:=hbx.c3;have HF:=hide (And.intro hbf hfin);clear hg6 hI6 hv hB6 hz6 hbx hz7 hn7 hv7 hfin hbf hb7;simp only[TV.val];go_wp2_with fail
 go_region
 all_goals
  go_wp2_with fail
  exact bodyPost_ret (v:=.tuple #[t6.tv.val,.int .i64 (f+(cv.length:Nat))]) (by simp[results,Tryd.results31,go_sem,TV.val,z0,z1,z2,z3]) rfl ⟨_,rfl,(uh HF).1.drew,(uh HF).2.below (Below.refl _ _).drew⟩
set_option maxHeartbeats 1000000
set_option maxRecDepth 100000
theorem isVar_any(N:Int)(w:World):Calls Tryd.prog 30 #[.int .i64 N] w fun e W'=>e=.returned (.bool (decide (0≤N) && decide (N≤1099511627776)))∧Below w.heap.size w W':=by
 go_enter Tryd.func30,Tryd.ntmps30
 go_wp2
 all_goals go_ret
 all_goals refine⟨?_,Below.refl _ _⟩
 all_goals first | (simp_all;done) | (simp_all;intros;omega)
theorem steps_nodup:∀(c:List Nd) (acc:List Int),acc.Nodup→(stepsN stpN acc c).Nodup
 | [],_,h=>h
 | x::c,acc,h=>by
  have e:stepsN stpN acc (x::c)=stepsN stpN (if x.1=1 then stpN acc x.2.1 else acc) c:=rfl;rw[e];refine steps_nodup c _ ?_
  split
  ·unfold stpN
   split
   ·exact h
   ·rename_i hm
    rw[List.nodup_append];exact⟨h,by simp,fun a ha b hb=>by simp at hb;subst hb;exact fun e=>hm (e▸ha)⟩
  ·exact h
theorem steps_lenT{n:Nat}{t:Tm n}(h:okT t=true):(stepsN stpN [] (code t)).length≤1099511627777:=
 nodup_range (steps_nodup (code t) [] List.nodup_nil) fun N hN=>by
  rcases(steps_mem (code t) [] N).1 hN with h' | ⟨x,hx,hk,rfl⟩
  ·cases h'
  ·rw[okT_m,List.all_eq_true] at h
   have hx':=h x hx;obtain⟨k,N,s,len⟩:=x;simp only at hk;subst hk;simp[okM] at hx';exact hx'.1.1
/-- What Rename answers, of a term: the number of the first variable it did not give, or an error. -/
def RenAll{n:Nat}(t:Tm n)(f:Int)(lo:Nat)(W':World)(x:TV)(k r:Int):Prop:=
 (0≤f∧f≤1099511627776∧f+((stepsN stpN [] (code t)).length:Nat)≤1099511627777∧r=0∧k=f+((stepsN stpN [] (code t)).length:Nat)∧HoldsT (n+1) lo W' x.val (canon f (code t)))∨
 (0≤f∧f≤1099511627776∧¬f+((stepsN stpN [] (code t)).length:Nat)≤1099511627777∧r=9∧k=0∧x=⟨0,0,⟨#[]⟩,none,0,0⟩)∨
 (¬(0≤f∧f≤1099511627776)∧r=1∧k=0∧x=⟨0,0,⟨#[]⟩,none,0,0⟩)
theorem rename_full{n:Nat}(t:Tm n)(f:Int)(w:World)(hT:IsT w.heap.size w t)(hok:okT t=true):
  Calls Tryd.prog 11 #[t.tv.val,.int .i64 f] w fun e W'=> ∃(x:TV) (k r:Int),e=.returned (.tuple #[x.val,.int .i64 k,.int .i64 r])∧Below w.heap.size w W'∧RenAll t f w.heap.size W' x k r:=by
 have hH:=Head.new w t.tv;have hB1:Below w.heap.size w ((w.alloc (.cells #[.int .i64 t.tv.k,.int .i64 t.tv.N,.string t.tv.s,.slice t.tv.a t.tv.len t.tv.cap] 24)).alloc (.cells #[.int .i64 0,.int .i64 0,.string ⟨#[]⟩,.slice none 0 0] 24)):=((Below.refl _ w).alloc (Nat.le_refl _) _).alloc (by simp) _;have hck:=check_any t _ ((hT.below hB1).mono hB1.size);rw[chk_yes hok] at hck
 by_cases hf:0≤f∧f≤1099511627776
 ·obtain⟨hf0,hf1⟩:=hf
  have hnm:=fun(W:World) (hb:Below w.heap.size w W)=>number_any t f W ((hT.below hb).mono hb.size) hok hf0 hf1;have hlen:(stepsN stpN [] (code t)).length≤1099511627777:=steps_lenT hok;obtain⟨L,hL⟩:∃L,(stepsN stpN [] (code t)).length=L:=⟨_,rfl⟩;rw[hL] at hnm hlen;have HLL:=hide hL;clear hL;have hiv:=fun(W:World)=>isVar_any f W;have hdd:(decide (0≤f) && decide (f≤1099511627776))=true:=by simp[hf0,hf1]
  simp only[hdd] at hiv;have hwr:IntKind.i64.wrap (f+(L:Nat)-1)=f+(L:Nat)-1:=by simp[IntKind.wrap,IntKind.bits,IntKind.signed];omega
  simp only[TV.val] at hnm hck⊢;have HNM:=hide hnm;clear hT hok hnm hdd hB1;go_enter Tryd.func11,Tryd.ntmps11
  go_wp2_with fail
  refine hck.mono ?_;clear hck;rintro e W1 ⟨rfl,hb1⟩;replace hH:=hH.next hb1;clear hb1;go_wp2_with fail
  refine(hiv _).mono ?_;clear hiv;rintro e W2 ⟨rfl,hb2⟩;replace hH:=hH.next hb2;clear hb2;have c0:=hH.ba.c0;have c1:=hH.ba.c1;have c2:=hH.ba.c2;have c3:=hH.ba.c3;go_wp2_with fail
  refine((uh HNM) W2 hH.below).mono ?_;clear c0 c1 c2 c3 HNM;rintro e W3 ⟨x,rfl,hb3,hx⟩;have hb4:Below W3.heap.size W3 (W3.alloc (.cells #[.int .i64 x.k,.int .i64 x.N,.string x.s,.slice x.a x.len x.cap] 24)):=(Below.refl _ W3).alloc (Nat.le_refl _) _;have hb24:=hb3.trans (hb4.mono hb3.size);have hlt2:=hH.lt;replace hH:=hH.next hb24;have hbx:=BoxT.new W3 x;have hx4:HoldsT (n+1) W2.heap.size (W3.alloc (.cells #[.int .i64 x.k,.int .i64 x.N,.string x.s,.slice x.a x.len x.cap] 24)) x.val (canon f (code t)):=hx.below hb4;obtain⟨⟨z0,z1,z2,z3⟩,y0,y1,y2,y3⟩:=zbox_kept hH.bz
  by_cases hbig:f+(L:Nat)-1≤1099511627776
  ·have hg:¬1099511627776<f+(L:Nat)-1:=by omega
   have hfin:=(holds_set4 hx4 hlt2 0 x).mono (lo':=w.heap.size) (Nat.le_refl _) (by omega);have hbf:=set4_below hH.below (b:=w.heap.size+1) (by omega) 0 x;have b0:=hbx.c0;have b1:=hbx.c1;have b2:=hbx.c2;have b3:=hbx.c3;have HF:=hide (And.intro hbf hfin);clear hfin hbf hx4 hx hbx hH hb3 hb4 hb24;go_wp2_with fail
   exact bodyPost_ret (v:=.tuple #[x.val,.int .i64 (f+(L:Nat)),.int .i64 0]) (by simp[results,Tryd.results11,go_sem,TV.val,z0,z1,z2,z3]) rfl ⟨x,_,0,rfl,(uh HF).1,.inl ⟨hf0,hf1,by rw[uh HLL];omega,rfl,by rw[uh HLL],(uh HF).2⟩⟩
  ·have hg:1099511627776<f+(L:Nat)-1:=by omega
   have hbf:=set4_below hH.below (b:=w.heap.size+1) (by omega) 0 ⟨0,0,⟨#[]⟩,none,0,0⟩;have HF:=hide hbf;clear hbf hx4 hx hbx hH hb3 hb4 hb24 hbig;go_wp2_with fail
   exact bodyPost_ret (v:=.tuple #[.agg #[.int .i64 0,.int .i64 0,.string ⟨#[]⟩,.slice none 0 0],.int .i64 0,.int .i64 9]) (by simp[results,Tryd.results11,go_sem,z0,z1,z2,z3]) rfl ⟨⟨0,0,⟨#[]⟩,none,0,0⟩,0,9,rfl,uh HF,.inr (.inl ⟨hf0,hf1,by rw[uh HLL];omega,rfl,rfl,rfl⟩)⟩
 ·have hiv:=fun(W:World)=>isVar_any f W
  have hdd:(decide (0≤f) && decide (f≤1099511627776))=false:=by
   rw[Bool.and_eq_false_iff,decide_eq_false_iff_not,decide_eq_false_iff_not];omega
  simp only[hdd] at hiv;simp only[TV.val] at hck⊢;clear hT hok hdd hB1;have HFF:=hide hf;clear hf;go_enter Tryd.func11,Tryd.ntmps11
  go_wp2_with fail
  refine hck.mono ?_;clear hck;rintro e W1 ⟨rfl,hb1⟩;replace hH:=hH.next hb1;clear hb1;go_wp2_with fail
  refine(hiv _).mono ?_;clear hiv;rintro e W2 ⟨rfl,hb2⟩;replace hH:=hH.next hb2;clear hb2;obtain⟨⟨z0,z1,z2,z3⟩,y0,y1,y2,y3⟩:=zbox_kept hH.bz;have hbf:=set4_below hH.below (b:=w.heap.size+1) (by omega) 0 ⟨0,0,⟨#[]⟩,none,0,0⟩;have HF:=hide hbf;clear hbf hH;go_wp2_with fail
  exact bodyPost_ret (v:=.tuple #[.agg #[.int .i64 0,.int .i64 0,.string ⟨#[]⟩,.slice none 0 0],.int .i64 0,.int .i64 1]) (by simp[results,Tryd.results11,go_sem,z0,z1,z2,z3]) rfl ⟨⟨0,0,⟨#[]⟩,none,0,0⟩,0,1,rfl,uh HF,.inr (.inr ⟨uh HFF,rfl,rfl,rfl⟩)⟩
theorem rename_bad{n:Nat}(t:Tm n)(f:Int)(w:World)(hT:IsT w.heap.size w t)(hok:okT t=false):
  Calls Tryd.prog 11 #[t.tv.val,.int .i64 f] w fun e W'=>e=.returned (.tuple #[(⟨0,0,⟨#[]⟩,none,0,0⟩:TV).val,.int .i64 0,.int .i64 2])∧Below w.heap.size w W':=by
 have hH:=Head.new w t.tv;have hB1:Below w.heap.size w ((w.alloc (.cells #[.int .i64 t.tv.k,.int .i64 t.tv.N,.string t.tv.s,.slice t.tv.a t.tv.len t.tv.cap] 24)).alloc (.cells #[.int .i64 0,.int .i64 0,.string ⟨#[]⟩,.slice none 0 0] 24)):=((Below.refl _ w).alloc (Nat.le_refl _) _).alloc (by simp) _;have hck:=check_any t _ ((hT.below hB1).mono hB1.size);rw[chk_no hok] at hck;simp only[TV.val] at hck⊢;clear hT hok hB1;go_enter Tryd.func11,Tryd.ntmps11
 go_wp2_with fail
 refine hck.mono ?_;clear hck;rintro e W1 ⟨rfl,hb1⟩;replace hH:=hH.next hb1;clear hb1;obtain⟨⟨z0,z1,z2,z3⟩,y0,y1,y2,y3⟩:=zbox_kept hH.bz;have hbf:=set4_below hH.below (b:=w.heap.size+1) (by omega) 0 ⟨0,0,⟨#[]⟩,none,0,0⟩;have HF:=hide hbf;clear hbf hH;go_wp2_with fail
 exact bodyPost_ret (v:=.tuple #[.agg #[.int .i64 0,.int .i64 0,.string ⟨#[]⟩,.slice none 0 0],.int .i64 0,.int .i64 2]) (by simp[results,Tryd.results11,go_sem,z0,z1,z2,z3]) rfl ⟨rfl,uh HF⟩
set_option maxHeartbeats 1000000
set_option maxRecDepth 100000
def i64s(l:List Int):List Value:=l.map (Value.int .i64)
/-- Numbers that lie in a row. -/
def IsN(W:World)(a:Option Addr)(len:Nat)(ns:List Int):Prop:=
 len=ns.length∧len≤1152921504606846976∧(ns=[]∨∃b off,a=some ⟨b,off,none⟩∧b<W.heap.size∧∀(j:Nat) N,ns[j]?=some N→W.cell? ⟨b,off+j,none⟩=some (.int .i64 N))
theorem IsN.below{W W':World}{a:Option Addr}{len:Nat}{ns:List Int}(h:IsN W a len ns)(hb:Below W.heap.size W W'):IsN W' a len ns:=by
 obtain⟨h1,h2,h3⟩:=h;refine⟨h1,h2,?_⟩
 rcases h3 with h3 | ⟨b,off,ha,hlt,hk⟩
 ·exact .inl h3
 ·exact .inr ⟨b,off,ha,Nat.lt_of_lt_of_le hlt hb.size,fun j N hj=>(hb.cell (p:=⟨b,off+j,none⟩) hlt).trans (hk j N hj)⟩
/-- A row of numbers of the call's own. -/
def OwnN(base:Nat)(W:World)(v:Value)(ns:List Int):Prop:=W.ownsRow base 2 1 v ns.length (i64s ns)
theorem OwnN.isN{base:Nat}{W:World}{v:Value}{ns:List Int}(h:OwnN base W v ns)(hl:ns.length≤1152921504606846976):∃a cap,v=.slice a ns.length cap∧IsN W a ns.length ns:=by
 obtain⟨_,h2⟩:=h
 rcases h2 with⟨hv,hn⟩ | ⟨g,cap,cur,hv,hg,hb,_,_,_,htk⟩
 ·exact⟨none,0,by rw[hv,hn],rfl,hl,.inl (List.length_eq_zero_iff.1 hn)⟩
 ·refine⟨_,cap,hv,rfl,hl,.inr ⟨g,0,rfl,(Array.getElem?_eq_some_iff.1 hb).1,fun j N hj=>?_⟩⟩
  have hj':(i64s ns)[j]?=some (.int .i64 N):=by unfold i64s;rw[List.getElem?_map,hj];rfl
  rw[←htk,List.getElem?_take] at hj'
  split at hj'
  ·simp[World.cell?,hb]
   simpa using hj'
  ·cases hj'
theorem OwnN.nil(base:Nat)(W:World):OwnN base W (.slice none 0 0) []:=⟨rfl,.inl ⟨rfl,rfl⟩⟩
theorem num_at{W:World}{a:Option Addr}{len:Nat}{ns:List Int}(h:IsN W a len ns){j:Nat}(hj:j<len):∃N b off,ns[j]?=some N∧a=some ⟨b,off,none⟩∧W.cell? ⟨b,off+j,none⟩=some (.int .i64 N):=by
 obtain⟨h1,_,h3⟩:=h;obtain⟨N,hN⟩:∃N,ns[j]?=some N:=⟨ns[j]'(by omega),List.getElem?_eq_getElem (by omega)⟩;have hne:ns≠[]:=by rintro rfl;simp at hN
 obtain⟨b,off,ha,_,hk⟩:=h3.resolve_left hne;exact⟨N,b,off,hN,ha,hk j N hN⟩
/-- What Has answers. -/
def hasI(ns:List Int)(N:Int):Int:=if N∈ns then(ns.idxOf N:Nat) else -1
theorem hasI_at{ns:List Int}{N:Int}{j:Nat}(h:ns[j]?=some N)(hn:∀i M,ns[i]?=some M→i<j→M≠N):hasI ns N=(j:Nat):=by
 unfold hasI;rw[if_pos (List.mem_of_getElem? h)];obtain⟨hj,hjN⟩:=List.getElem?_eq_some_iff.1 h;have h1:ns.idxOf N<ns.length:=List.idxOf_lt_length_of_mem (List.mem_of_getElem? h);have h2:ns[ns.idxOf N]=N:=List.getElem_idxOf h1;have h3:¬ns.idxOf N<j:=fun hlt=>hn _ _ (List.getElem?_eq_getElem h1) hlt h2
 have h4:¬j<ns.idxOf N:=fun hlt=>by
  have:=List.not_of_lt_findIdx (p:=(· == N)) (xs:=ns) (i:=j) hlt;simp[hjN] at this
 have:ns.idxOf N=j:=by omega
 rw[this]
theorem hasI_no{ns:List Int}{N:Int}(h:N∉ns):hasI ns N= -1:=if_neg h
theorem hasI_neg{ns:List Int}{N:Int}:hasI ns N<0↔N∉ns:=by
 unfold hasI
 split <;> simp_all
theorem has_any(ns:List Int)(a:Option Addr)(len cap:Nat)(N:Int)(w:World)(hn:IsN w a len ns):
  Calls Tryd.prog 45 #[.slice a len cap,.int .i64 N] w fun e W'=>e=.returned (.int .i64 (hasI ns N))∧Below w.heap.size w W':=by
 have h1:=hn.1;have h2:=hn.2.1;have hl1:len≤ns.length:=by omega
 have hl2:ns.length≤len:=by omega
 clear h1;have HN:=hide hn;clear hn;go_enter Tryd.func45,Tryd.ntmps45
 go_wp2_with fail
 go_loop [5] (fun i=> ∃j:Nat,j≤len∧i=.int .i64 j∧∀(i:Nat) M,ns[i]?=some M→i<j→M≠N) (fun i=>len-(intOf i).toNat)
 case atStart=>exact⟨0,Nat.zero_le _,rfl,fun i M _ h=>by omega⟩
 case round=>
  obtain⟨j,hj,rfl,hs⟩:=hrel;have HS:=hide hs;clear hs
  by_cases hlt:j<len
  ·obtain⟨M,b,off,hM,rfl,c0⟩:=num_at (uh HN) hlt
   have HM:=hide hM;clear hM;have hj1:(j:Int)<len:=by omega
   by_cases hV:M=N
   ·have hV':(M == N)=true:=by simp[hV]
    have HV:=hide hV;clear hV;go_wp2_with fail
    go_ret
    exact⟨by rw[hasI_at (by rw[←uh HV];exact uh HM) (uh HS)];rfl,Below.refl _ _⟩
   ·have hV':(M == N)=false:=by simp[hV]
    have HV:=hide hV;clear hV;go_wp2_with fail
    go_round
    case rel=>exact⟨j+1,by omega,by go_num,fun i q hq hi=>by
     by_cases e:i=j
     ·subst e;rw[uh HM] at hq;cases hq;exact uh HV
     ·exact(uh HS) i q hq (by omega)⟩
    case measure=>simp[intOf];omega
  ·have hno:N∉ns:=fun h=>by
    obtain⟨i,hi⟩:=List.mem_iff_getElem?.1 h;exact(uh HS) i N hi (by have:=(List.getElem?_eq_some_iff.1 hi).1;omega) rfl
   have HNO:=hide hno;clear hno;go_wp2_with fail
   go_ret
   exact⟨by rw[hasI_no (uh HNO)];rfl,Below.refl _ _⟩
end Go.Proofs.YtjbdkbaacjfecaaDoor
