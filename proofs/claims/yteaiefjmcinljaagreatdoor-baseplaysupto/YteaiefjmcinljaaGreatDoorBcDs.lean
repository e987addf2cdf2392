import Derived.Test.YteaiefjmcinljaaGreatDoorBaNs
import Derived.StringKeys
import Derived.DeepKeys4
import Derived.BigRegion
import Derived.Test.YteaiefjmcinljaaGreatDoorTks
namespace Go.Proofs.YteaiefjmcinljaaGreatDoor
open Go.RowKit Go.Shelf Go.Maps
/-- How a pointer reads as a map's element: as itself. -/
def ptrElem(v:Value):Option (DataW (Option Addr)×List MemPlace):=
 match v with
 | .pointer p=>some (.held p,[])
 | _=>none
theorem ptrElem_inv{v:Value}{z:DataW (Option Addr)×List MemPlace}(h:ptrElem v=some z):∃p,v=.pointer p∧z=(.held p,[]):=by
 unfold ptrElem at h
 split at h
 ·cases h;exact⟨_,rfl,rfl⟩
 ·cases h
/-- A map of pointers, by what each key leads to. -/
def PM(k:TypeId)(W:World)(b n:Nat)(g:Lit→Option Addr):Prop:=
 ∃E:DataW (Option Addr),W.ownsMap Tryz.prog k ptrElem b n E∧∀kl,Maps.has E kl=(g kl).isSome∧∀a,g kl=some a→∀z,E.atKey kl z=.held (some a)
theorem PM.lt{k:TypeId}{W:World}{b n:Nat}{g:Lit→Option Addr}(h:PM k W b n g):b<W.heap.size:=by obtain⟨E,h1,_⟩:=h;exact h1.lt
theorem PM.made(k:TypeId)(W:World):PM k (W.alloc (.map #[] 0)) W.heap.size 0 (fun _=>none):=⟨.map [],World.ownsMap_made W Tryz.prog k ptrElem,fun kl=>⟨by simp[Maps.has],fun a h=>by cases h⟩⟩
theorem PM.kept{k:TypeId}{A W:World}{b n:Nat}{g:Lit→Option Addr}(h:PM k A b n g)(hb:W.heap[b]?=A.heap[b]?):PM k W b n g:=by
 obtain⟨E,⟨es,clock,e1,e2⟩,h2⟩:=h
 exact⟨E,⟨es,clock,hb.trans e1,e2⟩,h2⟩
theorem PM.look{t k e:TypeId}{W:World}{b n:Nat}{g:Lit→Option Addr}(h:PM k W b n g)(K:Keyed Tryz.prog k)(ht:Tryz.prog.underlying t=some (.map k e))(hz:(zeroValue e).run Tryz.prog W=.ok (.pointer none) W){key:Value}{kl:Lit}(hkey:keyOf Tryz.prog k key=some kl):
  (Instr.lookup t (.map (some b)) key true).run Tryz.prog W=.ok (.tuple #[.pointer (g kl),.bool (g kl).isSome]) W:=by
 obtain⟨E,h1,h2⟩:=h
 obtain⟨v,ps,hrun,hv⟩:=h1.look_ok K ht hz (zd:=.held none) (zp:=[]) rfl hkey
 obtain⟨p,rfl,hp⟩:=ptrElem_inv hv
 rw[(h2 kl).1] at hrun
 cases hg:g kl with
 | none=>
  have hf:Maps.has E kl=false:=by rw[(h2 kl).1,hg];rfl
  rw[atKey_of_not_has hf] at hp
  simp at hp
  rw[hrun,←hp.1,hg]
 | some a=>
  rw[(h2 kl).2 a hg] at hp
  simp at hp
  rw[hrun,←hp.1,hg]
theorem PM.look1{t k e:TypeId}{W:World}{b n:Nat}{g:Lit→Option Addr}(h:PM k W b n g)(K:Keyed Tryz.prog k)(ht:Tryz.prog.underlying t=some (.map k e))(hz:(zeroValue e).run Tryz.prog W=.ok (.pointer none) W){key:Value}{kl:Lit}(hkey:keyOf Tryz.prog k key=some kl):
  (Instr.lookup t (.map (some b)) key false).run Tryz.prog W=.ok (.pointer (g kl)) W:=by
 obtain⟨E,h1,h2⟩:=h
 obtain⟨v,ps,hrun,hv⟩:=h1.lookup K ht hz (zd:=.held none) (zp:=[]) rfl hkey
 obtain⟨p,rfl,hp⟩:=ptrElem_inv hv
 cases hg:g kl with
 | none=>
  have hf:Maps.has E kl=false:=by rw[(h2 kl).1,hg];rfl
  rw[atKey_of_not_has hf] at hp
  simp at hp
  rw[hrun,←hp.1]
 | some a=>
  rw[(h2 kl).2 a hg] at hp
  simp at hp
  rw[hrun,←hp.1]
open Classical in
noncomputable def updL (g:Lit→Option Addr) (kl:Lit) (a:Addr):Lit→Option Addr:=fun x=>if x=kl then some a else g x
theorem PM.put{t k e:TypeId}{W:World}{b n:Nat}{g:Lit→Option Addr}(h:PM k W b n g)(K:Keyed Tryz.prog k)(ht:Tryz.prog.underlying t=some (.map k e))(hn:n<maxLen){key:Value}{kl:Lit}(hkey:keyOf Tryz.prog k key=some kl)(a:Addr):
  ∃W',(Instr.mapUpdate t (.map (some b)) key (.pointer (some a))).run Tryz.prog W=.ok () W'∧PM k W' b (n+1) (updL g kl a)∧W.grownBy W' (some b):=by
 obtain⟨E,h1,h2⟩:=h
 have hm:=h1.isMap
 have hkl:WideAt.IsKeyLit kl:=K.key hkey
 obtain⟨W',hrun,f1,f2⟩:=h1.update K ht hn (val:=.pointer (some a)) (d:=.held (some a)) (ps:=[]) hkey rfl
 refine⟨W',hrun,⟨_,f1,fun x=>?_⟩,f2⟩
 unfold updL
 by_cases e:x=kl
 ·subst e
  rw[if_pos rfl,has_put_same hm hkl]
  exact⟨rfl,fun a' h z=>by cases h;exact atKey_put_same hm hkl _ _⟩
 ·rw[if_neg e,has_put_other e]
  refine⟨(h2 x).1,fun a' h z=>?_⟩
  rw[atKey_put_other e]
  exact(h2 x).2 a' h z
theorem Tryz.keyed3:Keyed Tryz.prog 3:=int_keyed Tryz.underlying3
theorem Tryz.laidOutB:laidOutB Tryz.prog=true:=by kernel_rfl
theorem Tryz.keyedPred:Keyed Tryz.prog 80:=Keyed.of_law (deep_law_laid Tryz.laidOutB (m:=2) (by omega) (of_decide_eq_true (by kernel_rfl)) (by kernel_rfl) (by rw[Tryz.underlying80]))
theorem Tryz.keyedKey:Keyed Tryz.prog 106:=Keyed.of_law (deep_law_laid Tryz.laidOutB (m:=2) (by omega) (of_decide_eq_true (by kernel_rfl)) (by kernel_rfl) (by rw[Tryz.underlying106]))
def predL(s:ByteArray)(n:Nat):Lit:=.string (keyBytes [.string s.data.toList,.int .i64 (n:Int)])
def keyL(k N:Int)(s:ByteArray)(n:Nat):Lit:=.string (keyBytes [.int .i64 k,.int .i64 N,.string s.data.toList,.int .i64 (n:Int)])
theorem lits_str(d:Nat)(s:ByteArray)(hs:s.size≤maxLen):Tryz.prog.keyLits (d+1) 9 [.string s]=some [.string s.data.toList]:=by
 unfold Program.keyLits
 rw[Tryz.underlying9]
 simp[hs]
theorem lits_int(d:Nat)(n:Int)(h0: -9223372036854775808≤n)(h1:n≤9223372036854775807):Tryz.prog.keyLits (d+1) 3 [.int .i64 n]=some [.int .i64 n]∧Tryz.prog.keyLits (d+1) 2 [.int .i64 n]=some [.int .i64 n]:=by
 have hw:(Lit.int .i64 n).wf=true:=by simp[Lit.wf,IntKind.min,IntKind.max,IntKind.signed,IntKind.bits];omega
 refine⟨?_,?_⟩
 ·unfold Program.keyLits
  rw[Tryz.underlying3]
  simp[hw]
 ·unfold Program.keyLits
  rw[Tryz.underlying2]
  simp[hw]
theorem cells_of:Tryz.prog.cellsOf 9=1∧Tryz.prog.cellsOf 3=1∧Tryz.prog.cellsOf 2=1:=⟨by kernel_rfl,by kernel_rfl,by kernel_rfl⟩
theorem pred_key(s:ByteArray)(n:Nat)(hs:s.size≤maxLen)(hn:n≤9223372036854775807):keyOf Tryz.prog 80 (predV s n)=some (predL s n):=by
 have hk:Tryz.prog.keyType 80=true:=by kernel_rfl
 have hc:Tryz.prog.cellsOf 80=2:=by kernel_rfl
 obtain⟨h9,h3,h2⟩:=cells_of
 have hf:Value.formed Tryz.prog 80 (.agg #[.string s,.int .i64 (n:Int)])=true:=by simp[Value.formed,Tryz.underlying80,hc]
 obtain⟨m,hm⟩:∃m,Tryz.prog.types.size=m+1:=⟨Tryz.prog.types.size-1,by have:0<Tryz.prog.types.size:=of_decide_eq_true (by kernel_rfl);omega⟩
 unfold keyOf
 rw[Tryz.underlying80]
 simp only[predV,hk,hf,Bool.and_self,if_true,hm]
 unfold Program.keyLits
 simp only[Tryz.underlying80]
 have l1:=lits_str m s hs
 have l2:=(lits_int m (n:Int) (by omega) (by omega)).1
 rw[if_pos ⟨by rw[hc];rfl,by decide +kernel⟩]
 simp only[List.mapM_cons,List.mapM_nil,h9,h3,Value.cells,List.drop_zero,List.drop_succ_cons,List.take_succ_cons,List.take_zero]
 rw[l1,l2]
 rfl
theorem key_key(k N:Int)(s:ByteArray)(n:Nat)(hs:s.size≤maxLen)(hn:n≤9223372036854775807)(hk0: -9223372036854775808≤k)(hk1:k≤9223372036854775807)(hN0: -9223372036854775808≤N)(hN1:N≤9223372036854775807):keyOf Tryz.prog 106 (keyV k N s n)=some (keyL k N s n):=by
 have hk:Tryz.prog.keyType 106=true:=by kernel_rfl
 have hc:Tryz.prog.cellsOf 106=4:=by kernel_rfl
 obtain⟨h9,h3,h2⟩:=cells_of
 have hf:Value.formed Tryz.prog 106 (.agg #[.int .i64 k,.int .i64 N,.string s,.int .i64 (n:Int)])=true:=by simp[Value.formed,Tryz.underlying106,hc]
 obtain⟨m,hm⟩:∃m,Tryz.prog.types.size=m+1:=⟨Tryz.prog.types.size-1,by have:0<Tryz.prog.types.size:=of_decide_eq_true (by kernel_rfl);omega⟩
 unfold keyOf
 rw[Tryz.underlying106]
 simp only[keyV,hk,hf,Bool.and_self,if_true,hm]
 unfold Program.keyLits
 simp only[Tryz.underlying106]
 have l1:=lits_str m s hs
 have l2:=(lits_int m (n:Int) (by omega) (by omega)).1
 have l3:=(lits_int m k hk0 hk1).1
 have l4:=(lits_int m N hN0 hN1).2
 rw[if_pos ⟨by rw[hc];rfl,by decide +kernel⟩]
 simp only[List.mapM_cons,List.mapM_nil,h9,h3,h2,Value.cells,List.drop_zero,List.drop_succ_cons,List.take_succ_cons,List.take_zero]
 rw[l1,l2,l3,l4]
 rfl
set_option maxHeartbeats 2000000
set_option maxRecDepth 100000
theorem Tryz.zeroPtr61(w:World):(zeroValue 64).run Tryz.prog w=.ok (.pointer none) w:=by kernel_rfl
theorem Tryz.zeroPtr64(w:World):(zeroValue 77).run Tryz.prog w=.ok (.pointer none) w:=by kernel_rfl
theorem Tryz.zeroPtr71(w:World):(zeroValue 102).run Tryz.prog w=.ok (.pointer none) w:=by kernel_rfl
/-- A base's own three cells. -/
def BsBlk(W:World)(b:Nat)(laid:Int)(me mf:Nat):Prop:=W.heap[b]?=some (.cells #[.int .i64 laid,.map (some me),.map (some mf)] 46 (0,0))
theorem BsBlk.lt{W:World}{b:Nat}{laid:Int}{me mf:Nat}(h:BsBlk W b laid me mf):b<W.heap.size:=(Array.getElem?_eq_some_iff.1 h).1
theorem BsBlk.cs{W:World}{b:Nat}{laid:Int}{me mf:Nat}(h:BsBlk W b laid me mf):W.cell? ⟨b,0,none⟩=some (.int .i64 laid)∧W.cell? ⟨b,1,none⟩=some (.map (some me))∧W.cell? ⟨b,2,none⟩=some (.map (some mf))∧W.frozen? ⟨b,0,none⟩=false:=by
 have h':W.heap[b]?=_:=h
 refine⟨?_,?_,?_,?_⟩ <;> simp[World.cell?,World.frozen?,h']
theorem new_any(w:World):Calls Tryz.prog 4 #[] w fun e W'=>e=.returned (.pointer (some ⟨w.heap.size+2,0,none⟩))∧BsBlk W' (w.heap.size+2) 0 w.heap.size (w.heap.size+1)∧PM 3 W' w.heap.size 0 (fun _=>none)∧PM 80 W' (w.heap.size+1) 0 (fun _=>none)∧Below w.heap.size w W'∧W'.heap.size=w.heap.size+3:=by
 have hmm:= @run_makeMap Tryz.prog
 have h1:PM 3 (((w.alloc (.map #[] 0)).alloc (.map #[] 0)).alloc (.cells #[.int .i64 0,.map (some w.heap.size),.map (some (w.heap.size+1))] 46)) w.heap.size 0 (fun _=>none):=((PM.made 3 w).kept (Below.heap_alloc _ _ _ (by simp))).kept (Below.heap_alloc _ _ _ (by simp;omega))
 have h2:PM 80 (((w.alloc (.map #[] 0)).alloc (.map #[] 0)).alloc (.cells #[.int .i64 0,.map (some w.heap.size),.map (some (w.heap.size+1))] 46)) (w.heap.size+1) 0 (fun _=>none):=by
  have h:=PM.made 80 (w.alloc (.map #[] 0))
  rw[World.size_alloc] at h
  exact h.kept (Below.heap_alloc _ _ _ (by simp))
 have h3:BsBlk (((w.alloc (.map #[] 0)).alloc (.map #[] 0)).alloc (.cells #[.int .i64 0,.map (some w.heap.size),.map (some (w.heap.size+1))] 46)) (w.heap.size+2) 0 w.heap.size (w.heap.size+1):=by
  have h:=World.alloc_heap_new ((w.alloc (.map #[] 0)).alloc (.map #[] 0)) (.cells #[.int .i64 0,.map (some w.heap.size),.map (some (w.heap.size+1))] 46)
  rw[World.size_alloc,World.size_alloc] at h
  exact h
 have HK:=hide (And.intro h3 (And.intro h1 h2))
 clear h1 h2 h3
 go_enter Tryz.func4,Tryz.ntmps4
 go_wp2_with fail
 all_goals go_ret
 all_goals exact⟨rfl,HK.out.1,HK.out.2.1,HK.out.2.2,(((Below.refl _ w).alloc (Nat.le_refl _) _).alloc (by simp) _).alloc (by simp;omega) _,by simp⟩
/-- A predicate's family that has nothing yet. -/
def FamNew(W:World)(fb km:Nat):Prop:=W.heap[fb]?=some (.cells #[.pointer none,.map (some km)] 104 (0,0))∧PM 106 W km 0 (fun _=>none)
theorem familyOf_new(b me mf:Nat)(laid:Int)(cnt:Nat)(g:Lit→Option Addr)(s:ByteArray)(n:Nat)(w:World)(hb:BsBlk w b laid me mf)(hm:PM 80 w mf cnt g)(hcnt:cnt<maxLen)(hs:s.size≤maxLen)(hn:n≤9223372036854775807)(hg:g (predL s n)=none):
  Calls Tryz.prog 24 #[.pointer (some ⟨b,0,none⟩),predV s n] w fun e W'=> ∃fb km,e=.returned (.pointer (some ⟨fb,0,none⟩))∧w.heap.size≤fb∧w.heap.size≤km∧fb≠km∧FamNew W' fb km∧PM 80 W' mf (cnt+1) (updL g (predL s n) ⟨fb,0,none⟩)∧GrB (fun k=>k=mf) w.heap.size w W':=by
 have hmm:= @run_makeMap Tryz.prog
 have hkey:=pred_key s n hs hn
 have hb1:Below w.heap.size w (w.alloc (.cells #[.string s,.int .i64 (n:Int)] 80)).drew:=((Below.refl _ w).alloc (Nat.le_refl _) _).drew
 have hm1:=hm.kept (hb1.block mf hm.lt)
 have hB1:BsBlk (w.alloc (.cells #[.string s,.int .i64 (n:Int)] 80)).drew b laid me mf:=(hb1.block b hb.lt).trans hb
 have hlk:=hm1.look Tryz.keyedPred Tryz.underlying44 (Tryz.zeroPtr64 _) hkey
 rw[hg] at hlk
 obtain⟨c0,c1,c2,-⟩:=hB1.cs
 have c2':(w.alloc (.cells #[.string s,.int .i64 (n:Int)] 80)).cell? ⟨b,2,none⟩=some (.map (some mf)):=c2
 simp only[predV] at hlk hkey⊢
 have hnew:(w.alloc (.cells #[.string s,.int .i64 (n:Int)] 80)).drew.heap[w.heap.size]?=_:=World.alloc_heap_new w (.cells #[.string s,.int .i64 (n:Int)] 80)
 have hlt1:=hb.lt
 have hlt2:=hm.lt
 obtain⟨V1,hV1⟩:∃V1,(w.alloc (.cells #[.string s,.int .i64 (n:Int)] 80)).drew=V1:=⟨_,rfl⟩
 have hsz:V1.heap.size=w.heap.size+1:=by rw[←hV1];show(w.alloc (.cells #[.string s,.int .i64 (n:Int)] 80)).heap.size=_;simp
 have HV1:=hide hV1
 rw[hV1] at hb1 hm1 hB1 hnew
 clear hV1
 have hb3:Below V1.heap.size V1 ((V1.alloc (.map #[] 0)).alloc (.cells #[.pointer none,.map (some V1.heap.size)] 104)).drew:=(((Below.refl _ V1).alloc (Nat.le_refl _) _).alloc (by simp) _).drew
 have hm3:=hm1.kept (hb3.block mf hm1.lt)
 have hB3:BsBlk ((V1.alloc (.map #[] 0)).alloc (.cells #[.pointer none,.map (some V1.heap.size)] 104)).drew b laid me mf:=(hb3.block b hB1.lt).trans hB1
 have hn3:=(hb3.block w.heap.size (by omega)).trans hnew
 have hf3:((V1.alloc (.map #[] 0)).alloc (.cells #[.pointer none,.map (some V1.heap.size)] 104)).drew.heap[V1.heap.size+1]?=some (.cells #[.pointer none,.map (some V1.heap.size)] 104 (0,0)):=by
  have h:=World.alloc_heap_new (V1.alloc (.map #[] 0)) (.cells #[.pointer none,.map (some V1.heap.size)] 104)
  rw[World.size_alloc] at h
  exact h
 have hk3:PM 106 ((V1.alloc (.map #[] 0)).alloc (.cells #[.pointer none,.map (some V1.heap.size)] 104)).drew V1.heap.size 0 (fun _=>none):=(PM.made 106 V1).kept (Below.heap_alloc _ _ _ (by simp))
 obtain⟨W',hup,hpm,hgr⟩:=hm3.put Tryz.keyedPred Tryz.underlying44 hcnt hkey ⟨V1.heap.size+1,0,none⟩
 obtain⟨_,_,d2,_⟩:=hB3.cs
 have d2':((V1.alloc (.map #[] 0)).alloc (.cells #[.pointer none,.map (some V1.heap.size)] 104)).cell? ⟨b,2,none⟩=some (.map (some mf)):=d2
 have n0:((V1.alloc (.map #[] 0)).alloc (.cells #[.pointer none,.map (some V1.heap.size)] 104)).cell? ⟨w.heap.size,0,none⟩=some (.string s):=by
  have:((V1.alloc (.map #[] 0)).alloc (.cells #[.pointer none,.map (some V1.heap.size)] 104)).heap[w.heap.size]?=_:=hn3
  simp[World.cell?,this]
 have n1:((V1.alloc (.map #[] 0)).alloc (.cells #[.pointer none,.map (some V1.heap.size)] 104)).cell? ⟨w.heap.size,1,none⟩=some (.int .i64 (n:Int)):=by
  have:((V1.alloc (.map #[] 0)).alloc (.cells #[.pointer none,.map (some V1.heap.size)] 104)).heap[w.heap.size]?=_:=hn3
  simp[World.cell?,this]
 have hsz3:(((V1.alloc (.map #[] 0)).alloc (.cells #[.pointer none,.map (some V1.heap.size)] 104)).drew).heap.size=V1.heap.size+2:=by
  show((V1.alloc (.map #[] 0)).alloc (.cells #[.pointer none,.map (some V1.heap.size)] 104)).heap.size=_
  simp
 have hfin:FamNew W' (V1.heap.size+1) V1.heap.size:=⟨(hgr.block _ (by omega) (by simp;omega)).trans hf3,hk3.kept (hgr.block _ (by omega) (by simp;omega))⟩
 have hgf:GrB (fun k=>k=mf) w.heap.size w W':=⟨(hgr.os.trans hb3.os).trans hb1.os,(hgr.tape.trans hb3.tape).trans hb1.tape,(hgr.output.trans hb3.output).trans hb1.output,by have:=hgr.size;omega,fun k hk hx=>(hgr.block k (by omega) (by simpa using hx)).trans ((hb3.block k (by omega)).trans (hb1.block k hk))⟩
 have HF:=hide (And.intro hfin (And.intro hpm (And.intro hgf hsz)))
 clear hb hm hb1 hm1 hB1 hkey hnew hcnt hg hs hn hb3 hm3 hB3 hn3 hf3 hk3 hpm hgr hfin hgf hsz3 d2 c0 c1 c2 hlt1 hlt2 hsz
 go_enter Tryz.func24,Tryz.ntmps24
 go_wp2_with fail
 go_region
 clear hlk c2'
 rw[unhide HV1]
 clear HV1
 go_wp2_with fail
 go_region
 all_goals
  clear hup d2' n0 n1 hmm
  go_wp2_with fail
  all_goals go_ret
  all_goals exact⟨_,_,rfl,by have:=HF.out.2.2.2;omega,by have:=HF.out.2.2.2;omega,by omega,HF.out.1,HF.out.2.1,HF.out.2.2.1⟩
set_option maxHeartbeats 4000000
set_option maxRecDepth 100000
/-- An entry's nine cells. -/
def EnBlk(W:World)(eb:Nat)(pl:Int)(hx bx:TV):Prop:=W.heap[eb]?=some (.cells #[.int .i64 pl,.int .i64 hx.k,.int .i64 hx.N,.string hx.s,.slice hx.a hx.len hx.cap,.int .i64 bx.k,.int .i64 bx.N,.string bx.s,.slice bx.a bx.len bx.cap,.pointer none] 73 (0,0))
theorem EnBlk.lt{W:World}{eb:Nat}{pl:Int}{hx bx:TV}(h:EnBlk W eb pl hx bx):eb<W.heap.size:=(Array.getElem?_eq_some_iff.1 h).1
theorem EnBlk.cs{W:World}{eb:Nat}{pl:Int}{hx bx:TV}(h:EnBlk W eb pl hx bx):W.cell? ⟨eb,0,none⟩=some (.int .i64 pl)∧(W.cell? ⟨eb,1,none⟩=some (.int .i64 hx.k)∧W.cell? ⟨eb,2,none⟩=some (.int .i64 hx.N)∧W.cell? ⟨eb,3,none⟩=some (.string hx.s)∧W.cell? ⟨eb,4,none⟩=some (.slice hx.a hx.len hx.cap))∧W.cell? ⟨eb,5,none⟩=some (.int .i64 bx.k)∧W.cell? ⟨eb,6,none⟩=some (.int .i64 bx.N)∧W.cell? ⟨eb,7,none⟩=some (.string bx.s)∧W.cell? ⟨eb,8,none⟩=some (.slice bx.a bx.len bx.cap):=by
 have h':W.heap[eb]?=_:=h
 refine⟨?_,⟨?_,?_,?_,?_⟩,?_,?_,?_,?_⟩ <;> simp[World.cell?,h']
/-- A family's two cells. -/
def FmBlk(W:World)(fb:Nat)(all:Option Addr)(km:Nat):Prop:=W.heap[fb]?=some (.cells #[.pointer all,.map (some km)] 104 (0,0))
theorem FmBlk.lt{W:World}{fb:Nat}{all:Option Addr}{km:Nat}(h:FmBlk W fb all km):fb<W.heap.size:=(Array.getElem?_eq_some_iff.1 h).1
theorem FmBlk.cs{W:World}{fb:Nat}{all:Option Addr}{km:Nat}(h:FmBlk W fb all km):W.cell? ⟨fb,0,none⟩=some (.pointer all)∧W.cell? ⟨fb,1,none⟩=some (.map (some km))∧W.frozen? ⟨fb,0,none⟩=false:=by
 have h':W.heap[fb]?=_:=h
 refine⟨?_,?_,?_⟩ <;> simp[World.cell?,World.frozen?,h']
theorem FmBlk.set{W:World}{fb:Nat}{all:Option Addr}{km:Nat}(h:FmBlk W fb all km)(p:Option Addr):FmBlk (W.setCell ⟨fb,0,none⟩ (.pointer p)) fb p km:=by
 have h':W.heap[fb]?=_:=h
 obtain⟨hlt,hk⟩:=Array.getElem?_eq_some_iff.1 h'
 show(W.heap.modify fb _)[fb]?=_
 rw[Array.getElem?_eq_getElem (by rw[Array.size_modify];exact hlt),Array.getElem_modify_self,hk]
 rfl
/-- A block that is a map. -/
def MapB(W:World)(k:Nat):Prop:= ∃es c,W.heap[k]?=some (.map es c)
theorem PM.mapB{k:TypeId}{W:World}{b n:Nat}{g:Lit→Option Addr}(h:PM k W b n g):MapB W b:=by
 obtain⟨E,⟨es,clock,e1,_⟩,_⟩:=h
 exact⟨es,clock,e1⟩
/-- What base's with answers, of a tree's pointer and an entry: a new tree, of which R holds; only new memory. -/
def WithC(eb:Nat)(R:Option Addr→Nat→World→Prop)(p:Option Addr)(V:World):Prop:=Calls Tryz.prog 43 #[.pointer p,.pointer (some ⟨eb,0,none⟩)] V fun e V'=> ∃q,e=.returned (.pointer (some ⟨q,0,none⟩))∧V.heap.size≤q∧Below V.heap.size V V'∧R p q V'
theorem lay_any(fb km eb:Nat)(all:Option Addr)(cnt:Nat)(gk:Lit→Option Addr)(pl:Int){n:Nat}(th:Tm (n+1))(bx:TV)(kl:Lit)(R:Option Addr→Nat→World→Prop)(W:World)
  (hf:FmBlk W fb all km) (hm:PM 106 W km cnt gk) (hcnt:cnt<maxLen) (he:EnBlk W eb pl th.tv bx) (hT:IsT W.heap.size W th) (hkl:keyOf Tryz.prog 106 (keyOfV th)=some kl) (hne:fb≠km)
  (hW1:∀V,Below W.heap.size W V→WithC eb R all V) (hW2:∀V,GrB (fun k=>k=fb) W.heap.size W V→(∃a,FmBlk V fb a km)→WithC eb R (gk kl) V)
  (hR:∀p q V V',R p q V→W.heap.size≤q→GrB (fun k=>k=fb∨k=km) V.heap.size V V'→(∃a,FmBlk V fb a km)→MapB V km→R p q V'):
  Calls Tryz.prog 26 #[.pointer (some ⟨fb,0,none⟩),.pointer (some ⟨eb,0,none⟩)] W fun e W'=>e=.returned (.tuple #[])∧∃q1 q2,W.heap.size≤q1∧W.heap.size≤q2∧FmBlk W' fb (some ⟨q1,0,none⟩) km∧PM 106 W' km (cnt+1) (updL gk kl ⟨q2,0,none⟩)∧R all q1 W'∧R (gk kl) q2 W'∧GrB (fun k=>k=fb∨k=km) W.heap.size W W':=by
 have hk0:=keyOf_any th W hT
 obtain⟨e0,⟨e1,e2,e3,e4⟩,-⟩:=he.cs
 have hfl:=hf.lt
 have hml:=hm.lt
 unfold keyOfV at hk0 hkl
 generalize (keyOfT th).1=k1 at *
 generalize (keyOfT th).2.1=k2 at *
 generalize (keyOfT th).2.2.1=k3 at *
 generalize (keyOfT th).2.2.2=k4 at *
 have HH:=hide (And.intro hf (And.intro hm (And.intro hcnt (And.intro hne hkl))))
 have HW1:=hide hW1
 have HW2:=hide hW2
 have HR:=hide hR
 clear hf hm hcnt he hT hkl hne hW1 hW2 hR e0
 simp only[keyV,TV.val] at hk0
 go_enter Tryz.func26,Tryz.ntmps26
 go_wp2_with fail
 refine hk0.mono ?_
 clear hk0 e1 e2 e3 e4
 rintro e V1 ⟨rfl,b1⟩
 have hb2:Below V1.heap.size V1 (V1.alloc (.cells #[.int .i64 k1,.int .i64 k2,.string k3,.int .i64 (k4:Int)] 106)):=(Below.refl _ V1).alloc (Nat.le_refl _) _
 have hkb:=World.alloc_heap_new V1 (.cells #[.int .i64 k1,.int .i64 k2,.string k3,.int .i64 (k4:Int)] 106)
 have hB2:Below W.heap.size W (V1.alloc (.cells #[.int .i64 k1,.int .i64 k2,.string k3,.int .i64 (k4:Int)] 106)):=b1.trans (hb2.mono b1.size)
 have hf2:FmBlk (V1.alloc (.cells #[.int .i64 k1,.int .i64 k2,.string k3,.int .i64 (k4:Int)] 106)) fb all km:=(hB2.block fb hfl).trans (unhide HH).1
 have hm2:=(unhide HH).2.1.kept (hB2.block km hml)
 have hw1:=(unhide HW1) _ hB2
 unfold WithC at hw1
 obtain⟨f0,f1,-⟩:=hf2.cs
 have hs2:(V1.alloc (.cells #[.int .i64 k1,.int .i64 k2,.string k3,.int .i64 (k4:Int)] 106)).heap.size=V1.heap.size+1:=by simp
 have hs1:=b1.size
 have H2:=hide (And.intro hB2 (And.intro hf2 (And.intro hm2 (And.intro hkb hs2))))
 clear hb2 hkb hB2 hf2 hm2 b1 HW1 hs2
 go_wp2_with fail
 refine hw1.mono ?_
 clear hw1 f0 f1
 rintro e V3 ⟨q1,rfl,hq1,b3,r1⟩
 obtain⟨hB2,hf2,hm2,hkb,hs2⟩:=unhide H2
 have hs3:=b3.size
 have hf3:FmBlk V3 fb all km:=(b3.block fb (by omega)).trans hf2
 have hm3:=hm2.kept (b3.block km (by omega))
 have hkb3:=(b3.block V1.heap.size (by omega)).trans hkb
 have hB3:Below W.heap.size W V3:=hB2.trans (b3.mono (by omega))
 obtain⟨f0,f1,fz⟩:=hf3.cs
 have hf4:=hf3.set (some ⟨q1,0,none⟩)
 have hne:=(unhide HH).2.2.2.1
 have hm4:=hm3.kept (W:=V3.setCell ⟨fb,0,none⟩ (.pointer (some ⟨q1,0,none⟩))) (Below.heap_setCell _ _ _ _ (by simpa using hne.symm))
 have hkb4:(V3.setCell ⟨fb,0,none⟩ (.pointer (some ⟨q1,0,none⟩))).heap[V1.heap.size]?=_:=(Below.heap_setCell _ _ _ _ (by simp;omega)).trans hkb3
 have hg4:GrB (fun k=>k=fb) W.heap.size W (V3.setCell ⟨fb,0,none⟩ (.pointer (some ⟨q1,0,none⟩))):=⟨hB3.os,hB3.tape,hB3.output,by simp;omega,fun k hk hx=>(Below.heap_setCell _ _ _ _ (by simpa using hx)).trans (hB3.block k hk)⟩
 have r1':=(unhide HR) all q1 V3 (V3.setCell ⟨fb,0,none⟩ (.pointer (some ⟨q1,0,none⟩))) r1 (by omega) ⟨rfl,rfl,rfl,by simp,fun k hk hx=>Below.heap_setCell _ _ _ _ (by simp;exact fun e=>hx (.inl e))⟩ ⟨_,hf3⟩ hm3.mapB
 have hs4:V3.heap.size≤(V3.setCell ⟨fb,0,none⟩ (.pointer (some ⟨q1,0,none⟩))).heap.size:=by simp
 have H4:=hide (And.intro hf4 (And.intro hm4 (And.intro hkb4 (And.intro hg4 (And.intro r1' (And.intro hs4 (And.intro hq1 hs2)))))))
 clear H2 hB2 hf2 hm2 hkb hf3 hm3 hkb3 hB3 hf4 hm4 hkb4 hg4 r1 r1' b3 f1 hne hs4 hq1 hs2
 go_wp2_with fail
 obtain⟨V4,hV4⟩:∃V4,V3.setCell ⟨fb,0,none⟩ (.pointer (some ⟨q1,0,none⟩))=V4:=⟨_,rfl⟩
 have Q4:=unhide H4
 rw[hV4] at Q4
 try rw[hV4]
 clear H4 hV4 f0 fz
 obtain⟨hf4,hm4,hkb4,hg4,r1',hs4,hq1,hs2⟩:=Q4
 have hkl:=(unhide HH).2.2.2.2
 simp only[keyV] at hkl
 have hlk:∀w',w'.heap[km]?=V4.heap[km]?→(Instr.lookup 101 (.map (some km)) (.agg #[.int .i64 k1,.int .i64 k2,.string k3,.int .i64 (k4:Int)]) false).run Tryz.prog w'=.ok (.pointer (gk kl)) w':=fun w' hw=>(hm4.kept hw).look1 Tryz.keyedKey Tryz.underlying101 (Tryz.zeroPtr71 _) hkl
 have hw2:=(unhide HW2) V4.drew ⟨hg4.os,hg4.tape,hg4.output,hg4.size,hg4.block⟩ ⟨_,hf4⟩
 unfold WithC at hw2
 have hVs:V4.drew.heap.size=V4.heap.size:=rfl
 obtain⟨_,f1,_⟩:=hf4.cs
 have KEEP:V4.cell? ⟨fb,1,none⟩=some (.map (some km))∧V4.cell? ⟨V1.heap.size,0,none⟩=some (.int .i64 k1)∧V4.cell? ⟨V1.heap.size,1,none⟩=some (.int .i64 k2)∧V4.cell? ⟨V1.heap.size,2,none⟩=some (.string k3)∧V4.cell? ⟨V1.heap.size,3,none⟩=some (.int .i64 (k4:Int)):=⟨f1,by simp[World.cell?,hkb4],by simp[World.cell?,hkb4],by simp[World.cell?,hkb4],by simp[World.cell?,hkb4]⟩
 have HV:=hide (And.intro hf4 (And.intro hm4 (And.intro hkb4 (And.intro hg4 (And.intro r1' (And.intro hs4 (And.intro hq1 hs2)))))))
 have hlk4:=hlk V4.drew rfl
 have HKL:=hide hkl
 have hkbl:V1.heap.size<V4.heap.size:=(Array.getElem?_eq_some_iff.1 hkb4).1
 have hfl4:fb<V4.heap.size:=hf4.lt
 have hml4:km<V4.heap.size:=hm4.lt
 clear hf4 hm4 hkb4 hg4 r1' f1 hlk hkl hs4 hq1 hs2 HW2
 go_wp2_with fail
 refine wp_region_noPanic ?_
 refine wp_region_held_drew (S:=(fun w'=>w'.cell? ⟨fb,1,none⟩=some (.map (some km))∧w'.cell? ⟨V1.heap.size,0,none⟩=some (.int .i64 k1)∧w'.cell? ⟨V1.heap.size,1,none⟩=some (.int .i64 k2)∧w'.cell? ⟨V1.heap.size,2,none⟩=some (.string k3)∧w'.cell? ⟨V1.heap.size,3,none⟩=some (.int .i64 (k4:Int)))) (by kernel_rfl) ?_ (fun hHeld=>?_)
 ·exact KEEP
 refine tk 0 rfl hHeld ?_
 refine tk 1 rfl hHeld ?_
 refine tk 2 rfl hHeld ?_
 refine tk 3 rfl hHeld ?_
 refine tk 4 rfl hHeld ?_
 refine tk 5 rfl hHeld ?_
 refine tk 6 rfl hHeld ?_
 refine tk 7 rfl hHeld ?_
 refine tk 8 rfl hHeld ?_
 refine tk 9 rfl hHeld ?_
 refine tk 11 rfl hHeld ?_
 refine rd 10 rfl fun K hK=>?_
 have hHold:=hHeld
 clear hHeld
 go_simp
 refine hK.out _ _ ?_ (fun hHeld=>?_)
 ·((try dsimp only);exact KEEP)
 clear hK K hHold
 try simp only[pu]
 refine rd 12 rfl fun K hK=>?_
 have hHold:=hHeld
 clear hHeld
 go_simp
 refine hw2.mono ?_
 clear hw2 hlk4
 rintro e V5 ⟨q2,rfl,hq2,b5,r2⟩
 have s5:=b5.size
 have kc:∀k o,k<V4.heap.size→V5.cell? ⟨k,o,none⟩=V4.cell? ⟨k,o,none⟩:=fun k o hk=>World.cell?_of_block (a:=⟨k,o,none⟩) (w:=V4) (b5.block k hk)
 have KEEP:V5.cell? ⟨fb,1,none⟩=some (.map (some km))∧V5.cell? ⟨V1.heap.size,0,none⟩=some (.int .i64 k1)∧V5.cell? ⟨V1.heap.size,1,none⟩=some (.int .i64 k2)∧V5.cell? ⟨V1.heap.size,2,none⟩=some (.string k3)∧V5.cell? ⟨V1.heap.size,3,none⟩=some (.int .i64 (k4:Int)):=⟨(kc _ _ hfl4).trans KEEP.1,(kc _ _ hkbl).trans KEEP.2.1,(kc _ _ hkbl).trans KEEP.2.2.1,(kc _ _ hkbl).trans KEEP.2.2.2.1,(kc _ _ hkbl).trans KEEP.2.2.2.2⟩
 clear kc
 go_wp2_with fail
 refine hK.out _ _ ?_ (fun hHeld=>?_)
 ·((try dsimp only);exact KEEP)
 clear hK K hHold
 try simp only[pu]
 refine rd 13 rfl fun K hK=>?_
 have hHold:=hHeld
 clear hHeld
 obtain⟨W',hup,hpm,hgr⟩:=((unhide HV).2.1.kept (b5.block km hml4)).put Tryz.keyedKey Tryz.underlying101 (unhide HH).2.2.1 (unhide HKL) ⟨q2,0,none⟩
 have kc:∀k o,k<V5.heap.size→k≠km→W'.cell? ⟨k,o,none⟩=V5.cell? ⟨k,o,none⟩:=fun k o hk hx=>World.cell?_of_block (a:=⟨k,o,none⟩) (w:=V5) (hgr.block k hk (by simpa using hx))
 have hx1:V1.heap.size≠km:=by omega
 have KEEP:W'.cell? ⟨fb,1,none⟩=some (.map (some km))∧W'.cell? ⟨V1.heap.size,0,none⟩=some (.int .i64 k1)∧W'.cell? ⟨V1.heap.size,1,none⟩=some (.int .i64 k2)∧W'.cell? ⟨V1.heap.size,2,none⟩=some (.string k3)∧W'.cell? ⟨V1.heap.size,3,none⟩=some (.int .i64 (k4:Int)):=⟨(kc _ _ (by omega) (unhide HH).2.2.2.1).trans KEEP.1,(kc _ _ (by omega) hx1).trans KEEP.2.1,(kc _ _ (by omega) hx1).trans KEEP.2.2.1,(kc _ _ (by omega) hx1).trans KEEP.2.2.2.1,(kc _ _ (by omega) hx1).trans KEEP.2.2.2.2⟩
 go_simp
 refine hK.out _ _ ?_ (fun hHeld=>?_)
 ·((try dsimp only);exact KEEP)
 clear hK K hHold
 try simp only[pu]
 refine wpAnyH_done (by kernel_rfl) ?_ _
 refine NoPanic.normal ?_
 clear hHeld KEEP kc hup
 obtain⟨hf4,hm4,hkb4,hg4,r1',hs4,hq1,hs2⟩:=unhide HV
 have hne:=(unhide HH).2.2.2.1
 have hf5:FmBlk V5 fb (some ⟨q1,0,none⟩) km:=(b5.block fb hfl4).trans hf4
 have hf6:FmBlk W' fb (some ⟨q1,0,none⟩) km:=(hgr.block fb (by omega) (by simpa using hne)).trans hf5
 have g56:GrB (fun k=>k=fb∨k=km) V5.heap.size V5 W':=⟨hgr.os,hgr.tape,hgr.output,hgr.size,fun k hk hx=>hgr.block k hk (by simp;exact fun e=>hx (.inr e))⟩
 have g45:GrB (fun k=>k=fb∨k=km) V4.heap.size V4 V5:=⟨b5.os,b5.tape,b5.output,b5.size,fun k hk _=>b5.block k hk⟩
 have rr1:=(unhide HR) all q1 V4 W' r1' (by omega) (g45.trans (g56.mono (by omega))) ⟨_,hf4⟩ hm4.mapB
 have rr2:=(unhide HR) (gk kl) q2 V5 W' r2 (by omega) g56 ⟨_,hf5⟩ (hm4.kept (b5.block km hml4)).mapB
 have hgf:GrB (fun k=>k=fb∨k=km) W.heap.size W W':=⟨(hgr.os.trans b5.os).trans hg4.os,(hgr.tape.trans b5.tape).trans hg4.tape,(hgr.output.trans b5.output).trans hg4.output,by have:=hgr.size;omega,fun k hk hx=>(hgr.block k (by omega) (by simp;exact fun e=>hx (.inr e))).trans ((b5.block k (by omega)).trans (hg4.block k hk (fun e=>hx (.inl e))))⟩
 have HF:=hide (And.intro hf6 (And.intro hpm (And.intro rr1 (And.intro rr2 hgf))))
 have HQ:Hid (W.heap.size≤q1∧W.heap.size≤q2):=⟨by omega,by omega⟩
 clear hf4 hm4 hkb4 hg4 r1' hs4 hq1 hs2 hne hf5 hf6 g56 g45 rr1 rr2 hgf hpm hgr b5 r2
 go_wp2_with fail
 all_goals go_end0
 all_goals exact⟨rfl,q1,q2,HQ.out.1,HQ.out.2,HF.out.1,HF.out.2.1,HF.out.2.2.1,HF.out.2.2.2.1,HF.out.2.2.2.2⟩
end Go.Proofs.YteaiefjmcinljaaGreatDoor
