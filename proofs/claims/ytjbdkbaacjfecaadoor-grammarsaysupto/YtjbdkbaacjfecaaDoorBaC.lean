import Derived.Test.YtjbdkbaacjfecaaDoorOs
import Derived.Test.YtjbdkbaacjfecaaDoorVss
namespace Go.Proofs.YtjbdkbaacjfecaaDoor
set_option maxHeartbeats 1000000
set_option maxRecDepth 100000
open Go.RowKit Go.Shelf Go.Maps
def resT0:ByteArray:=⟨#[116,114,117,101,32,102,97,105,108,32,33,32,110,108]⟩
def resN0:List ByteArray:=[⟨#[116,114,117,101]⟩,⟨#[102,97,105,108]⟩,⟨#[33]⟩,⟨#[110,108]⟩]
theorem resS0:Lib.splitB ⟨#[32]⟩ 0 (Lib.countB resT0 ⟨#[32]⟩) resT0=resN0:=by kernel_rfl
theorem resC0:Lib.countB resT0 ⟨#[32]⟩+1=4:=by kernel_rfl
theorem resZ0:resT0.size<4294967281:=by decide +kernel
theorem resL0:resN0.length=4:=by decide +kernel
def resT1:ByteArray:=⟨([92,43,32,116,104,114,111,119,32,118,97,114,32,110,111,110,118,97,114,32,97,116,111,109,32,105,110,116,101,103,101,114,32,97,116,111,109,105,99,32,99,111,109,112,111,117,110,100].append [32,99,97,108,108,97,98,108,101,32,103,114,111,117,110,100,32,97,115,115,101,114,116,122,32,97,115,115,101,114,116,97,32,114,101,116,114,97,99,116,32,112,114,105,110,116,32,58,45]).toArray⟩
def resN1:List ByteArray:=[⟨#[92,43]⟩,⟨#[116,104,114,111,119]⟩,⟨#[118,97,114]⟩,⟨#[110,111,110,118,97,114]⟩,⟨#[97,116,111,109]⟩,⟨#[105,110,116,101,103,101,114]⟩,⟨#[97,116,111,109,105,99]⟩,⟨#[99,111,109,112,111,117,110,100]⟩,⟨#[99,97,108,108,97,98,108,101]⟩,⟨#[103,114,111,117,110,100]⟩,⟨#[97,115,115,101,114,116,122]⟩,⟨#[97,115,115,101,114,116,97]⟩,⟨#[114,101,116,114,97,99,116]⟩,⟨#[112,114,105,110,116]⟩,⟨#[58,45]⟩]
theorem resS1:Lib.splitB ⟨#[32]⟩ 0 (Lib.countB resT1 ⟨#[32]⟩) resT1=resN1:=by kernel_rfl
theorem resC1:Lib.countB resT1 ⟨#[32]⟩+1=15:=by kernel_rfl
theorem resZ1:resT1.size<4294967281:=by decide +kernel
theorem resL1:resN1.length=15:=by decide +kernel
def resT2:ByteArray:=⟨([44,32,59,32,45,62,32,61,32,92,61,32,61,61,32,92,61,61,32,64,60,32,64,62,32,64,61,60,32,64,62,61,32,61,46,46,32,99,111,112,121,95,116,101,114,109,32,105,115,32,61,58,61,32].append [61,92,61,32,60,32,62,32,61,60,32,62,61,32,97,116,111,109,95,108,101,110,103,116,104,32,97,116,111,109,95,99,104,97,114,115,32,108,101,110,103,116,104,32,115,111,114,116,32,58,45,32,45,45,62]).toArray⟩
def resN2:List ByteArray:=[⟨#[44]⟩,⟨#[59]⟩,⟨#[45,62]⟩,⟨#[61]⟩,⟨#[92,61]⟩,⟨#[61,61]⟩,⟨#[92,61,61]⟩,⟨#[64,60]⟩,⟨#[64,62]⟩,⟨#[64,61,60]⟩,⟨#[64,62,61]⟩,⟨#[61,46,46]⟩,⟨#[99,111,112,121,95,116,101,114,109]⟩,⟨#[105,115]⟩,⟨#[61,58,61]⟩,⟨#[61,92,61]⟩,⟨#[60]⟩,⟨#[62]⟩,⟨#[61,60]⟩,⟨#[62,61]⟩,⟨#[97,116,111,109,95,108,101,110,103,116,104]⟩,⟨#[97,116,111,109,95,99,104,97,114,115]⟩,⟨#[108,101,110,103,116,104]⟩,⟨#[115,111,114,116]⟩,⟨#[58,45]⟩,⟨#[45,45,62]⟩]
theorem resS2:Lib.splitB ⟨#[32]⟩ 0 (Lib.countB resT2 ⟨#[32]⟩) resT2=resN2:=by kernel_rfl
theorem resC2:Lib.countB resT2 ⟨#[32]⟩+1=26:=by kernel_rfl
theorem resZ2:resT2.size<4294967281:=by decide +kernel
theorem resL2:resN2.length=26:=by decide +kernel
def resT3:ByteArray:=⟨#[99,97,116,99,104,32,102,105,110,100,97,108,108,32,99,111,109,112,97,114,101,32,102,117,110,99,116,111,114,32,97,114,103,32,98,101,116,119,101,101,110]⟩
def resN3:List ByteArray:=[⟨#[99,97,116,99,104]⟩,⟨#[102,105,110,100,97,108,108]⟩,⟨#[99,111,109,112,97,114,101]⟩,⟨#[102,117,110,99,116,111,114]⟩,⟨#[97,114,103]⟩,⟨#[98,101,116,119,101,101,110]⟩]
theorem resS3:Lib.splitB ⟨#[32]⟩ 0 (Lib.countB resT3 ⟨#[32]⟩) resT3=resN3:=by kernel_rfl
theorem resC3:Lib.countB resT3 ⟨#[32]⟩+1=6:=by kernel_rfl
theorem resZ3:resT3.size<4294967281:=by decide +kernel
theorem resL3:resN3.length=6:=by decide +kernel
/-- Is a predicate reserved? -/
def resB(s:List UInt8)(n:Int):Bool:=
 if s == [99,97,108,108] then decide (1≤n) && decide (n≤8)
 else if n=0 then resN0.any fun x=>x.toList == s
 else if n=1 then resN1.any fun x=>x.toList == s
 else if n=2 then resN2.any fun x=>x.toList == s
 else if n=3 then resN3.any fun x=>x.toList == s
 else false
theorem names_cell{w:World}(L:List ByteArray){j:Nat}{x:ByteArray}(h:L[j]?=some x):(w.alloc (.cells (L.map Value.string).toArray 9)).cell? ⟨w.heap.size,j,none⟩=some (.string x):=by
 have hb:=World.alloc_heap_new w (.cells (L.map Value.string).toArray 9);simp only[World.cell?,hb];simp[h]
theorem rres_call(s:ByteArray)(n:Int)(w:World)(hL:s.toList=[99,97,108,108]):
  Calls Tryd.prog 21 #[.string s,.int .i64 n] w fun e W'=>e=.returned (.bool (decide (1≤n) && decide (n≤8)))∧Below w.heap.size w W':=by
 have HV:Hid (∀b:Bool,(b=true↔1≤n∧n≤8)→(decide (1≤n) && decide (n≤8))=b):=fun b hb=>by
  rw[Bool.eq_iff_iff,hb];simp
 by_cases h1:1≤n
 ·by_cases h2:n≤8
  ·have HW:Hid ((decide (1≤n) && decide (n≤8))=true):=HV.out true (by simp;omega)
   clear HV;go_enter Tryd.func21,Tryd.ntmps21
   go_wp2
   all_goals go_ret
   all_goals exact⟨by first | (rw[HW.out];rfl) | (simp;done) | (simp;omega),(Below.refl _ w).alloc (Nat.le_refl _) _⟩
  ·have HW:Hid ((decide (1≤n) && decide (n≤8))=false):=HV.out false (by simp;omega)
   clear HV;go_enter Tryd.func21,Tryd.ntmps21
   go_wp2
   all_goals go_ret
   all_goals exact⟨by first | (rw[HW.out];rfl) | (simp;done) | (simp;omega),(Below.refl _ w).alloc (Nat.le_refl _) _⟩
 ·have HW:Hid ((decide (1≤n) && decide (n≤8))=false):=HV.out false (by simp;omega)
  clear HV;go_enter Tryd.func21,Tryd.ntmps21
  go_wp2
  all_goals go_ret
  all_goals exact⟨by first | (rw[HW.out];rfl) | (simp;done) | (simp;omega),(Below.refl _ w).alloc (Nat.le_refl _) _⟩
theorem rres_far(s:ByteArray)(n:Int)(w:World)(hL:(s.toList == [99,97,108,108])=false)(hn:n<0∨3<n):
  Calls Tryd.prog 21 #[.string s,.int .i64 n] w fun e W'=>e=.returned (.bool false)∧Below w.heap.size w W':=by
 rcases hn with h1 | h1
 ·go_enter Tryd.func21,Tryd.ntmps21
  go_wp2
  all_goals go_ret
  all_goals exact⟨rfl,(Below.refl _ w).alloc (Nat.le_refl _) _⟩
 ·have h2:¬n<0:=by omega
  go_enter Tryd.func21,Tryd.ntmps21
  go_wp2
  all_goals go_ret
  all_goals exact⟨rfl,(Below.refl _ w).alloc (Nat.le_refl _) _⟩
theorem rres_row0(s:ByteArray)(m:Int)(w:World)(hL:(s.toList == [99,97,108,108])=false)(hm:w.cell? ⟨splitLay_ren.g 1,0,none⟩=some (.int .i64 m))(hm0:splitLay_ren.g 1<w.heap.size):
  Calls Tryd.prog 21 #[.string s,.int .i64 0] w fun e W'=>e=.returned (.bool (resN0.any fun x=>x.toList == s.toList))∧Below w.heap.size w W':=by
 have hsp:=fun(W:World) (hbW:Below w.heap.size w W)=>split_any resT0 m W resZ0 ((hbW.cell (p:=⟨splitLay_ren.g 1,0,none⟩) hm0).trans hm);rw[resS0,resC0] at hsp;have hlen:resN0.length=4:=resL0;have HLN:Hid _:=hlen;generalize resN0=L at *;have HSP:Hid _:=hsp;clear hsp hm hm0 hlen;go_enter Tryd.func21,Tryd.ntmps21
 go_wp2_with fail
 refine(HSP.out _ ((Below.refl _ w).alloc (Nat.le_refl _) _)).mono ?_;rintro e W2 ⟨rfl,hW2⟩;obtain⟨W1,hW1⟩:∃W1,W1=w.alloc (.cells #[.string resT0,.string resT1,.string resT2,.string resT3] 9):=⟨_,rfl⟩;have hb1:Below w.heap.size w W1:=by rw[hW1];exact(Below.refl _ w).alloc (Nat.le_refl _) _
 have hW2':W2=W1.alloc (.cells (L.map Value.string).toArray 9):=by rw[hW2,hW1];rfl
 have hsz:(w.alloc (.cells #[.string resT0,.string resT1,.string resT2,.string resT3] 9)).heap.size=W1.heap.size:=by rw[hW1]
 have hcell:∀j x,L[j]?=some x→W2.cell? ⟨W1.heap.size,j,none⟩=some (.string x):=fun j x h=>by rw[hW2'];exact names_cell L h
 have hb2:Below w.heap.size w W2:=by rw[hW2'];exact hb1.alloc hb1.size _
 have hs1:W1.heap.size=w.heap.size+1:=by rw[hW1];simp
 have HC:Hid _:=hcell;have HB:Hid _:=hb2;clear HSP hcell hb2 hW2 hW2' hsz hW1;simp only[World.size_alloc];rw[hs1] at HC;clear hs1 hb1;go_wp2_with fail
 go_loopw [7] (fun i wr=> ∃j:Nat,j≤4∧i=.int .i64 j∧wr=W2∧Hid (∀i x,L[i]?=some x→i<j→(x.toList == s.toList)=false)) (fun i _=>4-(intOf i).toNat)
 case atStart=>exact⟨0,Nat.zero_le _,rfl,rfl,fun i x _ h=>by omega⟩
 case round=>
  obtain⟨j,hj,rfl,rfl,HNO⟩:=hrel
  by_cases hlt:j<4
  ·obtain⟨x,hx⟩:∃x,L[j]?=some x:=⟨L[j]'(by have:=HLN.out;omega),List.getElem?_eq_getElem (by have:=HLN.out;omega)⟩
   have cx:=HC.out j x hx;have HX:Hid _:=hx;clear hx;have hj1:(j:Int)<4:=by omega
   cases he:(x.toList == s.toList) with
   | true=>
    have HE:Hid ((L.any fun x=>x.toList == s.toList)=true):=List.any_eq_true.2 ⟨x,List.mem_of_getElem? HX.out,he⟩;go_wp2_with fail
    all_goals go_ret
    all_goals exact⟨by rw[HE.out];rfl,HB.out⟩
   | false=>
    have HE:Hid _:=he;go_wp2_with fail
    refine⟨⟨j+1,by omega,by go_num,by first | rfl | trivial,fun i y hy hi=>?_⟩,by simp[intOf];omega⟩
    by_cases hij:i<j
    ·exact HNO.out i y hy hij
    ·obtain rfl:i=j:=by omega
     have:=HX.out;rw[this] at hy;cases hy;exact HE.out
  ·have HE:Hid ((L.any fun x=>x.toList == s.toList)=false):=by
    show L.any _=false
    rw[List.any_eq_false];intro x hx;obtain⟨i,hi⟩:=List.getElem?_of_mem hx;have:=HNO.out i x hi (by have:=(List.getElem?_eq_some_iff.1 hi).1;have:=HLN.out;omega);simp[this]
   have hj1:¬(j:Int)<4:=by omega
   go_wp2_with fail
   all_goals go_ret
   all_goals exact⟨by rw[HE.out];rfl,HB.out⟩
theorem rres_row1(s:ByteArray)(m:Int)(w:World)(hL:(s.toList == [99,97,108,108])=false)(hm:w.cell? ⟨splitLay_ren.g 1,0,none⟩=some (.int .i64 m))(hm0:splitLay_ren.g 1<w.heap.size):
  Calls Tryd.prog 21 #[.string s,.int .i64 1] w fun e W'=>e=.returned (.bool (resN1.any fun x=>x.toList == s.toList))∧Below w.heap.size w W':=by
 have hsp:=fun(W:World) (hbW:Below w.heap.size w W)=>split_any resT1 m W resZ1 ((hbW.cell (p:=⟨splitLay_ren.g 1,0,none⟩) hm0).trans hm);rw[resS1,resC1] at hsp;have hlen:resN1.length=15:=resL1;have HLN:Hid _:=hlen;generalize resN1=L at *;have HSP:Hid _:=hsp;clear hsp hm hm0 hlen;go_enter Tryd.func21,Tryd.ntmps21
 go_wp2_with fail
 refine(HSP.out _ ((Below.refl _ w).alloc (Nat.le_refl _) _)).mono ?_;rintro e W2 ⟨rfl,hW2⟩;obtain⟨W1,hW1⟩:∃W1,W1=w.alloc (.cells #[.string resT0,.string resT1,.string resT2,.string resT3] 9):=⟨_,rfl⟩;have hb1:Below w.heap.size w W1:=by rw[hW1];exact(Below.refl _ w).alloc (Nat.le_refl _) _
 have hW2':W2=W1.alloc (.cells (L.map Value.string).toArray 9):=by rw[hW2,hW1];rfl
 have hsz:(w.alloc (.cells #[.string resT0,.string resT1,.string resT2,.string resT3] 9)).heap.size=W1.heap.size:=by rw[hW1]
 have hcell:∀j x,L[j]?=some x→W2.cell? ⟨W1.heap.size,j,none⟩=some (.string x):=fun j x h=>by rw[hW2'];exact names_cell L h
 have hb2:Below w.heap.size w W2:=by rw[hW2'];exact hb1.alloc hb1.size _
 have hs1:W1.heap.size=w.heap.size+1:=by rw[hW1];simp
 have HC:Hid _:=hcell;have HB:Hid _:=hb2;clear HSP hcell hb2 hW2 hW2' hsz hW1;simp only[World.size_alloc];rw[hs1] at HC;clear hs1 hb1;go_wp2_with fail
 go_loopw [7] (fun i wr=> ∃j:Nat,j≤15∧i=.int .i64 j∧wr=W2∧Hid (∀i x,L[i]?=some x→i<j→(x.toList == s.toList)=false)) (fun i _=>15-(intOf i).toNat)
 case atStart=>exact⟨0,Nat.zero_le _,rfl,rfl,fun i x _ h=>by omega⟩
 case round=>
  obtain⟨j,hj,rfl,rfl,HNO⟩:=hrel
  by_cases hlt:j<15
  ·obtain⟨x,hx⟩:∃x,L[j]?=some x:=⟨L[j]'(by have:=HLN.out;omega),List.getElem?_eq_getElem (by have:=HLN.out;omega)⟩
   have cx:=HC.out j x hx;have HX:Hid _:=hx;clear hx;have hj1:(j:Int)<15:=by omega
   cases he:(x.toList == s.toList) with
   | true=>
    have HE:Hid ((L.any fun x=>x.toList == s.toList)=true):=List.any_eq_true.2 ⟨x,List.mem_of_getElem? HX.out,he⟩;go_wp2_with fail
    all_goals go_ret
    all_goals exact⟨by rw[HE.out];rfl,HB.out⟩
   | false=>
    have HE:Hid _:=he;go_wp2_with fail
    refine⟨⟨j+1,by omega,by go_num,by first | rfl | trivial,fun i y hy hi=>?_⟩,by simp[intOf];omega⟩
    by_cases hij:i<j
    ·exact HNO.out i y hy hij
    ·obtain rfl:i=j:=by omega
     have:=HX.out;rw[this] at hy;cases hy;exact HE.out
  ·have HE:Hid ((L.any fun x=>x.toList == s.toList)=false):=by
    show L.any _=false
    rw[List.any_eq_false];intro x hx;obtain⟨i,hi⟩:=List.getElem?_of_mem hx;have:=HNO.out i x hi (by have:=(List.getElem?_eq_some_iff.1 hi).1;have:=HLN.out;omega);simp[this]
   have hj1:¬(j:Int)<15:=by omega
   go_wp2_with fail
   all_goals go_ret
   all_goals exact⟨by rw[HE.out];rfl,HB.out⟩
theorem rres_row2(s:ByteArray)(m:Int)(w:World)(hL:(s.toList == [99,97,108,108])=false)(hm:w.cell? ⟨splitLay_ren.g 1,0,none⟩=some (.int .i64 m))(hm0:splitLay_ren.g 1<w.heap.size):
  Calls Tryd.prog 21 #[.string s,.int .i64 2] w fun e W'=>e=.returned (.bool (resN2.any fun x=>x.toList == s.toList))∧Below w.heap.size w W':=by
 have hsp:=fun(W:World) (hbW:Below w.heap.size w W)=>split_any resT2 m W resZ2 ((hbW.cell (p:=⟨splitLay_ren.g 1,0,none⟩) hm0).trans hm);rw[resS2,resC2] at hsp;have hlen:resN2.length=26:=resL2;have HLN:Hid _:=hlen;generalize resN2=L at *;have HSP:Hid _:=hsp;clear hsp hm hm0 hlen;go_enter Tryd.func21,Tryd.ntmps21
 go_wp2_with fail
 refine(HSP.out _ ((Below.refl _ w).alloc (Nat.le_refl _) _)).mono ?_;rintro e W2 ⟨rfl,hW2⟩;obtain⟨W1,hW1⟩:∃W1,W1=w.alloc (.cells #[.string resT0,.string resT1,.string resT2,.string resT3] 9):=⟨_,rfl⟩;have hb1:Below w.heap.size w W1:=by rw[hW1];exact(Below.refl _ w).alloc (Nat.le_refl _) _
 have hW2':W2=W1.alloc (.cells (L.map Value.string).toArray 9):=by rw[hW2,hW1];rfl
 have hsz:(w.alloc (.cells #[.string resT0,.string resT1,.string resT2,.string resT3] 9)).heap.size=W1.heap.size:=by rw[hW1]
 have hcell:∀j x,L[j]?=some x→W2.cell? ⟨W1.heap.size,j,none⟩=some (.string x):=fun j x h=>by rw[hW2'];exact names_cell L h
 have hb2:Below w.heap.size w W2:=by rw[hW2'];exact hb1.alloc hb1.size _
 have hs1:W1.heap.size=w.heap.size+1:=by rw[hW1];simp
 have HC:Hid _:=hcell;have HB:Hid _:=hb2;clear HSP hcell hb2 hW2 hW2' hsz hW1;simp only[World.size_alloc];rw[hs1] at HC;clear hs1 hb1;go_wp2_with fail
 go_loopw [7] (fun i wr=> ∃j:Nat,j≤26∧i=.int .i64 j∧wr=W2∧Hid (∀i x,L[i]?=some x→i<j→(x.toList == s.toList)=false)) (fun i _=>26-(intOf i).toNat)
 case atStart=>exact⟨0,Nat.zero_le _,rfl,rfl,fun i x _ h=>by omega⟩
 case round=>
  obtain⟨j,hj,rfl,rfl,HNO⟩:=hrel
  by_cases hlt:j<26
  ·obtain⟨x,hx⟩:∃x,L[j]?=some x:=⟨L[j]'(by have:=HLN.out;omega),List.getElem?_eq_getElem (by have:=HLN.out;omega)⟩
   have cx:=HC.out j x hx;have HX:Hid _:=hx;clear hx;have hj1:(j:Int)<26:=by omega
   cases he:(x.toList == s.toList) with
   | true=>
    have HE:Hid ((L.any fun x=>x.toList == s.toList)=true):=List.any_eq_true.2 ⟨x,List.mem_of_getElem? HX.out,he⟩;go_wp2_with fail
    all_goals go_ret
    all_goals exact⟨by rw[HE.out];rfl,HB.out⟩
   | false=>
    have HE:Hid _:=he;go_wp2_with fail
    refine⟨⟨j+1,by omega,by go_num,by first | rfl | trivial,fun i y hy hi=>?_⟩,by simp[intOf];omega⟩
    by_cases hij:i<j
    ·exact HNO.out i y hy hij
    ·obtain rfl:i=j:=by omega
     have:=HX.out;rw[this] at hy;cases hy;exact HE.out
  ·have HE:Hid ((L.any fun x=>x.toList == s.toList)=false):=by
    show L.any _=false
    rw[List.any_eq_false];intro x hx;obtain⟨i,hi⟩:=List.getElem?_of_mem hx;have:=HNO.out i x hi (by have:=(List.getElem?_eq_some_iff.1 hi).1;have:=HLN.out;omega);simp[this]
   have hj1:¬(j:Int)<26:=by omega
   go_wp2_with fail
   all_goals go_ret
   all_goals exact⟨by rw[HE.out];rfl,HB.out⟩
theorem rres_row3(s:ByteArray)(m:Int)(w:World)(hL:(s.toList == [99,97,108,108])=false)(hm:w.cell? ⟨splitLay_ren.g 1,0,none⟩=some (.int .i64 m))(hm0:splitLay_ren.g 1<w.heap.size):
  Calls Tryd.prog 21 #[.string s,.int .i64 3] w fun e W'=>e=.returned (.bool (resN3.any fun x=>x.toList == s.toList))∧Below w.heap.size w W':=by
 have hsp:=fun(W:World) (hbW:Below w.heap.size w W)=>split_any resT3 m W resZ3 ((hbW.cell (p:=⟨splitLay_ren.g 1,0,none⟩) hm0).trans hm);rw[resS3,resC3] at hsp;have hlen:resN3.length=6:=resL3;have HLN:Hid _:=hlen;generalize resN3=L at *;have HSP:Hid _:=hsp;clear hsp hm hm0 hlen;go_enter Tryd.func21,Tryd.ntmps21
 go_wp2_with fail
 refine(HSP.out _ ((Below.refl _ w).alloc (Nat.le_refl _) _)).mono ?_;rintro e W2 ⟨rfl,hW2⟩;obtain⟨W1,hW1⟩:∃W1,W1=w.alloc (.cells #[.string resT0,.string resT1,.string resT2,.string resT3] 9):=⟨_,rfl⟩;have hb1:Below w.heap.size w W1:=by rw[hW1];exact(Below.refl _ w).alloc (Nat.le_refl _) _
 have hW2':W2=W1.alloc (.cells (L.map Value.string).toArray 9):=by rw[hW2,hW1];rfl
 have hsz:(w.alloc (.cells #[.string resT0,.string resT1,.string resT2,.string resT3] 9)).heap.size=W1.heap.size:=by rw[hW1]
 have hcell:∀j x,L[j]?=some x→W2.cell? ⟨W1.heap.size,j,none⟩=some (.string x):=fun j x h=>by rw[hW2'];exact names_cell L h
 have hb2:Below w.heap.size w W2:=by rw[hW2'];exact hb1.alloc hb1.size _
 have hs1:W1.heap.size=w.heap.size+1:=by rw[hW1];simp
 have HC:Hid _:=hcell;have HB:Hid _:=hb2;clear HSP hcell hb2 hW2 hW2' hsz hW1;simp only[World.size_alloc];rw[hs1] at HC;clear hs1 hb1;go_wp2_with fail
 go_loopw [7] (fun i wr=> ∃j:Nat,j≤6∧i=.int .i64 j∧wr=W2∧Hid (∀i x,L[i]?=some x→i<j→(x.toList == s.toList)=false)) (fun i _=>6-(intOf i).toNat)
 case atStart=>exact⟨0,Nat.zero_le _,rfl,rfl,fun i x _ h=>by omega⟩
 case round=>
  obtain⟨j,hj,rfl,rfl,HNO⟩:=hrel
  by_cases hlt:j<6
  ·obtain⟨x,hx⟩:∃x,L[j]?=some x:=⟨L[j]'(by have:=HLN.out;omega),List.getElem?_eq_getElem (by have:=HLN.out;omega)⟩
   have cx:=HC.out j x hx;have HX:Hid _:=hx;clear hx;have hj1:(j:Int)<6:=by omega
   cases he:(x.toList == s.toList) with
   | true=>
    have HE:Hid ((L.any fun x=>x.toList == s.toList)=true):=List.any_eq_true.2 ⟨x,List.mem_of_getElem? HX.out,he⟩;go_wp2_with fail
    all_goals go_ret
    all_goals exact⟨by rw[HE.out];rfl,HB.out⟩
   | false=>
    have HE:Hid _:=he;go_wp2_with fail
    refine⟨⟨j+1,by omega,by go_num,by first | rfl | trivial,fun i y hy hi=>?_⟩,by simp[intOf];omega⟩
    by_cases hij:i<j
    ·exact HNO.out i y hy hij
    ·obtain rfl:i=j:=by omega
     have:=HX.out;rw[this] at hy;cases hy;exact HE.out
  ·have HE:Hid ((L.any fun x=>x.toList == s.toList)=false):=by
    show L.any _=false
    rw[List.any_eq_false];intro x hx;obtain⟨i,hi⟩:=List.getElem?_of_mem hx;have:=HNO.out i x hi (by have:=(List.getElem?_eq_some_iff.1 hi).1;have:=HLN.out;omega);simp[this]
   have hj1:¬(j:Int)<6:=by omega
   go_wp2_with fail
   all_goals go_ret
   all_goals exact⟨by rw[HE.out];rfl,HB.out⟩
theorem rres_any(s:ByteArray)(n:Int)(m:Int)(w:World)(hm:w.cell? ⟨splitLay_ren.g 1,0,none⟩=some (.int .i64 m))(hm0:splitLay_ren.g 1<w.heap.size):
  Calls Tryd.prog 21 #[.string s,.int .i64 n] w fun e W'=>e=.returned (.bool (resB s.toList n))∧Below w.heap.size w W':=by
 unfold resB;cases hc:(s.toList == [99,97,108,108]) with
 | true=>
  rw[if_pos rfl];exact rres_call s n w (by simpa using hc)
 | false=>
  rw[if_neg (by simp)]
  by_cases h0:n=0
  ·subst h0
   exact rres_row0 s m w hc hm hm0
  rw[if_neg h0]
  by_cases h1:n=1
  ·subst h1
   exact rres_row1 s m w hc hm hm0
  rw[if_neg h1]
  by_cases h2:n=2
  ·subst h2
   exact rres_row2 s m w hc hm hm0
  rw[if_neg h2]
  by_cases h3:n=3
  ·subst h3
   exact rres_row3 s m w hc hm hm0
  rw[if_neg h3];exact rres_far s n w hc (by omega)
end Go.Proofs.YtjbdkbaacjfecaaDoor
