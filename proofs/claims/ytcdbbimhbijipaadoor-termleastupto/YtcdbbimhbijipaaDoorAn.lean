import Derived.Test.YtcdbbimhbijipaaDoorIntLay
import Derived.Lib.AppendIntMem
import Derived.Lib.ItoaLen
import Derived.Lib.Slices
import Derived.Lib.BufferKept
import Derived.OwnWalk
import Derived.WalkKit
import Derived.BigCall
import Derived.Test.YtcdbbimhbijipaaDoorKy
/- The contract of term.appendNumber: a number's decimals and a blank, behind what is there. -/
namespace Go.Proofs.YtcdbbimhbijipaaDoor
open Go.RowKit Go.Shelf

theorem Tryd.infoByte : (Tryd.prog.info? 5).map (fun i => (i.zero, i.size, i.bytes)) = some (some (.int .u8 0), 1, 1) := by kernel_rfl
def Tab (B : Nat) (w : World) : Prop := Lib.TabBelow Tryd.prog B w "internal/strconv.uint64pow10" .u64 Lib.pow10Tab
theorem Tab.on {B : Nat} {w w' : World} (h : Tab B w) (hb : Below B w w') : Tab B w' := Lib.TabBelow.on h hb
/-- A row of bytes of the call's own. -/
def Bytes (B : Nat) (w : World) (v : Value) (l : List UInt8) : Prop := w.ownsRow B 5 1 v l.length (Lib.byteCells l)
/-- Blocks of other kinds than bytes are kept. -/
abbrev Others (w w' : World) : Prop := Lib.OthersKept 5 none w w'

theorem others_grow {w w' : World} {B : Nat} {v : Value} {n : Nat} {xs : List Value} (h : w.ownsRow B 5 1 v n xs) (hg : w.grownBy w' v.ownBlock) : Others w w' := fun k o hk _ ho => by
  have hlt := (Array.getElem?_eq_some_iff.1 hk).1
  by_cases e : v.ownBlock = some k
  · rcases h.2 with ⟨rfl, _⟩ | ⟨g, cap, cur, rfl, _, hb, _⟩
    · cases e
    · have : g = k := by simpa [Value.ownBlock] using e
      subst this
      rw [hb] at hk
      simp at hk
      exact (ho _ _ hk.symm).elim
  · exact (hg.block k hlt (fun h' => e h'.symm)).trans hk

set_option maxHeartbeats 1000000 in
set_option maxRecDepth 100000 in
theorem appendNumber_any (B : Nat) (i : Int) (h0 : -9223372036854775808 ≤ i) (h1 : i ≤ 9223372036854775807) (sv : Value) (l : List UInt8) (w : World) (hown : Bytes B w sv l) (hBw : B ≤ w.heap.size) (hlim : l.length ≤ 70368744177664) (htab : Tab B w) :
    Calls Tryd.prog 21 #[sv, .int .i64 i] w fun e w' => ∃ v', e = .returned v' ∧ Bytes B w' v' (l ++ (Lib.itoa i ++ [32])) ∧ Below B w w' ∧ Others w w' := by
  obtain ⟨i0, hi, hz0, hz1, hz2⟩ := info_parts Tryd.infoByte
  have la := Lib.itoa_length_le i h0 h1
  have hai := Any.strconv_AppendInt_10 appInt B l.length i h0 h1 sv (Lib.byteCells l) w hown hBw (by omega) htab
  have hai' : Calls Tryd.prog 32 #[sv, .int .i64 i, .int .i64 10] w fun e w' => ∃ v', e = .returned v' ∧ w'.ownsRow B 5 1 v' (l.length + (Lib.itoa i).length) (Lib.byteCells l ++ Lib.byteCells (Lib.itoa i)) ∧ Below B w w' ∧ Others w w' := hai
  clear hai hown htab
  go_enter Tryd.func21, Tryd.ntmps21
  go_wp2_with fail
  refine hai'.mono ?_
  clear hai'
  rintro e w1 ⟨v1, rfl, hown1, hnx1, hot1⟩
  have hw1 := hnx1.size
  go_wp2_with (at_builtin; go_must (refine wpList_append_own _ rfl _ _ 38 rfl B 5 i0 (.int .u8 0) 1 1 Tryd.underlying38 hi hz0 hz1 hz2 rfl (by decide) _ _ _ rfl (hown1.alloc _) ⟨w1.heap.size, 0, none⟩ 1 1 [Value.int .u8 32] rfl rfl (by intro j u' hj; match j, hj with | 0, hj => simp at hj; subst hj; simp [Addr.add]) (by intro u' hu'; simp at hu'; subst hu'; rfl) (by unfold maxLen; omega) (by omega) (by simp; omega) ?_; intro v2 w2 hown2 hgrow hnil2))
  have hot2 : Others w w2 := (hot1.alloc _).trans (others_grow (hown1.alloc _) hgrow)
  have hnx2 : Below B w w2 := (hnx1.alloc (by omega) _).grown hgrow (by simp; omega) (fun k hk => (hown1.lt k hk).1)
  have hfin : Bytes B w2 v2 (l ++ (Lib.itoa i ++ [32])) := by
    unfold Bytes
    have e1 : (l ++ (Lib.itoa i ++ [32])).length = l.length + (Lib.itoa i).length + 1 := by simp; omega
    have e2 : Lib.byteCells (l ++ (Lib.itoa i ++ [32])) = Lib.byteCells l ++ Lib.byteCells (Lib.itoa i) ++ [Value.int .u8 32] := by simp [Lib.byteCells]
    rw [e1, e2]
    exact hown2
  have HF := hide (And.intro hfin (And.intro hnx2 hot2))
  clear hfin hnx2 hot2 hown2 hgrow hnil2 hown1
  go_wp2_with fail
  exact bodyPost_ret (v := v2) (by simp [results, Tryd.results21, go_sem]) rfl ⟨v2, rfl, unhide HF⟩
end Go.Proofs.YtcdbbimhbijipaaDoor

