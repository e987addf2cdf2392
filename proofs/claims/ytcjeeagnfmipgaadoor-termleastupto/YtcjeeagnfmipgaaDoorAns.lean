import Derived.Test.YtcjeeagnfmipgaaDoorIntLay
import Derived.Lib.AppendIntMem
import Derived.Lib.ItoaLen
import Derived.Lib.Slices
import Derived.Lib.BufferKept
import Derived.OwnWalk
import Derived.WalkKit
import Derived.BigCall
import Derived.Test.YtcjeeagnfmipgaaDoorKy
import Derived.Test.YtcjeeagnfmipgaaDoorC
/- The contract of term.appendNumber: a number's decimals and a blank, behind what is there. -/
namespace Go.Proofs.YtcjeeagnfmipgaaDoor
open Go.RowKit Go.Shelf

theorem Tryd.infoByte : (Tryd.prog.info? 5).map (fun i => (i.zero, i.size, i.bytes)) = some (some (.int .u8 0), 1, 1) := by kernel_rfl
def Tab (B : Nat) (w : World) : Prop := Lib.TabBelow Tryd.prog B w "internal/strconv.uint64pow10" .u64 Lib.pow10Tab
theorem Tab.on {B : Nat} {w w' : World} (h : Tab B w) (hb : Below B w w') : Tab B w' := Lib.TabBelow.on h hb
/-- A row of bytes of the call's own. -/
def Bytes (B : Nat) (w : World) (v : Value) (l : List UInt8) : Prop := w.ownsRow B 5 1 v l.length (Lib.byteCells l)
/-- Blocks of other kinds than bytes are kept. -/
abbrev Others (w w' : World) : Prop := Lib.OthersKept 5 none w w'

theorem others_grow {w w' : World} {B : Nat} {v : Value} {n : Nat} {xs : List Value} (h : w.ownsRow B 5 1 v n xs) (hg : w.grownBy w' v.ownBlock) : Others w w' := fun k o hk _ ho => by
  have hlt := (Array.getElem?_eq_some_iff.1 hk).1
  by_cases e : v.ownBlock = some k
  · rcases h.2 with ⟨rfl, _⟩ | ⟨g, cap, cur, rfl, _, hb, _⟩
    · cases e
    · have : g = k := by simpa [Value.ownBlock] using e
      subst this
      rw [hb] at hk
      simp at hk
      exact (ho _ _ hk.symm).elim
  · exact (hg.block k hlt (fun h' => e h'.symm)).trans hk

set_option maxHeartbeats 1000000 in
set_option maxRecDepth 100000 in
theorem appendNumber_any (B : Nat) (i : Int) (h0 : -9223372036854775808 ≤ i) (h1 : i ≤ 9223372036854775807) (sv : Value) (l : List UInt8) (w : World) (hown : Bytes B w sv l) (hBw : B ≤ w.heap.size) (hlim : l.length ≤ 70368744177664) (htab : Tab B w) :
    Calls Tryd.prog 21 #[sv, .int .i64 i] w fun e w' => ∃ v', e = .returned v' ∧ Bytes B w' v' (l ++ (Lib.itoa i ++ [32])) ∧ Below B w w' ∧ Others w w' := by
  obtain ⟨i0, hi, hz0, hz1, hz2⟩ := info_parts Tryd.infoByte
  have la := Lib.itoa_length_le i h0 h1
  have hai := Any.strconv_AppendInt_10 appInt B l.length i h0 h1 sv (Lib.byteCells l) w hown hBw (by omega) htab
  have hai' : Calls Tryd.prog 32 #[sv, .int .i64 i, .int .i64 10] w fun e w' => ∃ v', e = .returned v' ∧ w'.ownsRow B 5 1 v' (l.length + (Lib.itoa i).length) (Lib.byteCells l ++ Lib.byteCells (Lib.itoa i)) ∧ Below B w w' ∧ Others w w' := hai
  clear hai hown htab
  go_enter Tryd.func21, Tryd.ntmps21
  go_wp2_with fail
  refine hai'.mono ?_
  clear hai'
  rintro e w1 ⟨v1, rfl, hown1, hnx1, hot1⟩
  have hw1 := hnx1.size
  go_wp2_with (at_builtin; go_must (refine wpList_append_own _ rfl _ _ 38 rfl B 5 i0 (.int .u8 0) 1 1 Tryd.underlying38 hi hz0 hz1 hz2 rfl (by decide) _ _ _ rfl (hown1.alloc _) ⟨w1.heap.size, 0, none⟩ 1 1 [Value.int .u8 32] rfl rfl (by intro j u' hj; match j, hj with | 0, hj => simp at hj; subst hj; simp [Addr.add]) (by intro u' hu'; simp at hu'; subst hu'; rfl) (by unfold maxLen; omega) (by omega) (by simp; omega) ?_; intro v2 w2 hown2 hgrow hnil2))
  have hot2 : Others w w2 := (hot1.alloc _).trans (others_grow (hown1.alloc _) hgrow)
  have hnx2 : Below B w w2 := (hnx1.alloc (by omega) _).grown hgrow (by simp; omega) (fun k hk => (hown1.lt k hk).1)
  have hfin : Bytes B w2 v2 (l ++ (Lib.itoa i ++ [32])) := by
    unfold Bytes
    have e1 : (l ++ (Lib.itoa i ++ [32])).length = l.length + (Lib.itoa i).length + 1 := by simp; omega
    have e2 : Lib.byteCells (l ++ (Lib.itoa i ++ [32])) = Lib.byteCells l ++ Lib.byteCells (Lib.itoa i) ++ [Value.int .u8 32] := by simp [Lib.byteCells]
    rw [e1, e2]
    exact hown2
  have HF := hide (And.intro hfin (And.intro hnx2 hot2))
  clear hfin hnx2 hot2 hown2 hgrow hnil2 hown1
  go_wp2_with fail
  exact bodyPost_ret (v := v2) (by simp [results, Tryd.results21, go_sem]) rfl ⟨v2, rfl, unhide HF⟩
end Go.Proofs.YtcjeeagnfmipgaaDoor

/- The contract of term.parts, where all parts of the term are of a kind. -/
namespace Go.Proofs.YtcjeeagnfmipgaaDoor
open Go.RowKit Go.Shelf

/-- The parts of a term that all are of a kind, handed over as such. -/
theorem parts_stopsP (Pt : TV → Prop) (n : Nat) (Bt n₀ n₁ : Nat) {d : Nat} (t : Tm d) (w : World)
    (hPt : ∀ x ∈ parts t, Pt x) (hc : BoxT w Bt t.tv) (hT : IsT n₀ w t) (hn₀ : n₀ ≤ w.heap.size) (hn₁ : n₁ ≤ w.heap.size) :
    SeqC 22 Fence.wide n Tryd.prog 30 #[.pointer (some ⟨Bt, 0, none⟩)] (fun x : { x : TV // Pt x } => #[TV.val x.1]) (Kp n₀ n₁) (fun ys => ys.map Subtype.val = parts t) (fun pre => pre.map Subtype.val <+: parts t) (parts t).length w := fun l J Jx W hW hJ hJx hY h0 => by
  have h := parts1_in n l Bt n₀ n₁ _ t (fun ys W => ∃ zs : List { x : TV // Pt x }, zs.map Subtype.val = ys ∧ J zs W) (fun ys W => ∃ zs : List { x : TV // Pt x }, zs.map Subtype.val = ys ∧ Jx zs W) (fun s A B row hs hg hr => by obtain ⟨zs, e, hz⟩ := hs; exact ⟨zs, e, hJ zs A B row hz hg hr⟩)
    (fun pre x W hx hj hl => by
      obtain ⟨zs, rfl, hz⟩ := hj
      refine (hY zs ⟨x, hPt x hx⟩ W hz (by simpa using hl)).mono fun e W' h => ?_
      rcases h with ⟨h1, h2, h3⟩ | ⟨h1, h2⟩
      · exact .inl ⟨h1, ⟨zs ++ [⟨x, hPt x hx⟩], by simp, h2⟩, h3⟩
      · exact .inr ⟨h1, ⟨zs ++ [⟨x, hPt x hx⟩], by simp, h2⟩⟩)
    W ((hW.block Bt hc.lt).trans hc) (hT.below (hW.mono hn₀)) (Nat.le_trans hn₀ hW.size) (Nat.le_trans hn₁ hW.size) (Nat.le_refl _) ⟨[], rfl, h0⟩
  refine h.mono fun e W' h => ?_
  obtain ⟨h1, h2⟩ := h
  refine ⟨h1, ?_⟩
  rcases h2 with ⟨ys, rfl, zs, e, hz⟩ | ⟨pre, hp, zs, e, hz⟩
  · exact .inl ⟨zs, e, hz⟩
  · exact .inr ⟨zs, by show zs.map Subtype.val <+: parts t; rw [e]; exact hp, hz⟩
end Go.Proofs.YtcjeeagnfmipgaaDoor

