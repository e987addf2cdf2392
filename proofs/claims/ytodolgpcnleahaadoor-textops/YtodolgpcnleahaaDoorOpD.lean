import Derived.Test.YtodolgpcnleahaaDoorOpC
import Derived.RangeFuncBox
import Derived.Carry
/- Operators in a row (IsO); the contracts of text.tableOf and text.CheckOps. -/
namespace Go.Proofs.YtodolgpcnleahaaDoor
open Go.RowKit Go.Shelf Go.Maps

/-- Operators that lie in a row. -/
def IsO (W : World) (a : Option Addr) (len : Nat) (l : List OV) : Prop :=
  len = l.length ∧ len ≤ 9223372036854775807 ∧ (l = [] ∨ ∃ b off, a = some ⟨b, off, none⟩ ∧ b < W.heap.size ∧ ∀ (j : Nat) x, l[j]? = some x → W.cell? ⟨b, off + j * 3, none⟩ = some (.string x.name) ∧ W.cell? ⟨b, off + j * 3 + 1, none⟩ = some (.int .i64 x.prio) ∧ W.cell? ⟨b, off + j * 3 + 2, none⟩ = some (.int .i64 x.type))
theorem IsO.below {W W' : World} {a : Option Addr} {len : Nat} {l : List OV} (h : IsO W a len l) (hb : Below W.heap.size W W') : IsO W' a len l := by
  obtain ⟨h1, h2, h3⟩ := h
  refine ⟨h1, h2, ?_⟩
  rcases h3 with h3 | ⟨b, off, ha, hlt, hk⟩
  · exact .inl h3
  · refine .inr ⟨b, off, ha, Nat.lt_of_lt_of_le hlt hb.size, fun j x hj => ?_⟩
    obtain ⟨k0, k1, k2⟩ := hk j x hj
    exact ⟨(hb.cell (p := ⟨b, _, none⟩) hlt).trans k0, (hb.cell (p := ⟨b, _, none⟩) hlt).trans k1, (hb.cell (p := ⟨b, _, none⟩) hlt).trans k2⟩
/-- The j-th operator. -/
theorem op_at {w wr : World} {a : Option Addr} {len : Nat} {l : List OV} (h : IsO w a len l) (hb : Below w.heap.size w wr) {j : Nat} (hj : j < len) : ∃ s p t b off, l[j]? = some ⟨s, p, t⟩ ∧ a = some ⟨b, off, none⟩ ∧ b < w.heap.size ∧ wr.cell? ⟨b, off + j * 3, none⟩ = some (.string s) ∧ wr.cell? ⟨b, off + j * 3 + 1, none⟩ = some (.int .i64 p) ∧ wr.cell? ⟨b, off + j * 3 + 2, none⟩ = some (.int .i64 t) := by
  obtain ⟨h1, _, h3⟩ := h
  obtain ⟨x, hx⟩ : ∃ x, l[j]? = some x := ⟨l[j]'(by omega), List.getElem?_eq_getElem (by omega)⟩
  have hne : l ≠ [] := by rintro rfl; simp at hx
  obtain ⟨b, off, ha, hlt, hk⟩ := h3.resolve_left hne
  obtain ⟨k0, k1, k2⟩ := hk j x hx
  exact ⟨x.name, x.prio, x.type, b, off, hx, ha, hlt, (hb.cell (p := ⟨b, _, none⟩) hlt).trans k0, (hb.cell (p := ⟨b, _, none⟩) hlt).trans k1, (hb.cell (p := ⟨b, _, none⟩) hlt).trans k2⟩

/-- What tableOf makes of a row of operators. -/
noncomputable def foldN : Names × Names → List OV → Option (Names × Names)
  | c, [] => some c
  | c, x :: r => (addN c x).bind (foldN · r)
theorem foldN_snoc : ∀ (l : List OV) (c : Names × Names) (x : OV), foldN c (l ++ [x]) = (foldN c l).bind (addN · x)
  | [], c, x => by
    simp only [List.nil_append, foldN, Option.bind_some]
    cases addN c x <;> rfl
  | y :: l, c, x => by
    simp only [List.cons_append, foldN]
    cases addN c y with
    | none => rfl
    | some d => simp only [Option.bind_some]; exact foldN_snoc l d x
theorem foldN_none : ∀ (l r : List OV) (c : Names × Names), foldN c l = none → foldN c (l ++ r) = none
  | [], r, c, h => by simp [foldN] at h
  | y :: l, r, c, h => by
    simp only [List.cons_append, foldN] at *
    cases hy : addN c y with
    | none => rfl
    | some d => rw [hy] at h; simp only [Option.bind_some] at *; exact foldN_none l r d h
theorem addN_len {c d : Names × Names} {x : OV} (h : addN c x = some d) : d.1.length + d.2.length = c.1.length + c.2.length + 1 := by
  unfold addN at h
  split at h
  · split at h
    · split at h
      · cases h
      · cases h; simp; omega
    · split at h
      · split at h
        · cases h
        · cases h; simp; omega
      · cases h
  · cases h
theorem foldN_len : ∀ (l : List OV) (c d : Names × Names), foldN c l = some d → d.1.length + d.2.length = c.1.length + c.2.length + l.length
  | [], c, d, h => by simp [foldN] at h; subst h; simp
  | y :: l, c, d, h => by
    simp only [foldN] at h
    cases hy : addN c y with
    | none => rw [hy] at h; cases h
    | some e => rw [hy] at h; have h1 := foldN_len l e d h; have h2 := addN_len hy; simp; omega
noncomputable def tabN (l : List OV) : Option (Names × Names) := if 200 < l.length then none else foldN ([], []) l
theorem take_snoc {α : Type} {l : List α} {j : Nat} {x : α} (h : l[j]? = some x) : l.take (j + 1) = l.take j ++ [x] := by
  rw [List.take_add_one, h]; rfl

/-- Two cells of the call's own. -/
def Box2 (W : World) (B : Nat) (T : TypeId) (a b : Value) : Prop := W.heap[B]? = some (.cells #[a, b] T (0, 0))
theorem Box2.lt {W : World} {B : Nat} {T : TypeId} {a b : Value} (h : Box2 W B T a b) : B < W.heap.size := (Array.getElem?_eq_some_iff.1 h).1
theorem Box2.c0 {W : World} {B : Nat} {T : TypeId} {a b : Value} (h : Box2 W B T a b) : W.cell? ⟨B, 0, none⟩ = some a := by simp [World.cell?, show W.heap[B]? = _ from h]
theorem Box2.c1 {W : World} {B : Nat} {T : TypeId} {a b : Value} (h : Box2 W B T a b) : W.cell? ⟨B, 1, none⟩ = some b := by simp [World.cell?, show W.heap[B]? = _ from h]
theorem Box2.f0 {W : World} {B : Nat} {T : TypeId} {a b : Value} (h : Box2 W B T a b) : W.frozen? ⟨B, 0, none⟩ = false := by simp [World.frozen?, show W.heap[B]? = _ from h]
theorem Box2.f1 {W : World} {B : Nat} {T : TypeId} {a b : Value} (h : Box2 W B T a b) : W.frozen? ⟨B, 1, none⟩ = false := by simp [World.frozen?, show W.heap[B]? = _ from h]
theorem Box2.new (W : World) (T : TypeId) (a b : Value) : Box2 (W.alloc (.cells #[a, b] T)) W.heap.size T a b := World.alloc_heap_new W _
theorem Box2.kt {W W' : World} {B bi bp : Nat} {T : TypeId} {a b : Value} (h : Box2 W B T a b) (hk : Kt bi bp W W') (h1 : B ≠ bi) (h2 : B ≠ bp) : Box2 W' B T a b := (hk.block B h.lt h1 h2).trans h
theorem Box2.below {W W' : World} {B : Nat} {T : TypeId} {a b : Value} (h : Box2 W B T a b) (hb : Below W.heap.size W W') : Box2 W' B T a b := (hb.block B h.lt).trans h

theorem OpT.set2 {W : World} {b B : Nat} {c : Names} (h : OpT W b c) (hne : b ≠ B) (u v : Value) : OpT ((W.setCell ⟨B, 0, none⟩ u).setCell ⟨B, 1, none⟩ v) b c := by
  obtain ⟨E, h1, h2, h3⟩ := h.map
  exact ⟨h.len, E, (h1.setCell (a := ⟨B, 0, none⟩) hne u).setCell (a := ⟨B, 1, none⟩) hne v, h2, h3⟩
/-- The world ahead of tableOf's loop. -/
structure TabS (w : World) (c : Names × Names) (W : World) : Prop where
  below : Below w.heap.size w W
  res : Box2 W w.heap.size 37 (.map none) (.map none)
  tab : Box2 W (w.heap.size + 3) 37 (.map (some (w.heap.size + 1))) (.map (some (w.heap.size + 2)))
  one : OpT W (w.heap.size + 1) c.1
  two : OpT W (w.heap.size + 2) c.2
theorem TabS.new (w : World) : TabS w ([], []) ((((w.alloc (.cells #[.map none, .map none] 37)).alloc (.map #[] 0)).alloc (.map #[] 0)).alloc (.cells #[.map (some (w.heap.size + 1)), .map (some (w.heap.size + 2))] 37)) := by
  have hB0 : Below w.heap.size w (w.alloc (.cells #[.map none, .map none] 37)) := (Below.refl _ w).alloc (Nat.le_refl _) _
  have hB1 : Below w.heap.size w ((w.alloc (.cells #[.map none, .map none] 37)).alloc (.map #[] 0)) := hB0.alloc (by simp) _
  have hB2 : Below w.heap.size w (((w.alloc (.cells #[.map none, .map none] 37)).alloc (.map #[] 0)).alloc (.map #[] 0)) := hB1.alloc (by simp; omega) _
  have hb1 := (Below.refl _ (w.alloc (.cells #[.map none, .map none] 37))).alloc (Nat.le_refl _) (.map #[] 0)
  have hb2 := (Below.refl _ ((w.alloc (.cells #[.map none, .map none] 37)).alloc (.map #[] 0))).alloc (Nat.le_refl _) (.map #[] 0)
  have hb3 := (Below.refl _ (((w.alloc (.cells #[.map none, .map none] 37)).alloc (.map #[] 0)).alloc (.map #[] 0))).alloc (Nat.le_refl _) (.cells #[.map (some (w.heap.size + 1)), .map (some (w.heap.size + 2))] 37)
  have e1 := OpT.made (w.alloc (.cells #[.map none, .map none] 37))
  have e2 := OpT.made ((w.alloc (.cells #[.map none, .map none] 37)).alloc (.map #[] 0))
  have e3 := Box2.new (((w.alloc (.cells #[.map none, .map none] 37)).alloc (.map #[] 0)).alloc (.map #[] 0)) 37 (.map (some (w.heap.size + 1))) (.map (some (w.heap.size + 2)))
  simp only [World.size_alloc] at e1 e2 e3
  exact ⟨hB2.alloc (by simp; omega) _, (((Box2.new w _ _ _).below hb1).below hb2).below hb3, e3, (e1.below hb2).below hb3, e2.below hb3⟩
theorem TabS.next {w W W' : World} {c d : Names × Names} (h : TabS w c W) (hk : Kt (w.heap.size + 1) (w.heap.size + 2) W W') (h1 : OpT W' (w.heap.size + 1) d.1) (h2 : OpT W' (w.heap.size + 2) d.2) : TabS w d W' :=
  ⟨⟨hk.os.trans h.below.os, hk.tape.trans h.below.tape, hk.output.trans h.below.output, Nat.le_trans h.below.size hk.size, fun k hlt => (hk.block k (Nat.lt_of_lt_of_le hlt h.below.size) (by omega) (by omega)).trans (h.below.block k hlt)⟩,
   h.res.kt hk (by omega) (by omega), h.tab.kt hk (by omega) (by omega), h1, h2⟩

/-- What tableOf answers. -/
def TabSays (w : World) (r : Option (Names × Names)) (e : Ending) (W' : World) : Prop :=
  Below w.heap.size w W' ∧ match r with
  | none => e = .returned (.tuple #[.agg #[.map none, .map none], .int .i64 6])
  | some c => ∃ bi bp, e = .returned (.tuple #[.agg #[.map (some bi), .map (some bp)], .int .i64 0]) ∧ bi ≠ bp ∧ w.heap.size ≤ bi ∧ w.heap.size ≤ bp ∧ OpT W' bi c.1 ∧ OpT W' bp c.2

set_option maxRecDepth 100000 in
set_option maxHeartbeats 1000000 in
theorem tableOf_any (l : List OV) (a : Option Addr) (len cap : Nat) (w : World) (hl : IsO w a len l) :
    Calls Tryd.prog 11 #[.slice a len cap] w (TabSays w (tabN l)) := by
  have h1 := hl.1
  have h2 := hl.2.1
  have hl1 : len ≤ l.length := by omega
  have hl2 : l.length ≤ len := by omega
  clear h1
  by_cases hmany : 200 < len
  · have ht : tabN l = none := if_pos (by omega)
    rw [ht]
    have hB := (Below.refl _ w).alloc (Nat.le_refl _) (.cells #[.map none, .map none] 37)
    clear ht hl
    have hj1 : (200 : Int) < len := by omega
    go_enter Tryd.func11, Tryd.ntmps11
    go_wp2_with fail
    exact bodyPost_ret (v := .tuple #[.agg #[.map none, .map none], .int .i64 6]) (by simp [results, Tryd.results11, go_sem]) rfl ⟨hB, rfl⟩
  · have ht : tabN l = foldN ([], []) l := if_neg (by omega)
    rw [ht]
    have hS := TabS.new w
    have hj1 : ¬ (200 : Int) < len := by omega
    have hmm := @run_makeMap Tryd.prog
    have HL := hd hl
    have HS := hd hS
    clear ht hl hS
    go_enter Tryd.func11, Tryd.ntmps11
    go_wp2_with fail
    go_loopw [16] (fun i wr => ∃ (j : Nat) (c : Names × Names), j ≤ len ∧ i = .int .i64 j ∧ TabS w c wr ∧ foldN ([], []) (l.take j) = some c) (fun i _ => len - (intOf i).toNat)
    case atStart => exact ⟨0, ([], []), Nat.zero_le _, rfl, uh HS, by simp [foldN]⟩
    case round =>
      obtain ⟨j, c, hj, rfl, hS, hf⟩ := hrel
      clear hmm
      have t0 := hS.tab.c0
      have t1 := hS.tab.c1
      have hlen := foldN_len _ _ _ hf
      simp only [List.length_take, List.length_nil, Nat.zero_add] at hlen
      have HF := hd hf
      by_cases hlt : j < len
      · obtain ⟨s, p, t, b, off, hu, rfl, hbk, c0, c1, c2⟩ := op_at (uh HL) hS.below hlt
        have hl1' : c.1.length < 200 := by omega
        have hl2' : c.2.length < 200 := by omega
        have hB1 := (Below.refl _ wr).alloc (Nat.le_refl _) (.cells #[.string s, .int .i64 p, .int .i64 t] 27)
        have hadd := add_any (w.heap.size + 1) (w.heap.size + 2) c ⟨s, p, t⟩ (wr.alloc (.cells #[.string s, .int .i64 p, .int .i64 t] 27)) (hS.one.below hB1) (hS.two.below hB1) (by omega) hl1' hl2'
        simp only [OV.val] at hadd
        have hlt3 := hS.tab.lt
        have htab : Box2 (wr.alloc (.cells #[.string s, .int .i64 p, .int .i64 t] 27)) (w.heap.size + 3) 37 (.map (some (w.heap.size + 1))) (.map (some (w.heap.size + 2))) := hS.tab.below hB1
        have hres := hS.res.below hB1
        have hne : ¬ wr.heap.size = w.heap.size + 3 := by omega
        have hj1' : (j : Int) < len := by omega
        have hstep : foldN ([], []) (l.take (j + 1)) = addN c ⟨s, p, t⟩ := by rw [take_snoc hu, foldN_snoc, hf]; rfl
        have hdrop : l = l.take (j + 1) ++ l.drop (j + 1) := (List.take_append_drop _ _).symm
        have HD := hd hdrop
        have HS' := hd hS
        clear hdrop hf hu hlen hl1' hl2'
        cases ha : addN c ⟨s, p, t⟩ with
        | none =>
          rw [ha] at hadd hstep
          have hn : foldN ([], []) l = none := by rw [uh HD]; exact foldN_none _ _ _ hstep
          have HN := hd hn
          clear hn hstep ha
          go_wp2_with (go_at_call 14; refine hadd.mono ?_; clear hadd; rintro e W2 ⟨hk2, rfl⟩; have r0 := (hres.kt hk2 (by omega) (by omega)).c0; have r1 := (hres.kt hk2 (by omega) (by omega)).c1; have f0 := (hres.kt hk2 (by omega) (by omega)).f0; have f1 := (hres.kt hk2 (by omega) (by omega)).f1)
          have hbel : Below w.heap.size w W2 := ⟨hk2.os.trans (hS.below.os), hk2.tape.trans (hS.below.tape), hk2.output.trans (hS.below.output), Nat.le_trans hS.below.size (Nat.le_trans (by simp) hk2.size), fun k hlt' => (hk2.block k (by have := hS.below.size; simp; omega) (by omega) (by omega)).trans ((hB1.block k (by have := hS.below.size; omega)).trans (hS.below.block k hlt'))⟩
          exact bodyPost_ret (v := .tuple #[.agg #[.map none, .map none], .int .i64 6]) (by simp [results, Tryd.results11, go_sem, r0, r1]) rfl ⟨(hbel.setCell (p := ⟨w.heap.size, 0, none⟩) (Nat.le_refl _) _).setCell (p := ⟨w.heap.size, 1, none⟩) (Nat.le_refl _) _, by rw [uh HN]⟩
        | some d =>
          rw [ha] at hadd hstep
          have HSTEP := hd hstep
          clear hstep ha
          go_wp2_with (go_at_call 14; refine hadd.mono ?_; clear hadd; rintro e W2 ⟨hk2, rfl, ho1, ho2⟩)
          have hS2 : TabS w d W2 := hS.next ((Kt.of_below hB1).trans hk2) ho1 ho2
          go_roundw
          case rel => exact ⟨j + 1, d, by omega, by go_num, hS2, uh HSTEP⟩
          case measure => simp [intOf]; omega
      · have htk : l.take j = l := List.take_of_length_le (by omega)
        rw [htk] at hf
        have HF2 := hd hf
        have r0 := hS.res.c0
        have r1 := hS.res.c1
        have f0 := hS.res.f0
        have f1 := hS.res.f1
        have HS' := hd hS
        clear hf htk hS hlen
        go_wp2_with fail
        exact bodyPost_ret (v := .tuple #[.agg #[.map (some (w.heap.size + 1)), .map (some (w.heap.size + 2))], .int .i64 0]) (by simp [results, Tryd.results11, go_sem, r0, r1]) rfl ⟨((uh HS').below.setCell (p := ⟨w.heap.size, 0, none⟩) (Nat.le_refl _) _).setCell (p := ⟨w.heap.size, 1, none⟩) (Nat.le_refl _) _, by rw [uh HF2]; exact ⟨_, _, rfl, by omega, by omega, by omega, OpT.set2 (uh HS').one (by omega) _ _, OpT.set2 (uh HS').two (by omega) _ _⟩⟩

/-- What CheckOps answers. -/
noncomputable def opsE (l : List OV) : Int := if (tabN l).isSome then 0 else 6
set_option maxRecDepth 100000 in
set_option maxHeartbeats 1000000 in
theorem checkOps_any (l : List OV) (a : Option Addr) (len cap : Nat) (w : World) (hl : IsO w a len l) :
    Calls Tryd.prog 6 #[.slice a len cap] w fun e W' => Below w.heap.size w W' ∧ e = .returned (.int .i64 (opsE l)) := by
  have h := tableOf_any l a len cap w hl
  clear hl
  cases ht : tabN l with
  | none =>
    rw [ht] at h
    have he : opsE l = 6 := by simp [opsE, ht]
    rw [he]
    clear he ht
    go_enter Tryd.func6, Tryd.ntmps6
    go_wp2_with (go_at_call 11; refine h.mono ?_; clear h; rintro e W2 ⟨hb2, rfl⟩)
    go_ret
    exact ⟨hb2.alloc hb2.size _, rfl⟩
  | some c =>
    rw [ht] at h
    have he : opsE l = 0 := by simp [opsE, ht]
    rw [he]
    clear he ht
    go_enter Tryd.func6, Tryd.ntmps6
    go_wp2_with (go_at_call 11; refine h.mono ?_; clear h; rintro e W2 ⟨hb2, bi, bp, rfl, _⟩)
    go_ret
    exact ⟨hb2.alloc hb2.size _, rfl⟩
end Go.Proofs.YtodolgpcnleahaaDoor

