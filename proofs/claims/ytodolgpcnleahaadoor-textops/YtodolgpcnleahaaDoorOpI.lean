import Derived.Test.YtodolgpcnleahaaDoorOpH
/- The contracts of text.rows and slices.Concat at operators. -/
namespace Go.Proofs.YtodolgpcnleahaaDoor
open Go.RowKit Go.Shelf Go.Maps

theorem make_ops (len : Nat) (h : len ≤ 1000) (w : World) : (Instr.makeSlice 22 (.int .i64 (len : Int)) (.int .i64 (len : Int))).run Tryd.prog w = .ok (.slice (some ⟨w.heap.size, 0, none⟩) len len) (w.alloc (.cells (madeCells #[.string ⟨#[]⟩, .int .i64 0, .int .i64 0] (len * 3)) 27)) := by
  obtain ⟨i0, hi, hz0, hz1, hz2⟩ := info_parts Tryd.infoOp
  have hr := run_make (P := Tryd.prog) w 22 27 i0 _ Tryd.underOpSlice hi hz0 .i64 .i64 len len (by omega) (Int.le_refl _) (by rw [hz2]; omega) (by omega)
  rw [hz1] at hr
  simpa [Value.cells] using hr

/-- A block of room for len operators. -/
def Row3 (W : World) (B len : Nat) : Prop := ∃ arr : Array Value, W.heap[B]? = some (.cells arr 27 (0, 0)) ∧ arr.size = len * 3
theorem Row3.lt {W : World} {B len : Nat} (h : Row3 W B len) : B < W.heap.size := by obtain ⟨arr, h, _⟩ := h; exact (Array.getElem?_eq_some_iff.1 h).1
theorem Row3.cell {W : World} {B len : Nat} (h : Row3 W B len) {o : Nat} (ho : o < len * 3) : (∃ v, W.cell? ⟨B, o, none⟩ = some v) ∧ W.frozen? ⟨B, o, none⟩ = false := by
  obtain ⟨arr, h, hs⟩ := h
  refine ⟨⟨arr[o]'(by omega), ?_⟩, ?_⟩
  · simp [World.cell?, h]
  · simp [World.frozen?, h]
theorem Row3.setCell {W : World} {B len : Nat} (h : Row3 W B len) (o : Nat) (v : Value) : Row3 (W.setCell ⟨B, o, none⟩ v) B len := by
  obtain ⟨arr, h, hs⟩ := h
  obtain ⟨hlt, hk⟩ := Array.getElem?_eq_some_iff.1 h
  refine ⟨arr.setIfInBounds o v, ?_, by simpa using hs⟩
  show (W.heap.modify B _)[B]? = _
  rw [Array.getElem?_eq_getElem (by rw [Array.size_modify]; exact hlt), Array.getElem_modify_self, hk]
  rfl
/-- An operator written at a place. -/
def set3 (W : World) (B o : Nat) (x : OV) : World := ((W.setCell ⟨B, o, none⟩ (.string x.name)).setCell ⟨B, o + 1, none⟩ (.int .i64 x.prio)).setCell ⟨B, o + 2, none⟩ (.int .i64 x.type)
theorem Row3.set3 {W : World} {B len : Nat} (h : Row3 W B len) (o : Nat) (x : OV) : Row3 (set3 W B o x) B len := ((h.setCell _ _).setCell _ _).setCell _ _
theorem set3_below {n : Nat} {A W : World} (h : Below n A W) {b : Nat} (hb : n ≤ b) (o : Nat) (x : OV) : Below n A (set3 W b o x) :=
  ((h.setCell (p := ⟨b, o, none⟩) hb _).setCell (p := ⟨b, o + 1, none⟩) hb _).setCell (p := ⟨b, o + 2, none⟩) hb _
def At3 (W : World) (B o : Nat) (x : OV) : Prop := W.cell? ⟨B, o, none⟩ = some (.string x.name) ∧ W.cell? ⟨B, o + 1, none⟩ = some (.int .i64 x.prio) ∧ W.cell? ⟨B, o + 2, none⟩ = some (.int .i64 x.type)
theorem set3_same {W : World} {B len o : Nat} (h : Row3 W B len) (ho : o + 2 < len * 3) (x : OV) : At3 (set3 W B o x) B o x := by
  obtain ⟨⟨v0, h0⟩, _⟩ := h.cell (o := o) (by omega)
  obtain ⟨⟨v1, h1⟩, _⟩ := h.cell (o := o + 1) (by omega)
  obtain ⟨⟨v2, h2⟩, _⟩ := h.cell (o := o + 2) (by omega)
  unfold set3 At3
  refine ⟨?_, ?_, ?_⟩
  · rw [World.cell?_setCell_other _ _ _ _ (by simp), World.cell?_setCell_other _ _ _ _ (by simp), World.cell?_setCell_same' _ _ _ (by rw [h0]; rfl)]
  · rw [World.cell?_setCell_other _ _ _ _ (by simp), World.cell?_setCell_same' _ _ _ (by rw [World.cell?_setCell_other _ _ _ _ (by simp), h1]; rfl)]
  · rw [World.cell?_setCell_same' _ _ _ (by rw [World.cell?_setCell_other _ _ _ _ (by simp), World.cell?_setCell_other _ _ _ _ (by simp), h2]; rfl)]
theorem set3_other {W : World} {B o q : Nat} (x y : OV) (h : At3 W B q y) (hq : q + 2 < o) : At3 (set3 W B o x) B q y := by
  unfold set3 At3
  obtain ⟨h0, h1, h2⟩ := h
  refine ⟨?_, ?_, ?_⟩
  · rw [World.cell?_setCell_other _ _ _ _ (by simp <;> omega), World.cell?_setCell_other _ _ _ _ (by simp <;> omega), World.cell?_setCell_other _ _ _ _ (by simp <;> omega), h0]
  · rw [World.cell?_setCell_other _ _ _ _ (by simp <;> omega), World.cell?_setCell_other _ _ _ _ (by simp <;> omega), World.cell?_setCell_other _ _ _ _ (by simp <;> omega), h1]
  · rw [World.cell?_setCell_other _ _ _ _ (by simp <;> omega), World.cell?_setCell_other _ _ _ _ (by simp <;> omega), World.cell?_setCell_other _ _ _ _ (by simp <;> omega), h2]
/-- The first of a row stand written. -/
structure RowO (W : World) (B len : Nat) (l : List OV) : Prop where
  row : Row3 W B len
  at3 : ∀ i x, l[i]? = some x → At3 W B (i * 3) x
theorem RowO.next {W : World} {B len : Nat} {l : List OV} (h : RowO W B len l) (hl : l.length < len) (x : OV) : RowO (set3 W B (l.length * 3) x) B len (l ++ [x]) := by
  refine ⟨h.row.set3 _ _, fun i y hi => ?_⟩
  by_cases e : i < l.length
  · rw [List.getElem?_append_left e] at hi
    exact set3_other _ _ (h.at3 i y hi) (by omega)
  · rw [List.getElem?_append_right (by omega)] at hi
    have hi0 : i - l.length = 0 := by
      have := (List.getElem?_eq_some_iff.1 hi).1
      simp at this; omega
    rw [hi0] at hi
    simp at hi
    subst hi
    have : i = l.length := by omega
    subst this
    exact set3_same h.row (by omega) x
def namesAt (W : World) (b : Nat) (ns : List ByteArray) : Prop := ∀ j s, ns[j]? = some s → W.cell? ⟨b, j, none⟩ = some (.string s)
def opsOf (kind prio : Int) (ns : List ByteArray) : List OV := ns.map fun s => ⟨s, prio, kind⟩

set_option maxRecDepth 100000 in
set_option maxHeartbeats 1000000 in
theorem rows_any (kind prio : Int) (ns : List ByteArray) (b n : Nat) (w : World) (hn1 : n ≤ ns.length) (hn2 : ns.length ≤ n) (hn : n ≤ 1000) (hb : b < w.heap.size) (hs : namesAt w b ns) :
    Calls Tryd.prog 9 #[.int .i64 kind, .int .i64 prio, .slice (some ⟨b, 0, none⟩) n n] w fun e W' => e = .returned (.slice (some ⟨w.heap.size, 0, none⟩) n n) ∧ Below w.heap.size w W' ∧ IsO W' (some ⟨w.heap.size, 0, none⟩) n (opsOf kind prio ns) := by
  have hmk := make_ops n hn w
  obtain ⟨W1, hW1⟩ : ∃ W1, W1 = w.alloc (.cells (madeCells #[.string ⟨#[]⟩, .int .i64 0, .int .i64 0] (n * 3)) 27) := ⟨_, rfl⟩
  rw [← hW1] at hmk
  have hB1 : Below w.heap.size w W1 := by rw [hW1]; exact (Below.refl _ w).alloc (Nat.le_refl _) _
  have hR1 : RowO W1 w.heap.size n [] := ⟨⟨_, by rw [hW1]; exact heap_alloc_new w _, size_madeCells _ _⟩, fun i x h => by simp at h⟩
  have HR := hd hR1
  have HS := hd hs
  have HB := hd hb
  clear hR1 hW1 hs hb
  go_enter Tryd.func9, Tryd.ntmps9
  go_wp2_with fail
  go_loopw [15] (fun i wr => ∃ j : Nat, j ≤ n ∧ i = .int .i64 j ∧ Below w.heap.size w wr ∧ RowO wr w.heap.size n (opsOf kind prio (ns.take j))) (fun i _ => n - (intOf i).toNat)
  case atStart => exact ⟨0, Nat.zero_le _, rfl, hB1, by simpa [opsOf] using uh HR⟩
  case round =>
    obtain ⟨j, hj, rfl, hbr, hrow⟩ := hrel
    clear hmk
    by_cases hlt : j < n
    · obtain ⟨s, hsj⟩ : ∃ s, ns[j]? = some s := ⟨ns[j]'(by omega), List.getElem?_eq_getElem (by omega)⟩
      have c0 : wr.cell? ⟨b, j, none⟩ = some (.string s) := (hbr.cell (p := ⟨b, j, none⟩) (uh HB)).trans (uh HS j s hsj)
      have hlen : (opsOf kind prio (ns.take j)).length = j := by simp [opsOf]; omega
      have hnext := hrow.next (by omega) ⟨s, prio, kind⟩
      rw [hlen, show opsOf kind prio (ns.take j) ++ [⟨s, prio, kind⟩] = opsOf kind prio (ns.take (j + 1)) by simp [opsOf, take_snoc hsj]] at hnext
      obtain ⟨⟨v0, k0⟩, f0⟩ := hrow.row.cell (o := j * 3) (by omega)
      obtain ⟨⟨v1, k1⟩, f1⟩ := hrow.row.cell (o := j * 3 + 1) (by omega)
      obtain ⟨⟨v2, k2⟩, f2⟩ := hrow.row.cell (o := j * 3 + 2) (by omega)
      have hbn := set3_below hbr (Nat.le_refl w.heap.size) (j * 3) ⟨s, prio, kind⟩
      have HN := hd hnext
      have HBN := hd hbn
      have hj1 : (j : Int) < n := by omega
      clear hnext hbn hlen hrow hsj
      go_wp2_with fail
      go_roundw
      case rel => exact ⟨j + 1, by omega, by go_num, uh HBN, uh HN⟩
      case measure => simp [intOf]; omega
    · have htk : ns.take j = ns := List.take_of_length_le (by omega)
      rw [htk] at hrow
      have hfin : IsO wr (some ⟨w.heap.size, 0, none⟩) n (opsOf kind prio ns) := by
        refine ⟨by simp [opsOf]; omega, by omega, .inr ⟨w.heap.size, 0, rfl, hrow.row.lt, fun j x hx => ?_⟩⟩
        rw [Nat.zero_add]
        exact hrow.at3 j x hx
      have HF := hd hfin
      have hj1 : ¬ (j : Int) < n := by omega
      clear hfin hrow htk
      go_wp2_with fail
      go_ret
      exact ⟨rfl, hbr, uh HF⟩

/-- Parts to be joined: where each lies, and what it is. -/
def partsAt (W : World) (b : Nat) (ps : List (Nat × List OV)) : Prop := ∀ j p, ps[j]? = some p → W.cell? ⟨b, j, none⟩ = some (.slice (some ⟨p.1, 0, none⟩) p.2.length p.2.length) ∧ IsO W (some ⟨p.1, 0, none⟩) p.2.length p.2
def lens (ps : List (Nat × List OV)) : Nat := (ps.flatMap (·.2)).length
theorem lens_snoc (l : List (Nat × List OV)) (p : Nat × List OV) : lens (l ++ [p]) = lens l + p.2.length := by simp [lens]
theorem lens_take (l : List (Nat × List OV)) (j : Nat) : lens (l.take j) ≤ lens l := by
  have h : lens l = lens (l.take j ++ l.drop j) := by rw [List.take_append_drop]
  rw [h]
  simp only [lens, List.flatMap_append, List.length_append]
  omega

set_option maxRecDepth 100000 in
set_option maxHeartbeats 1000000 in
theorem concat_any (ps : List (Nat × List OV)) (b n : Nat) (w : World) (hn1 : n ≤ ps.length) (hn2 : ps.length ≤ n) (hn : n ≤ 1000) (hb : b < w.heap.size) (hs : partsAt w b ps) (ht0 : 0 < lens ps) (ht1 : lens ps ≤ 1000) :
    Calls Tryd.prog 8 #[.slice (some ⟨b, 0, none⟩) n n] w fun e W' => ∃ v, e = .returned v ∧ Below w.heap.size w W' ∧ OwnO w.heap.size W' v (ps.flatMap (·.2)) := by
  obtain ⟨i0, hi, hz0, hz1, hz2⟩ := info_parts Tryd.infoOp
  have HS := hd hs
  have HB := hd hb
  have HI := hd hi
  have HZ0 := hd hz0
  have HZ1 := hd hz1
  have HZ2 := hd hz2
  clear hs hb hi hz0 hz1 hz2
  go_enter Tryd.func8, Tryd.ntmps8
  go_wp2_with fail
  go_loop [3, 11] (fun v i => ∃ j : Nat, j ≤ n ∧ i = .int .i64 j ∧ v = .int .i64 (lens (ps.take j) : Nat)) (fun _ i => n - (intOf i).toNat)
  case atStart => exact ⟨0, Nat.zero_le _, rfl, by simp [lens]⟩
  case round =>
    obtain ⟨j, hj, rfl, rfl⟩ := hrel
    by_cases hlt : j < n
    · obtain ⟨p, hp⟩ : ∃ p, ps[j]? = some p := ⟨ps[j]'(by omega), List.getElem?_eq_getElem (by omega)⟩
      obtain ⟨c0, _⟩ := uh HS j p hp
      have hst : lens (ps.take (j + 1)) = lens (ps.take j) + p.2.length := by rw [take_snoc hp, lens_snoc]
      have hle := lens_take ps (j + 1)
      have hj1 : (j : Int) < n := by omega
      have hg : ¬ ((lens (ps.take j) : Int) + (p.2.length : Int)) < 0 := by omega
      have hbd : (lens (ps.take j) : Int) + (p.2.length : Int) ≤ 1000 := by omega
      have HST := hd hst
      clear hst hp
      go_wp2_with fail
      go_round
      case rel => exact ⟨j + 1, by omega, by go_num, by rw [uh HST]; simp⟩
      case measure => simp [intOf]; omega
    · have htk : ps.take j = ps := List.take_of_length_le (by omega)
      rw [htk]
      have hj1 : ¬ (j : Int) < n := by omega
      have hgr := grow_any (lens ps) ht0 (by omega) w
      clear htk
      go_wp2_with (go_at_call 12; refine hgr.mono ?_; clear hgr; rintro e W1 ⟨v, rfl, hb1, ho1⟩)
      have HO1 := hd ho1
      clear ho1
      go_loopw [6, 27] (fun v i wr => ∃ j : Nat, j ≤ n ∧ i = .int .i64 j ∧ Below w.heap.size w wr ∧ OwnO w.heap.size wr v ((ps.take j).flatMap (·.2))) (fun _ i _ => n - (intOf i).toNat)
      case atStart => exact ⟨0, Nat.zero_le _, rfl, hb1, by simpa using uh HO1⟩
      case round =>
        obtain ⟨k, hk, rfl, hbr, hown⟩ := hrel
        by_cases hlk : k < n
        · obtain ⟨p, hp⟩ : ∃ p, ps[k]? = some p := ⟨ps[k]'(by omega), List.getElem?_eq_getElem (by omega)⟩
          obtain ⟨c, hO⟩ := uh HS k p hp
          have c0 : wr.cell? ⟨b, k, none⟩ = some (.slice (some ⟨p.1, 0, none⟩) p.2.length p.2.length) := (hbr.cell (p := ⟨b, k, none⟩) (uh HB)).trans c
          have hcells := (hO.below hbr).cells
          have hst : (ps.take (k + 1)).flatMap (·.2) = (ps.take k).flatMap (·.2) ++ p.2 := by rw [take_snoc hp]; simp
          have hle1 := lens_take ps k
          have hle2 := lens_take ps (k + 1)
          have hl2 : lens (ps.take (k + 1)) = lens (ps.take k) + p.2.length := by rw [take_snoc hp, lens_snoc]
          have hk1 : (k : Int) < n := by omega
          have HC := hd hcells
          have HST := hd hst
          have HOWN := hd hown
          have HL := hd hl2
          have hq1 : lens (ps.take k) + p.2.length ≤ 1000 := by omega
          have HQ := hd hq1
          clear hcells hst hown hp c hO hl2 hle1 hle2 hq1
          unfold OwnO at HOWN
          unfold lens at HQ
          go_wp2_with (at_builtin; go_must (refine wpList_append_own_at _ rfl _ _ 22 rfl w.heap.size 27 i0 _ 3 32 Tryd.underOpSlice (uh HI) (uh HZ0) (uh HZ1) (uh HZ2) rfl (by decide) _ _ _ rfl (uh HOWN) ⟨p.1, 0, none⟩ p.2.length p.2.length (p.2.flatMap oRow) rfl (oRow_len _) (uh HC) (oRow_one _) (by have := uh HQ; unfold maxLen; omega) (by have := uh HQ; omega) hbr.size ?_; intro v' w1 hown' hgrow hnil' hbk'))
          have hown2 : OwnO w.heap.size w1 v' ((ps.take (k + 1)).flatMap (·.2)) := by
            rw [uh HST]
            unfold OwnO
            rw [List.flatMap_append, List.length_append]
            exact hown'
          have hbr2 : Below w.heap.size w w1 := hbr.grown hgrow hbr.size fun g hg => ((uh HOWN).lt g hg).1
          have HO2 := hd hown2
          clear hown' hown2 hnil' hbk' hgrow
          go_wp2_with fail
          go_roundw
          case rel => exact ⟨k + 1, by omega, by go_num, hbr2, uh HO2⟩
          case measure => simp [intOf]; omega
        · have htk : ps.take k = ps := List.take_of_length_le (by omega)
          rw [htk] at hown
          have HOWN := hd hown
          have hk1 : ¬ (k : Int) < n := by omega
          clear hown htk
          go_wp2_with fail
          go_ret
          exact ⟨_, rfl, hbr, uh HOWN⟩
end Go.Proofs.YtodolgpcnleahaaDoor

