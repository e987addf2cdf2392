import Derived.Test.YtkgebdljfmgmiaaGreatDoorQs
import Derived.Test.YtkgebdljfmgmiaaGreatDoorPqs
import Derived.Test.YtkgebdljfmgmiaaGreatDoorEs
import Derived.Test.YtkgebdljfmgmiaaGreatDoorMps
/- The contracts of hornref.Depth and of term.depthOf: how many storeys a term has. -/
namespace Go.Proofs.YtkgebdljfmgmiaaGreatDoor
open Go.RowKit Go.Shelf

def mxL (l : List Nat) : Nat := l.foldl max 0
/-- How deep a term is. -/
def depT : {n : Nat} → Tm n → Nat
  | 0, t => Empty.elim t
  | _ + 1, t => mxL (t.kids.map depT) + 1
theorem mxL_snoc (l : List Nat) (x : Nat) : mxL (l ++ [x]) = max (mxL l) x := by simp [mxL]
theorem mxL_take {n : Nat} (kids : List (Tm n)) (j : Nat) (u : Tm n) (h : kids[j]? = some u) : mxL ((kids.take (j + 1)).map depT) = max (mxL ((kids.take j).map depT)) (depT u) := by
  obtain ⟨hj, rfl⟩ := List.getElem?_eq_some_iff.1 h
  rw [List.take_succ_eq_append_getElem hj, List.map_append, List.map_cons, List.map_nil, mxL_snoc]
theorem mxL_le (l : List Nat) (m : Nat) (h : ∀ x ∈ l, x ≤ m) : mxL l ≤ m := by
  have key : ∀ (l : List Nat) (a : Nat), a ≤ m → (∀ x ∈ l, x ≤ m) → l.foldl max a ≤ m := by
    intro l
    induction l with
    | nil => intro a ha _; exact ha
    | cons x l ih => intro a ha hl; exact ih _ (by have := hl x (by simp); omega) (fun y hy => hl y (by simp [hy]))
  exact key l 0 (Nat.zero_le _) h
theorem dep_le : ∀ {n : Nat} (t : Tm n), depT t ≤ (parts t).length := by
  intro n
  induction n with
  | zero => intro t; exact Empty.elim t
  | succ n ih =>
    intro t
    obtain ⟨x, kids⟩ := t
    show mxL (kids.map depT) + 1 ≤ (x :: kids.flatMap parts).length
    have : mxL (kids.map depT) ≤ (kids.flatMap parts).length := mxL_le _ _ fun y hy => by
      obtain ⟨u, hu, rfl⟩ := List.mem_map.1 hy
      obtain ⟨j, hj⟩ := List.mem_iff_getElem?.1 hu
      have := pre_parts kids j u hj
      have := ih u
      omega
    simp only [List.length_cons]
    omega
theorem max_nat (a b : Nat) : (if a < b then (b : Int) else (a : Int)) = ((max a b : Nat) : Int) := by split <;> omega

set_option maxRecDepth 100000 in
set_option maxHeartbeats 1000000 in
theorem rdepth_any : ∀ (n : Nat) (t : Tm n) (w : World), IsT w.heap.size w t → (parts t).length ≤ 4611686018427387904 → Calls Tryz.prog 37 #[t.tv.val] w fun e W' => e = .returned (.int .i64 (depT t : Nat)) ∧ Below w.heap.size w W' := by
  intro n
  induction n with
  | zero => intro t; exact Empty.elim t
  | succ n ih =>
    intro t w ht hp
    obtain ⟨⟨k, kN, s, a, len, cap⟩, kids⟩ := t
    obtain ⟨hlen, hmax, hsm, hkids⟩ := ht
    simp only [Tm.tv, Tm.kids] at hlen hmax hsm hkids
    have hdl := dep_le (n := n + 1) ((⟨k, kN, s, a, len, cap⟩, kids) : TV × List (Tm n))
    have hps : ∀ (j : Nat) (u : Tm n), kids[j]? = some u → (parts u).length ≤ 4611686018427387904 := fun j u hu => by
      have := pre_parts kids j u hu
      have hp' : (kids.flatMap parts).length + 1 ≤ 4611686018427387904 := by simpa [parts, Tm.tv, Tm.kids] using hp
      omega
    have hmx : ∀ j, mxL ((kids.take j).map depT) ≤ 4611686018427387904 := fun j => mxL_le _ _ fun y hy => by
      obtain ⟨u, hu, rfl⟩ := List.mem_map.1 hy
      obtain ⟨i, hi⟩ := List.mem_iff_getElem?.1 (List.mem_of_mem_take hu)
      have := dep_le u
      have := hps i u hi
      omega
    simp only [Tm.tv, TV.val, depT, Tm.kids]
    have HI := hide ih
    have HPS := hide hps
    have HMX := hide hmx
    have hl1 : len ≤ kids.length := by omega
    have hl2 : kids.length ≤ len := by omega
    clear ih hps hmx hdl hp hlen
    go_enter Tryz.func37, Tryz.ntmps37
    go_wp2_with fail
    go_loopw [3, 4] (fun o i wr => ∃ j : Nat, j ≤ len ∧ i = .int .i64 j ∧ o = .int .i64 (mxL ((kids.take j).map depT) : Nat) ∧ Below (w.heap.size + 1) (w.alloc (.cells #[.int .i64 k, .int .i64 kN, .string s, .slice a len cap] 24)) wr) (fun _ i _ => len - (intOf i).toNat)
    case atStart => exact ⟨0, Nat.zero_le _, rfl, by simp [mxL], Below.refl _ _⟩
    case round =>
      obtain ⟨j, hj, rfl, rfl, hb⟩ := hrel
      obtain ⟨hc, hz⟩ : wr.cell? ⟨w.heap.size, 3, none⟩ = some (.slice a len cap) ∧ w.heap.size + 1 ≤ wr.heap.size := ⟨(hb.cell (p := ⟨w.heap.size, 3, none⟩) (by simp)).trans (by simp), by have := hb.size; simp at this; omega⟩
      have hbw : Below w.heap.size w wr := ((Below.refl _ w).alloc (Nat.le_refl _) _).trans (hb.mono (by omega))
      have hm := (unhide HMX) j
      by_cases hlt : j < len
      · obtain ⟨u, b, off, hu, rfl, ⟨c0, c1, c2, c3⟩, hT, hbk⟩ := kid_at hkids hbw hlt hl1
        have ihu := (unhide HI) u wr hT ((unhide HPS) j u hu)
        have hnx := mxL_take kids j u hu
        have hdu := dep_le u
        have hpu := (unhide HPS) j u hu
        have HNX := hide hnx
        have hj1 : (j : Int) < len := by omega
        clear hT hkids hu hnx
        generalize depT u = du at *
        generalize mxL ((kids.take j).map depT) = dm at *
        simp only [TV.val] at ihu
        go_wp2_with (go_at_call 37; refine ihu.mono ?_; clear ihu; rintro e W2 ⟨rfl, hb2⟩)
        exact ⟨⟨j + 1, by omega, by go_num, by rw [unhide HNX, ← max_nat], hb.trans (hb2.mono (by omega))⟩, by simp [intOf]; omega⟩
      · have ht : mxL ((kids.take j).map depT) = mxL (kids.map depT) := by rw [List.take_of_length_le (by omega)]
        have HT := hide ht
        clear ht hkids
        generalize mxL ((kids.take j).map depT) = dm at *
        go_wp2_with fail
        go_ret
        exact ⟨by rw [← unhide HT]; rfl, hbw⟩

set_option maxRecDepth 100000 in
set_option maxHeartbeats 1000000 in
theorem depthOf_any : ∀ (n : Nat) (t : Tm n) (w : World), IsT w.heap.size w t → (parts t).length ≤ 4611686018427387904 → Calls Tryz.prog 75 #[t.tv.val] w fun e W' => e = .returned (.int .i64 (depT t : Nat)) ∧ Below w.heap.size w W' := by
  intro n
  induction n with
  | zero => intro t; exact Empty.elim t
  | succ n ih =>
    intro t w ht hp
    obtain ⟨⟨k, kN, s, a, len, cap⟩, kids⟩ := t
    obtain ⟨hlen, hmax, hsm, hkids⟩ := ht
    simp only [Tm.tv, Tm.kids] at hlen hmax hsm hkids
    have hdl := dep_le (n := n + 1) ((⟨k, kN, s, a, len, cap⟩, kids) : TV × List (Tm n))
    have hps : ∀ (j : Nat) (u : Tm n), kids[j]? = some u → (parts u).length ≤ 4611686018427387904 := fun j u hu => by
      have := pre_parts kids j u hu
      have hp' : (kids.flatMap parts).length + 1 ≤ 4611686018427387904 := by simpa [parts, Tm.tv, Tm.kids] using hp
      omega
    have hmx : ∀ j, mxL ((kids.take j).map depT) ≤ 4611686018427387904 := fun j => mxL_le _ _ fun y hy => by
      obtain ⟨u, hu, rfl⟩ := List.mem_map.1 hy
      obtain ⟨i, hi⟩ := List.mem_iff_getElem?.1 (List.mem_of_mem_take hu)
      have := dep_le u
      have := hps i u hi
      omega
    simp only [Tm.tv, TV.val, depT, Tm.kids]
    have HI := hide ih
    have HPS := hide hps
    have HMX := hide hmx
    have hl1 : len ≤ kids.length := by omega
    have hl2 : kids.length ≤ len := by omega
    clear ih hps hmx hdl hp hlen
    go_enter Tryz.func75, Tryz.ntmps75
    go_wp2_with fail
    go_loopw [3, 9] (fun o i wr => ∃ j : Nat, j ≤ len ∧ i = .int .i64 j ∧ o = .int .i64 (mxL ((kids.take j).map depT) : Nat) ∧ Below (w.heap.size + 1) (w.alloc (.cells #[.int .i64 k, .int .i64 kN, .string s, .slice a len cap] 24)) wr) (fun _ i _ => len - (intOf i).toNat)
    case atStart => exact ⟨0, Nat.zero_le _, rfl, by simp [mxL], Below.refl _ _⟩
    case round =>
      obtain ⟨j, hj, rfl, rfl, hb⟩ := hrel
      obtain ⟨hc, hz⟩ : wr.cell? ⟨w.heap.size, 3, none⟩ = some (.slice a len cap) ∧ w.heap.size + 1 ≤ wr.heap.size := ⟨(hb.cell (p := ⟨w.heap.size, 3, none⟩) (by simp)).trans (by simp), by have := hb.size; simp at this; omega⟩
      have hbw : Below w.heap.size w wr := ((Below.refl _ w).alloc (Nat.le_refl _) _).trans (hb.mono (by omega))
      have hm := (unhide HMX) j
      by_cases hlt : j < len
      · obtain ⟨u, b, off, hu, rfl, ⟨c0, c1, c2, c3⟩, hT, hbk⟩ := kid_at hkids hbw hlt hl1
        have hb5 : Below wr.heap.size wr (wr.alloc (.cells #[.int .i64 u.tv.k, .int .i64 u.tv.N, .string u.tv.s, .slice u.tv.a u.tv.len u.tv.cap] 24)) := (Below.refl _ wr).alloc (Nat.le_refl _) _
        have ihu := (unhide HI) u _ ((hT.below hb5).mono hb5.size) ((unhide HPS) j u hu)
        have hnx := mxL_take kids j u hu
        have hdu := dep_le u
        have hpu := (unhide HPS) j u hu
        have HNX := hide hnx
        have hj1 : (j : Int) < len := by omega
        clear hT hkids hu hnx
        generalize depT u = du at *
        generalize mxL ((kids.take j).map depT) = dm at *
        simp only [TV.val] at ihu
        go_wp2_with (go_at_call 75; refine ihu.mono ?_; clear ihu; rintro e W2 ⟨rfl, hb2⟩)
        exact ⟨⟨j + 1, by omega, by go_num, by rw [unhide HNX, ← max_nat], hb.trans ((hb5.trans (hb2.mono (by simp))).mono (by omega))⟩, by simp [intOf]; omega⟩
      · have ht : mxL ((kids.take j).map depT) = mxL (kids.map depT) := by rw [List.take_of_length_le (by omega)]
        have HT := hide ht
        clear ht hkids
        generalize mxL ((kids.take j).map depT) = dm at *
        go_wp2_with fail
        go_ret
        exact ⟨by rw [← unhide HT]; rfl, hbw⟩
end Go.Proofs.YtkgebdljfmgmiaaGreatDoor

/- The contract of term.Measure: how many parts, how deep. -/
namespace Go.Proofs.YtkgebdljfmgmiaaGreatDoor
open Go.RowKit Go.Shelf Go.Maps
attribute [local go_sem] Oper.semAt_some

theorem boxT_then (w : World) (x : TV) : ∃ W2, (w.alloc (.cells #[.int .i64 x.k, .int .i64 x.N, .string x.s, .slice x.a x.len x.cap] 24)).alloc (.cells #[.int .i64 0] 3) = W2 ∧ Below w.heap.size w W2 ∧ BoxT W2 w.heap.size x ∧ Boxed W2 (w.heap.size + 1) 3 (.int .i64 0) ∧ W2.heap.size = w.heap.size + 2 := by
  have h := Boxed.new (w.alloc (.cells #[.int .i64 x.k, .int .i64 x.N, .string x.s, .slice x.a x.len x.cap] 24)) 3 (.int .i64 0)
  rw [World.size_alloc] at h
  exact ⟨_, rfl, ((Below.refl _ w).alloc (Nat.le_refl _) _).alloc (by simp) _, (BoxT.new w x).alloc _, h, by simp⟩

set_option maxRecDepth 100000 in
set_option maxHeartbeats 4000000 in
theorem measure_in (n : Nat) (hn : 4 ≤ n) {d : Nat} (t : Tm d) (w : World) (hT : IsT w.heap.size w t) (hok : okT t = true) (hl : (parts t).length ≤ 4194304) :
    CallsIn Fence.wide n Tryz.prog 34 #[t.tv.val] w fun e W' => e = .returned (.tuple #[.int .i64 ((parts t).length : Nat), .int .i64 (depT t : Nat), .int .i64 0]) ∧ Below w.heap.size w W' := by
  have h1 : 1 ≤ n := by omega
  obtain ⟨W2, hW2, hB2, hbx, hbn, hs2⟩ := boxT_then w t.tv
  have hch := check_in (n - 1) (by omega) t W2 ((hT.below hB2).mono hB2.size)
  rw [chk_yes hok] at hch
  have hdp := fun (W : World) (hb : Below w.heap.size w W) => depthOf_any d t W ((hT.below hb).mono hb.size) (by omega)
  obtain ⟨dp, hdpe⟩ : ∃ dp, depT t = dp := ⟨_, rfl⟩
  rw [hdpe] at hdp ⊢
  clear hdpe
  generalize hx0 : t.tv = x0 at *
  have Hx0 := hide hx0
  clear hx0
  have c0 := hbx.c0
  have c1 := hbx.c1
  have c2 := hbx.c2
  have c3 := hbx.c3
  simp only [TV.val] at hch hdp
  refine callsIn_of_wp_marks Tryz.func34 rfl trivial ?_ rfl
  simp only [TV.val, Tryz.ntmps34, List.size_toArray, List.length_cons, List.length_nil, Nat.reduceAdd, Nat.reduceSub, Array.replicate_succ, Array.replicate_zero, List.push_toArray, List.append_toArray, List.nil_append, List.cons_append]
  gi_wp2
  refine ⟨trivial, hch.mono ?_⟩
  clear hch c0 c1 c2 c3 hW2
  rintro e W1 ⟨rfl, hb1⟩
  have hbx1 : BoxT W1 w.heap.size x0 := (hb1.block w.heap.size (by omega)).trans hbx
  have hbn1 : Boxed W1 (w.heap.size + 1) 3 (.int .i64 0) := (hb1.block (w.heap.size + 1) (by omega)).trans hbn
  have hB : Below w.heap.size w W1 := hB2.trans (hb1.mono hB2.size)
  have hlt1 : w.heap.size + 2 ≤ W1.heap.size := by have := hb1.size; omega
  clear hbx hB2 hb1 hbn
  have d0 := hbx1.c0
  have d1 := hbx1.c1
  have d2 := hbx1.c2
  have d3 := hbx1.c3
  gi_wp2_with (refine ⟨trivial, ?_⟩; gi_at_call 32; refine (parts_in Fence.wide (n - 1) trivial rfl x0 _).mono ?_; rintro e w' ⟨rfl, rfl⟩)
  clear d0 d1 d2 d3
  have hbT := BoxT.new W1 x0
  have hB4 : Below w.heap.size w (W1.alloc (.cells #[.int .i64 x0.k, .int .i64 x0.N, .string x0.s, .slice x0.a x0.len x0.cap] 24)) := hB.alloc (by omega) _
  have hs4 : (W1.alloc (.cells #[.int .i64 x0.k, .int .i64 x0.N, .string x0.s, .slice x0.a x0.len x0.cap] 24)).heap.size = W1.heap.size + 1 := by simp
  have hbx4 := hbx1.alloc (.cells #[.int .i64 x0.k, .int .i64 x0.N, .string x0.s, .slice x0.a x0.len x0.cap] 24)
  have hbn4 := hbn1.alloc (.cells #[.int .i64 x0.k, .int .i64 x0.N, .string x0.s, .slice x0.a x0.len x0.cap] 24)
  obtain ⟨W4, hW4⟩ : ∃ W4, W1.alloc (.cells #[.int .i64 x0.k, .int .i64 x0.N, .string x0.s, .slice x0.a x0.len x0.cap] 24) = W4 := ⟨_, rfl⟩
  rw [hW4] at hbT hB4 hs4 hbx4 hbn4 ⊢
  clear hW4 hbx1 hbn1
  refine wpIn_rangeFunc_ownH rfl h1 (gf := 73) (lb := #[.pointer (some ⟨W1.heap.size, 0, none⟩)]) rfl trivial (enters_of Tryz.func73 (by kernel_rfl) rfl)
    (parts_stops Fence.wide rfl (n - 1) trivial trivial rfl W1.heap.size w.heap.size W4.heap.size t W4 (by rw [unhide Hx0]; exact hbT) (hT.below hB4) (by omega) (Nat.le_refl _)) Kp.trans (Kp.putObj (w := W4)) (Below.refl _ _) (fun _ => rfl)
    (fun pre W => (Boxed W (w.heap.size + 1) 3 (.int .i64 (pre.length : Nat)) ∧ BoxT W w.heap.size x0) ∧ Below w.heap.size w W)
    (fun _ _ _ => False)
    (OwnFrom.and (OwnFrom.and (Own.from (boxed_own _ _ (fun pre : List TV => Value.int .i64 (pre.length : Nat))) _) (Own.from (boxT_own w.heap.size (fun _ : List TV => x0)) _)) (ownFrom_below (Nat.le_refl _) (by omega)))
    (fun c s A B row hs hg hr => hs)
    ⟨⟨hbn4, hbx4⟩, hB4⟩
    (fun x a' W => a' = { tmps := #[.agg #[.int .i64 x0.k, .int .i64 x0.N, .string x0.s, .slice x0.a x0.len x0.cap], .pointer (some ⟨w.heap.size, 0, none⟩), .pointer (some ⟨w.heap.size + 1, 0, none⟩), .int .i64 0, .int .i64 0, .agg #[.int .i64 x0.k, .int .i64 x0.N, .string x0.s, .slice x0.a x0.len x0.cap], .int .i64 0, .int .i64 0, .bool false, undef, .agg #[.int .i64 x0.k, .int .i64 x0.N, .string x0.s, .slice x0.a x0.len x0.cap], .func (.func 73) #[] #[.pointer (some ⟨W1.heap.size, 0, none⟩)], x.val, undef, undef, undef, undef, undef], defers := [] })
    (fun x a' _ X Y row hs hg hr => hs)
    ?assign ?body ?done ?stop
  case assign =>
    rintro l' pre x W K hI hK
    simp only [TV.val]
    gi_wp2
    exact hK _ _ (KeepsFrom.refl _ _) (Kp.refl _ _ W) hI (by simp [TV.val])
  case body =>
    rintro l' pre x a' W hl' ⟨r, hr⟩ ⟨⟨hbn', hbx'⟩, hB'⟩ rfl hlt
    have c0 := hbn'.cell
    have f0 := hbn'.frozen
    gi_wp2
    have hB5 := hB'.setCell (p := ⟨w.heap.size + 1, 0, none⟩) (by simp) (.int .i64 ((pre.length : Nat) + 1))
    refine ⟨(KeepsOthers.setCell _ _ _).from _, ⟨by simp, fun i o hi ha hc => ?_⟩, ⟨?_, ?_⟩, hB5⟩
    · rw [Below.heap_setCell _ _ _ _ (by simp; omega)]
      exact ha
    · have := hbn'.set (.int .i64 ((pre.length : Nat) + 1))
      simpa using this
    · unfold BoxT
      rw [Below.heap_setCell _ _ _ _ (by simp)]
      exact hbx'
  case done =>
    rintro D ys W hD rfl ⟨⟨hbn', hbx'⟩, hB'⟩ hK
    have hd := (hdp W.drew hB'.drew).mono (R' := fun e W5 => e = .returned (.int .i64 (dp : Nat)) ∧ Below W.heap.size W W5) (fun e W5 h => ⟨h.1, (Below.refl _ W).drew.trans h.2⟩)
    have hlt5 : w.heap.size + 1 < W.heap.size := hbn'.lt
    have hlt6 : w.heap.size < W.heap.size := hbx'.lt
    have c0 := hbx'.c0
    have c1 := hbx'.c1
    have c2 := hbx'.c2
    have c3 := hbx'.c3
    have m0 := hbn'.cell
    have m1 := hbn'.frozen
    gi_wp2
    refine wpIn_wide.2 ?_
    go_region_held3 (fun w' => w'.cell? ⟨w.heap.size, 0, none⟩ = some (.int .i64 x0.k) ∧ w'.cell? ⟨w.heap.size, 1, none⟩ = some (.int .i64 x0.N) ∧ w'.cell? ⟨w.heap.size, 2, none⟩ = some (.string x0.s) ∧ w'.cell? ⟨w.heap.size, 3, none⟩ = some (.slice x0.a x0.len x0.cap) ∧ w'.cell? ⟨w.heap.size + 1, 0, none⟩ = some (.int .i64 ((parts t).length : Nat)) ∧ w'.frozen? ⟨w.heap.size + 1, 0, none⟩ = false) (first | (go_keep; done) | (refine ⟨?_, ?_, ?_, ?_, ?_, ?_⟩ <;> first | (refine World.cell?_setCell_same' _ _ _ ?_; simp [*]; done) | (go_keep; done)))
      (first | (go_at_call 75; refine hd.mono ?_; clear hd; rintro e W5 ⟨rfl, hb5⟩; have hbc := bcell hb5; have q1 := (hb5.frozen (p := ⟨w.heap.size + 1, 0, none⟩) hlt5).trans m1))
    gi_wp2
    have hDl := (Array.getElem?_eq_some_iff.1 hK).1
    have hK5 : (W5.setCell ⟨w.heap.size + 1, 0, none⟩ (.int .i64 ((parts t).length : Nat))).heap[D]? = some (.deferred (some [])) := by
      rw [Below.heap_setCell _ _ _ _ (by simp; omega), hb5.block D hDl]
      exact hK
    have hB5 : Below w.heap.size w (W5.setCell ⟨w.heap.size + 1, 0, none⟩ (.int .i64 ((parts t).length : Nat))) := (hB'.trans (hb5.mono hB'.size)).setCell (p := ⟨w.heap.size + 1, 0, none⟩) (by simp) _
    have hbn5 : Boxed W5 (w.heap.size + 1) 3 (.int .i64 ((parts t).length : Nat)) := (hb5.block _ hlt5).trans hbn'
    have hc5 := cell_kept (hbn5.set (.int .i64 ((parts t).length : Nat))).cell (grownBy_putObj' _ D (.deferred none)) (fun r e => by cases e; exact ⟨_, hK5, rfl⟩)
    refine ⟨by simp, .inl ⟨_, _, rfl, run_takeDeferred hK5, ?_⟩⟩
    refine ⟨.tuple #[.int .i64 ((parts t).length : Nat), .int .i64 (dp : Nat), .int .i64 0], ?_, rfl, hB5.trans (belowK_b (w := w) (Nat.le_refl _) _ D _ _ (by omega) hK5 rfl rfl)⟩
    simp [results, Tryz.f34, go_sem, hc5]
  case stop => rintro D c pre W hD hpre h; exact h.elim
theorem measure_any {d : Nat} (t : Tm d) (w : World) (hT : IsT w.heap.size w t) (hok : okT t = true) (hl : (parts t).length ≤ 4194304) :
    Calls Tryz.prog 34 #[t.tv.val] w fun e W' => e = .returned (.tuple #[.int .i64 ((parts t).length : Nat), .int .i64 (depT t : Nat), .int .i64 0]) ∧ Below w.heap.size w W' :=
  callsIn_wide.1 (measure_in 4 (Nat.le_refl _) t w hT hok hl)

set_option maxRecDepth 100000 in
set_option maxHeartbeats 1000000 in
theorem measure_bad {d : Nat} (t : Tm d) (w : World) (hT : IsT w.heap.size w t) (hok : okT t = false) :
    Calls Tryz.prog 34 #[t.tv.val] w fun e W' => e = .returned (.tuple #[.int .i64 0, .int .i64 0, .int .i64 2]) ∧ Below w.heap.size w W' := by
  obtain ⟨W2, hW2, hB2, hbx, hbn, hs2⟩ := boxT_then w t.tv
  have hch := check_any t W2 ((hT.below hB2).mono hB2.size)
  rw [chk_no hok] at hch
  have c0 := hbx.c0
  have c1 := hbx.c1
  have c2 := hbx.c2
  have c3 := hbx.c3
  clear hT hok hbx
  simp only [TV.val] at hch ⊢
  go_enter Tryz.func34, Tryz.ntmps34
  go_wp2_with fail
  refine hch.mono ?_
  clear hch hW2 c0 c1 c2 c3
  rintro e W1 ⟨rfl, hb1⟩
  have hbn1 : Boxed W1 (w.heap.size + 1) 3 (.int .i64 0) := (hb1.block (w.heap.size + 1) (by omega)).trans hbn
  have hB : Below w.heap.size w W1 := hB2.trans (hb1.mono hB2.size)
  have m0 := hbn1.cell
  have m1 := hbn1.frozen
  have m2 := (hbn1.set (.int .i64 0)).cell
  have hBf : Below w.heap.size w (W1.setCell ⟨w.heap.size + 1, 0, none⟩ (.int .i64 0)) := hB.setCell (p := ⟨w.heap.size + 1, 0, none⟩) (by simp) _
  clear hB2 hb1 hbn hbn1 hB
  go_wp2_with fail
  exact bodyPost_ret (v := .tuple #[.int .i64 0, .int .i64 0, .int .i64 2]) (by simp [results, Tryz.results34, go_sem, m2]) rfl ⟨rfl, hBf⟩
end Go.Proofs.YtkgebdljfmgmiaaGreatDoor

/- The contracts of hornref.Less and hornref.Compare: the order of terms. -/
namespace Go.Proofs.YtkgebdljfmgmiaaGreatDoor
open Go.RowKit Go.Shelf

theorem thenC_neg {c d : Int} (h : c ≠ 0) : thenC c d = c := if_pos h
theorem thenC_pos {d : Int} : thenC 0 d = d := if_neg (by simp)
theorem cmp3_self (a : Int) : cmp3 a a = 0 := cmp3_zero.2 rfl
theorem cmp3_less {a b : Int} : cmp3 a b < 0 ↔ a < b := by unfold cmp3; split <;> (try split) <;> omega
theorem cmpS_self (a : List UInt8) : cmpS a a = 0 := cmpS_zero.2 rfl
theorem cmpS_neg {a b : List UInt8} : cmpS a b < 0 ↔ Op.bytesLess a b = true := by
  unfold cmpS
  split
  · simp_all
  · split <;> simp_all
/-- Less than, by the order. -/
def lessT {n : Nat} (a b : Tm n) : Bool := decide (ordT a b < 0)
theorem less_kind {n : Nat} {x y : TV} {a b : List (Tm n)} (h : x.k ≠ y.k) : lessT (n := n + 1) ((x, a) : TV × List (Tm n)) ((y, b) : TV × List (Tm n)) = decide (x.k < y.k) := by
  have h1 : cmp3 x.k y.k ≠ 0 := fun e => h (cmp3_zero.1 e)
  unfold lessT
  show decide (thenC (otop x y) _ < 0) = _
  unfold otop
  rw [thenC_neg h1, thenC_neg h1]
  exact decide_eq_decide.2 cmp3_less
theorem less_num {n : Nat} {x y : TV} {a b : List (Tm n)} (hk : x.k = y.k) (hl : x.len = y.len) (hs : x.s.toList = y.s.toList) (ha : a = []) (hb : b = []) : lessT (n := n + 1) ((x, a) : TV × List (Tm n)) ((y, b) : TV × List (Tm n)) = decide (x.N < y.N) := by
  subst ha hb
  unfold lessT
  show decide (thenC (otop x y) (lexL ordT [] []) < 0) = _
  unfold otop
  rw [hk, hl, hs, cmp3_self, cmp3_self, cmpS_self, thenC_pos, thenC_pos]
  by_cases h : x.N = y.N
  · rw [h, cmp3_self, thenC_pos, thenC_pos]; simp [lexL]
  · have h1 : cmp3 x.N y.N ≠ 0 := fun e => h (cmp3_zero.1 e)
    rw [thenC_neg h1, thenC_neg h1]
    exact decide_eq_decide.2 cmp3_less
theorem less_len {n : Nat} {x y : TV} {a b : List (Tm n)} (hk : x.k = y.k) (hN : x.N = y.N) (hl : x.len ≠ y.len) : lessT (n := n + 1) ((x, a) : TV × List (Tm n)) ((y, b) : TV × List (Tm n)) = decide (x.len < y.len) := by
  have h1 : cmp3 x.len y.len ≠ 0 := fun e => hl (by have := cmp3_zero.1 e; omega)
  unfold lessT
  show decide (thenC (otop x y) _ < 0) = _
  unfold otop
  rw [hk, hN, cmp3_self, cmp3_self, thenC_pos, thenC_pos, thenC_neg h1, thenC_neg h1]
  exact decide_eq_decide.2 (cmp3_less.trans (by omega))
theorem less_name {n : Nat} {x y : TV} {a b : List (Tm n)} (hk : x.k = y.k) (hN : x.N = y.N) (hl : x.len = y.len) (hs : x.s.toList ≠ y.s.toList) : lessT (n := n + 1) ((x, a) : TV × List (Tm n)) ((y, b) : TV × List (Tm n)) = Op.bytesLess x.s.toList y.s.toList := by
  have h1 : cmpS x.s.toList y.s.toList ≠ 0 := fun e => hs (cmpS_zero.1 e)
  unfold lessT
  show decide (thenC (otop x y) _ < 0) = _
  unfold otop
  rw [hk, hN, hl, cmp3_self, cmp3_self, cmp3_self, thenC_pos, thenC_pos, thenC_pos, thenC_neg h1, Bool.eq_iff_iff, decide_eq_true_eq]
  exact cmpS_neg
theorem less_kids {n : Nat} {x y : TV} {a b : List (Tm n)} (h : stop x y = true) : lessT (n := n + 1) ((x, a) : TV × List (Tm n)) ((y, b) : TV × List (Tm n)) = decide (lexL ordT a b < 0) := by
  unfold lessT
  show decide (thenC (otop x y) (lexL ordT a b) < 0) = _
  rw [otop_zero.2 h, thenC_pos]

set_option maxRecDepth 100000 in
set_option maxHeartbeats 2000000 in
theorem rless_any : ∀ (n : Nat) (x y : Tm n) (w : World), IsT w.heap.size w x → IsT w.heap.size w y → okT x = true → okT y = true → Calls Tryz.prog 79 #[x.tv.val, y.tv.val] w fun e W' => e = .returned (.bool (lessT x y)) ∧ Below w.heap.size w W' := by
  intro n
  induction n with
  | zero => intro t; exact Empty.elim t
  | succ n ih =>
    intro x y w hx hy ox oy
    obtain ⟨⟨k, kN, s, a, len, cap⟩, kids⟩ := x
    obtain ⟨⟨k', kN', s', a', len', cap'⟩, kids'⟩ := y
    obtain ⟨hlen, hmax, hsm, hkids⟩ := hx
    obtain ⟨hlen', hmax', hsm', hkids'⟩ := hy
    obtain ⟨wx, okx⟩ := ok_kids ox
    obtain ⟨wy, oky⟩ := ok_kids oy
    simp only [Tm.tv, Tm.kids] at hlen hmax hsm hkids hlen' hmax' hsm' hkids' wx wy
    have HI := hide ih
    have HOX := hide okx
    have HOY := hide oky
    clear ih ox oy okx oky
    suffices key : ∀ r, lessT (n := n + 1) ((⟨k, kN, s, a, len, cap⟩, kids) : TV × List (Tm n)) ((⟨k', kN', s', a', len', cap'⟩, kids') : TV × List (Tm n)) = r → Calls Tryz.prog 79 #[.agg #[.int .i64 k, .int .i64 kN, .string s, .slice a len cap], .agg #[.int .i64 k', .int .i64 kN', .string s', .slice a' len' cap']] w fun e W' => e = .returned (.bool r) ∧ Below w.heap.size w W' from key _ rfl
    intro r hr
    by_cases hk : k = k'
    · subst hk
      by_cases hk12 : k = 1 ∨ k = 2
      · have hl0 : len = 0 ∧ s.toList = [] := by rcases hk12 with rfl | rfl <;> (simp [wmB] at wx; constructor <;> first | omega | exact wx.1.2 | exact wx.1)
        have hl0' : len' = 0 ∧ s'.toList = [] := by rcases hk12 with rfl | rfl <;> (simp [wmB] at wy; constructor <;> first | omega | exact wy.1.2 | exact wy.1)
        have hkn : kids = [] := List.length_eq_zero_iff.1 (by omega)
        have hkn' : kids' = [] := List.length_eq_zero_iff.1 (by omega)
        have hll : len = len' := by omega
        have hss : s.toList = s'.toList := by rw [hl0.2, hl0'.2]
        have e := less_num (x := ⟨k, kN, s, a, len, cap⟩) (y := ⟨k, kN', s', a', len', cap'⟩) (a := kids) (b := kids') rfl hll hss hkn hkn'
        rw [hr] at e
        simp only at e
        subst e
        clear hkn hkn' hll hss
        clear hkids hkids' HI HOX HOY wx wy hl0 hl0' hlen hlen' hr
        rcases hk12 with rfl | rfl
        all_goals
          go_enter Tryz.func79, Tryz.ntmps79
          go_wp2_with fail
          go_ret
          exact ⟨rfl, ((Below.refl _ w).alloc (Nat.le_refl _) _).alloc (by simp) _⟩
      · have hN : kN = kN' := by
          have h1 : kN = 0 := by
            unfold wmB at wx
            rw [if_neg (by omega), if_neg (by omega)] at wx
            split at wx
            · simp at wx; exact wx.1.1
            · split at wx
              · simp at wx; exact wx.1.1.1
              · cases wx
          have h2 : kN' = 0 := by
            unfold wmB at wy
            rw [if_neg (by omega), if_neg (by omega)] at wy
            split at wy
            · simp at wy; exact wy.1.1
            · split at wy
              · simp at wy; exact wy.1.1.1
              · cases wy
          omega
        have hk1 : (k == 1) = false := by simp; omega
        have hk2 : (k == 2) = false := by simp; omega
        subst hN
        clear wx wy hk12
        by_cases hl : len = len'
        · have hlx : ((len : Int) != (len' : Int)) = false := by simp; omega
          by_cases hs : s.toList = s'.toList
          · have hst : stop (⟨k, kN, s, a, len, cap⟩ : TV) ⟨k, kN, s', a', len', cap'⟩ = true := by simp [stop, hs, hl]
            have e := less_kids (x := ⟨k, kN, s, a, len, cap⟩) (y := ⟨k, kN, s', a', len', cap'⟩) (a := kids) (b := kids') hst
            rw [hr] at e
            subst e
            have hs' : (s.toList == s'.toList) = true := by simp [hs]
            have hl1 : len ≤ kids.length := by omega
            have hl2 : kids.length ≤ len := by omega
            have hl3 : len ≤ kids'.length := by omega
            have hl4 : kids'.length ≤ len := by omega
            have hl5 : (len : Int) ≤ len' := by omega
            clear hlen hlen' hl hr hs hst
            go_enter Tryz.func79, Tryz.ntmps79
            go_wp2_with fail
            obtain ⟨W1, hW1⟩ : ∃ W1, (w.alloc (.cells #[.int .i64 k, .int .i64 kN, .string s, .slice a len cap] 24)).alloc (.cells #[.int .i64 k, .int .i64 kN, .string s', .slice a' len' cap'] 24) = W1 := ⟨_, rfl⟩
            have hBB := Below.refl ((w.alloc (.cells #[.int .i64 k, .int .i64 kN, .string s, .slice a len cap] 24)).alloc (.cells #[.int .i64 k, .int .i64 kN, .string s', .slice a' len' cap'] 24)).heap.size ((w.alloc (.cells #[.int .i64 k, .int .i64 kN, .string s, .slice a len cap] 24)).alloc (.cells #[.int .i64 k, .int .i64 kN, .string s', .slice a' len' cap'] 24))
            obtain ⟨⟨hb1, hzz⟩, hcc, hcd⟩ := two_boxes hBB
            clear hBB
            rw [hW1] at hb1 hzz hcc hcd ⊢
            clear hW1
            go_loopw [5] (fun i wr => ∃ j : Nat, j ≤ len ∧ i = .int .i64 j ∧ lexL ordT (kids.take j) (kids'.take j) = 0 ∧ Below W1.heap.size W1 wr) (fun i _ => len - (intOf i).toNat)
            case atStart => exact ⟨0, Nat.zero_le _, rfl, by simp [lexL], Below.refl _ _⟩
            case round =>
              obtain ⟨j, hj, rfl, ho, hb⟩ := hrel
              have hbw : Below w.heap.size w wr := hb1.trans (hb.mono (by omega))
              have HO := hide ho
              clear ho
              replace hcc := (hb.cell (p := ⟨w.heap.size, 3, none⟩) (by simp; omega)).trans hcc
              replace hcd := (hb.cell (p := ⟨w.heap.size + 1, 3, none⟩) (by simp; omega)).trans hcd
              by_cases hlt : j < len
              · obtain ⟨u, b, off, hu, rfl, ⟨c0, c1, c2, c3⟩, hT, hbk⟩ := kid_at hkids hbw hlt hl1
                obtain ⟨v, b', off', hv, rfl, ⟨d0, d1, d2, d3⟩, hT', hbk'⟩ := kid_at hkids' hbw hlt hl3
                have hj1 : (j : Int) < len := by omega
                have hj2 : (j : Int) < len' := by omega
                have hsame : Calls Tryz.prog 41 #[.agg #[.int .i64 u.tv.k, .int .i64 u.tv.N, .string u.tv.s, .slice u.tv.a u.tv.len u.tv.cap], .agg #[.int .i64 v.tv.k, .int .i64 v.tv.N, .string v.tv.s, .slice v.tv.a v.tv.len v.tv.cap]] wr.drew fun e W2 => e = .returned (.bool (sameT u v)) ∧ Below wr.heap.size wr W2 :=
                  (same_any n u v wr.drew (hT.below (Below.refl _ wr).drew) (hT'.below (Below.refl _ wr).drew)).mono fun e W2 h => ⟨h.1, (Below.refl _ wr).drew.trans h.2⟩
                have hless : ∀ W2, Below wr.heap.size wr W2 → Calls Tryz.prog 79 #[.agg #[.int .i64 u.tv.k, .int .i64 u.tv.N, .string u.tv.s, .slice u.tv.a u.tv.len u.tv.cap], .agg #[.int .i64 v.tv.k, .int .i64 v.tv.N, .string v.tv.s, .slice v.tv.a v.tv.len v.tv.cap]] W2.drew fun e W3 => e = .returned (.bool (lessT u v)) ∧ Below W2.heap.size W2 W3 := fun W2 h2 =>
                  ((unhide HI) u v W2.drew ((hT.below h2.drew).mono h2.drew.size) ((hT'.below h2.drew).mono h2.drew.size) ((unhide HOX) u (List.mem_of_getElem? hu)) ((unhide HOY) v (List.mem_of_getElem? hv))).mono fun e W3 h => ⟨h.1, (Below.refl _ W2).drew.trans h.2⟩
                have hy1 : w.heap.size < wr.heap.size := by have := hb.size; omega
                have hy2 : w.heap.size + 1 < wr.heap.size := by have := hb.size; omega
                have hy3 : b < wr.heap.size := by omega
                have hy4 : b' < wr.heap.size := by omega
                have hstop : sameT u v = false → decide (lexL ordT kids kids' < 0) = lessT u v := fun h => by
                  have hne : ordT u v ≠ 0 := fun e => by rw [(ord_zero u v).1 e] at h; cases h
                  rw [lexL_stop kids kids' j u v hu hv (unhide HO) hne]; rfl
                have hnext : sameT u v = true → lexL ordT (kids.take (j + 1)) (kids'.take (j + 1)) = 0 := fun h => lexL_next kids kids' j u v hu hv (unhide HO) ((ord_zero u v).2 h)
                clear hkids hkids' hT hT' hu hv
                generalize sameT u v = d at *
                generalize lessT u v = q at *
                have HN := hide hnext
                have HS := hide hstop
                have HL := hide hless
                clear hnext hstop hless
                cases d with
                | true =>
                  go_wp2_with fail
                  go_region_held3 (fun w' => w'.cell? ⟨w.heap.size, 3, none⟩ = some (.slice (some ⟨b, off, none⟩) len cap) ∧ w'.cell? ⟨w.heap.size + 1, 3, none⟩ = some (.slice (some ⟨b', off', none⟩) len' cap')
                  ∧ w'.cell? ⟨b, off + j * 4, none⟩ = some (.int .i64 u.tv.k) ∧ w'.cell? ⟨b, off + j * 4 + 1, none⟩ = some (.int .i64 u.tv.N) ∧ w'.cell? ⟨b, off + j * 4 + 2, none⟩ = some (.string u.tv.s) ∧ w'.cell? ⟨b, off + j * 4 + 3, none⟩ = some (.slice u.tv.a u.tv.len u.tv.cap)
                  ∧ w'.cell? ⟨b', off' + j * 4, none⟩ = some (.int .i64 v.tv.k) ∧ w'.cell? ⟨b', off' + j * 4 + 1, none⟩ = some (.int .i64 v.tv.N) ∧ w'.cell? ⟨b', off' + j * 4 + 2, none⟩ = some (.string v.tv.s) ∧ w'.cell? ⟨b', off' + j * 4 + 3, none⟩ = some (.slice v.tv.a v.tv.len v.tv.cap)) (go_keep)
                    (first | (go_at_call 41; refine hsame.mono ?_; clear hsame; rintro e W2 ⟨rfl, hb2⟩; have hbc := bcell hb2))
                  go_wp2_with fail
                  go_roundw
                  case rel => exact ⟨j + 1, by omega, by go_num, (unhide HN) (by simp), hb.trans (hb2.mono hb.size)⟩
                  case measure => simp [intOf]; omega
                | false =>
                  go_wp2_with fail
                  go_region_held3 (fun w' => w'.cell? ⟨w.heap.size, 3, none⟩ = some (.slice (some ⟨b, off, none⟩) len cap) ∧ w'.cell? ⟨w.heap.size + 1, 3, none⟩ = some (.slice (some ⟨b', off', none⟩) len' cap')
                  ∧ w'.cell? ⟨b, off + j * 4, none⟩ = some (.int .i64 u.tv.k) ∧ w'.cell? ⟨b, off + j * 4 + 1, none⟩ = some (.int .i64 u.tv.N) ∧ w'.cell? ⟨b, off + j * 4 + 2, none⟩ = some (.string u.tv.s) ∧ w'.cell? ⟨b, off + j * 4 + 3, none⟩ = some (.slice u.tv.a u.tv.len u.tv.cap)
                  ∧ w'.cell? ⟨b', off' + j * 4, none⟩ = some (.int .i64 v.tv.k) ∧ w'.cell? ⟨b', off' + j * 4 + 1, none⟩ = some (.int .i64 v.tv.N) ∧ w'.cell? ⟨b', off' + j * 4 + 2, none⟩ = some (.string v.tv.s) ∧ w'.cell? ⟨b', off' + j * 4 + 3, none⟩ = some (.slice v.tv.a v.tv.len v.tv.cap)) (go_keep)
                    (first | (go_at_call 41; refine hsame.mono ?_; clear hsame; rintro e W2 ⟨rfl, hb2⟩; have hbc := bcell hb2))
                  have hls := (unhide HL) W2 hb2
                  have hz2 := hb2.size
                  have e1 : W2.cell? ⟨w.heap.size, 3, none⟩ = some (.slice (some ⟨b, off, none⟩) len cap) := (hbc _ _ hy1).trans hcc
                  have e2 : W2.cell? ⟨w.heap.size + 1, 3, none⟩ = some (.slice (some ⟨b', off', none⟩) len' cap') := (hbc _ _ hy2).trans hcd
                  have f0 := (hbc b (off + j * 4) hy3).trans c0
                  have f1 := (hbc b (off + j * 4 + 1) hy3).trans c1
                  have f2 := (hbc b (off + j * 4 + 2) hy3).trans c2
                  have f3 := (hbc b (off + j * 4 + 3) hy3).trans c3
                  have g0 := (hbc b' (off' + j * 4) hy4).trans d0
                  have g1 := (hbc b' (off' + j * 4 + 1) hy4).trans d1
                  have g2 := (hbc b' (off' + j * 4 + 2) hy4).trans d2
                  have g3 := (hbc b' (off' + j * 4 + 3) hy4).trans d3
                  have hq1 : w.heap.size < W2.heap.size := by omega
                  have hq2 : w.heap.size + 1 < W2.heap.size := by omega
                  have hq3 : b < W2.heap.size := by omega
                  have hq4 : b' < W2.heap.size := by omega
                  clear hbc
                  go_wp2_with fail
                  go_region_held3 (fun w' => w'.cell? ⟨w.heap.size, 3, none⟩ = some (.slice (some ⟨b, off, none⟩) len cap) ∧ w'.cell? ⟨w.heap.size + 1, 3, none⟩ = some (.slice (some ⟨b', off', none⟩) len' cap')
                  ∧ w'.cell? ⟨b, off + j * 4, none⟩ = some (.int .i64 u.tv.k) ∧ w'.cell? ⟨b, off + j * 4 + 1, none⟩ = some (.int .i64 u.tv.N) ∧ w'.cell? ⟨b, off + j * 4 + 2, none⟩ = some (.string u.tv.s) ∧ w'.cell? ⟨b, off + j * 4 + 3, none⟩ = some (.slice u.tv.a u.tv.len u.tv.cap)
                  ∧ w'.cell? ⟨b', off' + j * 4, none⟩ = some (.int .i64 v.tv.k) ∧ w'.cell? ⟨b', off' + j * 4 + 1, none⟩ = some (.int .i64 v.tv.N) ∧ w'.cell? ⟨b', off' + j * 4 + 2, none⟩ = some (.string v.tv.s) ∧ w'.cell? ⟨b', off' + j * 4 + 3, none⟩ = some (.slice v.tv.a v.tv.len v.tv.cap)) (go_keep)
                    (first | (go_at_call 79; refine hls.mono ?_; clear hls; rintro e W3 ⟨rfl, hb3⟩; have hbd := bcell hb3))
                  go_wp2_with fail
                  go_ret
                  exact ⟨ret_bool ((unhide HS) (by simp)).symm, hbw.trans ((hb2.trans (hb3.mono hz2)).mono hbw.size)⟩
              · have ht : kids.take j = kids := List.take_of_length_le (by omega)
                have ht' : kids'.take j = kids' := List.take_of_length_le (by omega)
                have hz : lexL ordT kids kids' = 0 := by have h := unhide HO; rw [ht, ht'] at h; exact h
                have HZ := hide hz
                clear ht ht' hkids hkids' hz
                go_wp2_with fail
                go_ret
                exact ⟨ret_bool (by rw [unhide HZ]; rfl), hbw⟩
          · have e := less_name (x := ⟨k, kN, s, a, len, cap⟩) (y := ⟨k, kN, s', a', len', cap'⟩) (a := kids) (b := kids') rfl rfl hl hs
            rw [hr] at e
            simp only at e
            subst e
            have hs' : (s.toList == s'.toList) = false := by simp [hs]
            clear hkids hkids' HI HOX HOY hlen hlen' hl hr hs
            go_enter Tryz.func79, Tryz.ntmps79
            go_wp2_with fail
            go_ret
            exact ⟨rfl, ((Below.refl _ w).alloc (Nat.le_refl _) _).alloc (by simp) _⟩
        · have hlx : ((len : Int) != (len' : Int)) = true := by simp; omega
          have e := less_len (x := ⟨k, kN, s, a, len, cap⟩) (y := ⟨k, kN, s', a', len', cap'⟩) (a := kids) (b := kids') rfl rfl hl
          rw [hr] at e
          simp only at e
          subst e
          clear hkids hkids' HI HOX HOY hlen hlen' hl hr
          go_enter Tryz.func79, Tryz.ntmps79
          go_wp2_with fail
          go_ret
          exact ⟨rfl, ((Below.refl _ w).alloc (Nat.le_refl _) _).alloc (by simp) _⟩
    · have hk' : (k != k') = true := by simp [hk]
      have e := less_kind (x := ⟨k, kN, s, a, len, cap⟩) (y := ⟨k', kN', s', a', len', cap'⟩) (a := kids) (b := kids') hk
      rw [hr] at e
      simp only at e
      subst e
      clear hkids hkids' HI HOX HOY wx wy hlen hlen' hk hr
      go_enter Tryz.func79, Tryz.ntmps79
      go_wp2_with fail
      go_ret
      exact ⟨rfl, ((Below.refl _ w).alloc (Nat.le_refl _) _).alloc (by simp) _⟩

set_option maxRecDepth 100000 in
set_option maxHeartbeats 1000000 in
theorem rcompare_any {n : Nat} (x y : Tm n) (w : World) (hx : IsT w.heap.size w x) (hy : IsT w.heap.size w y) (ox : okT x = true) (oy : okT y = true) :
    Calls Tryz.prog 45 #[x.tv.val, y.tv.val] w fun e W' => e = .returned (.int .i64 (ordT x y)) ∧ Below w.heap.size w W' := by
  have hr := (isCmp_ord n).range x y
  have ha := (isCmp_ord n).anti x y
  obtain ⟨W2, hW2, hB2, hba, hbb, hsz⟩ := two_new w x.tv y.tv
  have h1 := rless_any n x y W2 ((hx.below hB2).mono hB2.size) ((hy.below hB2).mono hB2.size) ox oy
  have h2 := fun (W : World) (hb : Below w.heap.size w W) => rless_any n y x W ((hy.below hb).mono hb.size) ((hx.below hb).mono hb.size) oy ox
  unfold lessT at h1 h2
  have c0 := hba.c0
  have c1 := hba.c1
  have c2 := hba.c2
  have c3 := hba.c3
  have d0 := hbb.c0
  have d1 := hbb.c1
  have d2 := hbb.c2
  have d3 := hbb.c3
  generalize ordT x y = r at *
  generalize ordT y x = q at *
  have HH2 := hide h2
  clear hx hy ox oy h2
  simp only [TV.val] at h1 HH2 ⊢
  go_enter Tryz.func45, Tryz.ntmps45
  go_wp2_with fail
  refine h1.mono ?_
  clear h1 c0 c1 c2 c3 d0 d1 d2 d3 hW2
  rintro e W3 ⟨rfl, hb3⟩
  have hB3 : Below w.heap.size w W3 := hB2.trans (hb3.mono hB2.size)
  have hba3 : BoxT W3 w.heap.size x.tv := (hb3.block _ (by omega)).trans hba
  have hbb3 : BoxT W3 (w.heap.size + 1) y.tv := (hb3.block _ (by omega)).trans hbb
  have c0 := hba3.c0
  have c1 := hba3.c1
  have c2 := hba3.c2
  have c3 := hba3.c3
  have d0 := hbb3.c0
  have d1 := hbb3.c1
  have d2 := hbb3.c2
  have d3 := hbb3.c3
  have hl2 := (unhide HH2) W3 hB3
  clear hba hbb hba3 hbb3 hb3 hB2
  by_cases hr0 : r < 0
  · have hd : decide (r < 0) = true := decide_eq_true hr0
    obtain rfl : r = -1 := by omega
    clear hl2
    go_wp2_with fail
    go_ret
    exact ⟨rfl, hB3⟩
  · have hd : decide (r < 0) = false := decide_eq_false hr0
    by_cases hq0 : q < 0
    · have hqd : decide (q < 0) = true := decide_eq_true hq0
      obtain rfl : r = 1 := by omega
      rw [hqd] at hl2
      go_wp2_with fail
      refine hl2.mono ?_
      clear hl2
      rintro e W4 ⟨rfl, hb4⟩
      have hB4 := hB3.trans (hb4.mono hB3.size)
      go_wp2_with fail
      go_ret
      exact ⟨rfl, hB4⟩
    · have hqd : decide (q < 0) = false := decide_eq_false hq0
      obtain rfl : r = 0 := by omega
      rw [hqd] at hl2
      go_wp2_with fail
      refine hl2.mono ?_
      clear hl2
      rintro e W4 ⟨rfl, hb4⟩
      have hB4 := hB3.trans (hb4.mono hB3.size)
      go_wp2_with fail
      go_ret
      exact ⟨rfl, hB4⟩
end Go.Proofs.YtkgebdljfmgmiaaGreatDoor

