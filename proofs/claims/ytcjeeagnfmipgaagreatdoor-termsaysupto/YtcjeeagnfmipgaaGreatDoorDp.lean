import Derived.Test.YtcjeeagnfmipgaaGreatDoorSs
/- The contracts of hornref.Depth and of term.depthOf: how many storeys a term has. -/
namespace Go.Proofs.YtcjeeagnfmipgaaGreatDoor
open Go.RowKit Go.Shelf

def mxL (l : List Nat) : Nat := l.foldl max 0
/-- How deep a term is. -/
def depT : {n : Nat} → Tm n → Nat
  | 0, t => Empty.elim t
  | _ + 1, t => mxL (t.kids.map depT) + 1
theorem mxL_snoc (l : List Nat) (x : Nat) : mxL (l ++ [x]) = max (mxL l) x := by simp [mxL]
theorem mxL_take {n : Nat} (kids : List (Tm n)) (j : Nat) (u : Tm n) (h : kids[j]? = some u) : mxL ((kids.take (j + 1)).map depT) = max (mxL ((kids.take j).map depT)) (depT u) := by
  obtain ⟨hj, rfl⟩ := List.getElem?_eq_some_iff.1 h
  rw [List.take_succ_eq_append_getElem hj, List.map_append, List.map_cons, List.map_nil, mxL_snoc]
theorem mxL_le (l : List Nat) (m : Nat) (h : ∀ x ∈ l, x ≤ m) : mxL l ≤ m := by
  have key : ∀ (l : List Nat) (a : Nat), a ≤ m → (∀ x ∈ l, x ≤ m) → l.foldl max a ≤ m := by
    intro l
    induction l with
    | nil => intro a ha _; exact ha
    | cons x l ih => intro a ha hl; exact ih _ (by have := hl x (by simp); omega) (fun y hy => hl y (by simp [hy]))
  exact key l 0 (Nat.zero_le _) h
theorem dep_le : ∀ {n : Nat} (t : Tm n), depT t ≤ (parts t).length := by
  intro n
  induction n with
  | zero => intro t; exact Empty.elim t
  | succ n ih =>
    intro t
    obtain ⟨x, kids⟩ := t
    show mxL (kids.map depT) + 1 ≤ (x :: kids.flatMap parts).length
    have : mxL (kids.map depT) ≤ (kids.flatMap parts).length := mxL_le _ _ fun y hy => by
      obtain ⟨u, hu, rfl⟩ := List.mem_map.1 hy
      obtain ⟨j, hj⟩ := List.mem_iff_getElem?.1 hu
      have := pre_parts kids j u hj
      have := ih u
      omega
    simp only [List.length_cons]
    omega
theorem max_nat (a b : Nat) : (if a < b then (b : Int) else (a : Int)) = ((max a b : Nat) : Int) := by split <;> omega

set_option maxRecDepth 100000 in
set_option maxHeartbeats 1000000 in
theorem rdepth_any : ∀ (n : Nat) (t : Tm n) (w : World), IsT w.heap.size w t → (parts t).length ≤ 4611686018427387904 → Calls Tryz.prog 37 #[t.tv.val] w fun e W' => e = .returned (.int .i64 (depT t : Nat)) ∧ Below w.heap.size w W' := by
  intro n
  induction n with
  | zero => intro t; exact Empty.elim t
  | succ n ih =>
    intro t w ht hp
    obtain ⟨⟨k, kN, s, a, len, cap⟩, kids⟩ := t
    obtain ⟨hlen, hmax, hsm, hkids⟩ := ht
    simp only [Tm.tv, Tm.kids] at hlen hmax hsm hkids
    have hdl := dep_le (n := n + 1) ((⟨k, kN, s, a, len, cap⟩, kids) : TV × List (Tm n))
    have hps : ∀ (j : Nat) (u : Tm n), kids[j]? = some u → (parts u).length ≤ 4611686018427387904 := fun j u hu => by
      have := pre_parts kids j u hu
      have hp' : (kids.flatMap parts).length + 1 ≤ 4611686018427387904 := by simpa [parts, Tm.tv, Tm.kids] using hp
      omega
    have hmx : ∀ j, mxL ((kids.take j).map depT) ≤ 4611686018427387904 := fun j => mxL_le _ _ fun y hy => by
      obtain ⟨u, hu, rfl⟩ := List.mem_map.1 hy
      obtain ⟨i, hi⟩ := List.mem_iff_getElem?.1 (List.mem_of_mem_take hu)
      have := dep_le u
      have := hps i u hi
      omega
    simp only [Tm.tv, TV.val, depT, Tm.kids]
    have HI := hide ih
    have HPS := hide hps
    have HMX := hide hmx
    have hl1 : len ≤ kids.length := by omega
    have hl2 : kids.length ≤ len := by omega
    clear ih hps hmx hdl hp hlen
    go_enter Tryz.func37, Tryz.ntmps37
    go_wp2_with fail
    go_loopw [3, 4] (fun o i wr => ∃ j : Nat, j ≤ len ∧ i = .int .i64 j ∧ o = .int .i64 (mxL ((kids.take j).map depT) : Nat) ∧ Below (w.heap.size + 1) (w.alloc (.cells #[.int .i64 k, .int .i64 kN, .string s, .slice a len cap] 24)) wr) (fun _ i _ => len - (intOf i).toNat)
    case atStart => exact ⟨0, Nat.zero_le _, rfl, by simp [mxL], Below.refl _ _⟩
    case round =>
      obtain ⟨j, hj, rfl, rfl, hb⟩ := hrel
      obtain ⟨hc, hz⟩ : wr.cell? ⟨w.heap.size, 3, none⟩ = some (.slice a len cap) ∧ w.heap.size + 1 ≤ wr.heap.size := ⟨(hb.cell (p := ⟨w.heap.size, 3, none⟩) (by simp)).trans (by simp), by have := hb.size; simp at this; omega⟩
      have hbw : Below w.heap.size w wr := ((Below.refl _ w).alloc (Nat.le_refl _) _).trans (hb.mono (by omega))
      have hm := (unhide HMX) j
      by_cases hlt : j < len
      · obtain ⟨u, b, off, hu, rfl, ⟨c0, c1, c2, c3⟩, hT, hbk⟩ := kid_at hkids hbw hlt hl1
        have ihu := (unhide HI) u wr hT ((unhide HPS) j u hu)
        have hnx := mxL_take kids j u hu
        have hdu := dep_le u
        have hpu := (unhide HPS) j u hu
        have HNX := hide hnx
        have hj1 : (j : Int) < len := by omega
        clear hT hkids hu hnx
        generalize depT u = du at *
        generalize mxL ((kids.take j).map depT) = dm at *
        simp only [TV.val] at ihu
        go_wp2_with (go_at_call 37; refine ihu.mono ?_; clear ihu; rintro e W2 ⟨rfl, hb2⟩)
        exact ⟨⟨j + 1, by omega, by go_num, by rw [unhide HNX, ← max_nat], hb.trans (hb2.mono (by omega))⟩, by simp [intOf]; omega⟩
      · have ht : mxL ((kids.take j).map depT) = mxL (kids.map depT) := by rw [List.take_of_length_le (by omega)]
        have HT := hide ht
        clear ht hkids
        generalize mxL ((kids.take j).map depT) = dm at *
        go_wp2_with fail
        go_ret
        exact ⟨by rw [← unhide HT]; rfl, hbw⟩

set_option maxRecDepth 100000 in
set_option maxHeartbeats 1000000 in
theorem depthOf_any : ∀ (n : Nat) (t : Tm n) (w : World), IsT w.heap.size w t → (parts t).length ≤ 4611686018427387904 → Calls Tryz.prog 75 #[t.tv.val] w fun e W' => e = .returned (.int .i64 (depT t : Nat)) ∧ Below w.heap.size w W' := by
  intro n
  induction n with
  | zero => intro t; exact Empty.elim t
  | succ n ih =>
    intro t w ht hp
    obtain ⟨⟨k, kN, s, a, len, cap⟩, kids⟩ := t
    obtain ⟨hlen, hmax, hsm, hkids⟩ := ht
    simp only [Tm.tv, Tm.kids] at hlen hmax hsm hkids
    have hdl := dep_le (n := n + 1) ((⟨k, kN, s, a, len, cap⟩, kids) : TV × List (Tm n))
    have hps : ∀ (j : Nat) (u : Tm n), kids[j]? = some u → (parts u).length ≤ 4611686018427387904 := fun j u hu => by
      have := pre_parts kids j u hu
      have hp' : (kids.flatMap parts).length + 1 ≤ 4611686018427387904 := by simpa [parts, Tm.tv, Tm.kids] using hp
      omega
    have hmx : ∀ j, mxL ((kids.take j).map depT) ≤ 4611686018427387904 := fun j => mxL_le _ _ fun y hy => by
      obtain ⟨u, hu, rfl⟩ := List.mem_map.1 hy
      obtain ⟨i, hi⟩ := List.mem_iff_getElem?.1 (List.mem_of_mem_take hu)
      have := dep_le u
      have := hps i u hi
      omega
    simp only [Tm.tv, TV.val, depT, Tm.kids]
    have HI := hide ih
    have HPS := hide hps
    have HMX := hide hmx
    have hl1 : len ≤ kids.length := by omega
    have hl2 : kids.length ≤ len := by omega
    clear ih hps hmx hdl hp hlen
    go_enter Tryz.func75, Tryz.ntmps75
    go_wp2_with fail
    go_loopw [3, 9] (fun o i wr => ∃ j : Nat, j ≤ len ∧ i = .int .i64 j ∧ o = .int .i64 (mxL ((kids.take j).map depT) : Nat) ∧ Below (w.heap.size + 1) (w.alloc (.cells #[.int .i64 k, .int .i64 kN, .string s, .slice a len cap] 24)) wr) (fun _ i _ => len - (intOf i).toNat)
    case atStart => exact ⟨0, Nat.zero_le _, rfl, by simp [mxL], Below.refl _ _⟩
    case round =>
      obtain ⟨j, hj, rfl, rfl, hb⟩ := hrel
      obtain ⟨hc, hz⟩ : wr.cell? ⟨w.heap.size, 3, none⟩ = some (.slice a len cap) ∧ w.heap.size + 1 ≤ wr.heap.size := ⟨(hb.cell (p := ⟨w.heap.size, 3, none⟩) (by simp)).trans (by simp), by have := hb.size; simp at this; omega⟩
      have hbw : Below w.heap.size w wr := ((Below.refl _ w).alloc (Nat.le_refl _) _).trans (hb.mono (by omega))
      have hm := (unhide HMX) j
      by_cases hlt : j < len
      · obtain ⟨u, b, off, hu, rfl, ⟨c0, c1, c2, c3⟩, hT, hbk⟩ := kid_at hkids hbw hlt hl1
        have hb5 : Below wr.heap.size wr (wr.alloc (.cells #[.int .i64 u.tv.k, .int .i64 u.tv.N, .string u.tv.s, .slice u.tv.a u.tv.len u.tv.cap] 24)) := (Below.refl _ wr).alloc (Nat.le_refl _) _
        have ihu := (unhide HI) u _ ((hT.below hb5).mono hb5.size) ((unhide HPS) j u hu)
        have hnx := mxL_take kids j u hu
        have hdu := dep_le u
        have hpu := (unhide HPS) j u hu
        have HNX := hide hnx
        have hj1 : (j : Int) < len := by omega
        clear hT hkids hu hnx
        generalize depT u = du at *
        generalize mxL ((kids.take j).map depT) = dm at *
        simp only [TV.val] at ihu
        go_wp2_with (go_at_call 75; refine ihu.mono ?_; clear ihu; rintro e W2 ⟨rfl, hb2⟩)
        exact ⟨⟨j + 1, by omega, by go_num, by rw [unhide HNX, ← max_nat], hb.trans ((hb5.trans (hb2.mono (by simp))).mono (by omega))⟩, by simp [intOf]; omega⟩
      · have ht : mxL ((kids.take j).map depT) = mxL (kids.map depT) := by rw [List.take_of_length_le (by omega)]
        have HT := hide ht
        clear ht hkids
        generalize mxL ((kids.take j).map depT) = dm at *
        go_wp2_with fail
        go_ret
        exact ⟨by rw [← unhide HT]; rfl, hbw⟩
end Go.Proofs.YtcjeeagnfmipgaaGreatDoor

