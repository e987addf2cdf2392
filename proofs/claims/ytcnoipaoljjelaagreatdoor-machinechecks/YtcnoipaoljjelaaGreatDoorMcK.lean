import Derived.Test.YtcnoipaoljjelaaGreatDoorMcJ
/- Entries and instructions of code: machine.areEntries, machine.areInstrs, machine.Check. -/
namespace Go.Proofs.YtcnoipaoljjelaaGreatDoor
open Go.RowKit Go.Shelf Go.Maps

def codeB (s : ByteArray) (n : Int) : Bool := decide ((s.size : Int) ≤ 100) && (decide (0 ≤ n) && (decide (n ≤ 50) && !resB s.toList n))
def entOk (sz : Int) (e : EV) : Bool := placeB e.at' sz && codeB e.s e.n
def keyE (e : EV) : List UInt8 × Int := (e.s.toList, e.n)
/-- Entries that are right: each, and no predicate twice. -/
def entB (E : List EV) (sz : Int) : Bool := decide (E.map keyE).Nodup && E.all (entOk sz)
theorem take_snoc {α : Type} {l : List α} {j : Nat} {x : α} (h : l[j]? = some x) : l.take (j + 1) = l.take j ++ [x] := by
  rw [List.take_add_one, h]; rfl
theorem ent_snoc {E : List EV} {j : Nat} {x : EV} (h : E[j]? = some x) (sz : Int) : entB (E.take (j + 1)) sz = (entB (E.take j) sz && (!decide (keyE x ∈ (E.take j).map keyE) && entOk sz x)) := by
  rw [take_snoc h, Bool.eq_iff_iff]
  unfold entB
  rw [List.map_append, List.all_append]
  simp only [Bool.and_eq_true, decide_eq_true_eq, Bool.not_eq_true', decide_eq_false_iff_not, List.map_cons, List.map_nil, List.all_cons, List.all_nil, Bool.and_true]
  rw [List.nodup_append]
  constructor
  · rintro ⟨⟨h1, -, h3⟩, h4, h5⟩
    exact ⟨⟨h1, h4⟩, fun hm => h3 _ hm _ (List.mem_cons_self ..) rfl, h5⟩
  · rintro ⟨⟨h1, h4⟩, h2, h5⟩
    refine ⟨⟨h1, by simp, fun a ha b hb e => ?_⟩, h4, h5⟩
    have hb' : b = keyE x := by simpa using hb
    subst hb'
    exact h2 (e ▸ ha)
theorem ent_take {E : List EV} {sz : Int} (h : entB E sz = true) (j : Nat) : entB (E.take j) sz = true := by
  unfold entB at h ⊢
  simp only [Bool.and_eq_true, decide_eq_true_eq] at h ⊢
  refine ⟨?_, ?_⟩
  · rw [List.map_take]
    exact h.1.sublist (List.take_sublist _ _)
  · rw [List.all_eq_true] at h ⊢
    exact fun x hx => h.2 x (List.mem_of_mem_take hx)
theorem ent_bad {E : List EV} {sz : Int} {j : Nat} {x : EV} (hx : E[j]? = some x) (h : (!decide (keyE x ∈ (E.take j).map keyE) && entOk sz x) = false) : entB E sz = false := by
  cases hE : entB E sz with
  | false => rfl
  | true =>
    have h1 := ent_take hE (j + 1)
    rw [ent_snoc hx, h, Bool.and_false] at h1
    cases h1
/-- Entries that lie in a row. -/
def IsE (W : World) (a : Option Addr) (len : Nat) (E : List EV) : Prop :=
  len = E.length ∧ len ≤ 9223372036854775807 ∧ (∀ e ∈ E, KeyO (e.s, e.n)) ∧ (E = [] ∨ ∃ b off, a = some ⟨b, off, none⟩ ∧ b < W.heap.size ∧ ∀ (j : Nat) x, E[j]? = some x → W.cell? ⟨b, off + j * 3, none⟩ = some (.string x.s) ∧ W.cell? ⟨b, off + j * 3 + 1, none⟩ = some (.int .i64 x.n) ∧ W.cell? ⟨b, off + j * 3 + 2, none⟩ = some (.int .i64 x.at'))
theorem IsE.below {W W' : World} {a : Option Addr} {len : Nat} {E : List EV} (h : IsE W a len E) (hb : Below W.heap.size W W') : IsE W' a len E := by
  obtain ⟨h1, h2, h0, h3⟩ := h
  refine ⟨h1, h2, h0, ?_⟩
  rcases h3 with h3 | ⟨b, off, ha, hlt, hk⟩
  · exact .inl h3
  · refine .inr ⟨b, off, ha, Nat.lt_of_lt_of_le hlt hb.size, fun j x hj => ?_⟩
    obtain ⟨k0, k1, k2⟩ := hk j x hj
    exact ⟨(hb.cell (p := ⟨b, _, none⟩) hlt).trans k0, (hb.cell (p := ⟨b, _, none⟩) hlt).trans k1, (hb.cell (p := ⟨b, _, none⟩) hlt).trans k2⟩
theorem ent_at {w wr : World} {a : Option Addr} {len : Nat} {E : List EV} (h : IsE w a len E) (hb : Below w.heap.size w wr) {j : Nat} (hj : j < len) : ∃ (s : ByteArray) (n t : Int) (b off : Nat), E[j]? = some ⟨s, n, t⟩ ∧ KeyO (s, n) ∧ a = some ⟨b, off, none⟩ ∧ b < w.heap.size ∧ wr.cell? ⟨b, off + j * 3, none⟩ = some (.string s) ∧ wr.cell? ⟨b, off + j * 3 + 1, none⟩ = some (.int .i64 n) ∧ wr.cell? ⟨b, off + j * 3 + 2, none⟩ = some (.int .i64 t) := by
  obtain ⟨h1, _, h0, h3⟩ := h
  obtain ⟨x, hx⟩ : ∃ x, E[j]? = some x := ⟨E[j]'(by omega), List.getElem?_eq_getElem (by omega)⟩
  have hne : E ≠ [] := by rintro rfl; simp at hx
  obtain ⟨b, off, ha, hlt, hk⟩ := h3.resolve_left hne
  obtain ⟨k0, k1, k2⟩ := hk j x hx
  exact ⟨x.s, x.n, x.at', b, off, hx, h0 x (List.mem_of_getElem? hx), ha, hlt, (hb.cell (p := ⟨b, _, none⟩) hlt).trans k0, (hb.cell (p := ⟨b, _, none⟩) hlt).trans k1, (hb.cell (p := ⟨b, _, none⟩) hlt).trans k2⟩
/-- Instructions that lie in a row. -/
def IsI (W : World) (a : Option Addr) (len : Nat) (I : List IV) : Prop :=
  len = I.length ∧ len ≤ 9223372036854775807 ∧ (I = [] ∨ ∃ b off, a = some ⟨b, off, none⟩ ∧ b < W.heap.size ∧ ∀ (j : Nat) x, I[j]? = some x → W.cell? ⟨b, off + j * 6, none⟩ = some (.int .i64 x.op) ∧ W.cell? ⟨b, off + j * 6 + 1, none⟩ = some (.int .i64 x.a) ∧ W.cell? ⟨b, off + j * 6 + 2, none⟩ = some (.int .i64 x.b) ∧ W.cell? ⟨b, off + j * 6 + 3, none⟩ = some (.int .i64 x.c.k) ∧ W.cell? ⟨b, off + j * 6 + 4, none⟩ = some (.string x.c.s) ∧ W.cell? ⟨b, off + j * 6 + 5, none⟩ = some (.int .i64 x.c.n))
theorem IsI.below {W W' : World} {a : Option Addr} {len : Nat} {I : List IV} (h : IsI W a len I) (hb : Below W.heap.size W W') : IsI W' a len I := by
  obtain ⟨h1, h2, h3⟩ := h
  refine ⟨h1, h2, ?_⟩
  rcases h3 with h3 | ⟨b, off, ha, hlt, hk⟩
  · exact .inl h3
  · refine .inr ⟨b, off, ha, Nat.lt_of_lt_of_le hlt hb.size, fun j x hj => ?_⟩
    obtain ⟨k0, k1, k2, k3, k4, k5⟩ := hk j x hj
    exact ⟨(hb.cell (p := ⟨b, _, none⟩) hlt).trans k0, (hb.cell (p := ⟨b, _, none⟩) hlt).trans k1, (hb.cell (p := ⟨b, _, none⟩) hlt).trans k2, (hb.cell (p := ⟨b, _, none⟩) hlt).trans k3, (hb.cell (p := ⟨b, _, none⟩) hlt).trans k4, (hb.cell (p := ⟨b, _, none⟩) hlt).trans k5⟩
theorem ins_at {w wr : World} {a : Option Addr} {len : Nat} {I : List IV} (h : IsI w a len I) (hb : Below w.heap.size w wr) {j : Nat} (hj : j < len) : ∃ (op x y k : Int) (s : ByteArray) (n : Int) (b off : Nat), I[j]? = some ⟨op, x, y, ⟨k, s, n⟩⟩ ∧ a = some ⟨b, off, none⟩ ∧ b < w.heap.size ∧ wr.cell? ⟨b, off + j * 6, none⟩ = some (.int .i64 op) ∧ wr.cell? ⟨b, off + j * 6 + 1, none⟩ = some (.int .i64 x) ∧ wr.cell? ⟨b, off + j * 6 + 2, none⟩ = some (.int .i64 y) ∧ wr.cell? ⟨b, off + j * 6 + 3, none⟩ = some (.int .i64 k) ∧ wr.cell? ⟨b, off + j * 6 + 4, none⟩ = some (.string s) ∧ wr.cell? ⟨b, off + j * 6 + 5, none⟩ = some (.int .i64 n) := by
  obtain ⟨h1, _, h3⟩ := h
  obtain ⟨x, hx⟩ : ∃ x, I[j]? = some x := ⟨I[j]'(by omega), List.getElem?_eq_getElem (by omega)⟩
  have hne : I ≠ [] := by rintro rfl; simp at hx
  obtain ⟨b, off, ha, hlt, hk⟩ := h3.resolve_left hne
  obtain ⟨k0, k1, k2, k3, k4, k5⟩ := hk j x hx
  exact ⟨x.op, x.a, x.b, x.c.k, x.c.s, x.c.n, b, off, hx, ha, hlt, (hb.cell (p := ⟨b, _, none⟩) hlt).trans k0, (hb.cell (p := ⟨b, _, none⟩) hlt).trans k1, (hb.cell (p := ⟨b, _, none⟩) hlt).trans k2, (hb.cell (p := ⟨b, _, none⟩) hlt).trans k3, (hb.cell (p := ⟨b, _, none⟩) hlt).trans k4, (hb.cell (p := ⟨b, _, none⟩) hlt).trans k5⟩

set_option maxRecDepth 100000 in
set_option maxHeartbeats 2000000 in
theorem hasCode_any (s : ByteArray) (n : Int) (w : World) : Calls Tryz.prog 16 #[.agg #[.string s, .int .i64 n]] w fun e w' => e = .returned (.bool (codeB s n)) ∧ Below w.heap.size w w' := by
  have hr := bres_any s n (w.alloc (.cells #[.string s, .int .i64 n] 47))
  unfold codeB
  obtain ⟨q, hq⟩ : ∃ q, resB s.toList n = q := ⟨_, rfl⟩
  rw [hq] at hr ⊢
  clear hq
  go_enter Tryz.func16, Tryz.ntmps16
  go_wp2_with (go_at_call 25; refine Calls.mono hr ?_; rintro e w2 ⟨rfl, hb2⟩)
  all_goals go_ret
  all_goals first | refine ⟨?_, (Below.refl _ w).alloc (Nat.le_refl _) _⟩ | refine ⟨?_, ((Below.refl _ w).alloc (Nat.le_refl _) _).trans (hb2.mono (by simp))⟩
  all_goals first | (simp_all; done) | (simp_all; omega)
set_option maxRecDepth 100000 in
set_option maxHeartbeats 4000000 in
theorem ents_any (E : List EV) (a : Option Addr) (len cap : Nat) (sz : Int) (w : World) (hE : IsE w a len E) : Calls Tryz.prog 10 #[.slice a len cap, .int .i64 sz] w fun e w' => e = .returned (.bool (entB E sz)) ∧ Below w.heap.size w w' := by
  have h1 := hE.1
  have h2 := hE.2.1
  have HE := hide hE
  have HL := hide h1
  clear hE h1
  have hm0 : Mt (w.alloc (.map #[] 0)) w.heap.size [] := Mt.made w
  have hb0 : Below w.heap.size w (w.alloc (.map #[] 0)) := (Below.refl _ w).alloc (Nat.le_refl _) _
  have HM0 := hide (And.intro hm0 hb0)
  clear hm0 hb0
  have hmm := @run_makeMap Tryz.prog
  go_enter Tryz.func10, Tryz.ntmps10
  go_wp2_with fail
  clear hmm
  go_loopw [12] (fun i wr => ∃ j : Nat, j ≤ len ∧ i = .int .i64 j ∧ Hid (Below w.heap.size w wr ∧ Mt wr w.heap.size ((E.take j).map fun e => (e.s, e.n)) ∧ entB (E.take j) sz = true)) (fun i _ => len - (intOf i).toNat)
  case atStart => exact ⟨0, Nat.zero_le _, rfl, (unhide HM0).2, (by simpa using (unhide HM0).1), by simp [entB]⟩
  case round =>
    obtain ⟨j, hj, rfl, HJ⟩ := hrel
    by_cases hlt : j < len
    · obtain ⟨hbr, hmt, hok⟩ := unhide HJ
      obtain ⟨s, n, t, b, off, hx, hko, rfl, hbl, c0, c1, c2⟩ := ent_at (unhide HE) hbr hlt
      have hj1 : (j : Int) < len := by omega
      have hbw : b < wr.heap.size := Nat.lt_of_lt_of_le hbl hbr.size
      have hB1 : Below wr.heap.size wr (wr.alloc (.cells #[.string s, .int .i64 n, .int .i64 t] 39)) := (Below.refl _ wr).alloc (Nat.le_refl _) _
      have hB2 : Below wr.heap.size wr ((wr.alloc (.cells #[.string s, .int .i64 n, .int .i64 t] 39)).alloc (.cells #[.string s, .int .i64 n] 47)) := hB1.alloc (by simp) _
      have hmt2 := hmt.below hB2
      have hiff : decide (keyE ⟨s, n, t⟩ ∈ (E.take j).map keyE) = true ↔ ∃ q ∈ (E.take j).map (fun e => (e.s, e.n)), predI q.1 q.2 = predI s n := by
        rw [decide_eq_true_eq, List.mem_map]
        constructor
        · rintro ⟨e, he, hk⟩
          have hk' : e.s.toList = s.toList ∧ e.n = n := by simpa [keyE] using hk
          exact ⟨(e.s, e.n), List.mem_map.2 ⟨e, he, rfl⟩, (predI_inj ((unhide HE).2.2.1 e (List.mem_of_mem_take he)) hko).2 hk'⟩
        · rintro ⟨q, hq, hk⟩
          obtain ⟨e, he, rfl⟩ := List.mem_map.1 hq
          have hk' := (predI_inj ((unhide HE).2.2.1 e (List.mem_of_mem_take he)) hko).1 hk
          exact ⟨e, he, Prod.ext hk'.1 hk'.2⟩
      have hlk := hmt2.look s n hko _ hiff
      have hbad := ent_bad (sz := sz) hx
      have hsn := ent_snoc hx sz
      have HX := hide (And.intro hbad hsn)
      have HMT := hide (And.intro hmt2 (And.intro hB2 (And.intro hiff hko)))
      have hpl := fun W => place_any t sz W
      have HBR := hide hbr
      have HOK := hide hok
      have HX0 := hide hx
      have hhc := hasCode_any s n ((wr.alloc (.cells #[.string s, .int .i64 n, .int .i64 t] 39)).alloc (.cells #[.string s, .int .i64 n] 47))
      clear hB1 hB2 hmt hmt2 hbad hsn hbr hok hx
      cases hd : decide (keyE ⟨s, n, t⟩ ∈ (E.take j).map keyE) with
      | true =>
        rw [hd] at hlk
        simp only [if_true] at hlk
        have HF := hide ((unhide HX).1 (by rw [hd]; rfl))
        clear hd hiff
        go_wp2_with fail
        go_ret
        exact ⟨by rw [unhide HF]; rfl, (unhide HBR).trans ((unhide HMT).2.1.mono (unhide HBR).size)⟩
      | false =>
        have HD := hide hd
        rw [hd] at hlk
        simp only [Bool.false_eq_true, if_false] at hlk
        clear hd hiff
        cases hp : placeB t sz with
        | false =>
          have HF := hide ((unhide HX).1 (by unfold entOk; rw [hp]; simp))
          go_wp2_with fail
          refine (hpl _).mono ?_
          rintro e w2 ⟨rfl, rfl⟩
          rw [hp]
          clear hp
          go_wp2_with fail
          go_ret
          exact ⟨by rw [unhide HF]; rfl, (unhide HBR).trans ((unhide HMT).2.1.mono (unhide HBR).size)⟩
        | true =>
          cases hc : codeB s n with
          | false =>
            rw [hc] at hhc
            have HF := hide ((unhide HX).1 (by unfold entOk; simp only; rw [hp, hc]; simp))
            clear hc
            go_wp2_with fail
            refine (hpl _).mono ?_
            rintro e w2 ⟨rfl, rfl⟩
            rw [hp]
            clear hp
            go_wp2_with fail
            refine Calls.mono hhc ?_
            rintro e w3 ⟨rfl, hb3⟩
            have HB3 := hide ((unhide HMT).2.1.trans (hb3.mono (unhide HMT).2.1.size))
            clear hb3 hhc
            go_wp2_with fail
            go_ret
            exact ⟨by rw [unhide HF]; rfl, (unhide HBR).trans ((unhide HB3).mono (unhide HBR).size)⟩
          | true =>
            rw [hc] at hhc
            have HT := hide (show entB (E.take (j + 1)) sz = true by rw [(unhide HX).2, unhide HOK, unhide HD]; unfold entOk; simp only; rw [hp, hc]; rfl)
            clear hc
            go_wp2_with fail
            refine (hpl _).mono ?_
            rintro e w2 ⟨rfl, rfl⟩
            rw [hp]
            clear hp
            go_wp2_with fail
            refine Calls.mono hhc ?_
            rintro e w3 ⟨rfl, hb3⟩
            have hmt3 := (unhide HMT).1.below hb3
            have hB3 := (unhide HMT).2.1.trans (hb3.mono (unhide HMT).2.1.size)
            have hbx := World.alloc_heap_new (wr.alloc (.cells #[.string s, .int .i64 n, .int .i64 t] 39)) (.cells #[.string s, .int .i64 n] 47)
            rw [World.size_alloc] at hbx
            have hbx3 : w3.heap[wr.heap.size + 1]? = some (.cells #[.string s, .int .i64 n] 47 (0, 0)) := (hb3.block _ (by simp)).trans hbx
            have d0 : w3.drew.cell? ⟨wr.heap.size + 1, 0, none⟩ = some (.string s) := by show w3.cell? _ = _; simp only [World.cell?, hbx3]; rfl
            have d1 : w3.drew.cell? ⟨wr.heap.size + 1, 1, none⟩ = some (.int .i64 n) := by show w3.cell? _ = _; simp only [World.cell?, hbx3]; rfl
            have hmtd : Mt w3.drew w.heap.size ((E.take j).map fun e => (e.s, e.n)) := hmt3.below (Below.refl _ w3).drew
            have hno : ¬ ∃ q ∈ (E.take j).map (fun e => (e.s, e.n)), predI q.1 q.2 = predI s n := fun hq => by have h := (unhide HMT).2.2.1.2 hq; rw [unhide HD] at h; cases h
            have hlk3 := hmtd.look s n (unhide HMT).2.2.2 false (by simpa using hno)
            simp only [Bool.false_eq_true, if_false] at hlk3
            obtain ⟨v0, st, W4, W6, r1, r2, r3, hmt6, hg6⟩ := hmtd.entry (by unfold maxLen; simp; omega) s n (unhide HMT).2.2.2 hno
            have hb6 : Below w.heap.size w W6 := by
              have hb := (unhide HBR).trans (hB3.mono (unhide HBR).size)
              exact ⟨hg6.os.trans hb.os, hg6.tape.trans hb.tape, hg6.output.trans hb.output, Nat.le_trans hb.size hg6.size, fun k hk => (hg6.block k (Nat.lt_of_lt_of_le hk hb.size) (fun e => by simp at e; omega)).trans (hb.block k hk)⟩
            have HN := hide (show Below w.heap.size w W6 ∧ Mt W6 w.heap.size ((E.take (j + 1)).map fun e => (e.s, e.n)) ∧ entB (E.take (j + 1)) sz = true from ⟨hb6, by rw [take_snoc (unhide HX0), List.map_append]; exact hmt6, unhide HT⟩)
            have HR := hide (And.intro d0 (And.intro d1 (And.intro hlk3 (And.intro r1 (And.intro r2 r3)))))
            clear hmt3 hB3 hbx hbx3 d0 d1 hmtd hno hlk3 r1 r2 r3 hmt6 hg6 hb6 hb3 hhc hlk
            go_wp2_with fail
            refine wp_eight' (unhide HR).1 (unhide HR).2.1 (unhide HR).2.2.1 (unhide HR).2.2.2.1 (unhide HR).2.2.2.2.1 (unhide HR).2.2.2.2.2 ?_
            intro u37 u38 u39 u40 u41 u42
            go_wp2_with fail
            go_roundw
            case rel => exact ⟨j + 1, by omega, by go_num, unhide HN⟩
            case measure => simp [intOf]; omega
    · obtain rfl : j = len := by omega
      have hj1 : ¬ (j : Int) < j := by omega
      have hend := unhide HJ
      rw [List.take_of_length_le (by have := unhide HL; omega)] at hend
      have HEND := hide hend
      clear hend
      go_wp2_with fail
      go_ret
      exact ⟨by rw [(unhide HEND).2.2]; rfl, (unhide HEND).1⟩
end Go.Proofs.YtcnoipaoljjelaaGreatDoor

