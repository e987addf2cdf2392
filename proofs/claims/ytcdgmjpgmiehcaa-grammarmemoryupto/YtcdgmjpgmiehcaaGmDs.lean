import Derived.Test.YtcdgmjpgmiehcaaGmCs
import Derived.Test.YtcdgmjpgmiehcaaUs
import Derived.Deep.RegionHeld3
/- grammar.haveBodies, checkPart. -/
namespace Go.Proofs.Ytcdgmjpgmiehcaa
open Go.RowKit Go.Shelf

def bodB {n : Nat} (u : Tm n) : Bool := (bodyC u).isSome
theorem gbody_ok {n : Nat} (u : Tm n) (W : World) (hT : IsT W.heap.size W u) (ok : okT u = true) (hn : n ≤ 274877906944) :
    Calls Try.prog 57 #[u.tv.val] W fun e W' => ∃ x : TV, e = .returned (.tuple #[x.val, .int .i64 (if bodB u = true then 0 else 7)]) ∧ Below W.heap.size W W' :=
  (body_any u W.heap.size W hT (Nat.le_refl _) hn).mono fun e W' h => by
    obtain ⟨⟨D, x, h1, _⟩, h2⟩ := h
    refine ⟨x, ?_, h2⟩
    rw [h1]
    unfold bodyR bodB
    rw [if_pos ok]
theorem bods_no {n : Nat} {ts : List (Tm n)} {j : Nat} {u : Tm n} (h : ts[j]? = some u) (hu : bodB u = false) : ts.all bodB = false := by
  rw [List.all_eq_false]
  exact ⟨u, List.mem_of_getElem? h, by simp [hu]⟩
theorem take_bods {n : Nat} (ts : List (Tm n)) (j : Nat) (u : Tm n) (h : ts[j]? = some u) : (ts.take (j + 1)).all bodB = ((ts.take j).all bodB && bodB u) := by
  rw [List.take_add_one, h, List.all_append]; simp
set_option maxRecDepth 100000 in
set_option maxHeartbeats 1000000 in
theorem ghave_any {n : Nat} (ts : List (Tm n)) (a : Option Addr) (len cap : Nat) (w : World) (hlen : len = ts.length) (hmax : len ≤ 9223372036854775807) (hok : ∀ u ∈ ts, okT u = true) (hn : n ≤ 274877906944)
    (hts : ts = [] ∨ ∃ b off, a = some ⟨b, off, none⟩ ∧ b < w.heap.size ∧ ∀ j u, ts[j]? = some u → cellsAt w b (off + j * 4) u.tv ∧ IsT w.heap.size w u) :
    Calls Try.prog 46 #[.slice a len cap] w fun e W' => e = .returned (.bool (ts.all bodB)) ∧ Below w.heap.size w W' := by
  have hl1 : len ≤ ts.length := by omega
  have hl2 : ts.length ≤ len := by omega
  have HOK := hide hok
  clear hlen hok
  go_enter Try.func46, Try.ntmps46
  go_wp2_with fail
  go_loopw [9] (fun i wr => ∃ j : Nat, j ≤ len ∧ i = .int .i64 j ∧ (ts.take j).all bodB = true ∧ Below w.heap.size w wr) (fun i _ => len - (intOf i).toNat)
  case atStart => exact ⟨0, Nat.zero_le _, rfl, by simp, Below.refl _ _⟩
  case round =>
    obtain ⟨j, hj, rfl, ho, hb⟩ := hrel
    have HO := hide ho
    clear ho
    by_cases hlt : j < len
    · obtain ⟨u, b, off, hu, rfl, ⟨c0, c1, c2, c3⟩, hT, hbk⟩ := kid_at hts hb hlt hl1
      obtain ⟨W1, hW1⟩ : ∃ W1, wr.alloc (.cells #[.int .i64 u.tv.k, .int .i64 u.tv.N, .string u.tv.s, .slice u.tv.a u.tv.len u.tv.cap] 24) = W1 := ⟨_, rfl⟩
      have g1 : Below wr.heap.size wr W1 := by rw [← hW1]; exact (Below.refl _ wr).alloc (Nat.le_refl _) _
      have bT : BoxT W1 wr.heap.size u.tv := by rw [← hW1]; exact BoxT.new wr u.tv
      have d0 := bT.c0
      have d1 := bT.c1
      have d2 := bT.c2
      have d3 := bT.c3
      clear bT
      have hc : Calls Try.prog 57 #[.agg #[.int .i64 u.tv.k, .int .i64 u.tv.N, .string u.tv.s, .slice u.tv.a u.tv.len u.tv.cap]] W1 fun e W2 => ∃ x : TV, e = .returned (.tuple #[x.val, .int .i64 (if bodB u = true then 0 else 7)]) ∧ Below wr.heap.size wr W2 :=
        (gbody_ok u W1 ((hT.below g1).mono g1.size) ((unhide HOK) u (List.mem_of_getElem? hu)) hn).mono fun e W2 h => by
          obtain ⟨x, h1, h2⟩ := h
          exact ⟨x, h1, g1.trans (h2.mono g1.size)⟩
      have hstop := bods_no hu
      have hnext := take_bods ts j u hu
      rw [unhide HO, Bool.true_and] at hnext
      clear hT hts hu g1
      generalize bodB u = o at *
      have HN := hide hnext
      have HS := hide hstop
      have HC := hide hc
      clear hnext hstop hc
      cases o with
      | true =>
        go_wp2_with fail
        try rw [hW1]
        refine (unhide HC).mono ?_
        clear HC
        rintro e W2 ⟨x, rfl, hb2⟩
        simp only [TV.val, if_true]
        go_wp2_with fail
        go_roundw
        case rel => exact ⟨j + 1, by omega, by go_num, unhide HN, (hb.trans (hb2.mono hb.size)).alloc (by have := hb.size; have := hb2.size; omega) _⟩
        case measure => simp [intOf]; omega
      | false =>
        go_wp2_with fail
        try rw [hW1]
        refine (unhide HC).mono ?_
        clear HC
        rintro e W2 ⟨x, rfl, hb2⟩
        simp only [TV.val]
        go_wp2_with fail
        all_goals go_ret
        all_goals exact ⟨by rw [(unhide HS) (by simp)]; rfl, (hb.trans (hb2.mono hb.size)).alloc (by have := hb.size; have := hb2.size; omega) _⟩
    · have ht : ts.take j = ts := List.take_of_length_le (by omega)
      have HT := hide ht
      clear ht hts
      go_wp2_with fail
      all_goals go_ret
      all_goals exact ⟨by have h := unhide HO; rw [unhide HT] at h; rw [h]; rfl, hb⟩
theorem ok_len {n : Nat} {x : TV} {kids : List (Tm n)} (ok : okT (n := n + 1) ((x, kids) : TV × List (Tm n)) = true) : x.len ≤ 50 := by
  rcases wm_cases (ok_kids ok).1 with ⟨_, _, _, _, h⟩ | ⟨_, h⟩ | ⟨_, _, _, h⟩ <;> omega
theorem all_bodB {n : Nat} (ts : List (Tm n)) : ts.all (fun u => (bodyC u).isSome) = ts.all bodB := rfl
set_option maxRecDepth 100000 in
set_option maxHeartbeats 4000000 in
theorem gpart_any {n : Nat} (t : Tm (n + 1)) (w : World) (hT : IsT w.heap.size w t) (ok : okT t = true) (hn : n ≤ 274877906944) : Calls Try.prog 34 #[t.tv.val] w fun e W' => e = .returned (.int .i64 (partE t)) ∧ Below w.heap.size w W' := by
  obtain ⟨x, kids⟩ := t
  have hk := ok_kids ok
  have hl := ok_len ok
  obtain ⟨W1, hW1⟩ : ∃ W1, w.alloc (.cells #[.int .i64 x.k, .int .i64 x.N, .string x.s, .slice x.a x.len x.cap] 24) = W1 := ⟨_, rfl⟩
  have bT : BoxT W1 w.heap.size x := by rw [← hW1]; exact BoxT.new w x
  have g1 : Below w.heap.size w W1 := by rw [← hW1]; exact (Below.refl _ w).alloc (Nat.le_refl _) _
  have HF : Hid (∀ V, Calls Try.prog 33 #[.agg #[.int .i64 x.k, .int .i64 x.N, .string x.s, .slice x.a x.len x.cap]] V fun e W' => e = .returned (.int .i64 (formB x)) ∧ Below V.heap.size V W') := hide fun V => form_any x V
  have HE : Hid (∀ V, Calls Try.prog 32 #[.agg #[.int .i64 x.k, .int .i64 x.N, .string x.s, .slice x.a x.len x.cap]] V fun e W' => e = .returned (.int .i64 (extE x)) ∧ Below V.heap.size V W') := hide fun V => gext_any x V hl
  have HL : Hid (∀ V, Below w.heap.size w V → Calls Try.prog 45 #[.agg #[.int .i64 x.k, .int .i64 x.N, .string x.s, .slice x.a x.len x.cap]] V fun e W' => e = .returned (.bool (listT (n := n + 1) ((x, kids) : TV × List (Tm n)))) ∧ Below V.heap.size V W') := hide fun V hV => glist_any (n := n + 1) ((x, kids) : TV × List (Tm n)) V ((hT.below hV).mono hV.size) ok
  have HH : Hid (∀ V, Below w.heap.size w V → Calls Try.prog 46 #[.slice x.a x.len x.cap] V fun e W' => e = .returned (.bool (kids.all bodB)) ∧ Below V.heap.size V W') := hide fun V hV => by
    have hTV := (hT.below hV).mono hV.size
    exact ghave_any kids x.a x.len x.cap V hTV.1 hTV.2.1.1 hk.2 hn hTV.2.2.2
  have HP := hide (partE_succ x kids)
  have HB := hide (And.intro bT g1)
  have c0 := bT.c0
  have c1 := bT.c1
  have c2 := bT.c2
  have c3 := bT.c3
  clear bT g1 hT ok hk
  simp only [Tm.tv, TV.val]
  go_enter Try.func34, Try.ntmps34
  go_wp2_with fail
  try rw [hW1]
  go_wp2_with fail
  refine ((unhide HF) W1).mono ?_
  rintro e V1 ⟨rfl, h1⟩
  have bT := (unhide HB).1.below h1 (unhide HB).1.lt
  have g1 := (unhide HB).2.trans (h1.mono (unhide HB).2.size)
  have HB := hide (And.intro bT g1)
  have c0 := bT.c0
  have c1 := bT.c1
  have c2 := bT.c2
  have c3 := bT.c3
  clear bT g1 h1 HF
  by_cases f0 : formB x = 0
  · have HQ := hide (show partE (n := n) ((x, kids) : TV × List (Tm n)) = 14 by rw [unhide HP, if_pos f0])
    rw [f0]
    clear f0 HP HL HH HE
    go_wp2_with fail
    all_goals go_ret
    all_goals exact ⟨by rw [unhide HQ]; rfl, (unhide HB).2⟩
  by_cases f5 : formB x = 5
  · have HQ := hide (show partE (n := n) ((x, kids) : TV × List (Tm n)) = if listT (n := n + 1) ((x, kids) : TV × List (Tm n)) = true then 0 else 14 by rw [unhide HP, if_neg f0, if_pos f5])
    rw [f5]
    clear f0 f5 HP HH HE
    go_wp2_with fail
    refine ((unhide HL) V1 (unhide HB).2).mono ?_
    rintro e V2 ⟨rfl, h2⟩
    have HB2 := hide ((unhide HB).2.trans (h2.mono (unhide HB).2.size))
    clear h2
    cases hli : listT (n := n + 1) ((x, kids) : TV × List (Tm n)) with
    | true =>
      rw [hli] at HQ
      go_wp2_with fail
      all_goals go_ret
      all_goals exact ⟨by rw [unhide HQ]; rfl, unhide HB2⟩
    | false =>
      rw [hli] at HQ
      go_wp2_with fail
      all_goals go_ret
      all_goals exact ⟨by rw [unhide HQ]; rfl, unhide HB2⟩
  by_cases f6 : formB x = 6
  · have HQ := hide (show partE (n := n) ((x, kids) : TV × List (Tm n)) = if kids.all bodB = true then 0 else 14 by rw [unhide HP, if_neg f0, if_neg f5, if_pos f6]; rfl)
    rw [f6]
    clear f0 f5 f6 HP HL HE
    go_wp2_with fail
    refine ((unhide HH) V1 (unhide HB).2).mono ?_
    rintro e V2 ⟨rfl, h2⟩
    have HB2 := hide ((unhide HB).2.trans (h2.mono (unhide HB).2.size))
    clear h2
    cases hli : kids.all bodB with
    | true =>
      rw [hli] at HQ
      go_wp2_with fail
      all_goals go_ret
      all_goals exact ⟨by rw [unhide HQ]; rfl, unhide HB2⟩
    | false =>
      rw [hli] at HQ
      go_wp2_with fail
      all_goals go_ret
      all_goals exact ⟨by rw [unhide HQ]; rfl, unhide HB2⟩
  by_cases f8 : formB x = 8
  · have HQ := hide (show partE (n := n) ((x, kids) : TV × List (Tm n)) = if 8 < x.len + 2 then 9 else 0 by rw [unhide HP, if_neg f0, if_neg f5, if_neg f6, if_pos f8])
    rw [f8]
    clear f0 f5 f6 f8 HP HL HE HH
    by_cases h8 : 8 < x.len + 2
    · rw [if_pos h8] at HQ
      have h8' : (8 : Int) < (x.len : Int) + 2 := by omega
      go_wp2_with fail
      all_goals go_ret
      all_goals exact ⟨by rw [unhide HQ]; rfl, (unhide HB).2⟩
    · rw [if_neg h8] at HQ
      have h8' : ¬ (8 : Int) < (x.len : Int) + 2 := by omega
      go_wp2_with fail
      all_goals go_ret
      all_goals exact ⟨by rw [unhide HQ]; rfl, (unhide HB).2⟩
  by_cases f9 : formB x = 9
  · have HQ := hide (show partE (n := n) ((x, kids) : TV × List (Tm n)) = extE x by rw [unhide HP, if_neg f0, if_neg f5, if_neg f6, if_neg f8, if_pos f9])
    rw [f9]
    clear f0 f5 f6 f8 f9 HP HL HH
    go_wp2_with fail
    refine ((unhide HE) V1).mono ?_
    rintro e V2 ⟨rfl, h2⟩
    have HB2 := hide ((unhide HB).2.trans (h2.mono (unhide HB).2.size))
    clear h2
    go_wp2_with fail
    all_goals go_ret
    all_goals exact ⟨by rw [unhide HQ]; rfl, unhide HB2⟩
  have HQ := hide (show partE (n := n) ((x, kids) : TV × List (Tm n)) = 0 by rw [unhide HP, if_neg f0, if_neg f5, if_neg f6, if_neg f8, if_neg f9])
  clear HP HL HH HE
  generalize formB x = fo at *
  have e0 : (fo == 0) = false := by simp [f0]
  have e5 : (fo == 5) = false := by simp [f5]
  have e6 : (fo == 6) = false := by simp [f6]
  have e8 : (fo == 8) = false := by simp [f8]
  have e9 : (fo == 9) = false := by simp [f9]
  clear f0 f5 f6 f8 f9
  go_wp2_with fail
  all_goals go_ret
  all_goals exact ⟨by rw [unhide HQ]; rfl, (unhide HB).2⟩
end Go.Proofs.Ytcdgmjpgmiehcaa

/- One operation of a drawn region, by its place alone. -/
namespace Go.Proofs.Ytcdgmjpgmiehcaa

/-- What stands at a place of a row, found by going along it. -/
def nthO {α : Type} : List α → Nat → Option α
  | [], _ => none
  | x :: _, 0 => some x
  | _ :: l, n + 1 => nthO l n
theorem nthO_get {α : Type} : ∀ (l : List α) (n : Nat), l.toArray[n]? = nthO l n
  | [], _ => by simp [nthO]
  | _ :: _, 0 => by simp [nthO]
  | _ :: l, n + 1 => by simpa [nthO] using nthO_get l n

theorem pu : (∀ (a : Act) (d : Tmp) (v : Value), a.put (some d) v = { a with tmps := a.tmps.setIfInBounds d v }) ∧ (∀ (a : Act) (v : Value), a.put none v = a) ∧ (∀ {α : Type} (l : List α) (i : Nat) (x : α), l.toArray.setIfInBounds i x = (l.set i x).toArray) ∧ (∀ {α : Type} (x y : α) (l : List α), (x :: l).set 0 y = y :: l) ∧ (∀ {α : Type} (x y : α) (l : List α) (n : Nat), (x :: l).set (n + 1) y = x :: l.set n y) :=
  ⟨fun _ _ _ => rfl, fun _ _ => rfl, fun _ _ _ => List.setIfInBounds_toArray .., fun _ _ _ => rfl, fun _ _ _ _ => rfl⟩

/-- An operation that yields comes up. -/
theorem tk {P : Program} {md : Region.Mode} {l : List Oper} {Q : Exit → Act → World → Prop} {S : World → Prop} {fuel : Nat} {listed li : Array Bool} {a a' : Act} {w : World} {oi : Oper} {v : Value} (i : Nat) (hi : nthO l i = some oi) (hS : S w)
    (h : wpAnyH P md l.toArray Q S fuel li a' w)
    (hf : (Region.noSelect l.toArray && (Region.free md l.toArray listed i && (Region.ready md l.toArray listed).contains i)) = true := by kernel_rfl)
    (hw : Region.wanted oi (yielded l.toArray a.tmps) = true := by rfl)
    (hy : ∀ w, S w → (execOp a.eval oi).run P w = .ok (.value v) w := by intro w' hSw; (try dsimp only at hSw); go_simp; try with_reducible rfl)
    (hl : listed.setIfInBounds i true = li := by (try simp only [pu]); with_reducible rfl)
    (ha : a.put oi.dst v = a' := by (try simp only [pu]); with_reducible rfl)
    (hQ : ∀ c a w, Q (.panic c) (a.put oi.dst v) w → Q (.panic c) a w := by exact fun _ _ _ h => h) :
    wpAnyH P md l.toArray Q S (fuel + 1) listed a w := by
  subst hl ha
  simp only [Bool.and_eq_true] at hf
  exact wpAnyH_take ((nthO_get l i).trans hi) hf.1 hf.2.1 hf.2.2 hQ (Or.inl ⟨hw, hy⟩) hS h

/-- An operation that is left out. -/
theorem tu {P : Program} {md : Region.Mode} {l : List Oper} {Q : Exit → Act → World → Prop} {S : World → Prop} {fuel : Nat} {listed li : Array Bool} {a a' : Act} {w : World} {oi : Oper} (i : Nat) (hi : nthO l i = some oi) (hS : S w)
    (h : wpAnyH P md l.toArray Q S fuel li a' w)
    (hf : (Region.noSelect l.toArray && (Region.free md l.toArray listed i && (Region.ready md l.toArray listed).contains i)) = true := by kernel_rfl)
    (hw : Region.wanted oi (yielded l.toArray a.tmps) = false := by rfl)
    (hl : listed.setIfInBounds i true = li := by (try simp only [pu]); with_reducible rfl)
    (ha : a.put oi.dst undef = a' := by (try simp only [pu]); with_reducible rfl)
    (hQ : ∀ c a w, Q (.panic c) (a.put oi.dst undef) w → Q (.panic c) a w := by exact fun _ _ _ h => h) :
    wpAnyH P md l.toArray Q S (fuel + 1) listed a w := by
  subst hl ha
  simp only [Bool.and_eq_true] at hf
  exact wpAnyH_take ((nthO_get l i).trans hi) hf.1 hf.2.1 hf.2.2 hQ (Or.inr ⟨hw, rfl⟩) hS h

/-- The one that may come up. -/
theorem rd {P : Program} {md : Region.Mode} {l : List Oper} {Q : Exit → Act → World → Prop} {S : World → Prop} {fuel : Nat} {listed : Array Bool} {a : Act} {w : World} {o : Oper} (i : Nat) (ho : nthO l i = some o)
    (h : ∀ K' : Act → World → Prop, Shut (∀ a w, S w → (S w → wpAnyH P md l.toArray Q S fuel (listed.setIfInBounds i true) a w) → K' a w) → if Region.wanted o (yielded l.toArray a.tmps) = true then Oper.wp P o a w K' Q else K' (a.put o.dst undef) w)
    (hr : Region.ready md l.toArray listed = [i] := by kernel_rfl) : wpAnyH P md l.toArray Q S (fuel + 1) listed a w :=
  wpAnyH_ready hr (by simp) (AllReadyH.cons ((nthO_get l i).trans ho) h AllReadyH.nil)

/-- One of several that may come up. -/
theorem rc {P : Program} {md : Region.Mode} {l : List Oper} {Q : Exit → Act → World → Prop} {S : World → Prop} {fuel : Nat} {listed : Array Bool} {a : Act} {w : World} {o : Oper} {rs : List Nat} (i : Nat) (ho : nthO l i = some o)
    (h : ∀ K' : Act → World → Prop, Shut (∀ a w, S w → (S w → wpAnyH P md l.toArray Q S fuel (listed.setIfInBounds i true) a w) → K' a w) → if Region.wanted o (yielded l.toArray a.tmps) = true then Oper.wp P o a w K' Q else K' (a.put o.dst undef) w)
    (hs : AllReadyH P md l.toArray Q S fuel listed a w rs) : AllReadyH P md l.toArray Q S fuel listed a w (i :: rs) := AllReadyH.cons ((nthO_get l i).trans ho) h hs
end Go.Proofs.Ytcdgmjpgmiehcaa

