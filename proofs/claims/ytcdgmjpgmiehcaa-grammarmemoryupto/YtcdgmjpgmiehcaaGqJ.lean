import Derived.Test.YtcdgmjpgmiehcaaGqHs
/- grammar's top at bodies that have no bodies in them. (Written by wip/gqtopgen.py.) -/
namespace Go.Proofs.Ytcdgmjpgmiehcaa
open Go.RowKit Go.Shelf

/-- The boxes of top: a task, an answer, a body. -/
theorem box_top (V : World) (E : Task) : ∃ W2 W3, (V.alloc (.cells #[.int .i64 E.x.k, .int .i64 E.x.N, .string E.x.s, .slice E.x.a E.x.len E.x.cap, .pointer (some ⟨E.pf, 0, none⟩), .pointer (some ⟨E.pt, 0, none⟩), .pointer (some E.pl)] 64)).alloc (.cells #[.int .i64 0, .int .i64 0, .string ⟨#[]⟩, .slice none 0 0] 24) = W2 ∧ W2.alloc (.cells #[.int .i64 E.x.k, .int .i64 E.x.N, .string E.x.s, .slice E.x.a E.x.len E.x.cap] 24) = W3 ∧ TkB W2 V.heap.size E ∧ W2.heap.size = V.heap.size + 1 + 1 ∧
    Below V.heap.size V W3 ∧ W3.heap.size = V.heap.size + 3 ∧ TkB W3 V.heap.size E ∧ BoxT W3 (V.heap.size + 1) noTerm ∧ BoxT W3 (V.heap.size + 1 + 1) E.x := by
  obtain ⟨W2, hW2⟩ : ∃ W2, (V.alloc (.cells #[.int .i64 E.x.k, .int .i64 E.x.N, .string E.x.s, .slice E.x.a E.x.len E.x.cap, .pointer (some ⟨E.pf, 0, none⟩), .pointer (some ⟨E.pt, 0, none⟩), .pointer (some E.pl)] 64)).alloc (.cells #[.int .i64 0, .int .i64 0, .string ⟨#[]⟩, .slice none 0 0] 24) = W2 := ⟨_, rfl⟩
  have hs2 : W2.heap.size = V.heap.size + 1 + 1 := by rw [← hW2]; simp
  have g2 : Below V.heap.size V W2 := by rw [← hW2]; exact ((Below.refl _ V).alloc (Nat.le_refl _) _).alloc (by simp) _
  have b0 : TkB W2 V.heap.size E := by rw [← hW2]; exact (Below.heap_alloc _ _ _ (by simp)).trans (World.alloc_heap_new V _)
  have b1 : BoxT W2 (V.heap.size + 1) noTerm := by
    rw [← hW2]
    have h0 := BoxT.new (V.alloc (.cells #[.int .i64 E.x.k, .int .i64 E.x.N, .string E.x.s, .slice E.x.a E.x.len E.x.cap, .pointer (some ⟨E.pf, 0, none⟩), .pointer (some ⟨E.pt, 0, none⟩), .pointer (some E.pl)] 64)) noTerm
    rw [World.size_alloc] at h0
    exact h0
  have hA : Below W2.heap.size W2 (W2.alloc (.cells #[.int .i64 E.x.k, .int .i64 E.x.N, .string E.x.s, .slice E.x.a E.x.len E.x.cap] 24)) := (Below.refl _ W2).alloc (Nat.le_refl _) _
  refine ⟨W2, _, hW2, rfl, b0, hs2, g2.trans (hA.mono (by omega)), by simp [hs2], (hA.block _ (by omega)).trans b0, (hA.block _ (by omega)).trans b1, ?_⟩
  rw [← hs2]
  exact BoxT.new W2 E.x
theorem row_three {D lo : Nat} {S : World} {x y z : TV} {cx cy cz : List Nd} {s : ByteArray} (hs : s.size ≤ 9223372036854775807) (hx : HoldsG anyP D lo S x.val cx) (hy : HoldsG anyP D lo S y.val cy) (hz : HoldsG anyP D lo S z.val cz) (hlo : lo ≤ S.heap.size) :
    HoldsG anyP (D + 1) lo (S.alloc (.cells #[.int .i64 x.k, .int .i64 x.N, .string x.s, .slice x.a x.len x.cap, .int .i64 y.k, .int .i64 y.N, .string y.s, .slice y.a y.len y.cap, .int .i64 z.k, .int .i64 z.N, .string z.s, .slice z.a z.len z.cap] 24)) (compV s (some ⟨S.heap.size, 0, none⟩) 3 3).val ((4, 0, s.toList, 3) :: (cx ++ (cy ++ cz))) := by
  have hb : Below S.heap.size S (S.alloc (.cells #[.int .i64 x.k, .int .i64 x.N, .string x.s, .slice x.a x.len x.cap, .int .i64 y.k, .int .i64 y.N, .string y.s, .slice y.a y.len y.cap, .int .i64 z.k, .int .i64 z.N, .string z.s, .slice z.a z.len z.cap] 24)) := (Below.refl _ S).alloc (Nat.le_refl _) _
  have hn := World.alloc_heap_new S (.cells #[.int .i64 x.k, .int .i64 x.N, .string x.s, .slice x.a x.len x.cap, .int .i64 y.k, .int .i64 y.N, .string y.s, .slice y.a y.len y.cap, .int .i64 z.k, .int .i64 z.N, .string z.s, .slice z.a z.len z.cap] 24)
  have := comp_G (P := anyP) (D := D) (lo := lo) (g := S.heap.size) (cap := 3) (s := s) (xs := [x, y, z]) (cs := [cx, cy, cz]) hs (by simp) rfl ⟨hlo, _, hn, rfl⟩ trivial (by simp) (fun j q c hq hc => by
    match j, hq, hc with
    | 0, hq, hc =>
      simp at hq hc
      subst hq hc
      exact ⟨⟨cell_of hn rfl, cell_of hn rfl, cell_of hn rfl, cell_of hn rfl⟩, hx.below hb⟩
    | 1, hq, hc =>
      simp at hq hc
      subst hq hc
      exact ⟨⟨cell_of hn rfl, cell_of hn rfl, cell_of hn rfl, cell_of hn rfl⟩, hy.below hb⟩
    | 2, hq, hc =>
      simp at hq hc
      subst hq hc
      exact ⟨⟨cell_of hn rfl, cell_of hn rfl, cell_of hn rfl, cell_of hn rfl⟩, hz.below hb⟩
    | j + 3, hq, hc => simp at hq)
  simpa using this
/-- An answer is stored in its box. -/
theorem Wen.stored {D w0 wb pf pt : Nat} {f0 : Int} {vs : List Int} {s r : List Nd} {lf : Value} {V U U2 : World} (hs : Wst D w0 wb pf pt f0 vs s r lf V) (hV : Below V.heap.size V U) (hU : V.heap.size + 3 ≤ U.heap.size) (hW : Wen D w0 wb pf pt f0 vs s r lf U U2) {Dd : Nat} {y : TV} {c : List Nd} (hG : HoldsG anyP Dd U.heap.size U2 y.val c) :
    HoldsG anyP Dd V.heap.size (Proofs.Ytcdgmjpgmiehcaa.set4 U2 (V.heap.size + 1) 0 y) y.val c ∧ Wen D w0 wb pf pt f0 vs s r lf V (Proofs.Ytcdgmjpgmiehcaa.set4 U2 (V.heap.size + 1) 0 y) :=
  ⟨(hG.set4 (by omega) 0 y).mono (Nat.le_refl _) (by omega) (fun _ h => h), (hW.pre hV).set4 hs (by omega) 0 y⟩
theorem varG (N : Int) (P : Nat → Prop) (lo : Nat) (W : World) : HoldsG P 1 lo W (varV N).val [varNd N] := by
  have hT : IsT (n := 1) W.heap.size W ((varV N, []) : TV × List (Tm 0)) := ⟨rfl, ⟨by simp [Tm.tv, varV], by simp [Tm.tv, varV], by simp⟩, by simp [Tm.tv, varV, ByteArray.size], .inl rfl⟩
  have h := holdsG_of (P := P) (lo := lo) hT ⟨.inl rfl, fun u hu => by cases hu⟩ ⟨.inl ⟨rfl, rfl⟩, fun u hu => by cases hu⟩
  rw [code_succ] at h
  have e : (varV N).nd = varNd N := by unfold TV.nd varV varNd; simp [ByteArray.toList_eq]
  rw [e] at h
  exact h
theorem atomG (s : ByteArray) (hs : s.size ≤ 9223372036854775807) (P : Nat → Prop) (lo : Nat) (W : World) : HoldsG P 1 lo W (atomT s).val [(3, 0, s.toList, 0)] := by
  have hT : IsT (n := 1) W.heap.size W ((atomT s, []) : TV × List (Tm 0)) := ⟨rfl, ⟨by simp [Tm.tv, atomT], by simp [Tm.tv, atomT], by simp⟩, hs, .inl rfl⟩
  exact holdsG_of (P := P) (lo := lo) hT ⟨.inl rfl, fun u hu => by cases hu⟩ ⟨.inl ⟨rfl, rfl⟩, fun u hu => by cases hu⟩
section
variable {D w0 wb : Nat} {f0 : Int} {vs : List Int} {V : World} {s r : List Nd} {lf : Value}
set_option maxRecDepth 100000 in
set_option maxHeartbeats 8000000 in
theorem top_words {n : Nat} (t : Tm (n + 1)) (E : Task) (hx : E.x = t.tv) (hT : IsT V.heap.size V t) (ok : okT t = true) (hf : formB E.x = 5) (hlim : n + 1 + D + 3 ≤ 2199023255552) (hs : Wst D w0 wb E.pf E.pt f0 vs s r lf V) :
    Calls Try.prog 37 #[.pointer (some ⟨wb, 0, none⟩), E.val] V fun e V' => LeafP (n + 1 + D + 3) D w0 wb E.pf E.pt f0 vs s r lf (eqC (renC (newR f0 (extV f0 vs r)) s) (endC t (renC (newR f0 (extV f0 vs r)) r))) V e V' := by
  obtain ⟨W2, W3, hW2, hW3, t0, hs2, g3, hs3, b0, b1, b2⟩ := box_top V E
  have HFO : Hid (Calls Try.prog 33 #[.agg #[.int .i64 E.x.k, .int .i64 E.x.N, .string E.x.s, .slice E.x.a E.x.len E.x.cap]] W3 fun e W' => e = .returned (.int .i64 (formB E.x)) ∧ Below W3.heap.size W3 W') := hide (form_any E.x W3)
  have HRC : Hid (∀ U, Below W3.heap.size W3 U → Calls Try.prog 50 #[.pointer (some ⟨wb, 0, none⟩), .agg #[.int .i64 E.x.k, .int .i64 E.x.N, .string E.x.s, .slice E.x.a E.x.len E.x.cap], .agg #[.int .i64 E.x.k, .int .i64 E.x.N, .string E.x.s, .slice E.x.a E.x.len E.x.cap, .pointer (some ⟨E.pf, 0, none⟩), .pointer (some ⟨E.pt, 0, none⟩), .pointer (some E.pl)]] U fun e V' => LeafP (n + 1 + D + 3) D w0 wb E.pf E.pt f0 vs s r lf (eqC (renC (newR f0 (extV f0 vs r)) s) (endC t (renC (newR f0 (extV f0 vs r)) r))) U e V') := hide fun U hU => by
    have gU := g3.trans (hU.mono g3.size)
    have := reach_w t E ((hT.below gU).mono gU.size) ok hlim (hs.below gU)
    rw [← hx] at this
    exact this
  have HST := hide (And.intro hs g3)
  have a0 := b2.c0
  have a1 := b2.c1
  have a2 := b2.c2
  have a3 := b2.c3
  obtain ⟨j0, j1, j2, j3, _, _, _⟩ := t0.cells
  have HB := hide (And.intro b0 (And.intro b1 b2))
  have hrow : E.row.toArray = #[.int .i64 E.x.k, .int .i64 E.x.N, .string E.x.s, .slice E.x.a E.x.len E.x.cap, .pointer (some ⟨E.pf, 0, none⟩), .pointer (some ⟨E.pt, 0, none⟩), .pointer (some E.pl)] := rfl
  rw [hf] at HFO
  clear t0 b0 b1 b2 hT ok hs g3 hx
  simp only [Task.val]
  rw [hrow]
  clear hrow
  go_enter Try.func37, Try.ntmps37
  go_wp2_with fail
  try rw [hW2]
  go_wp2_with fail
  try rw [hW3]
  go_wp2_with fail
  clear hW2 hW3 j0 j1 j2 j3 a0 a1 a2 a3
  refine (unhide HFO).mono ?_
  rintro e U ⟨rfl, hU⟩
  obtain ⟨b0, b1, b2⟩ := unhide HB
  have hUs := hU.size
  have t0 : TkB U V.heap.size E := (hU.block _ (by omega)).trans b0
  have r0 : BoxT U (V.heap.size + 1) noTerm := b1.below hU (by omega)
  have x0 : BoxT U (V.heap.size + 1 + 1) E.x := b2.below hU (by omega)
  clear b0 b1 b2 HB HFO
  obtain ⟨i0, i1, i2, i3, i4, i5, i6⟩ := t0.cells
  have a0 := x0.c0
  have a1 := x0.c1
  have a2 := x0.c2
  have a3 := x0.c3
  have HRU := hide ((unhide HRC) U hU)
  have HUU := hide (And.intro hU r0)
  clear t0 r0 x0 hU HRC
  go_wp2_with fail
  refine (unhide HRU).mono ?_
  rintro e U2 ⟨y, rfl, hG, hW⟩
  have bx : BoxT U2 (V.heap.size + 1) noTerm := (hW.mid (unhide HST).1 (by omega) (by omega)).trans (unhide HUU).2
  obtain ⟨f0', f1', f2', f3'⟩ := bx.frz
  have e0 := bx.c0
  have e1 := bx.c1
  have e2 := bx.c2
  have e3 := bx.c3
  have b6 := set4_box bx y
  have g0 := b6.c0
  have g1 := b6.c1
  have g2 := b6.c2
  have g3 := b6.c3
  have HZ := hide (Wen.stored (unhide HST).1 ((unhide HST).2.trans ((unhide HUU).1.mono (unhide HST).2.size)) (by omega) hW hG)
  clear hG hW bx b6 HRU i0 i1 i2 i3 i4 i5 i6 a0 a1 a2 a3
  simp only [TV.val]
  go_wp2_with fail
  exact bodyPost_ret (v := y.val) (by
    have e : (((U2.setCell ⟨V.heap.size + 1, 0, none⟩ (.int .i64 y.k)).setCell ⟨V.heap.size + 1, 1, none⟩ (.int .i64 y.N)).setCell ⟨V.heap.size + 1, 2, none⟩ (.string y.s)).setCell ⟨V.heap.size + 1, 3, none⟩ (.slice y.a y.len y.cap) = set4 U2 (V.heap.size + 1) 0 y := rfl
    rw [e]
    simp [results, Try.results37, go_sem, TV.val, g0, g1, g2, g3]) rfl ⟨y, rfl, (unhide HZ).1, (unhide HZ).2⟩
set_option maxRecDepth 100000 in
set_option maxHeartbeats 8000000 in
theorem top_block {n : Nat} (t : Tm (n + 1)) (E : Task) (hx : E.x = t.tv) (hT : IsT V.heap.size V t) (ok : okT t = true) (hf : formB E.x = 6) (hb : t.kids.all (fun u => (bodyC u).isSome) = true) (hn : n ≤ 549755813888) (hlim : 2 * n + D + 8 ≤ 2199023255552) (hs : Wst D w0 wb E.pf E.pt f0 vs s r lf V) :
    Calls Try.prog 37 #[.pointer (some ⟨wb, 0, none⟩), E.val] V fun e V' => LeafP (2 * n + D + 8) D w0 wb E.pf E.pt f0 vs s r lf (curlC t.kids (renC (newR f0 (extV f0 vs r)) s) (renC (newR f0 (extV f0 vs r)) r)) V e V' := by
  obtain ⟨W2, W3, hW2, hW3, t0, hs2, g3, hs3, b0, b1, b2⟩ := box_top V E
  have HFO : Hid (Calls Try.prog 33 #[.agg #[.int .i64 E.x.k, .int .i64 E.x.N, .string E.x.s, .slice E.x.a E.x.len E.x.cap]] W3 fun e W' => e = .returned (.int .i64 (formB E.x)) ∧ Below W3.heap.size W3 W') := hide (form_any E.x W3)
  have HRC : Hid (∀ U, Below W3.heap.size W3 U → Calls Try.prog 51 #[.pointer (some ⟨wb, 0, none⟩), .agg #[.int .i64 E.x.k, .int .i64 E.x.N, .string E.x.s, .slice E.x.a E.x.len E.x.cap], .agg #[.int .i64 E.x.k, .int .i64 E.x.N, .string E.x.s, .slice E.x.a E.x.len E.x.cap, .pointer (some ⟨E.pf, 0, none⟩), .pointer (some ⟨E.pt, 0, none⟩), .pointer (some E.pl)]] U fun e V' => LeafP (2 * n + D + 8) D w0 wb E.pf E.pt f0 vs s r lf (curlC t.kids (renC (newR f0 (extV f0 vs r)) s) (renC (newR f0 (extV f0 vs r)) r)) U e V') := hide fun U hU => by
    have gU := g3.trans (hU.mono g3.size)
    have := done_any t E ((hT.below gU).mono gU.size) ok (by rw [← hx]; exact hf) hb hn hlim (hs.below gU)
    rw [← hx] at this
    exact this
  have HST := hide (And.intro hs g3)
  have a0 := b2.c0
  have a1 := b2.c1
  have a2 := b2.c2
  have a3 := b2.c3
  obtain ⟨j0, j1, j2, j3, _, _, _⟩ := t0.cells
  have HB := hide (And.intro b0 (And.intro b1 b2))
  have hrow : E.row.toArray = #[.int .i64 E.x.k, .int .i64 E.x.N, .string E.x.s, .slice E.x.a E.x.len E.x.cap, .pointer (some ⟨E.pf, 0, none⟩), .pointer (some ⟨E.pt, 0, none⟩), .pointer (some E.pl)] := rfl
  rw [hf] at HFO
  clear t0 b0 b1 b2 hT ok hs g3 hx
  simp only [Task.val]
  rw [hrow]
  clear hrow
  go_enter Try.func37, Try.ntmps37
  go_wp2_with fail
  try rw [hW2]
  go_wp2_with fail
  try rw [hW3]
  go_wp2_with fail
  clear hW2 hW3 j0 j1 j2 j3 a0 a1 a2 a3
  refine (unhide HFO).mono ?_
  rintro e U ⟨rfl, hU⟩
  obtain ⟨b0, b1, b2⟩ := unhide HB
  have hUs := hU.size
  have t0 : TkB U V.heap.size E := (hU.block _ (by omega)).trans b0
  have r0 : BoxT U (V.heap.size + 1) noTerm := b1.below hU (by omega)
  have x0 : BoxT U (V.heap.size + 1 + 1) E.x := b2.below hU (by omega)
  clear b0 b1 b2 HB HFO
  obtain ⟨i0, i1, i2, i3, i4, i5, i6⟩ := t0.cells
  have a0 := x0.c0
  have a1 := x0.c1
  have a2 := x0.c2
  have a3 := x0.c3
  have HRU := hide ((unhide HRC) U hU)
  have HUU := hide (And.intro hU r0)
  clear t0 r0 x0 hU HRC
  go_wp2_with fail
  refine (unhide HRU).mono ?_
  rintro e U2 ⟨y, rfl, hG, hW⟩
  have bx : BoxT U2 (V.heap.size + 1) noTerm := (hW.mid (unhide HST).1 (by omega) (by omega)).trans (unhide HUU).2
  obtain ⟨f0', f1', f2', f3'⟩ := bx.frz
  have e0 := bx.c0
  have e1 := bx.c1
  have e2 := bx.c2
  have e3 := bx.c3
  have b6 := set4_box bx y
  have g0 := b6.c0
  have g1 := b6.c1
  have g2 := b6.c2
  have g3 := b6.c3
  have HZ := hide (Wen.stored (unhide HST).1 ((unhide HST).2.trans ((unhide HUU).1.mono (unhide HST).2.size)) (by omega) hW hG)
  clear hG hW bx b6 HRU i0 i1 i2 i3 i4 i5 i6 a0 a1 a2 a3
  simp only [TV.val]
  go_wp2_with fail
  exact bodyPost_ret (v := y.val) (by
    have e : (((U2.setCell ⟨V.heap.size + 1, 0, none⟩ (.int .i64 y.k)).setCell ⟨V.heap.size + 1, 1, none⟩ (.int .i64 y.N)).setCell ⟨V.heap.size + 1, 2, none⟩ (.string y.s)).setCell ⟨V.heap.size + 1, 3, none⟩ (.slice y.a y.len y.cap) = set4 U2 (V.heap.size + 1) 0 y := rfl
    rw [e]
    simp [results, Try.results37, go_sem, TV.val, g0, g1, g2, g3]) rfl ⟨y, rfl, (unhide HZ).1, (unhide HZ).2⟩
set_option maxRecDepth 100000 in
set_option maxHeartbeats 8000000 in
theorem top_unknown (E : Task) (hf : formB E.x = 1) (hlim : D + 4 ≤ 2199023255552) (hs : Wst D w0 wb E.pf E.pt f0 vs s r lf V) :
    Calls Try.prog 37 #[.pointer (some ⟨wb, 0, none⟩), E.val] V fun e V' => LeafP (D + 4) D w0 wb E.pf E.pt f0 vs s r lf ((4, 0, callL, 3) :: (varNd E.x.N :: ((renC (newR f0 (extV f0 vs r)) s) ++ (renC (newR f0 (extV f0 vs r)) r)))) V e V' := by
  obtain ⟨W2, W3, hW2, hW3, t0, hs2, g3, hs3, b0, b1, b2⟩ := box_top V E
  have HFO : Hid (Calls Try.prog 33 #[.agg #[.int .i64 E.x.k, .int .i64 E.x.N, .string E.x.s, .slice E.x.a E.x.len E.x.cap]] W3 fun e W' => e = .returned (.int .i64 (formB E.x)) ∧ Below W3.heap.size W3 W') := hide (form_any E.x W3)
  have HVA : Hid (∀ U, Calls Try.prog 23 #[.int .i64 E.x.N] U fun e W' => e = .returned (varV E.x.N).val ∧ Below U.heap.size U W') := hide fun U => gvar_any E.x.N U
  have HW1 : Hid (∀ U, Below W3.heap.size W3 U → Calls Try.prog 47 #[.pointer (some ⟨wb, 0, none⟩), .pointer (some ⟨E.pf, 0, none⟩)] U fun e V' => ∃ y : TV, e = .returned y.val ∧ HoldsT (D + 1) U.heap.size V' y.val (renC (newR f0 vs) s) ∧ Below U.heap.size U V') := hide fun U hU => by
    have h := hs.below (g3.trans (hU.mono g3.size))
    refine (written_known (by omega) h.kf h.wr h.w0f).mono fun e V' h => ?_
    obtain ⟨y, p1, p2, _, _, p5⟩ := h
    exact ⟨y, p1, p2, p5⟩
  have HW2 : Hid (∀ U, Below W3.heap.size W3 U → Calls Try.prog 47 #[.pointer (some ⟨wb, 0, none⟩), .pointer (some ⟨E.pt, 0, none⟩)] U fun e V' => ∃ y : TV, e = .returned y.val ∧ HoldsT (D + 1) U.heap.size V' y.val (renC (newR f0 (extV f0 vs r)) r) ∧ Wen D w0 wb E.pf E.pt f0 vs s r lf U V') := hide fun U hU => by
    have h := hs.below (g3.trans (hU.mono g3.size))
    refine (written_two h.d1 (by omega) h.kf h.kt h.wr h.w0b h.w0f h.w0t h.f00 h.n40).mono fun e V' h => ?_
    obtain ⟨y, p1, p2, p3, p4, p5, p6⟩ := h
    exact ⟨y, p1, p2, p3, p4, p5, p6⟩
  have hrs : (renC (newR f0 (extV f0 vs r)) s) = renC (newR f0 vs) s := by obtain ⟨x, _, _, _, hc⟩ := hs.kf; exact hc.renE r
  have HC : Hid (∀ (R : Nat) (X : World), Calls Try.prog 24 #[.string ⟨#[99, 97, 108, 108]⟩, .slice (some ⟨R, 0, none⟩) 3 3] X fun e W' => e = .returned (compV ⟨#[99, 97, 108, 108]⟩ (some ⟨R, 0, none⟩) 3 3).val ∧ Below X.heap.size X W') := hide fun R X => gcomp_any _ _ _ _ X
  have HST := hide (And.intro hs (And.intro g3 hrs))
  have a0 := b2.c0
  have a1 := b2.c1
  have a2 := b2.c2
  have a3 := b2.c3
  obtain ⟨j0, j1, j2, j3, _, _, _⟩ := t0.cells
  have HB := hide (And.intro b0 (And.intro b1 b2))
  have hrow : E.row.toArray = #[.int .i64 E.x.k, .int .i64 E.x.N, .string E.x.s, .slice E.x.a E.x.len E.x.cap, .pointer (some ⟨E.pf, 0, none⟩), .pointer (some ⟨E.pt, 0, none⟩), .pointer (some E.pl)] := rfl
  rw [hf] at HFO
  clear t0 b0 b1 b2 hs g3 hrs
  simp only [Task.val]
  rw [hrow]
  clear hrow
  go_enter Try.func37, Try.ntmps37
  go_wp2_with fail
  try rw [hW2]
  go_wp2_with fail
  try rw [hW3]
  go_wp2_with fail
  clear hW2 hW3 j0 j1 j2 j3 a0 a1 a2 a3
  refine (unhide HFO).mono ?_
  rintro e U ⟨rfl, hU⟩
  obtain ⟨b0, b1, b2⟩ := unhide HB
  have hUs := hU.size
  have t0 : TkB U V.heap.size E := (hU.block _ (by omega)).trans b0
  have r0 : BoxT U (V.heap.size + 1) noTerm := b1.below hU (by omega)
  have x0 : BoxT U (V.heap.size + 1 + 1) E.x := b2.below hU (by omega)
  clear b0 b1 b2 HB HFO
  obtain ⟨D1, hD1⟩ : ∃ D1, U.drew = D1 := ⟨_, rfl⟩
  have hDB : Below U.heap.size U D1 := by rw [← hD1]; exact (Below.refl _ U).drew
  have hD3 : Below W3.heap.size W3 D1 := hU.trans (hDB.mono hU.size)
  have KEEP : Hid (∀ X : World, (∀ k, V.heap.size ≤ k → k < V.heap.size + 3 → X.heap[k]? = U.heap[k]?) → (X.cell? ⟨V.heap.size + 1 + 1, 1, none⟩ = some (.int .i64 E.x.N) ∧ X.cell? ⟨V.heap.size, 4, none⟩ = some (.pointer (some ⟨E.pf, 0, none⟩)) ∧ X.cell? ⟨V.heap.size, 5, none⟩ = some (.pointer (some ⟨E.pt, 0, none⟩)))) := hide fun X hX => by
    have t1 : TkB X V.heap.size E := (hX _ (by omega) (by omega)).trans t0
    have x1 : BoxT X (V.heap.size + 1 + 1) E.x := (hX _ (by omega) (by omega)).trans x0
    obtain ⟨q0, q1, q2, q3, q4, q5, q6⟩ := t1.cells
    exact ⟨x1.c1, q4, q5⟩
  have KEEP' : Hid (∀ X : World, (∀ k, V.heap.size ≤ k → k < V.heap.size + 3 → k ≠ V.heap.size + 1 → X.heap[k]? = U.heap[k]?) → (X.cell? ⟨V.heap.size + 1 + 1, 1, none⟩ = some (.int .i64 E.x.N) ∧ X.cell? ⟨V.heap.size, 4, none⟩ = some (.pointer (some ⟨E.pf, 0, none⟩)) ∧ X.cell? ⟨V.heap.size, 5, none⟩ = some (.pointer (some ⟨E.pt, 0, none⟩)))) := hide fun X hX => by
    have t1 : TkB X V.heap.size E := (hX _ (by omega) (by omega) (by omega)).trans t0
    have x1 : BoxT X (V.heap.size + 1 + 1) E.x := (hX _ (by omega) (by omega) (by omega)).trans x0
    obtain ⟨q0, q1, q2, q3, q4, q5, q6⟩ := t1.cells
    exact ⟨x1.c1, q4, q5⟩
  have kD := (unhide KEEP) D1 (fun k _ hk => hDB.block k (by omega))
  have HUU := hide (And.intro hU r0)
  have HD := hide (And.intro hDB hD3)
  clear t0 r0 x0 hU hDB hD3
  go_wp2_with fail
  refine wp_region_noPanic ?_
  refine wp_region_held_drew (S := fun w' => w'.cell? ⟨V.heap.size + 1 + 1, 1, none⟩ = some (.int .i64 E.x.N) ∧ w'.cell? ⟨V.heap.size, 4, none⟩ = some (.pointer (some ⟨E.pf, 0, none⟩)) ∧ w'.cell? ⟨V.heap.size, 5, none⟩ = some (.pointer (some ⟨E.pt, 0, none⟩))) (by kernel_rfl) ?_ (fun hHeld => ?_)
  · (try rw [hD1]); exact kD
  rw [hD1] at hHeld ⊢
  clear hD1
  refine tk 0 rfl hHeld ?_
  refine tk 1 rfl hHeld ?_
  refine tk 3 rfl hHeld ?_
  refine tk 4 rfl hHeld ?_
  refine tk 5 rfl hHeld ?_
  refine tk 7 rfl hHeld ?_
  refine tk 8 rfl hHeld ?_
  refine tk 9 rfl hHeld ?_
  refine rd 2 rfl fun K hK => ?_
  have hHold := hHeld
  clear hHeld
  go_simp
  refine ((unhide HVA) D1).mono ?_
  rintro e X1 ⟨rfl, h1⟩
  have m1 := (unhide HD).1.trans (h1.mono (unhide HD).1.size)
  have n1 := (unhide HD).2.trans (h1.mono (unhide HD).2.size)
  have k1 := (unhide KEEP) X1 (fun k _ hk => m1.block k (by omega))
  have HW1' := hide ((unhide HW1) X1 n1)
  have HD1 := hide (And.intro m1 n1)
  clear h1 m1 n1
  simp only [TV.val, varV]
  go_wp2_with fail
  refine hK.out _ _ ?_ (fun hHeld => ?_)
  · ((try dsimp only); exact k1)
  clear hK K hHold
  try simp only [pu]
  refine rd 6 rfl fun K hK => ?_
  have hHold := hHeld
  clear hHeld
  go_simp
  refine (unhide HW1').mono ?_
  rintro e X2 ⟨y, rfl, hy, h2⟩
  have m2 := (unhide HD1).1.trans (h2.mono (unhide HD1).1.size)
  have n2 := (unhide HD1).2.trans (h2.mono (unhide HD1).2.size)
  have k2 := (unhide KEEP) X2 (fun k _ hk => m2.block k (by omega))
  have HW2' := hide ((unhide HW2) X2 n2)
  have HD2 := hide (And.intro m2 (And.intro n2 (And.intro hy (show V.heap.size + 3 ≤ X1.heap.size by have := (unhide HD1).1.size; omega))))
  clear h2 m2 n2 hy HW1'
  simp only [TV.val]
  go_wp2_with fail
  refine hK.out _ _ ?_ (fun hHeld => ?_)
  · ((try dsimp only); exact k2)
  clear hK K hHold
  try simp only [pu]
  refine rd 10 rfl fun K hK => ?_
  have hHold := hHeld
  clear hHeld
  go_simp
  refine (unhide HW2').mono ?_
  rintro e U3 ⟨z, rfl, hz, hW⟩
  have hmid : ∀ k, V.heap.size ≤ k → k < V.heap.size + 3 → U3.heap[k]? = U.heap[k]? := fun k h1 h2 => (hW.mid (unhide HST).1 h1 (by have := (unhide HD2).1.size; omega)).trans ((unhide HD2).1.block k (by omega))
  have k3 := (unhide KEEP) U3 hmid
  have hal : Below U3.heap.size U3 (U3.alloc (.cells #[.int .i64 1, .int .i64 E.x.N, .string ⟨#[]⟩, .slice none 0 0, .int .i64 y.k, .int .i64 y.N, .string y.s, .slice y.a y.len y.cap, .int .i64 z.k, .int .i64 z.N, .string z.s, .slice z.a z.len z.cap] 24)) := (Below.refl _ U3).alloc (Nat.le_refl _) _
  have hsU3 : V.heap.size + 3 ≤ U3.heap.size := by have := hW.gr.size; have := (unhide HD2).1.size; omega
  have k4 := (unhide KEEP) _ (fun k h1 h2 => (hal.block k (by omega)).trans (hmid k h1 h2))
  have yG : HoldsG anyP (D + 1) (V.heap.size + 3) U3 y.val (renC (newR f0 vs) s) := (((unhide HD2).2.2.1.holdsG (P := anyP) (fun _ _ => trivial)).move (fun k _ hk => hW.mid (unhide HST).1 (by have := hk.1; have := (unhide HD2).2.2.2; omega) hk.lt) hW.gr.size).mono (Nat.le_refl _) (unhide HD2).2.2.2 (fun _ h => h)
  have zG : HoldsG anyP (D + 1) (V.heap.size + 3) U3 z.val (renC (newR f0 (extV f0 vs r)) r) := (hz.holdsG (P := anyP) (fun _ _ => trivial)).mono (Nat.le_refl _) (by have := (unhide HD2).1.size; omega) (fun _ h => h)
  have hrow := row_three (s := ⟨#[99, 97, 108, 108]⟩) (by decide) ((varG E.x.N anyP (V.heap.size + 3) U3).mono (by omega) (Nat.le_refl _) (fun _ h => h)) yG zG hsU3
  rw [show (⟨#[99, 97, 108, 108]⟩ : ByteArray).toList = callL from callL_eq, ← (unhide HST).2.2] at hrow
  have HROW := hide hrow
  have HU3 := hide (And.intro hW (And.intro hmid (And.intro hsU3 hal)))
  clear hz hW hmid hal hsU3 yG zG hrow HW2'
  simp only [TV.val]
  go_wp2_with fail
  refine hK.out _ _ ?_ (fun hHeld => ?_)
  · ((try dsimp only); exact k3)
  clear hK K hHold
  try simp only [pu]
  refine rd 11 rfl fun K hK => ?_
  have hHold := hHeld
  clear hHeld
  go_simp
  refine hK.out _ _ ?_ (fun hHeld => ?_)
  · ((try dsimp only); exact k4)
  clear hK K hHold
  try simp only [pu]
  refine rd 12 rfl fun K hK => ?_
  have hHold := hHeld
  clear hHeld
  go_simp
  refine ((unhide HC) U3.heap.size _).mono ?_
  rintro e X4 ⟨rfl, h4⟩
  rw [World.size_alloc] at h4
  obtain ⟨hW, hmid, hsU3, hal⟩ := unhide HU3
  have h34 : Below U3.heap.size U3 X4 := hal.trans (h4.mono (by omega))
  have hm4 : ∀ k, V.heap.size ≤ k → k < V.heap.size + 3 → X4.heap[k]? = U.heap[k]? := fun k h1 h2 => (h34.block k (by omega)).trans (hmid k h1 h2)
  have k5 := (unhide KEEP) X4 hm4
  have bx : BoxT X4 (V.heap.size + 1) noTerm := (hm4 _ (by omega) (by omega)).trans (unhide HUU).2
  obtain ⟨f0', f1', f2', f3'⟩ := bx.frz
  have e0 := bx.c0
  have e1 := bx.c1
  have e2 := bx.c2
  have e3 := bx.c3
  have b6 := set4_box bx (compV ⟨#[99, 97, 108, 108]⟩ (some ⟨U3.heap.size, 0, none⟩) 3 3)
  have g0 := b6.c0
  have g1 := b6.c1
  have g2 := b6.c2
  have g3 := b6.c3
  have gV : Below V.heap.size V X2 := (unhide HST).2.1.trans ((unhide HD2).2.1.mono (unhide HST).2.1.size)
  have hW4 : Wen D w0 wb E.pf E.pt f0 vs s r lf X2 X4 := hW.below ((unhide HST).1.below gV) h34
  have k6 := (unhide KEEP') (set4 X4 (V.heap.size + 1) 0 (compV ⟨#[99, 97, 108, 108]⟩ (some ⟨U3.heap.size, 0, none⟩) 3 3)) (fun k h1 h2 h3 => (set4_other X4 _ 0 _ h3).trans (hm4 k h1 h2))
  have hG4 := ((HoldsG.below (unhide HROW) (by rw [World.size_alloc]; exact h4)).set4 (b := V.heap.size + 1) (by omega) 0 (compV ⟨#[99, 97, 108, 108]⟩ (some ⟨U3.heap.size, 0, none⟩) 3 3)).mono (show D + 1 + 1 ≤ D + 4 by omega) (show V.heap.size ≤ V.heap.size + 3 by omega) (fun _ h => h)
  have HZ := hide (And.intro hG4 ((hW4.pre gV).set4 (unhide HST).1 (show V.heap.size ≤ V.heap.size + 1 by omega) 0 (compV ⟨#[99, 97, 108, 108]⟩ (some ⟨U3.heap.size, 0, none⟩) 3 3)))
  clear hW hmid hsU3 hal h34 hm4 h4 bx b6 gV hW4 hG4 HROW HU3
  simp only [TV.val, compV]
  go_wp2_with fail
  refine hK.out _ _ ?_ (fun hHeld => ?_)
  · ((try dsimp only); exact k5)
  clear hK K hHold
  try simp only [pu]
  refine rd 13 rfl fun K hK => ?_
  have hHold := hHeld
  clear hHeld
  go_simp
  refine hK.out _ _ ?_ (fun hHeld => ?_)
  · ((try dsimp only); exact k6)
  clear hK K hHold
  try simp only [pu]
  refine wpAnyH_done (by kernel_rfl) ?_ _
  refine NoPanic.normal ?_
  clear hHeld
  go_wp2_with fail
  exact bodyPost_ret (v := (compV ⟨#[99, 97, 108, 108]⟩ (some ⟨U3.heap.size, 0, none⟩) 3 3).val) (by
    have e : (((X4.setCell ⟨V.heap.size + 1, 0, none⟩ (.int .i64 4)).setCell ⟨V.heap.size + 1, 1, none⟩ (.int .i64 0)).setCell ⟨V.heap.size + 1, 2, none⟩ (.string ⟨#[99, 97, 108, 108]⟩)).setCell ⟨V.heap.size + 1, 3, none⟩ (.slice (some ⟨U3.heap.size, 0, none⟩) 3 3) = set4 X4 (V.heap.size + 1) 0 (compV ⟨#[99, 97, 108, 108]⟩ (some ⟨U3.heap.size, 0, none⟩) 3 3) := rfl
    rw [e]
    simp [results, Try.results37, go_sem, TV.val, g0, g1, g2, g3]) rfl ⟨_, rfl, (unhide HZ).1, (unhide HZ).2⟩
set_option maxRecDepth 100000 in
set_option maxHeartbeats 8000000 in
theorem top_other {n : Nat} (t : Tm (n + 1)) (E : Task) (hnw : ∀ k ∈ blks t, k ≠ wb) (hnp : ∀ k ∈ blks t, k ≠ E.pt) (hx : E.x = t.tv) (hT : IsT V.heap.size V t) (ok : okT t = true) (hf : formB E.x = 8 ∨ formB E.x = 9) (hlen : t.tv.len ≤ 48) (hlim : n + D + 4 ≤ 2199023255552) (hs : Wst D w0 wb E.pf E.pt f0 vs s r lf V) :
    Calls Try.prog 37 #[.pointer (some ⟨wb, 0, none⟩), E.val] V fun e V' => LeafP (n + D + 4) D w0 wb E.pf E.pt f0 vs s r lf ((4, 0, t.tv.s.toList, t.tv.len + 2) :: (t.kids.flatMap code ++ ((renC (newR f0 (extV f0 vs r)) s) ++ (renC (newR f0 (extV f0 vs r)) r)))) V e V' := by
  obtain ⟨W2, W3, hW2, hW3, t0, hs2, g3, hs3, b0, b1, b2⟩ := box_top V E
  have HFO : Hid (Calls Try.prog 33 #[.agg #[.int .i64 E.x.k, .int .i64 E.x.N, .string E.x.s, .slice E.x.a E.x.len E.x.cap]] W3 fun e W' => e = .returned (.int .i64 (formB E.x)) ∧ Below W3.heap.size W3 W') := hide (form_any E.x W3)
  have HW1 : Hid (∀ U, Below W3.heap.size W3 U → Calls Try.prog 47 #[.pointer (some ⟨wb, 0, none⟩), .pointer (some ⟨E.pf, 0, none⟩)] U fun e V' => ∃ y : TV, e = .returned y.val ∧ HoldsT (D + 1) U.heap.size V' y.val (renC (newR f0 vs) s) ∧ Below U.heap.size U V') := hide fun U hU => by
    have h := hs.below (g3.trans (hU.mono g3.size))
    refine (written_known (by omega) h.kf h.wr h.w0f).mono fun e V' h => ?_
    obtain ⟨y, p1, p2, _, _, p5⟩ := h
    exact ⟨y, p1, p2, p5⟩
  have HW2 : Hid (∀ U, Below W3.heap.size W3 U → Calls Try.prog 47 #[.pointer (some ⟨wb, 0, none⟩), .pointer (some ⟨E.pt, 0, none⟩)] U fun e V' => ∃ y : TV, e = .returned y.val ∧ HoldsT (D + 1) U.heap.size V' y.val (renC (newR f0 (extV f0 vs r)) r) ∧ Wen D w0 wb E.pf E.pt f0 vs s r lf U V') := hide fun U hU => by
    have h := hs.below (g3.trans (hU.mono g3.size))
    refine (written_two h.d1 (by omega) h.kf h.kt h.wr h.w0b h.w0f h.w0t h.f00 h.n40).mono fun e V' h => ?_
    obtain ⟨y, p1, p2, p3, p4, p5, p6⟩ := h
    exact ⟨y, p1, p2, p3, p4, p5, p6⟩
  have hrs : (renC (newR f0 (extV f0 vs r)) s) = renC (newR f0 vs) s := by obtain ⟨x, _, _, _, hc⟩ := hs.kf; exact hc.renE r
  have HEX : Hid (∀ (U : World) (y z : TV) (cy cz : List Nd) (lo : Nat), Below W3.heap.size W3 U ∨ GrB (fun k => k = wb ∨ k = E.pt) V.heap.size V U → HoldsG anyP (n + D + 2) lo U y.val cy → HoldsG anyP (n + D + 2) lo U z.val cz → lo ≤ U.heap.size → IsT U.heap.size U t → Calls Try.prog 25 #[.agg #[.int .i64 E.x.k, .int .i64 E.x.N, .string E.x.s, .slice E.x.a E.x.len E.x.cap], y.val, z.val] U fun e V' => ∃ x : TV, e = .returned x.val ∧ HoldsG anyP (n + D + 3) lo V' x.val ((4, 0, t.tv.s.toList, t.tv.len + 2) :: (t.kids.flatMap code ++ (cy ++ cz))) ∧ Below U.heap.size U V') := hide fun U y z cy cz lo _ hy hz hlo hTU => by
    have := extd_any (D := n + D + 2) t y z U hTU ok hlen hy hz hlo (by omega)
    rw [← hx] at this ⊢
    exact this
  have HTT : Hid (∀ U : World, GrB (fun k => k = wb ∨ k = E.pt) V.heap.size V U → IsT U.heap.size U t) := hide fun U hU => ((hT.keptL hU.size (fun k hk => hU.block k (hT.blks_lt k hk) (fun e => by
      rcases e with e | e
      · exact hnw k hk e
      · exact hnp k hk e))))
  have HST := hide (And.intro hs (And.intro g3 hrs))
  have a0 := b2.c0
  have a1 := b2.c1
  have a2 := b2.c2
  have a3 := b2.c3
  obtain ⟨j0, j1, j2, j3, _, _, _⟩ := t0.cells
  have HB := hide (And.intro b0 (And.intro b1 b2))
  have hrow : E.row.toArray = #[.int .i64 E.x.k, .int .i64 E.x.N, .string E.x.s, .slice E.x.a E.x.len E.x.cap, .pointer (some ⟨E.pf, 0, none⟩), .pointer (some ⟨E.pt, 0, none⟩), .pointer (some E.pl)] := rfl
  clear t0 b0 b1 b2 hT ok hs g3 hrs hx hlen hnw hnp
  simp only [Task.val]
  rw [hrow]
  clear hrow
  go_enter Try.func37, Try.ntmps37
  go_wp2_with fail
  try rw [hW2]
  go_wp2_with fail
  try rw [hW3]
  go_wp2_with fail
  clear hW2 hW3 j0 j1 j2 j3 a0 a1 a2 a3
  refine (unhide HFO).mono ?_
  rintro e U ⟨rfl, hU⟩
  obtain ⟨ff, hff⟩ : ∃ ff, formB E.x = ff := ⟨_, rfl⟩
  rw [hff] at hf ⊢
  clear hff
  obtain ⟨b0, b1, b2⟩ := unhide HB
  have hUs := hU.size
  have t0 : TkB U V.heap.size E := (hU.block _ (by omega)).trans b0
  have r0 : BoxT U (V.heap.size + 1) noTerm := b1.below hU (by omega)
  have x0 : BoxT U (V.heap.size + 1 + 1) E.x := b2.below hU (by omega)
  clear b0 b1 b2 HB HFO
  obtain ⟨D1, hD1⟩ : ∃ D1, U.drew = D1 := ⟨_, rfl⟩
  have hDB : Below U.heap.size U D1 := by rw [← hD1]; exact (Below.refl _ U).drew
  have hD3 : Below W3.heap.size W3 D1 := hU.trans (hDB.mono hU.size)
  have KEEP : Hid (∀ X : World, (∀ k, V.heap.size ≤ k → k < V.heap.size + 3 → X.heap[k]? = U.heap[k]?) → (X.cell? ⟨V.heap.size + 1 + 1, 0, none⟩ = some (.int .i64 E.x.k) ∧ X.cell? ⟨V.heap.size + 1 + 1, 1, none⟩ = some (.int .i64 E.x.N) ∧ X.cell? ⟨V.heap.size + 1 + 1, 2, none⟩ = some (.string E.x.s) ∧ X.cell? ⟨V.heap.size + 1 + 1, 3, none⟩ = some (.slice E.x.a E.x.len E.x.cap) ∧ X.cell? ⟨V.heap.size, 4, none⟩ = some (.pointer (some ⟨E.pf, 0, none⟩)) ∧ X.cell? ⟨V.heap.size, 5, none⟩ = some (.pointer (some ⟨E.pt, 0, none⟩)))) := hide fun X hX => by
    have t1 : TkB X V.heap.size E := (hX _ (by omega) (by omega)).trans t0
    have x1 : BoxT X (V.heap.size + 1 + 1) E.x := (hX _ (by omega) (by omega)).trans x0
    obtain ⟨q0, q1, q2, q3, q4, q5, q6⟩ := t1.cells
    exact ⟨x1.c0, x1.c1, x1.c2, x1.c3, q4, q5⟩
  have KEEP' : Hid (∀ X : World, (∀ k, V.heap.size ≤ k → k < V.heap.size + 3 → k ≠ V.heap.size + 1 → X.heap[k]? = U.heap[k]?) → (X.cell? ⟨V.heap.size + 1 + 1, 0, none⟩ = some (.int .i64 E.x.k) ∧ X.cell? ⟨V.heap.size + 1 + 1, 1, none⟩ = some (.int .i64 E.x.N) ∧ X.cell? ⟨V.heap.size + 1 + 1, 2, none⟩ = some (.string E.x.s) ∧ X.cell? ⟨V.heap.size + 1 + 1, 3, none⟩ = some (.slice E.x.a E.x.len E.x.cap) ∧ X.cell? ⟨V.heap.size, 4, none⟩ = some (.pointer (some ⟨E.pf, 0, none⟩)) ∧ X.cell? ⟨V.heap.size, 5, none⟩ = some (.pointer (some ⟨E.pt, 0, none⟩)))) := hide fun X hX => by
    have t1 : TkB X V.heap.size E := (hX _ (by omega) (by omega) (by omega)).trans t0
    have x1 : BoxT X (V.heap.size + 1 + 1) E.x := (hX _ (by omega) (by omega) (by omega)).trans x0
    obtain ⟨q0, q1, q2, q3, q4, q5, q6⟩ := t1.cells
    exact ⟨x1.c0, x1.c1, x1.c2, x1.c3, q4, q5⟩
  have kD := (unhide KEEP) D1 (fun k _ hk => hDB.block k (by omega))
  have HUU := hide (And.intro hU r0)
  have HD := hide (And.intro hDB hD3)
  clear t0 r0 x0 hU hDB hD3
  have h8 : ff ≠ 1 ∧ ff ≠ 2 ∧ ff ≠ 3 ∧ ff ≠ 4 ∧ ff ≠ 5 ∧ ff ≠ 6 ∧ ff ≠ 7 := by omega
  have h81 : (ff == 1) = false := by simpa using h8.1
  have h82 : (ff == 2) = false := by simpa using h8.2.1
  have h83 : (ff == 3) = false := by simpa using h8.2.2.1
  have h84 : (ff == 4) = false := by simpa using h8.2.2.2.1
  have h85 : (ff == 5) = false := by simpa using h8.2.2.2.2.1
  have h86 : (ff == 6) = false := by simpa using h8.2.2.2.2.2.1
  have h87 : (ff == 7) = false := by simpa using h8.2.2.2.2.2.2
  clear h8 hf
  go_wp2_with fail
  refine wp_region_noPanic ?_
  refine wp_region_held_drew (S := fun w' => w'.cell? ⟨V.heap.size + 1 + 1, 0, none⟩ = some (.int .i64 E.x.k) ∧ w'.cell? ⟨V.heap.size + 1 + 1, 1, none⟩ = some (.int .i64 E.x.N) ∧ w'.cell? ⟨V.heap.size + 1 + 1, 2, none⟩ = some (.string E.x.s) ∧ w'.cell? ⟨V.heap.size + 1 + 1, 3, none⟩ = some (.slice E.x.a E.x.len E.x.cap) ∧ w'.cell? ⟨V.heap.size, 4, none⟩ = some (.pointer (some ⟨E.pf, 0, none⟩)) ∧ w'.cell? ⟨V.heap.size, 5, none⟩ = some (.pointer (some ⟨E.pt, 0, none⟩))) (by kernel_rfl) ?_ (fun hHeld => ?_)
  · (try rw [hD1]); exact kD
  rw [hD1] at hHeld ⊢
  clear hD1
  refine tk 0 rfl hHeld ?_
  refine tk 1 rfl hHeld ?_
  refine tk 2 rfl hHeld ?_
  refine tk 3 rfl hHeld ?_
  refine tk 5 rfl hHeld ?_
  refine tk 6 rfl hHeld ?_
  refine tk 7 rfl hHeld ?_
  refine rd 4 rfl fun K hK => ?_
  have hHold := hHeld
  clear hHeld
  go_simp
  refine ((unhide HW1) D1 (unhide HD).2).mono ?_
  rintro e X2 ⟨y, rfl, hy, h2⟩
  have m2 := (unhide HD).1.trans (h2.mono (unhide HD).1.size)
  have n2 := (unhide HD).2.trans (h2.mono (unhide HD).2.size)
  have k2 := (unhide KEEP) X2 (fun k _ hk => m2.block k (by omega))
  have HW2' := hide ((unhide HW2) X2 n2)
  have HD2 := hide (And.intro m2 (And.intro n2 (And.intro hy (show V.heap.size + 3 ≤ D1.heap.size by have := (unhide HD).1.size; omega))))
  clear h2 m2 n2 hy
  simp only [TV.val]
  go_wp2_with fail
  refine hK.out _ _ ?_ (fun hHeld => ?_)
  · ((try dsimp only); exact k2)
  clear hK K hHold
  try simp only [pu]
  refine rd 8 rfl fun K hK => ?_
  have hHold := hHeld
  clear hHeld
  go_simp
  refine (unhide HW2').mono ?_
  rintro e U3 ⟨z, rfl, hz, hW⟩
  have hmid : ∀ k, V.heap.size ≤ k → k < V.heap.size + 3 → U3.heap[k]? = U.heap[k]? := fun k h1 h2 => (hW.mid (unhide HST).1 h1 (by have := (unhide HD2).1.size; omega)).trans ((unhide HD2).1.block k (by omega))
  have k3 := (unhide KEEP) U3 hmid
  have hsU3 : V.heap.size + 3 ≤ U3.heap.size := by have := hW.gr.size; have := (unhide HD2).1.size; omega
  have yG : HoldsG anyP (n + D + 2) (V.heap.size + 3) U3 y.val (renC (newR f0 vs) s) := (((unhide HD2).2.2.1.holdsG (P := anyP) (fun _ _ => trivial)).move (fun k _ hk => hW.mid (unhide HST).1 (by have := hk.1; have := (unhide HD2).2.2.2; omega) hk.lt) hW.gr.size).mono (by omega) (unhide HD2).2.2.2 (fun _ h => h)
  have zG : HoldsG anyP (n + D + 2) (V.heap.size + 3) U3 z.val (renC (newR f0 (extV f0 vs r)) r) := (hz.holdsG (P := anyP) (fun _ _ => trivial)).mono (by omega) (by have := (unhide HD2).1.size; omega) (fun _ h => h)
  have gV : Below V.heap.size V X2 := (unhide HST).2.1.trans ((unhide HD2).2.1.mono (unhide HST).2.1.size)
  have hgV3 := (hW.pre gV).gr
  have HEX' := hide ((unhide HEX) U3 y z _ _ _ (.inr hgV3) yG zG hsU3 ((unhide HTT) U3 hgV3))
  have HU3 := hide (And.intro hW (And.intro hmid (And.intro hsU3 gV)))
  clear hz hW hmid hsU3 yG zG gV hgV3 HW2' HEX HTT
  simp only [TV.val] at HEX' ⊢
  go_wp2_with fail
  refine hK.out _ _ ?_ (fun hHeld => ?_)
  · ((try dsimp only); exact k3)
  clear hK K hHold
  try simp only [pu]
  refine rd 9 rfl fun K hK => ?_
  have hHold := hHeld
  clear hHeld
  go_simp
  refine (unhide HEX').mono ?_
  rintro e X4 ⟨x, rfl, hG, h4⟩
  obtain ⟨hW, hmid, hsU3, gV⟩ := unhide HU3
  have hm4 : ∀ k, V.heap.size ≤ k → k < V.heap.size + 3 → X4.heap[k]? = U.heap[k]? := fun k h1 h2 => (h4.block k (by omega)).trans (hmid k h1 h2)
  have k5 := (unhide KEEP) X4 hm4
  have bx : BoxT X4 (V.heap.size + 1) noTerm := (hm4 _ (by omega) (by omega)).trans (unhide HUU).2
  obtain ⟨f0', f1', f2', f3'⟩ := bx.frz
  have e0 := bx.c0
  have e1 := bx.c1
  have e2 := bx.c2
  have e3 := bx.c3
  have b6 := set4_box bx x
  have g0 := b6.c0
  have g1 := b6.c1
  have g2 := b6.c2
  have g3 := b6.c3
  have hW4 : Wen D w0 wb E.pf E.pt f0 vs s r lf X2 X4 := hW.below ((unhide HST).1.below gV) h4
  have k6 := (unhide KEEP') (set4 X4 (V.heap.size + 1) 0 x) (fun k h1 h2 h3 => (set4_other X4 _ 0 _ h3).trans (hm4 k h1 h2))
  have hG4 := (hG.set4 (b := V.heap.size + 1) (by omega) 0 x).mono (show n + D + 3 ≤ n + D + 4 by omega) (show V.heap.size ≤ V.heap.size + 3 by omega) (fun _ h => h)
  rw [← (unhide HST).2.2] at hG4
  have HZ := hide (And.intro hG4 ((hW4.pre gV).set4 (unhide HST).1 (show V.heap.size ≤ V.heap.size + 1 by omega) 0 x))
  clear hW hmid hsU3 hm4 h4 bx b6 gV hW4 hG hG4 HU3 HEX'
  go_wp2_with fail
  refine hK.out _ _ ?_ (fun hHeld => ?_)
  · ((try dsimp only); exact k5)
  clear hK K hHold
  try simp only [pu]
  refine rd 10 rfl fun K hK => ?_
  have hHold := hHeld
  clear hHeld
  go_simp
  refine hK.out _ _ ?_ (fun hHeld => ?_)
  · ((try dsimp only); exact k6)
  clear hK K hHold
  try simp only [pu]
  refine wpAnyH_done (by kernel_rfl) ?_ _
  refine NoPanic.normal ?_
  clear hHeld
  go_wp2_with fail
  exact bodyPost_ret (v := x.val) (by
    have e : (((X4.setCell ⟨V.heap.size + 1, 0, none⟩ (.int .i64 x.k)).setCell ⟨V.heap.size + 1, 1, none⟩ (.int .i64 x.N)).setCell ⟨V.heap.size + 1, 2, none⟩ (.string x.s)).setCell ⟨V.heap.size + 1, 3, none⟩ (.slice x.a x.len x.cap) = set4 X4 (V.heap.size + 1) 0 x := rfl
    rw [e]
    simp [results, Try.results37, go_sem, TV.val, g0, g1, g2, g3]) rfl ⟨x, rfl, (unhide HZ).1, (unhide HZ).2⟩
set_option maxRecDepth 100000 in
set_option maxHeartbeats 8000000 in
theorem top_cut (E : Task) (hf : formB E.x = 7) (hlim : D + 6 ≤ 2199023255552) (hs : Wst D w0 wb E.pf E.pt f0 vs s r lf V) :
    Calls Try.prog 37 #[.pointer (some ⟨wb, 0, none⟩), E.val] V fun e V' => LeafP (D + 6) D w0 wb E.pf E.pt f0 vs s r lf ((4, 0, [44], 2) :: ((3, 0, [33], 0) :: (eqC (renC (newR f0 (extV f0 vs r)) s) (renC (newR f0 (extV f0 vs r)) r)))) V e V' := by
  obtain ⟨W2, W3, hW2, hW3, t0, hs2, g3, hs3, b0, b1, b2⟩ := box_top V E
  have HFO : Hid (Calls Try.prog 33 #[.agg #[.int .i64 E.x.k, .int .i64 E.x.N, .string E.x.s, .slice E.x.a E.x.len E.x.cap]] W3 fun e W' => e = .returned (.int .i64 (formB E.x)) ∧ Below W3.heap.size W3 W') := hide (form_any E.x W3)
  have HN : Hid (∀ U : World, Calls Try.prog 53 #[] U fun e W' => e = .returned nilT.val ∧ Below U.heap.size U W') := hide fun U => gno_any U
  have HAT : Hid (∀ U : World, Calls Try.prog 52 #[.string ⟨#[33]⟩] U fun e W' => e = .returned (atomT ⟨#[33]⟩).val ∧ Below U.heap.size U W') := hide fun U => gatom_any _ U
  have HRCH : Hid (∀ U, Below W3.heap.size W3 U → Calls Try.prog 50 #[.pointer (some ⟨wb, 0, none⟩), .agg #[.int .i64 3, .int .i64 0, .string ⟨#[91, 93]⟩, .slice none 0 0], .agg #[.int .i64 E.x.k, .int .i64 E.x.N, .string E.x.s, .slice E.x.a E.x.len E.x.cap, .pointer (some ⟨E.pf, 0, none⟩), .pointer (some ⟨E.pt, 0, none⟩), .pointer (some E.pl)]] U fun e V' => ∃ y : TV, e = .returned y.val ∧ HoldsG anyP (D + 4) U.heap.size V' y.val (eqC (renC (newR f0 (extV f0 vs r)) s) (renC (newR f0 (extV f0 vs r)) r)) ∧ Wen D w0 wb E.pf E.pt f0 vs s r lf U V') := hide fun U hU => reach_nil E (by omega) (hs.below (g3.trans (hU.mono g3.size)))
  have HC : Hid (∀ (R : Nat) (X : World), Calls Try.prog 24 #[.string ⟨#[44]⟩, .slice (some ⟨R, 0, none⟩) 2 2] X fun e W' => e = .returned (compV ⟨#[44]⟩ (some ⟨R, 0, none⟩) 2 2).val ∧ Below X.heap.size X W') := hide fun R X => gcomp_any _ _ _ _ X
  have HST := hide (And.intro hs g3)
  have a0 := b2.c0
  have a1 := b2.c1
  have a2 := b2.c2
  have a3 := b2.c3
  obtain ⟨j0, j1, j2, j3, _, _, _⟩ := t0.cells
  have HB := hide (And.intro b0 (And.intro b1 b2))
  have hrow : E.row.toArray = #[.int .i64 E.x.k, .int .i64 E.x.N, .string E.x.s, .slice E.x.a E.x.len E.x.cap, .pointer (some ⟨E.pf, 0, none⟩), .pointer (some ⟨E.pt, 0, none⟩), .pointer (some E.pl)] := rfl
  rw [hf] at HFO
  clear t0 b0 b1 b2 hs g3
  simp only [Task.val]
  rw [hrow]
  clear hrow
  go_enter Try.func37, Try.ntmps37
  go_wp2_with fail
  try rw [hW2]
  go_wp2_with fail
  try rw [hW3]
  go_wp2_with fail
  clear hW2 hW3 j0 j1 j2 j3 a0 a1 a2 a3
  refine (unhide HFO).mono ?_
  rintro e U ⟨rfl, hU⟩
  obtain ⟨b0, b1, b2⟩ := unhide HB
  have hUs := hU.size
  have t0 : TkB U V.heap.size E := (hU.block _ (by omega)).trans b0
  have r0 : BoxT U (V.heap.size + 1) noTerm := b1.below hU (by omega)
  have x0 : BoxT U (V.heap.size + 1 + 1) E.x := b2.below hU (by omega)
  clear b0 b1 b2 HB HFO
  obtain ⟨D1, hD1⟩ : ∃ D1, U.drew = D1 := ⟨_, rfl⟩
  have hDB : Below U.heap.size U D1 := by rw [← hD1]; exact (Below.refl _ U).drew
  have hD3 : Below W3.heap.size W3 D1 := hU.trans (hDB.mono hU.size)
  have KEEP : Hid (∀ X : World, (∀ k, V.heap.size ≤ k → k < V.heap.size + 3 → X.heap[k]? = U.heap[k]?) → (X.cell? ⟨V.heap.size, 0, none⟩ = some (.int .i64 E.x.k) ∧ X.cell? ⟨V.heap.size, 1, none⟩ = some (.int .i64 E.x.N) ∧ X.cell? ⟨V.heap.size, 2, none⟩ = some (.string E.x.s) ∧ X.cell? ⟨V.heap.size, 3, none⟩ = some (.slice E.x.a E.x.len E.x.cap) ∧ X.cell? ⟨V.heap.size, 4, none⟩ = some (.pointer (some ⟨E.pf, 0, none⟩)) ∧ X.cell? ⟨V.heap.size, 5, none⟩ = some (.pointer (some ⟨E.pt, 0, none⟩)) ∧ X.cell? ⟨V.heap.size, 6, none⟩ = some (.pointer (some E.pl)))) := hide fun X hX => by
    have t1 : TkB X V.heap.size E := (hX _ (by omega) (by omega)).trans t0
    have x1 : BoxT X (V.heap.size + 1 + 1) E.x := (hX _ (by omega) (by omega)).trans x0
    obtain ⟨q0, q1, q2, q3, q4, q5, q6⟩ := t1.cells
    exact ⟨q0, q1, q2, q3, q4, q5, q6⟩
  have KEEP' : Hid (∀ X : World, (∀ k, V.heap.size ≤ k → k < V.heap.size + 3 → k ≠ V.heap.size + 1 → X.heap[k]? = U.heap[k]?) → (X.cell? ⟨V.heap.size, 0, none⟩ = some (.int .i64 E.x.k) ∧ X.cell? ⟨V.heap.size, 1, none⟩ = some (.int .i64 E.x.N) ∧ X.cell? ⟨V.heap.size, 2, none⟩ = some (.string E.x.s) ∧ X.cell? ⟨V.heap.size, 3, none⟩ = some (.slice E.x.a E.x.len E.x.cap) ∧ X.cell? ⟨V.heap.size, 4, none⟩ = some (.pointer (some ⟨E.pf, 0, none⟩)) ∧ X.cell? ⟨V.heap.size, 5, none⟩ = some (.pointer (some ⟨E.pt, 0, none⟩)) ∧ X.cell? ⟨V.heap.size, 6, none⟩ = some (.pointer (some E.pl)))) := hide fun X hX => by
    have t1 : TkB X V.heap.size E := (hX _ (by omega) (by omega) (by omega)).trans t0
    have x1 : BoxT X (V.heap.size + 1 + 1) E.x := (hX _ (by omega) (by omega) (by omega)).trans x0
    obtain ⟨q0, q1, q2, q3, q4, q5, q6⟩ := t1.cells
    exact ⟨q0, q1, q2, q3, q4, q5, q6⟩
  have kD := (unhide KEEP) D1 (fun k _ hk => hDB.block k (by omega))
  have HUU := hide (And.intro hU r0)
  have HD := hide (And.intro hDB hD3)
  clear t0 r0 x0 hU hDB hD3
  go_wp2_with fail
  refine wp_region_noPanic ?_
  refine wp_region_held_drew (S := fun w' => w'.cell? ⟨V.heap.size, 0, none⟩ = some (.int .i64 E.x.k) ∧ w'.cell? ⟨V.heap.size, 1, none⟩ = some (.int .i64 E.x.N) ∧ w'.cell? ⟨V.heap.size, 2, none⟩ = some (.string E.x.s) ∧ w'.cell? ⟨V.heap.size, 3, none⟩ = some (.slice E.x.a E.x.len E.x.cap) ∧ w'.cell? ⟨V.heap.size, 4, none⟩ = some (.pointer (some ⟨E.pf, 0, none⟩)) ∧ w'.cell? ⟨V.heap.size, 5, none⟩ = some (.pointer (some ⟨E.pt, 0, none⟩)) ∧ w'.cell? ⟨V.heap.size, 6, none⟩ = some (.pointer (some E.pl))) (by kernel_rfl) ?_ (fun hHeld => ?_)
  · (try rw [hD1]); exact kD
  rw [hD1] at hHeld ⊢
  clear hD1
  refine tk 1 rfl hHeld ?_
  refine tk 3 rfl hHeld ?_
  refine rd 0 rfl fun K hK => ?_
  have hHold := hHeld
  clear hHeld
  go_simp
  refine ((unhide HAT) D1).mono ?_
  rintro e X1 ⟨rfl, h1⟩
  have m1 := (unhide HD).1.trans (h1.mono (unhide HD).1.size)
  have n1 := (unhide HD).2.trans (h1.mono (unhide HD).2.size)
  have k1 := (unhide KEEP) X1 (fun k _ hk => m1.block k (by omega))
  have HD1 := hide (And.intro m1 n1)
  clear h1 m1 n1
  simp only [TV.val, atomT]
  go_wp2_with fail
  refine hK.out _ _ ?_ (fun hHeld => ?_)
  · ((try dsimp only); exact k1)
  clear hK K hHold
  try simp only [pu]
  refine rd 2 rfl fun K hK => ?_
  have hHold := hHeld
  clear hHeld
  go_simp
  refine ((unhide HN) X1).mono ?_
  rintro e X2 ⟨rfl, h2⟩
  have m2 := (unhide HD1).1.trans (h2.mono (unhide HD1).1.size)
  have n2 := (unhide HD1).2.trans (h2.mono (unhide HD1).2.size)
  have k2 := (unhide KEEP) X2 (fun k _ hk => m2.block k (by omega))
  have HR2 := hide ((unhide HRCH) X2 n2)
  have HD2 := hide (And.intro m2 n2)
  clear h2 m2 n2
  simp only [TV.val, nilT, atomT]
  go_wp2_with fail
  refine hK.out _ _ ?_ (fun hHeld => ?_)
  · ((try dsimp only); exact k2)
  clear hK K hHold
  try simp only [pu]
  refine rd 4 rfl fun K hK => ?_
  have hHold := hHeld
  clear hHeld
  go_simp
  refine (unhide HR2).mono ?_
  rintro e U3 ⟨z, rfl, hz, hW⟩
  have hmid : ∀ k, V.heap.size ≤ k → k < V.heap.size + 3 → U3.heap[k]? = U.heap[k]? := fun k h1 h2 => (hW.mid (unhide HST).1 h1 (by have := (unhide HD2).1.size; omega)).trans ((unhide HD2).1.block k (by omega))
  have k3 := (unhide KEEP) U3 hmid
  have hal : Below U3.heap.size U3 (U3.alloc (.cells #[.int .i64 3, .int .i64 0, .string ⟨#[33]⟩, .slice none 0 0, .int .i64 z.k, .int .i64 z.N, .string z.s, .slice z.a z.len z.cap] 24)) := (Below.refl _ U3).alloc (Nat.le_refl _) _
  have hsU3 : V.heap.size + 3 ≤ U3.heap.size := by have := hW.gr.size; have := (unhide HD2).1.size; omega
  have k4 := (unhide KEEP) _ (fun k h1 h2 => (hal.block k (by omega)).trans (hmid k h1 h2))
  have zG : HoldsG anyP (D + 4) (V.heap.size + 3) U3 z.val (eqC (renC (newR f0 (extV f0 vs r)) s) (renC (newR f0 (extV f0 vs r)) r)) := hz.mono (Nat.le_refl _) (by have := (unhide HD2).1.size; omega) (fun _ h => h)
  have hrow := row_two (s := ⟨#[44]⟩) (by decide) ((atomG ⟨#[33]⟩ (by decide) anyP (V.heap.size + 3) U3).mono (show 1 ≤ D + 4 by omega) (Nat.le_refl _) (fun _ h => h)) zG hsU3
  rw [show (⟨#[44]⟩ : ByteArray).toList = [44] by decide +kernel, lbx] at hrow
  have HROW := hide hrow
  have HU3 := hide (And.intro hW (And.intro hmid (And.intro hsU3 hal)))
  clear hz hW hmid hal hsU3 zG hrow HR2
  simp only [TV.val]
  go_wp2_with fail
  refine hK.out _ _ ?_ (fun hHeld => ?_)
  · ((try dsimp only); exact k3)
  clear hK K hHold
  try simp only [pu]
  refine rd 5 rfl fun K hK => ?_
  have hHold := hHeld
  clear hHeld
  go_simp
  refine hK.out _ _ ?_ (fun hHeld => ?_)
  · ((try dsimp only); exact k4)
  clear hK K hHold
  try simp only [pu]
  refine rd 6 rfl fun K hK => ?_
  have hHold := hHeld
  clear hHeld
  go_simp
  refine ((unhide HC) U3.heap.size _).mono ?_
  rintro e X4 ⟨rfl, h4⟩
  rw [World.size_alloc] at h4
  obtain ⟨hW, hmid, hsU3, hal⟩ := unhide HU3
  have h34 : Below U3.heap.size U3 X4 := hal.trans (h4.mono (by omega))
  have hm4 : ∀ k, V.heap.size ≤ k → k < V.heap.size + 3 → X4.heap[k]? = U.heap[k]? := fun k h1 h2 => (h34.block k (by omega)).trans (hmid k h1 h2)
  have k5 := (unhide KEEP) X4 hm4
  have bx : BoxT X4 (V.heap.size + 1) noTerm := (hm4 _ (by omega) (by omega)).trans (unhide HUU).2
  obtain ⟨f0', f1', f2', f3'⟩ := bx.frz
  have e0 := bx.c0
  have e1 := bx.c1
  have e2 := bx.c2
  have e3 := bx.c3
  have b6 := set4_box bx (compV ⟨#[44]⟩ (some ⟨U3.heap.size, 0, none⟩) 2 2)
  have g0 := b6.c0
  have g1 := b6.c1
  have g2 := b6.c2
  have g3 := b6.c3
  have gV : Below V.heap.size V X2 := (unhide HST).2.trans ((unhide HD2).2.mono (unhide HST).2.size)
  have hW4 : Wen D w0 wb E.pf E.pt f0 vs s r lf X2 X4 := hW.below ((unhide HST).1.below gV) h34
  have k6 := (unhide KEEP') (set4 X4 (V.heap.size + 1) 0 (compV ⟨#[44]⟩ (some ⟨U3.heap.size, 0, none⟩) 2 2)) (fun k h1 h2 h3 => (set4_other X4 _ 0 _ h3).trans (hm4 k h1 h2))
  have hG4 := ((HoldsG.below (unhide HROW) (by rw [World.size_alloc]; exact h4)).set4 (b := V.heap.size + 1) (by omega) 0 (compV ⟨#[44]⟩ (some ⟨U3.heap.size, 0, none⟩) 2 2)).mono (show D + 4 + 1 ≤ D + 6 by omega) (show V.heap.size ≤ V.heap.size + 3 by omega) (fun _ h => h)
  have HZ := hide (And.intro hG4 ((hW4.pre gV).set4 (unhide HST).1 (show V.heap.size ≤ V.heap.size + 1 by omega) 0 (compV ⟨#[44]⟩ (some ⟨U3.heap.size, 0, none⟩) 2 2)))
  clear hW hmid hsU3 hal h34 hm4 h4 bx b6 gV hW4 hG4 HROW HU3
  simp only [TV.val, compV]
  go_wp2_with fail
  refine hK.out _ _ ?_ (fun hHeld => ?_)
  · ((try dsimp only); exact k5)
  clear hK K hHold
  try simp only [pu]
  refine rd 7 rfl fun K hK => ?_
  have hHold := hHeld
  clear hHeld
  go_simp
  refine hK.out _ _ ?_ (fun hHeld => ?_)
  · ((try dsimp only); exact k6)
  clear hK K hHold
  try simp only [pu]
  refine wpAnyH_done (by kernel_rfl) ?_ _
  refine NoPanic.normal ?_
  clear hHeld
  go_wp2_with fail
  exact bodyPost_ret (v := (compV ⟨#[44]⟩ (some ⟨U3.heap.size, 0, none⟩) 2 2).val) (by
    have e : (((X4.setCell ⟨V.heap.size + 1, 0, none⟩ (.int .i64 4)).setCell ⟨V.heap.size + 1, 1, none⟩ (.int .i64 0)).setCell ⟨V.heap.size + 1, 2, none⟩ (.string ⟨#[44]⟩)).setCell ⟨V.heap.size + 1, 3, none⟩ (.slice (some ⟨U3.heap.size, 0, none⟩) 2 2) = set4 X4 (V.heap.size + 1) 0 (compV ⟨#[44]⟩ (some ⟨U3.heap.size, 0, none⟩) 2 2) := rfl
    rw [e]
    simp [results, Try.results37, go_sem, TV.val, g0, g1, g2, g3]) rfl ⟨_, rfl, (unhide HZ).1, (unhide HZ).2⟩
end
end Go.Proofs.Ytcdgmjpgmiehcaa

