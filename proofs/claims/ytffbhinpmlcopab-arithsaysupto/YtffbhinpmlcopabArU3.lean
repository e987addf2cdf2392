import Derived.Test.YtffbhinpmlcopabArU2
/- hornref.Eval: two Args. -/
namespace Go.Proofs.Ytffbhinpmlcopab
open Go.RowKit Go.Shelf

/-- The number by those of the two Args. -/
def twoR (f : Int → Int → Except ByteArray Int) : Except (List Nd) Int → Except (List Nd) Int → Except (List Nd) Int
  | .error c, _ => .error c
  | .ok _, .error c => .error c
  | .ok m, .ok n => thrown (f m n)

set_option maxRecDepth 100000 in
set_option maxHeartbeats 4000000 in
theorem reval_two {n : Nat}
    (ih : ∀ (u : Tm n) (W : World), IsT W.heap.size W u → okT u = true → numsT u → Calls Try.prog 14 #[u.tv.val] W fun e W' => RSays W.heap.size (evT u) e W' ∧ Below W.heap.size W W')
    (k N : Int) (s : ByteArray) (b off cap : Nat) (u v : Tm n) (W : World) (hk : k = 3 ∨ k = 4) (f : Int → Int → Except ByteArray Int) (ho : twoOp s.toList = some f)
    (hbk : b < W.heap.size) (hcu : cellsAt W b off u.tv) (hT : IsT W.heap.size W u) (hok : okT u = true) (hnum : numsT u) (hcv : cellsAt W b (off + 4) v.tv) (hT' : IsT W.heap.size W v) (hok' : okT v = true) (hnum' : numsT v) :
    Calls Try.prog 14 #[.agg #[.int .i64 k, .int .i64 N, .string s, .slice (some ⟨b, off, none⟩) 2 cap]] W fun e W' => RSays W.heap.size (twoR f (evT u) (evT v)) e W' ∧ Below W.heap.size W W' := by
  have hf : ∀ w, Calls Try.prog 34 #[.string s, .int .i64 2] w fun e w' => e = .returned (.bool true) ∧ w' = w := fun w => by
    have h := revaluable_any s 2 w
    have e : (opOf s.toList 2).isSome = true := by rw [show opOf s.toList 2 = twoOp s.toList by unfold opOf; rw [if_neg (by decide), if_pos rfl], ho]; rfl
    rw [e] at h
    exact h
  have HUN : Hid (∀ (a b : Int), inR a → inR b → ∀ w, Calls Try.prog 37 #[.string s, .int .i64 a, .int .i64 b] w fun e w' => e = .returned (ansV (f a b)) ∧ Below w.heap.size w w') := fun a b ha hb w => rbinary_any s f ho a b ha hb w
  have HG : Hid (∀ (a b : Int), inR a → inR b → goodAt a b f) := fun a b ha hb => two_in ho ha hb
  clear ho
  have hin := evT_in u hnum
  have HIN : Hid _ := evT_in v hnum'
  obtain ⟨W2, hW2, hb2, hs2, bT, hz⟩ := box_zero W ⟨k, N, s, some ⟨b, off, none⟩, 2, cap⟩
  simp only at hW2
  have hk1 : (k == 2) = false := by rcases hk with rfl | rfl <;> rfl
  have hk2 : (k == 1) = false := by rcases hk with rfl | rfl <;> rfl
  clear hk
  have c0 := bT.c0
  have c2 := bT.c2
  have c3 := bT.c3
  simp only at c0 c2 c3
  obtain ⟨d0, d1, d2, d3⟩ := hcu
  replace d0 := (hb2.cell (p := ⟨b, off, none⟩) hbk).trans d0
  replace d1 := (hb2.cell (p := ⟨b, off + 1, none⟩) hbk).trans d1
  replace d2 := (hb2.cell (p := ⟨b, off + 2, none⟩) hbk).trans d2
  replace d3 := (hb2.cell (p := ⟨b, off + 3, none⟩) hbk).trans d3
  have ihu := ih u W2 ((hT.below hb2).mono (by omega)) hok hnum
  simp only [TV.val] at ihu
  have HV : Hid (∀ W3, Below W.heap.size W W3 → W.heap.size ≤ W3.heap.size → Calls Try.prog 14 #[v.tv.val] W3 fun e W' => RSays W3.heap.size (evT v) e W' ∧ Below W3.heap.size W3 W') := fun W3 hb hs => ih v W3 ((hT'.below hb).mono hs) hok' hnum'
  have HCV : Hid _ := hcv
  clear ih hT hok hnum hT' hok' hnum' hcv
  go_enter Try.func14, Try.ntmps14
  go_wp2_with fail
  refine (hf _).mono ?_
  rintro e W3 ⟨rfl, rfl⟩
  try rw [hW2]
  clear hf hW2
  have HB : Hid _ := bT
  have HZ : Hid _ := hz
  clear bT hz
  cases hev : evT u with
  | ok m =>
    have HEV : Hid _ := hev
    rw [hev] at ihu
    have hm := hin m hev
    have HM : Hid _ := hm
    clear hin hev hm
    go_wp2_with fail
    refine ihu.mono ?_
    rintro e W4 ⟨he, hb4⟩
    simp only [RSays, noTerm, TV.val] at he
    subst he
    clear ihu c0 c2 c3 d0 d1 d2 d3
    have s4 := hb4.size
    obtain ⟨W5, hW5, hb5⟩ : ∃ W5, W4.alloc (.cells #[.int .i64 0, .int .i64 0, .string ⟨#[]⟩, .slice none 0 0] 24) = W5 ∧ Below W4.heap.size W4 W5 := ⟨_, rfl, (Below.refl _ _).alloc (Nat.le_refl _) _⟩
    have s5 := hb5.size
    have bT5 : BoxT W5 W.heap.size ⟨k, N, s, some ⟨b, off, none⟩, 2, cap⟩ := (hb5.block _ (by omega)).trans ((hb4.block _ (by omega)).trans HB.out)
    have c2 := bT5.c2
    have c3 := bT5.c3
    simp only at c2 c3
    rw [← hW5] at c2 c3
    have HW5 : Hid _ := hW5
    clear hW5
    have hz5 : W5.heap[W.heap.size + 1]? = _ := (hb5.block _ (by omega)).trans ((hb4.block _ (by omega)).trans HZ.out)
    have HZ5 : Hid _ := hz5
    have hB5 : Below W.heap.size W W5 := (hb2.trans (hb4.mono (by omega))).trans (hb5.mono (by omega))
    have hT5 := bT5
    clear hz5 bT5 hb4 hb5
    obtain ⟨d0, d1, d2, d3⟩ := HCV.out
    replace d0 := (hB5.cell (p := ⟨b, off + 4, none⟩) hbk).trans d0
    replace d1 : W5.cell? ⟨b, off + 5, none⟩ = _ := (hB5.cell (p := ⟨b, off + 4 + 1, none⟩) hbk).trans d1
    replace d2 : W5.cell? ⟨b, off + 6, none⟩ = _ := (hB5.cell (p := ⟨b, off + 4 + 2, none⟩) hbk).trans d2
    replace d3 : W5.cell? ⟨b, off + 7, none⟩ = _ := (hB5.cell (p := ⟨b, off + 4 + 3, none⟩) hbk).trans d3
    have ihv := HV.out W5 hB5 (by omega)
    rw [← HW5.out] at ihv d0 d1 d2 d3
    simp only [TV.val] at ihv
    have HB5 : Hid _ := hT5
    clear hT5
    cases hev : evT v with
    | ok p =>
      have HEW : Hid _ := hev
      rw [hev] at ihv
      have hp := HIN.out p hev
      have hun := HUN.out m p HM.out hp
      have hgood := HG.out m p HM.out hp
      clear hev hp
      go_wp2_with fail
      refine ihv.mono ?_
      rintro e W6 ⟨he, hb6⟩
      rw [HW5.out] at hb6
      simp only [RSays, noTerm, TV.val] at he
      subst he
      clear ihv HW5 c2 c3 d0 d1 d2 d3
      have s6 := hb6.size
      obtain ⟨W7, hW7, hb7⟩ : ∃ W7, W6.alloc (.cells #[.int .i64 0, .int .i64 0, .string ⟨#[]⟩, .slice none 0 0] 24) = W7 ∧ Below W6.heap.size W6 W7 := ⟨_, rfl, (Below.refl _ _).alloc (Nat.le_refl _) _⟩
      have s7 := hb7.size
      have bT7 : BoxT W7 W.heap.size ⟨k, N, s, some ⟨b, off, none⟩, 2, cap⟩ := (hb7.block _ (by omega)).trans ((hb6.block _ (by omega)).trans HB5.out)
      have c2 := bT7.c2
      have c3 := bT7.c3
      simp only at c2 c3
      rw [← hW7] at c2 c3
      have HW7 : Hid _ := hW7
      clear hW7
      have hz7 : W7.heap[W.heap.size + 1]? = _ := (hb7.block _ (by omega)).trans ((hb6.block _ (by omega)).trans HZ5.out)
      have HZ7 : Hid _ := hz7
      have hB7 : Below W.heap.size W W7 := (hB5.trans (hb6.mono (by omega))).trans (hb7.mono (by omega))
      clear hz7 bT7 hb6 hb7
      cases hfr : f m p with
      | ok q =>
        rw [hfr] at hun
        simp only [ansV] at hun
        have HR : Hid (twoR f (evT u) (evT v) = .ok q) := by rw [HEV.out, HEW.out]; show thrown (f m p) = _; rw [hfr]; rfl
        clear hgood hfr
        go_wp2_with fail
        refine (hun _).mono ?_
        rintro e X6 ⟨rfl, hb6⟩
        rw [HW7.out] at hb6
        clear hun HW7 c2 c3
        have hz6 : X6.heap[W.heap.size + 1]? = _ := (hb6.block _ (by omega)).trans HZ7.out
        obtain ⟨⟨z0, z1, z2, z3⟩, y0, y1, y2, y3⟩ := zbox_kept hz6
        have HF : Hid (Below W.heap.size W (set4 X6 (W.heap.size + 1) 0 noTerm)) := set4_below (hB7.trans (hb6.mono hB7.size)) (by omega) 0 _
        clear hz6 hb6
        go_wp2_with fail
        refine bodyPost_ret (v := .tuple #[.int .i64 q, noTerm.val, .bool true]) (by simp [results, Try.results14, go_sem, TV.val, noTerm, z0, z1, z2, z3]) rfl ⟨?_, HF.out⟩
        rw [HR.out]
        exact rfl
      | error sx =>
        rw [hfr] at hun
        simp only [ansV] at hun
        obtain ⟨hse, hss⟩ := bad_some (hgood.2 _ hfr)
        have HR : Hid (twoR f (evT u) (evT v) = .error (atomC sx.toList)) := by rw [HEV.out, HEW.out]; show thrown (f m p) = _; rw [hfr]; rfl
        clear hgood hfr
        have hat := ratom_any sx
        simp only [atomV, TV.val] at hat
        go_wp2_with fail
        refine (hun _).mono ?_
        rintro e X6 ⟨rfl, hb6⟩
        rw [HW7.out] at hb6
        clear hun HW7 c2 c3
        go_wp2_with fail
        refine (hat _).mono ?_
        rintro e X7 ⟨rfl, hb7⟩
        clear hat
        have s6 := hb6.size
        have hz7 : X7.heap[W.heap.size + 1]? = _ := (hb7.block _ (by omega)).trans ((hb6.block _ (by omega)).trans HZ7.out)
        obtain ⟨⟨z0, z1, z2, z3⟩, y0, y1, y2, y3⟩ := zbox_kept hz7
        have HF : Hid (HoldsT 3 W.heap.size (set4 X7 (W.heap.size + 1) 0 (atomV sx)) (atomV sx).val (atomC sx.toList) ∧ Below W.heap.size W (set4 X7 (W.heap.size + 1) 0 (atomV sx))) :=
          ⟨(atom_holds sx hss _ _).mono (by omega) (Nat.le_refl _), set4_below ((hB7.trans (hb6.mono hB7.size)).trans (hb7.mono (by omega))) (by omega) 0 _⟩
        clear hz7 hb7 hb6
        go_wp2_with fail
        refine bodyPost_ret (v := .tuple #[.int .i64 0, (atomV sx).val, .bool false]) (by simp [results, Try.results14, go_sem, TV.val, atomV, z0, z1, z2, z3]) rfl ⟨?_, HF.out.2⟩
        rw [HR.out]
        exact ⟨_, rfl, HF.out.1⟩
    | error c =>
      have HEW : Hid _ := hev
      rw [hev] at ihv
      clear hev
      go_wp2_with fail
      refine ihv.mono ?_
      rintro e Y5 ⟨he, hy5⟩
      simp only [RSays] at he
      obtain ⟨x, rfl, hx⟩ := he
      simp only [TV.val]
      rw [HW5.out] at hy5 hx
      clear ihv HW5 c2 c3 d0 d1 d2 d3
      have sy5 := hy5.size
      have hz5 : Y5.heap[W.heap.size + 1]? = _ := (hy5.block _ (by omega)).trans HZ5.out
      have bX := BoxT.new Y5 x
      have hz6 : (Y5.alloc (.cells #[.int .i64 x.k, .int .i64 x.N, .string x.s, .slice x.a x.len x.cap] 24)).heap[W.heap.size + 1]? = _ := (Below.heap_alloc Y5 _ _ (by omega)).trans hz5
      have x0 := bX.c0
      have x1 := bX.c1
      have x2 := bX.c2
      have x3 := bX.c3
      obtain ⟨⟨z0, z1, z2, z3⟩, y0, y1, y2, y3⟩ := zbox_kept hz6
      obtain ⟨Y6, hY6⟩ : ∃ Y6, Y5.alloc (.cells #[.int .i64 x.k, .int .i64 x.N, .string x.s, .slice x.a x.len x.cap] 24) = Y6 := ⟨_, rfl⟩
      have hB6 : Below Y5.heap.size Y5 Y6 := by rw [← hY6]; exact (Below.refl _ Y5).alloc (Nat.le_refl _) _
      rw [hY6] at x0 x1 x2 x3 z0 z1 z2 z3 y0 y1 y2 y3
      have hBt : Below W.heap.size W Y6 := (hB5.trans (hy5.mono (by omega))).trans (hB6.mono (by omega))
      have HF : Hid (HoldsT 3 W.heap.size (set4 Y6 (W.heap.size + 1) 0 x).drew x.val c ∧ Below W.heap.size W (set4 Y6 (W.heap.size + 1) 0 x).drew) :=
        ⟨((holds_set4 (hx.below hB6) (by omega) 0 _).mono (Nat.le_refl _) (by omega)).below (Below.refl _ _).drew, (set4_below hBt (by omega) 0 _).drew⟩
      clear bX hz5 hz6 hB6 hBt hy5 hx
      go_wp2_with fail
      try rw [hY6]
      clear hY6
      go_region
      go_wp2_with fail
      refine bodyPost_ret (v := .tuple #[.int .i64 0, x.val, .bool false]) (by simp [results, Try.results14, go_sem, TV.val, z0, z1, z2, z3]) rfl ⟨?_, HF.out.2⟩
      rw [HEV.out, HEW.out]
      exact ⟨_, rfl, HF.out.1⟩

  | error c =>
    have HEV : Hid _ := hev
    rw [hev] at ihu
    clear hin hev
    go_wp2_with fail
    refine ihu.mono ?_
    rintro e W5 ⟨he, hb5⟩
    simp only [RSays] at he
    obtain ⟨x, rfl, hx⟩ := he
    simp only [TV.val]
    clear ihu c0 c2 c3 d0 d1 d2 d3
    have s5 := hb5.size
    have hz5 : W5.heap[W.heap.size + 1]? = _ := (hb5.block _ (by omega)).trans HZ.out
    have bX := BoxT.new W5 x
    have hz6 : (W5.alloc (.cells #[.int .i64 x.k, .int .i64 x.N, .string x.s, .slice x.a x.len x.cap] 24)).heap[W.heap.size + 1]? = _ := (Below.heap_alloc W5 _ _ (by omega)).trans hz5
    have x0 := bX.c0
    have x1 := bX.c1
    have x2 := bX.c2
    have x3 := bX.c3
    obtain ⟨⟨z0, z1, z2, z3⟩, y0, y1, y2, y3⟩ := zbox_kept hz6
    obtain ⟨W6, hW6⟩ : ∃ W6, W5.alloc (.cells #[.int .i64 x.k, .int .i64 x.N, .string x.s, .slice x.a x.len x.cap] 24) = W6 := ⟨_, rfl⟩
    have hB6 : Below W5.heap.size W5 W6 := by rw [← hW6]; exact (Below.refl _ W5).alloc (Nat.le_refl _) _
    rw [hW6] at x0 x1 x2 x3 z0 z1 z2 z3 y0 y1 y2 y3
    have hBt : Below W.heap.size W W6 := (hb2.trans (hb5.mono (by omega))).trans (hB6.mono (by omega))
    have HF : Hid (HoldsT 3 W.heap.size (set4 W6 (W.heap.size + 1) 0 x).drew x.val c ∧ Below W.heap.size W (set4 W6 (W.heap.size + 1) 0 x).drew) :=
      ⟨((holds_set4 (hx.below hB6) (by omega) 0 _).mono (Nat.le_refl _) (by omega)).below (Below.refl _ _).drew, (set4_below hBt (by omega) 0 _).drew⟩
    clear bX hz5 hz6 hB6 hBt hb5 hx
    go_wp2_with fail
    try rw [hW6]
    clear hW6
    go_region
    go_wp2_with fail
    refine bodyPost_ret (v := .tuple #[.int .i64 0, x.val, .bool false]) (by simp [results, Try.results14, go_sem, TV.val, z0, z1, z2, z3]) rfl ⟨?_, HF.out.2⟩
    rw [HEV.out]
    exact ⟨_, rfl, HF.out.1⟩
end Go.Proofs.Ytffbhinpmlcopab

