import Derived.Test.YtffbhinpmlcopabArU1
import Derived.Test.YtffbhinpmlcopabArR
/- hornref.Eval: one Arg. -/
namespace Go.Proofs.Ytffbhinpmlcopab
open Go.RowKit Go.Shelf

/-- The number by that of the one Arg; by those of the two. -/
def oneR (g : Int → Except ByteArray Int) : Except (List Nd) Int → Except (List Nd) Int
  | .error c => .error c
  | .ok n => thrown (g n)

set_option maxRecDepth 100000 in
set_option maxHeartbeats 4000000 in
theorem reval_one {n : Nat}
    (ih : ∀ (u : Tm n) (W : World), IsT W.heap.size W u → okT u = true → numsT u → Calls Try.prog 14 #[u.tv.val] W fun e W' => RSays W.heap.size (evT u) e W' ∧ Below W.heap.size W W')
    (k N : Int) (s : ByteArray) (b off cap : Nat) (u : Tm n) (W : World) (hk : k = 3 ∨ k = 4) (g : Int → Except ByteArray Int) (ho : oneOp s.toList = some g)
    (hbk : b < W.heap.size) (hcu : cellsAt W b off u.tv) (hT : IsT W.heap.size W u) (hok : okT u = true) (hnum : numsT u) :
    Calls Try.prog 14 #[.agg #[.int .i64 k, .int .i64 N, .string s, .slice (some ⟨b, off, none⟩) 1 cap]] W fun e W' => RSays W.heap.size (oneR g (evT u)) e W' ∧ Below W.heap.size W W' := by
  have hf : ∀ w, Calls Try.prog 34 #[.string s, .int .i64 1] w fun e w' => e = .returned (.bool true) ∧ w' = w := fun w => by
    have h := revaluable_any s 1 w
    have e : (opOf s.toList 1).isSome = true := by show ((oneOp s.toList).map lone).isSome = _; rw [ho]; rfl
    rw [e] at h
    exact h
  have HUN : Hid (∀ (a : Int), inR a → ∀ w, Calls Try.prog 36 #[.string s, .int .i64 a] w fun e w' => e = .returned (ansV (g a)) ∧ Below w.heap.size w w') := fun a ha w => runary_any s g ho a ha w
  have HG : Hid (∀ (a : Int), inR a → (∀ n, g a = .ok n → inR n) ∧ (∀ e, g a = .error e → badS e)) := fun a ha => one_in ho ha
  clear ho
  have hin := evT_in u hnum
  obtain ⟨W2, hW2, hb2, hs2, bT, hz⟩ := box_zero W ⟨k, N, s, some ⟨b, off, none⟩, 1, cap⟩
  simp only at hW2
  have hk1 : (k == 2) = false := by rcases hk with rfl | rfl <;> rfl
  have hk2 : (k == 1) = false := by rcases hk with rfl | rfl <;> rfl
  clear hk
  have c0 := bT.c0
  have c2 := bT.c2
  have c3 := bT.c3
  simp only at c0 c2 c3
  obtain ⟨d0, d1, d2, d3⟩ := hcu
  replace d0 := (hb2.cell (p := ⟨b, off, none⟩) hbk).trans d0
  replace d1 := (hb2.cell (p := ⟨b, off + 1, none⟩) hbk).trans d1
  replace d2 := (hb2.cell (p := ⟨b, off + 2, none⟩) hbk).trans d2
  replace d3 := (hb2.cell (p := ⟨b, off + 3, none⟩) hbk).trans d3
  have ihu := ih u W2 ((hT.below hb2).mono (by omega)) hok hnum
  simp only [TV.val] at ihu
  clear ih hT hok hnum
  go_enter Try.func14, Try.ntmps14
  go_wp2_with fail
  refine (hf _).mono ?_
  rintro e W3 ⟨rfl, rfl⟩
  try rw [hW2]
  clear hf hW2
  have HB : Hid _ := bT
  have HZ : Hid _ := hz
  clear bT hz
  cases hev : evT u with
  | ok m =>
    have HEV : Hid _ := hev
    rw [hev] at ihu
    have hm := hin m hev
    have hun := HUN.out m hm
    have hgood := HG.out m hm
    clear hin hev hm
    go_wp2_with fail
    refine ihu.mono ?_
    rintro e W4 ⟨he, hb4⟩
    simp only [RSays, noTerm, TV.val] at he
    subst he
    clear ihu c0 c2 c3 d0 d1 d2 d3
    have s4 := hb4.size
    obtain ⟨W5, hW5, hb5⟩ : ∃ W5, W4.alloc (.cells #[.int .i64 0, .int .i64 0, .string ⟨#[]⟩, .slice none 0 0] 24) = W5 ∧ Below W4.heap.size W4 W5 := ⟨_, rfl, (Below.refl _ _).alloc (Nat.le_refl _) _⟩
    have s5 := hb5.size
    have bT5 : BoxT W5 W.heap.size ⟨k, N, s, some ⟨b, off, none⟩, 1, cap⟩ := (hb5.block _ (by omega)).trans ((hb4.block _ (by omega)).trans HB.out)
    have c2 := bT5.c2
    have c3 := bT5.c3
    simp only at c2 c3
    rw [← hW5] at c2 c3
    have HW5 : Hid _ := hW5
    clear hW5
    have hz5 : W5.heap[W.heap.size + 1]? = _ := (hb5.block _ (by omega)).trans ((hb4.block _ (by omega)).trans HZ.out)
    have HZ5 : Hid _ := hz5
    have hB5 : Below W.heap.size W W5 := (hb2.trans (hb4.mono (by omega))).trans (hb5.mono (by omega))
    clear hz5 bT5 hb4 hb5
    cases hfr : g m with
    | ok q =>
      rw [hfr] at hun
      simp only [ansV] at hun
      have HR : Hid (oneR g (evT u) = .ok q) := by rw [HEV.out]; show thrown (g m) = _; rw [hfr]; rfl
      clear hgood hfr
      go_wp2_with fail
      refine (hun _).mono ?_
      rintro e W6 ⟨rfl, hb6⟩
      rw [HW5.out] at hb6
      clear hun HW5 c2 c3
      have hz6 : W6.heap[W.heap.size + 1]? = _ := (hb6.block _ (by omega)).trans HZ5.out
      obtain ⟨⟨z0, z1, z2, z3⟩, y0, y1, y2, y3⟩ := zbox_kept hz6
      have HF : Hid (Below W.heap.size W (set4 W6 (W.heap.size + 1) 0 noTerm)) := set4_below (hB5.trans (hb6.mono hB5.size)) (by omega) 0 _
      clear hz6 hb6
      go_wp2_with fail
      refine bodyPost_ret (v := .tuple #[.int .i64 q, noTerm.val, .bool true]) (by simp [results, Try.results14, go_sem, TV.val, noTerm, z0, z1, z2, z3]) rfl ⟨?_, HF.out⟩
      rw [HR.out]
      exact rfl
    | error sx =>
      rw [hfr] at hun
      simp only [ansV] at hun
      obtain ⟨hse, hss⟩ := bad_some (hgood.2 _ hfr)
      have HR : Hid (oneR g (evT u) = .error (atomC sx.toList)) := by rw [HEV.out]; show thrown (g m) = _; rw [hfr]; rfl
      clear hgood hfr
      have hat := ratom_any sx
      simp only [atomV, TV.val] at hat
      go_wp2_with fail
      refine (hun _).mono ?_
      rintro e W6 ⟨rfl, hb6⟩
      rw [HW5.out] at hb6
      clear hun HW5 c2 c3
      go_wp2_with fail
      refine (hat _).mono ?_
      rintro e W7 ⟨rfl, hb7⟩
      clear hat
      have s6 := hb6.size
      have hz7 : W7.heap[W.heap.size + 1]? = _ := (hb7.block _ (by omega)).trans ((hb6.block _ (by omega)).trans HZ5.out)
      obtain ⟨⟨z0, z1, z2, z3⟩, y0, y1, y2, y3⟩ := zbox_kept hz7
      have HF : Hid (HoldsT 3 W.heap.size (set4 W7 (W.heap.size + 1) 0 (atomV sx)) (atomV sx).val (atomC sx.toList) ∧ Below W.heap.size W (set4 W7 (W.heap.size + 1) 0 (atomV sx))) :=
        ⟨(atom_holds sx hss _ _).mono (by omega) (Nat.le_refl _), set4_below ((hB5.trans (hb6.mono hB5.size)).trans (hb7.mono (by omega))) (by omega) 0 _⟩
      clear hz7 hb7 hb6
      go_wp2_with fail
      refine bodyPost_ret (v := .tuple #[.int .i64 0, (atomV sx).val, .bool false]) (by simp [results, Try.results14, go_sem, TV.val, atomV, z0, z1, z2, z3]) rfl ⟨?_, HF.out.2⟩
      rw [HR.out]
      exact ⟨_, rfl, HF.out.1⟩
  | error c =>
    have HEV : Hid _ := hev
    rw [hev] at ihu
    clear hin hev
    go_wp2_with fail
    refine ihu.mono ?_
    rintro e W5 ⟨he, hb5⟩
    simp only [RSays] at he
    obtain ⟨x, rfl, hx⟩ := he
    simp only [TV.val]
    clear ihu c0 c2 c3 d0 d1 d2 d3
    have s5 := hb5.size
    have hz5 : W5.heap[W.heap.size + 1]? = _ := (hb5.block _ (by omega)).trans HZ.out
    have bX := BoxT.new W5 x
    have hz6 : (W5.alloc (.cells #[.int .i64 x.k, .int .i64 x.N, .string x.s, .slice x.a x.len x.cap] 24)).heap[W.heap.size + 1]? = _ := (Below.heap_alloc W5 _ _ (by omega)).trans hz5
    have x0 := bX.c0
    have x1 := bX.c1
    have x2 := bX.c2
    have x3 := bX.c3
    obtain ⟨⟨z0, z1, z2, z3⟩, y0, y1, y2, y3⟩ := zbox_kept hz6
    obtain ⟨W6, hW6⟩ : ∃ W6, W5.alloc (.cells #[.int .i64 x.k, .int .i64 x.N, .string x.s, .slice x.a x.len x.cap] 24) = W6 := ⟨_, rfl⟩
    have hB6 : Below W5.heap.size W5 W6 := by rw [← hW6]; exact (Below.refl _ W5).alloc (Nat.le_refl _) _
    rw [hW6] at x0 x1 x2 x3 z0 z1 z2 z3 y0 y1 y2 y3
    have hBt : Below W.heap.size W W6 := (hb2.trans (hb5.mono (by omega))).trans (hB6.mono (by omega))
    have HF : Hid (HoldsT 3 W.heap.size (set4 W6 (W.heap.size + 1) 0 x).drew x.val c ∧ Below W.heap.size W (set4 W6 (W.heap.size + 1) 0 x).drew) :=
      ⟨((holds_set4 (hx.below hB6) (by omega) 0 _).mono (Nat.le_refl _) (by omega)).below (Below.refl _ _).drew, (set4_below hBt (by omega) 0 _).drew⟩
    clear bX hz5 hz6 hB6 hBt hb5 hx
    go_wp2_with fail
    try rw [hW6]
    clear hW6
    go_region
    go_wp2_with fail
    refine bodyPost_ret (v := .tuple #[.int .i64 0, x.val, .bool false]) (by simp [results, Try.results14, go_sem, TV.val, z0, z1, z2, z3]) rfl ⟨?_, HF.out.2⟩
    rw [HEV.out]
    exact ⟨_, rfl, HF.out.1⟩
end Go.Proofs.Ytffbhinpmlcopab

