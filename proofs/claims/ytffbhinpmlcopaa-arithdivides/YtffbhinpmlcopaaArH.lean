import Derived.Test.YtffbhinpmlcopaaArG
/- arith.Eval; the number of two numbers by a name (hornkeep.op). -/
namespace Go.Proofs.Ytffbhinpmlcopaa
open Go.RowKit Go.Shelf

set_option maxRecDepth 100000 in
set_option maxHeartbeats 1000000 in
theorem eval_ok {n : Nat} (t : Tm n) (W : World) (hT : IsT W.heap.size W t) (hok : okT t = true) (hnum : numsT t) :
    Calls Try.prog 39 #[t.tv.val] W fun e W' => NumSays W.heap.size (evT t) e W' ∧ Below W.heap.size W W' := by
  obtain ⟨W2, hW2, hb2, hs2, bT, hz⟩ := box_zero W t.tv
  have hT2 : IsT W2.heap.size W2 t := (hT.below hb2).mono (by omega)
  have hck := check_any t W2 hT2
  rw [chk_yes hok] at hck
  have HN : Hid _ := fun (W3 : World) (hb : Below W2.heap.size W2 W3) => number_any t W3 ((hT2.below hb).mono hb.size) hok hnum
  clear hT hT2 hok hnum
  simp only [TV.val] at hck HN ⊢
  have c0 := bT.c0
  have c1 := bT.c1
  have c2 := bT.c2
  have c3 := bT.c3
  have HX : Hid _ := bT
  clear bT
  go_enter Try.func39, Try.ntmps39
  go_wp2_with fail
  refine hck.mono ?_
  rintro e W3 ⟨rfl, hb3⟩
  clear hck c0 c1 c2 c3 hW2
  have bT3 : BoxT W3 W.heap.size t.tv := (hb3.block _ (by omega)).trans HX.out
  have c0 := bT3.c0
  have c1 := bT3.c1
  have c2 := bT3.c2
  have c3 := bT3.c3
  have hnm := HN.out W3 hb3
  have s3 := hb3.size
  have hz3 : W3.heap[W.heap.size + 1]? = _ := (hb3.block _ (by omega)).trans hz
  have HZ : Hid _ := hz3
  clear HX hz hz3 bT3
  cases hev : evT t with
  | ok m =>
    rw [hev] at hnm
    simp only [NumSays] at hnm
    have HE : Hid _ := hev
    clear hev
    go_wp2_with fail
    refine hnm.mono ?_
    rintro e W4 ⟨rfl, hb4⟩
    have hz4 : W4.heap[W.heap.size + 1]? = _ := (hb4.block _ (by omega)).trans HZ.out
    obtain ⟨⟨z0, z1, z2, z3⟩, y0, y1, y2, y3⟩ := zbox_kept hz4
    have HF : Hid (Below W.heap.size W (set4 W4 (W.heap.size + 1) 0 noTerm)) := set4_below ((hb2.trans (hb3.mono (by omega))).trans (hb4.mono (by omega))) (by omega) 0 _
    clear hnm c0 c1 c2 c3 hz4 hb4 hb3
    simp only [noTerm, TV.val]
    go_wp2_with fail
    exact bodyPost_ret (v := .tuple #[.int .i64 m, noTerm.val, .int .i64 0]) (by simp [results, Try.results39, go_sem, TV.val, noTerm, z0, z1, z2, z3]) rfl ⟨by rw [HE.out]; exact rfl, HF.out⟩
  | error c =>
    rw [hev] at hnm
    simp only [NumSays] at hnm
    have HE : Hid _ := hev
    clear hev
    go_wp2_with fail
    refine hnm.mono ?_
    rintro e W4 ⟨⟨x, rfl, hx⟩, hb4⟩
    have hz4 : W4.heap[W.heap.size + 1]? = _ := (hb4.block _ (by omega)).trans HZ.out
    obtain ⟨⟨z0, z1, z2, z3⟩, y0, y1, y2, y3⟩ := zbox_kept hz4
    have HF : Hid (HoldsT 3 W.heap.size (set4 W4 (W.heap.size + 1) 0 x) x.val c ∧ Below W.heap.size W (set4 W4 (W.heap.size + 1) 0 x)) :=
      ⟨(holds_set4 hx (by omega) 0 _).mono (Nat.le_refl _) (by omega), set4_below ((hb2.trans (hb3.mono (by omega))).trans (hb4.mono (by omega))) (by omega) 0 _⟩
    clear hnm c0 c1 c2 c3 hz4 hb4 hb3 hx
    simp only [TV.val]
    go_wp2_with fail
    exact bodyPost_ret (v := .tuple #[.int .i64 0, x.val, .int .i64 14]) (by simp [results, Try.results39, go_sem, TV.val, z0, z1, z2, z3]) rfl ⟨by rw [HE.out]; exact ⟨_, rfl, HF.out.1⟩, HF.out.2⟩
set_option maxRecDepth 100000 in
set_option maxHeartbeats 1000000 in
theorem eval_bad {n : Nat} (t : Tm n) (W : World) (hT : IsT W.heap.size W t) (hok : okT t = false) :
    Calls Try.prog 39 #[t.tv.val] W fun e W' => e = .returned (.tuple #[.int .i64 0, noTerm.val, .int .i64 2]) ∧ Below W.heap.size W W' := by
  obtain ⟨W2, hW2, hb2, hs2, bT, hz⟩ := box_zero W t.tv
  have hT2 : IsT W2.heap.size W2 t := (hT.below hb2).mono (by omega)
  have hck := check_any t W2 hT2
  rw [chk_no hok] at hck
  clear hT hT2 hok
  simp only [TV.val] at hck ⊢
  have c0 := bT.c0
  have c1 := bT.c1
  have c2 := bT.c2
  have c3 := bT.c3
  clear bT
  go_enter Try.func39, Try.ntmps39
  go_wp2_with fail
  refine hck.mono ?_
  rintro e W3 ⟨rfl, hb3⟩
  clear hck c0 c1 c2 c3 hW2
  have s3 := hb3.size
  have hz3 : W3.heap[W.heap.size + 1]? = _ := (hb3.block _ (by omega)).trans hz
  obtain ⟨⟨z0, z1, z2, z3⟩, y0, y1, y2, y3⟩ := zbox_kept hz3
  have HF : Hid (Below W.heap.size W (set4 W3 (W.heap.size + 1) 0 noTerm)) := set4_below (hb2.trans (hb3.mono (by omega))) (by omega) 0 _
  clear hz hz3 hb3
  go_wp2_with fail
  exact bodyPost_ret (v := .tuple #[.int .i64 0, noTerm.val, .int .i64 2]) (by simp [results, Try.results39, go_sem, TV.val, noTerm, z0, z1, z2, z3]) rfl ⟨rfl, HF.out⟩

/-- What op answers of what a name does. -/
def opV : Except ByteArray Int → Value
  | .ok n => .tuple #[.int .i64 n, .bool true]
  | .error _ => .tuple #[.int .i64 0, .bool false]
/-- An integer as a term of one storey. -/
def intK (n : Int) : Tm 1 := ((intV n, []) : TV × List (Tm 0))
theorem leaf_ok (n : Int) : (intV n).ok = true := by simp [TV.ok, wmB, intV]

set_option maxRecDepth 100000 in
set_option maxHeartbeats 1000000 in
theorem op_any (s : ByteArray) (hs : s.size ≤ 100) (f : Int → Int → Except ByteArray Int) (hf : twoOp s.toList = some f) (a b : Int) (ha : inR a) (hb : inR b) (w : World) :
    Calls Try.prog 22 #[.string s, .int .i64 a, .int .i64 b] w fun e W' => e = .returned (opV (f a b)) ∧ Below w.heap.size w W' := by
  have hi := rinteger_any
  have hc := rcompound_any
  simp only [intV, compV, TV.val] at hi hc
  go_enter Try.func22, Try.ntmps22
  go_wp2_with fail
  refine (hi _ _).mono ?_
  rintro e W1 ⟨rfl, hb1⟩
  go_wp2_with fail
  refine (hi _ _).mono ?_
  rintro e W2 ⟨rfl, hb2⟩
  go_wp2_with fail
  refine (hc _ _ _ _ _).mono ?_
  rintro e W3 ⟨rfl, hb3⟩
  clear hi hc
  have s1 := hb1.size
  have s2 := hb2.size
  have s3 := hb3.size
  simp only [World.size_alloc] at s3
  have hblk : W3.heap[W2.heap.size]? = some (.cells #[.int .i64 2, .int .i64 a, .string ⟨#[]⟩, .slice none 0 0, .int .i64 2, .int .i64 b, .string ⟨#[]⟩, .slice none 0 0] 24 (0, 0)) := (hb3.block _ (by simp)).trans (World.alloc_heap_new _ _)
  have hB3 : Below w.heap.size w W3 := ((hb1.trans (hb2.mono (by omega))).trans (((Below.refl _ W2).alloc (Nat.le_refl _) _).mono (by omega))).trans (hb3.mono (by simp; omega))
  let t : Tm 2 := ((compV s (some ⟨W2.heap.size, 0, none⟩) 2 2, [intK a, intK b]) : TV × List (Tm 1))
  have hT : IsT W3.heap.size W3 t := by
    have he : (⟨#[]⟩ : ByteArray).size ≤ 9223372036854775807 := by show (0 : Nat) ≤ _; omega
    refine ⟨rfl, by simp [t, Tm.tv, compV], by simp [t, Tm.tv, compV]; omega, .inr ⟨W2.heap.size, 0, rfl, by omega, fun j v hv => ?_⟩⟩
    match j, hv with
    | 0, hv =>
      obtain rfl := Option.some.inj (show some (intK a) = some v from hv)
      exact ⟨by refine ⟨?_, ?_, ?_, ?_⟩ <;> simp [World.cell?, hblk, Tm.tv, intK, intV], rfl, by simp [Tm.tv, intK, intV], he, .inl rfl⟩
    | 1, hv =>
      obtain rfl := Option.some.inj (show some (intK b) = some v from hv)
      exact ⟨by refine ⟨?_, ?_, ?_, ?_⟩ <;> simp [World.cell?, hblk, Tm.tv, intK, intV], rfl, by simp [Tm.tv, intK, intV], he, .inl rfl⟩
    | k + 2, hv => cases (show none = some v from hv)
  have hp : parts t = [compV s (some ⟨W2.heap.size, 0, none⟩) 2 2, intV a, intV b] := rfl
  have hok : okT t = true := by
    unfold okT
    rw [hp]
    simp only [List.all_cons, List.all_nil, Bool.and_true, leaf_ok]
    have hs' : (s.size : Int) ≤ 100 := by omega
    simp [TV.ok, wmB, compV, hs']
  have hnum : numsT t := by
    intro x hx
    rw [hp] at hx
    simp only [List.mem_cons, List.not_mem_nil, or_false] at hx
    rcases hx with rfl | rfl | rfl
    · simp [compV, inR]
    · exact ha
    · exact hb
  have hev : evT t = thrown (f a b) := by
    show nodeR _ _ = _
    have h1 : opOf s.toList 2 = some f := by rw [← hf]; rfl
    unfold nodeR
    show (if (4 : Int) = 2 then _ else if (4 : Int) = 1 then _ else match opOf s.toList 2 with | none => _ | some f => fromArgs f (evL evT [intK a, intK b])) = _
    simp only [show ¬ ((4 : Int) = 2) by decide, show ¬ ((4 : Int) = 1) by decide, if_false, h1]
    have e1 : evL evT [intK a, intK b] = .ok [a, b] := by
      have ea : ∀ n : Int, evT (intK n) = .ok n := fun n => by unfold intK; rw [evT_succ]; simp [nodeR, intV]
      simp only [evL, ea]
    rw [e1]
    rfl
  have hE := eval_ok t W3 hT hok hnum
  rw [hev] at hE
  simp only [t, Tm.tv, compV, TV.val] at hE
  clear hT hok hnum hev hp hblk t hb1 hb2 hb3
  have hgood := two_in hf ha hb
  cases hr : f a b with
  | ok m =>
    rw [hr] at hE
    simp only [NumSays, thrown, noTerm, TV.val] at hE
    have HR : Hid _ := hr
    clear hr hgood
    go_wp2_with fail
    refine hE.mono ?_
    rintro e W4 ⟨rfl, hb4⟩
    have HF : Hid (∀ o, Below w.heap.size w (W4.alloc o)) := fun o => (hB3.trans (hb4.mono (by omega))).alloc (by have := hb4.size; omega) o
    clear hE
    go_wp2
    all_goals go_ret2
    all_goals exact ⟨by rw [HR.out]; exact rfl, HF.out _⟩
  | error sx =>
    rw [hr] at hE
    simp only [NumSays, thrown] at hE
    have HR : Hid _ := hr
    clear hr hgood
    go_wp2_with fail
    refine hE.mono ?_
    rintro e W4 ⟨⟨x, rfl, -⟩, hb4⟩
    have HF : Hid (∀ o, Below w.heap.size w (W4.alloc o)) := fun o => (hB3.trans (hb4.mono (by omega))).alloc (by have := hb4.size; omega) o
    clear hE
    simp only [TV.val]
    go_wp2
    all_goals go_ret2
    all_goals exact ⟨by rw [HR.out]; exact rfl, HF.out _⟩
end Go.Proofs.Ytffbhinpmlcopaa

