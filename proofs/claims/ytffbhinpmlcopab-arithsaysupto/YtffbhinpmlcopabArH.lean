import Derived.Test.YtffbhinpmlcopabArG
/- arith.Eval; the number of two numbers by a name (hornkeep.op). -/
namespace Go.Proofs.Ytffbhinpmlcopab
open Go.RowKit Go.Shelf

set_option maxRecDepth 100000 in
set_option maxHeartbeats 1000000 in
theorem eval_ok {n : Nat} (t : Tm n) (W : World) (hT : IsT W.heap.size W t) (hok : okT t = true) (hnum : numsT t) :
    Calls Try.prog 8 #[t.tv.val] W fun e W' => NumSays W.heap.size (evT t) e W' ∧ Below W.heap.size W W' := by
  obtain ⟨W2, hW2, hb2, hs2, bT, hz⟩ := box_zero W t.tv
  have hT2 : IsT W2.heap.size W2 t := (hT.below hb2).mono (by omega)
  have hck := check_any t W2 hT2
  rw [chk_yes hok] at hck
  have HN : Hid _ := fun (W3 : World) (hb : Below W2.heap.size W2 W3) => number_any t W3 ((hT2.below hb).mono hb.size) hok hnum
  clear hT hT2 hok hnum
  simp only [TV.val] at hck HN ⊢
  have c0 := bT.c0
  have c1 := bT.c1
  have c2 := bT.c2
  have c3 := bT.c3
  have HX : Hid _ := bT
  clear bT
  go_enter Try.func8, Try.ntmps8
  go_wp2_with fail
  refine hck.mono ?_
  rintro e W3 ⟨rfl, hb3⟩
  clear hck c0 c1 c2 c3 hW2
  have bT3 : BoxT W3 W.heap.size t.tv := (hb3.block _ (by omega)).trans HX.out
  have c0 := bT3.c0
  have c1 := bT3.c1
  have c2 := bT3.c2
  have c3 := bT3.c3
  have hnm := HN.out W3 hb3
  have s3 := hb3.size
  have hz3 : W3.heap[W.heap.size + 1]? = _ := (hb3.block _ (by omega)).trans hz
  have HZ : Hid _ := hz3
  clear HX hz hz3 bT3
  cases hev : evT t with
  | ok m =>
    rw [hev] at hnm
    simp only [NumSays] at hnm
    have HE : Hid _ := hev
    clear hev
    go_wp2_with fail
    refine hnm.mono ?_
    rintro e W4 ⟨rfl, hb4⟩
    have hz4 : W4.heap[W.heap.size + 1]? = _ := (hb4.block _ (by omega)).trans HZ.out
    obtain ⟨⟨z0, z1, z2, z3⟩, y0, y1, y2, y3⟩ := zbox_kept hz4
    have HF : Hid (Below W.heap.size W (set4 W4 (W.heap.size + 1) 0 noTerm)) := set4_below ((hb2.trans (hb3.mono (by omega))).trans (hb4.mono (by omega))) (by omega) 0 _
    clear hnm c0 c1 c2 c3 hz4 hb4 hb3
    simp only [noTerm, TV.val]
    go_wp2_with fail
    exact bodyPost_ret (v := .tuple #[.int .i64 m, noTerm.val, .int .i64 0]) (by simp [results, Try.results8, go_sem, TV.val, noTerm, z0, z1, z2, z3]) rfl ⟨by rw [HE.out]; exact rfl, HF.out⟩
  | error c =>
    rw [hev] at hnm
    simp only [NumSays] at hnm
    have HE : Hid _ := hev
    clear hev
    go_wp2_with fail
    refine hnm.mono ?_
    rintro e W4 ⟨⟨x, rfl, hx⟩, hb4⟩
    have hz4 : W4.heap[W.heap.size + 1]? = _ := (hb4.block _ (by omega)).trans HZ.out
    obtain ⟨⟨z0, z1, z2, z3⟩, y0, y1, y2, y3⟩ := zbox_kept hz4
    have HF : Hid (HoldsT 3 W.heap.size (set4 W4 (W.heap.size + 1) 0 x) x.val c ∧ Below W.heap.size W (set4 W4 (W.heap.size + 1) 0 x)) :=
      ⟨(holds_set4 hx (by omega) 0 _).mono (Nat.le_refl _) (by omega), set4_below ((hb2.trans (hb3.mono (by omega))).trans (hb4.mono (by omega))) (by omega) 0 _⟩
    clear hnm c0 c1 c2 c3 hz4 hb4 hb3 hx
    simp only [TV.val]
    go_wp2_with fail
    exact bodyPost_ret (v := .tuple #[.int .i64 0, x.val, .int .i64 14]) (by simp [results, Try.results8, go_sem, TV.val, z0, z1, z2, z3]) rfl ⟨by rw [HE.out]; exact ⟨_, rfl, HF.out.1⟩, HF.out.2⟩
set_option maxRecDepth 100000 in
set_option maxHeartbeats 1000000 in
theorem eval_bad {n : Nat} (t : Tm n) (W : World) (hT : IsT W.heap.size W t) (hok : okT t = false) :
    Calls Try.prog 8 #[t.tv.val] W fun e W' => e = .returned (.tuple #[.int .i64 0, noTerm.val, .int .i64 2]) ∧ Below W.heap.size W W' := by
  obtain ⟨W2, hW2, hb2, hs2, bT, hz⟩ := box_zero W t.tv
  have hT2 : IsT W2.heap.size W2 t := (hT.below hb2).mono (by omega)
  have hck := check_any t W2 hT2
  rw [chk_no hok] at hck
  clear hT hT2 hok
  simp only [TV.val] at hck ⊢
  have c0 := bT.c0
  have c1 := bT.c1
  have c2 := bT.c2
  have c3 := bT.c3
  clear bT
  go_enter Try.func8, Try.ntmps8
  go_wp2_with fail
  refine hck.mono ?_
  rintro e W3 ⟨rfl, hb3⟩
  clear hck c0 c1 c2 c3 hW2
  have s3 := hb3.size
  have hz3 : W3.heap[W.heap.size + 1]? = _ := (hb3.block _ (by omega)).trans hz
  obtain ⟨⟨z0, z1, z2, z3⟩, y0, y1, y2, y3⟩ := zbox_kept hz3
  have HF : Hid (Below W.heap.size W (set4 W3 (W.heap.size + 1) 0 noTerm)) := set4_below (hb2.trans (hb3.mono (by omega))) (by omega) 0 _
  clear hz hz3 hb3
  go_wp2_with fail
  exact bodyPost_ret (v := .tuple #[.int .i64 0, noTerm.val, .int .i64 2]) (by simp [results, Try.results8, go_sem, TV.val, noTerm, z0, z1, z2, z3]) rfl ⟨rfl, HF.out⟩

/-- What op answers of what a name does. -/
def opV : Except ByteArray Int → Value
  | .ok n => .tuple #[.int .i64 n, .bool true]
  | .error _ => .tuple #[.int .i64 0, .bool false]
/-- An integer as a term of one storey. -/
def intK (n : Int) : Tm 1 := ((intV n, []) : TV × List (Tm 0))
theorem leaf_ok (n : Int) : (intV n).ok = true := by simp [TV.ok, wmB, intV]

end Go.Proofs.Ytffbhinpmlcopab

