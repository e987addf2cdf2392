import Derived.Test.YtffbhinpmlcopabArU
import Derived.Test.YtffbhinpmlcopabArV
/- hornref.Holds. -/
namespace Go.Proofs.Ytffbhinpmlcopab
open Go.RowKit Go.Shelf

set_option maxRecDepth 100000 in
set_option maxHeartbeats 1000000 in
theorem rholds_bad1 {n m : Nat} (s : ByteArray) (x : Tm n) (y : Tm m) (W : World) (hX : IsT W.heap.size W x) (hok : okT x = false) :
    Calls Try.prog 16 #[.string s, x.tv.val, y.tv.val] W fun e W' => e = .returned (.tuple #[.bool false, noTerm.val, .int .i64 2]) ∧ Below W.heap.size W W' := by
  obtain ⟨W3, hW3, hb3, hs3, bX, bY, bZ⟩ := box2_zero W x.tv y.tv
  have hcx := formed_any _ x W3 ((hX.below hb3).mono (by omega))
  rw [hok] at hcx
  simp only [TV.val] at hcx ⊢
  have x0 := bX.c0
  have x1 := bX.c1
  have x2 := bX.c2
  have x3 := bX.c3
  clear hX hok
  go_enter Try.func16, Try.ntmps16
  go_wp2_with fail
  refine hcx.mono ?_
  rintro e W4 ⟨rfl, hb4⟩
  try rw [hW3] at hb4
  clear hcx hW3 x0 x1 x2 x3
  have bZ4 := bZ.below hb4 (by omega)
  have z0 := bZ4.c0
  have z1 := bZ4.c1
  have z2 := bZ4.c2
  have z3 := bZ4.c3
  obtain ⟨y0, y1, y2, y3⟩ := bZ4.frz
  have HF : Hid (Below W.heap.size W (set4 W4 (W.heap.size + 2) 0 noTerm)) := set4_below (hb3.trans (hb4.mono (by omega))) (by omega) 0 _
  clear bX bY bZ bZ4 hb4 hb3
  go_wp2_with fail
  exact bodyPost_ret (v := .tuple #[.bool false, noTerm.val, .int .i64 2]) (by simp [results, Try.results16, go_sem, TV.val, noTerm, z0, z1, z2, z3]) rfl ⟨rfl, HF.out⟩
set_option maxRecDepth 100000 in
set_option maxHeartbeats 1000000 in
theorem rholds_bad2 {n m : Nat} (s : ByteArray) (x : Tm n) (y : Tm m) (W : World) (hX : IsT W.heap.size W x) (hY : IsT W.heap.size W y) (okx : okT x = true) (oky : okT y = false) :
    Calls Try.prog 16 #[.string s, x.tv.val, y.tv.val] W fun e W' => e = .returned (.tuple #[.bool false, noTerm.val, .int .i64 2]) ∧ Below W.heap.size W W' := by
  obtain ⟨W3, hW3, hb3, hs3, bX, bY, bZ⟩ := box2_zero W x.tv y.tv
  have hcx := formed_any _ x W3 ((hX.below hb3).mono (by omega))
  rw [okx] at hcx
  have HCY : Hid (∀ V, Below W.heap.size W V → _) := fun V (hb : Below W.heap.size W V) => formed_any _ y V ((hY.below hb).mono hb.size)
  have hcy0 := HCY
  simp only [TV.val] at hcx HCY ⊢
  clear hcy0
  have x0 := bX.c0
  have x1 := bX.c1
  have x2 := bX.c2
  have x3 := bX.c3
  clear hX hY
  go_enter Try.func16, Try.ntmps16
  go_wp2_with fail
  refine hcx.mono ?_
  rintro e W4 ⟨rfl, hb4⟩
  try rw [hW3] at hb4
  clear hcx hW3 x0 x1 x2 x3
  have s4 := hb4.size
  have bY4 := bY.below hb4 (by omega)
  have y0 := bY4.c0
  have y1 := bY4.c1
  have y2 := bY4.c2
  have y3 := bY4.c3
  have hB4 : Below W.heap.size W W4 := hb3.trans (hb4.mono (by omega))
  have hcy := HCY.out W4 hB4
  rw [oky] at hcy
  clear okx oky
  go_wp2_with fail
  refine hcy.mono ?_
  rintro e W5 ⟨rfl, hb5⟩
  clear hcy y0 y1 y2 y3 bY4
  have bZ4 := (bZ.below hb4 (by omega)).below hb5 (by omega)
  have z0 := bZ4.c0
  have z1 := bZ4.c1
  have z2 := bZ4.c2
  have z3 := bZ4.c3
  obtain ⟨y0, y1, y2, y3⟩ := bZ4.frz
  have HF : Hid (Below W.heap.size W (set4 W5 (W.heap.size + 2) 0 noTerm)) := set4_below (hB4.trans (hb5.mono (by omega))) (by omega) 0 _
  clear bX bY bZ bZ4 hb4 hb3 hb5 HCY hB4
  go_wp2_with fail
  exact bodyPost_ret (v := .tuple #[.bool false, noTerm.val, .int .i64 2]) (by simp [results, Try.results16, go_sem, TV.val, noTerm, z0, z1, z2, z3]) rfl ⟨rfl, HF.out⟩
set_option maxRecDepth 100000 in
set_option maxHeartbeats 4000000 in
theorem rholds_arg {n m : Nat} (s : ByteArray) (x : Tm n) (y : Tm m) (W : World) (hX : IsT W.heap.size W x) (hY : IsT W.heap.size W y) (okx : okT x = true) (oky : okT y = true) (h_eq : (s.toList == [61, 58, 61]) = false) (h_ne : (s.toList == [61, 92, 61]) = false) (h_lt : (s.toList == [60]) = false) (h_gt : (s.toList == [62]) = false) (h_le : (s.toList == [61, 60]) = false) (h_ge : (s.toList == [62, 61]) = false) :
    Calls Try.prog 16 #[.string s, x.tv.val, y.tv.val] W fun e W' => e = .returned (.tuple #[.bool false, noTerm.val, .int .i64 1]) ∧ Below W.heap.size W W' := by
  obtain ⟨W3, hW3, hb3, hs3, bX, bY, bZ⟩ := box2_zero W x.tv y.tv
  have hcx := formed_any _ x W3 ((hX.below hb3).mono (by omega))
  rw [okx] at hcx
  have HCY : Hid (∀ V, Below W.heap.size W V → _) := fun V (hb : Below W.heap.size W V) => formed_any _ y V ((hY.below hb).mono hb.size)
  simp only [TV.val] at hcx HCY ⊢
  have x0 := bX.c0
  have x1 := bX.c1
  have x2 := bX.c2
  have x3 := bX.c3
  go_enter Try.func16, Try.ntmps16
  go_wp2_with fail
  refine hcx.mono ?_
  rintro e W4 ⟨rfl, hb4⟩
  try rw [hW3] at hb4
  clear hcx hW3 x0 x1 x2 x3
  have s4 := hb4.size
  have bY4 := bY.below hb4 (by omega)
  have y0 := bY4.c0
  have y1 := bY4.c1
  have y2 := bY4.c2
  have y3 := bY4.c3
  have hB4 : Below W.heap.size W W4 := hb3.trans (hb4.mono (by omega))
  have hcy := HCY.out W4 hB4
  rw [oky] at hcy
  clear okx oky hX hY
  go_wp2_with fail
  refine hcy.mono ?_
  rintro e W5 ⟨rfl, hb5⟩
  clear hcy y0 y1 y2 y3 HCY
  have s5 := hb5.size
  have hB5 : Below W.heap.size W W5 := hB4.trans (hb5.mono (by omega))
  have bX5 := (bX.below hb4 (by omega)).below hb5 (by omega)
  have bY5 := bY4.below hb5 (by omega)
  have bZ5 := (bZ.below hb4 (by omega)).below hb5 (by omega)
  clear bX bY bZ bY4 hb4 hb5 hB4 hb3
  have z0 := bZ5.c0
  have z1 := bZ5.c1
  have z2 := bZ5.c2
  have z3 := bZ5.c3
  obtain ⟨f0, f1, f2, f3⟩ := bZ5.frz
  have HF : Hid (Below W.heap.size W (set4 W5 (W.heap.size + 2) 0 noTerm)) := set4_below hB5 (by omega) 0 _
  clear bX5 bY5 bZ5
  go_wp2_with fail
  refine bodyPost_ret (v := .tuple #[.bool false, noTerm.val, .int .i64 1]) (by simp [results, Try.results16, go_sem, TV.val, noTerm, z0, z1, z2, z3]) rfl ⟨?_, HF.out⟩
  exact rfl
end Go.Proofs.Ytffbhinpmlcopab

