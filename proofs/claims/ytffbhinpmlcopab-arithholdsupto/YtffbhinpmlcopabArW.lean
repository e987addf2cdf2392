import Derived.Test.YtffbhinpmlcopabArV
/- arith.Holds. -/
namespace Go.Proofs.Ytffbhinpmlcopab
open Go.RowKit Go.Shelf

set_option maxRecDepth 100000 in
set_option maxHeartbeats 1000000 in
theorem aholds_bad1 {n m : Nat} (s : ByteArray) (x : Tm n) (y : Tm m) (W : World) (hX : IsT W.heap.size W x) (hok : okT x = false) :
    Calls Try.prog 15 #[.string s, x.tv.val, y.tv.val] W fun e W' => e = .returned (.tuple #[.bool false, noTerm.val, .int .i64 2]) ∧ Below W.heap.size W W' := by
  obtain ⟨W3, hW3, hb3, hs3, bX, bY, bZ⟩ := box2_zero W x.tv y.tv
  have hcx := check_any x W3 ((hX.below hb3).mono (by omega))
  rw [chk_no hok] at hcx
  simp only [TV.val] at hcx ⊢
  have x0 := bX.c0
  have x1 := bX.c1
  have x2 := bX.c2
  have x3 := bX.c3
  clear hX hok
  go_enter Try.func15, Try.ntmps15
  go_wp2_with fail
  refine hcx.mono ?_
  rintro e W4 ⟨rfl, hb4⟩
  try rw [hW3] at hb4
  clear hcx hW3 x0 x1 x2 x3
  have bZ4 := bZ.below hb4 (by omega)
  have z0 := bZ4.c0
  have z1 := bZ4.c1
  have z2 := bZ4.c2
  have z3 := bZ4.c3
  obtain ⟨y0, y1, y2, y3⟩ := bZ4.frz
  have HF : Hid (Below W.heap.size W (set4 W4 (W.heap.size + 2) 0 noTerm)) := set4_below (hb3.trans (hb4.mono (by omega))) (by omega) 0 _
  clear bX bY bZ bZ4 hb4 hb3
  go_wp2_with fail
  exact bodyPost_ret (v := .tuple #[.bool false, noTerm.val, .int .i64 2]) (by simp [results, Try.results15, go_sem, TV.val, noTerm, z0, z1, z2, z3]) rfl ⟨rfl, HF.out⟩
set_option maxRecDepth 100000 in
set_option maxHeartbeats 1000000 in
theorem aholds_bad2 {n m : Nat} (s : ByteArray) (x : Tm n) (y : Tm m) (W : World) (hX : IsT W.heap.size W x) (hY : IsT W.heap.size W y) (okx : okT x = true) (oky : okT y = false) :
    Calls Try.prog 15 #[.string s, x.tv.val, y.tv.val] W fun e W' => e = .returned (.tuple #[.bool false, noTerm.val, .int .i64 2]) ∧ Below W.heap.size W W' := by
  obtain ⟨W3, hW3, hb3, hs3, bX, bY, bZ⟩ := box2_zero W x.tv y.tv
  have hcx := check_any x W3 ((hX.below hb3).mono (by omega))
  rw [chk_yes okx] at hcx
  have HCY : Hid (∀ V, Below W.heap.size W V → _) := fun V (hb : Below W.heap.size W V) => check_any y V ((hY.below hb).mono hb.size)
  have hcy0 := HCY
  simp only [TV.val] at hcx HCY ⊢
  clear hcy0
  have x0 := bX.c0
  have x1 := bX.c1
  have x2 := bX.c2
  have x3 := bX.c3
  clear hX hY
  go_enter Try.func15, Try.ntmps15
  go_wp2_with fail
  refine hcx.mono ?_
  rintro e W4 ⟨rfl, hb4⟩
  try rw [hW3] at hb4
  clear hcx hW3 x0 x1 x2 x3
  have s4 := hb4.size
  have bY4 := bY.below hb4 (by omega)
  have y0 := bY4.c0
  have y1 := bY4.c1
  have y2 := bY4.c2
  have y3 := bY4.c3
  have hB4 : Below W.heap.size W W4 := hb3.trans (hb4.mono (by omega))
  have hcy := HCY.out W4 hB4
  rw [chk_no oky] at hcy
  clear okx oky
  go_wp2_with fail
  refine hcy.mono ?_
  rintro e W5 ⟨rfl, hb5⟩
  clear hcy y0 y1 y2 y3 bY4
  have bZ4 := (bZ.below hb4 (by omega)).below hb5 (by omega)
  have z0 := bZ4.c0
  have z1 := bZ4.c1
  have z2 := bZ4.c2
  have z3 := bZ4.c3
  obtain ⟨y0, y1, y2, y3⟩ := bZ4.frz
  have HF : Hid (Below W.heap.size W (set4 W5 (W.heap.size + 2) 0 noTerm)) := set4_below (hB4.trans (hb5.mono (by omega))) (by omega) 0 _
  clear bX bY bZ bZ4 hb4 hb3 hb5 HCY hB4
  go_wp2_with fail
  exact bodyPost_ret (v := .tuple #[.bool false, noTerm.val, .int .i64 2]) (by simp [results, Try.results15, go_sem, TV.val, noTerm, z0, z1, z2, z3]) rfl ⟨rfl, HF.out⟩
set_option maxRecDepth 100000 in
set_option maxHeartbeats 4000000 in
theorem aholds_arg {n m : Nat} (s : ByteArray) (x : Tm n) (y : Tm m) (W : World) (hX : IsT W.heap.size W x) (hY : IsT W.heap.size W y) (okx : okT x = true) (oky : okT y = true) (hr : relOf s.toList = none) :
    Calls Try.prog 15 #[.string s, x.tv.val, y.tv.val] W fun e W' => e = .returned (.tuple #[.bool false, noTerm.val, .int .i64 1]) ∧ Below W.heap.size W W' := by
  obtain ⟨W3, hW3, hb3, hs3, bX, bY, bZ⟩ := box2_zero W x.tv y.tv
  have hcx := check_any x W3 ((hX.below hb3).mono (by omega))
  rw [chk_yes okx] at hcx
  have HCY : Hid (∀ V, Below W.heap.size W V → _) := fun V (hb : Below W.heap.size W V) => check_any y V ((hY.below hb).mono hb.size)
  simp only [TV.val] at hcx HCY ⊢
  have x0 := bX.c0
  have x1 := bX.c1
  have x2 := bX.c2
  have x3 := bX.c3
  go_enter Try.func15, Try.ntmps15
  go_wp2_with fail
  refine hcx.mono ?_
  rintro e W4 ⟨rfl, hb4⟩
  try rw [hW3] at hb4
  clear hcx hW3 x0 x1 x2 x3
  have s4 := hb4.size
  have bY4 := bY.below hb4 (by omega)
  have y0 := bY4.c0
  have y1 := bY4.c1
  have y2 := bY4.c2
  have y3 := bY4.c3
  have hB4 : Below W.heap.size W W4 := hb3.trans (hb4.mono (by omega))
  have hcy := HCY.out W4 hB4
  rw [chk_yes oky] at hcy
  clear okx oky hX hY
  go_wp2_with fail
  refine hcy.mono ?_
  rintro e W5 ⟨rfl, hb5⟩
  clear hcy y0 y1 y2 y3 HCY
  have s5 := hb5.size
  have hB5 : Below W.heap.size W W5 := hB4.trans (hb5.mono (by omega))
  have bX5 := (bX.below hb4 (by omega)).below hb5 (by omega)
  have bY5 := bY4.below hb5 (by omega)
  have bZ5 := (bZ.below hb4 (by omega)).below hb5 (by omega)
  clear bX bY bZ bY4 hb4 hb5 hB4 hb3
  have hre := relation_any s W5
  rw [hr] at hre
  clear hr
  go_wp2_with fail
  refine hre.mono ?_
  rintro e W6 ⟨v, rfl, hw6, hv⟩
  subst hw6
  obtain rfl : v = .nilFunc := hv
  clear hre
  have hnil := nil_stand W6
  have z0 := bZ5.c0
  have z1 := bZ5.c1
  have z2 := bZ5.c2
  have z3 := bZ5.c3
  obtain ⟨f0, f1, f2, f3⟩ := bZ5.frz
  have HF : Hid (Below W.heap.size W (set4 W6 (W.heap.size + 2) 0 noTerm)) := set4_below hB5 (by omega) 0 _
  clear bX5 bY5 bZ5
  go_wp2_with fail
  refine bodyPost_ret (v := .tuple #[.bool false, noTerm.val, .int .i64 1]) (by simp [results, Try.results15, go_sem, TV.val, noTerm, z0, z1, z2, z3]) rfl ⟨?_, HF.out⟩
  exact rfl
set_option maxRecDepth 100000 in
set_option maxHeartbeats 4000000 in
theorem aholds_ok {n m : Nat} (s : ByteArray) (x : Tm n) (y : Tm m) (W : World) (hX : IsT W.heap.size W x) (hY : IsT W.heap.size W y) (okx : okT x = true) (oky : okT y = true) (nx : numsT x) (ny : numsT y) (g : Int → Int → Bool) (hr : relOf s.toList = some g) :
    Calls Try.prog 15 #[.string s, x.tv.val, y.tv.val] W fun e W' => HSays W.heap.size (relR g (evT x) (evT y)) e W' ∧ Below W.heap.size W W' := by
  obtain ⟨W3, hW3, hb3, hs3, bX, bY, bZ⟩ := box2_zero W x.tv y.tv
  have hcx := check_any x W3 ((hX.below hb3).mono (by omega))
  rw [chk_yes okx] at hcx
  have HCY : Hid (∀ V, Below W.heap.size W V → _) := fun V (hb : Below W.heap.size W V) => check_any y V ((hY.below hb).mono hb.size)
  have HNX : Hid (∀ V, Below W.heap.size W V → _) := fun V (hb : Below W.heap.size W V) => number_any x V ((hX.below hb).mono hb.size) okx nx
  have HNY : Hid (∀ V, Below W.heap.size W V → _) := fun V (hb : Below W.heap.size W V) => number_any y V ((hY.below hb).mono hb.size) oky ny
  simp only [TV.val] at HNX HNY
  simp only [TV.val] at hcx HCY ⊢
  have x0 := bX.c0
  have x1 := bX.c1
  have x2 := bX.c2
  have x3 := bX.c3
  go_enter Try.func15, Try.ntmps15
  go_wp2_with fail
  refine hcx.mono ?_
  rintro e W4 ⟨rfl, hb4⟩
  try rw [hW3] at hb4
  clear hcx hW3 x0 x1 x2 x3
  have s4 := hb4.size
  have bY4 := bY.below hb4 (by omega)
  have y0 := bY4.c0
  have y1 := bY4.c1
  have y2 := bY4.c2
  have y3 := bY4.c3
  have hB4 : Below W.heap.size W W4 := hb3.trans (hb4.mono (by omega))
  have hcy := HCY.out W4 hB4
  rw [chk_yes oky] at hcy
  clear okx oky hX hY
  go_wp2_with fail
  refine hcy.mono ?_
  rintro e W5 ⟨rfl, hb5⟩
  clear hcy y0 y1 y2 y3 HCY
  have s5 := hb5.size
  have hB5 : Below W.heap.size W W5 := hB4.trans (hb5.mono (by omega))
  have bX5 := (bX.below hb4 (by omega)).below hb5 (by omega)
  have bY5 := bY4.below hb5 (by omega)
  have bZ5 := (bZ.below hb4 (by omega)).below hb5 (by omega)
  clear bX bY bZ bY4 hb4 hb5 hB4 hb3
  have hre := relation_any s W5
  rw [hr] at hre
  clear hr
  go_wp2_with fail
  refine hre.mono ?_
  rintro e W6 ⟨v, rfl, hw6, hv⟩
  subst hw6
  obtain ⟨q, rfl, eg, hq⟩ := hv
  have HQ : Hid _ := hq
  clear hre hq
  have hnil := stand_nil q W6
  have hnx := HNX.out W6 hB5
  have x0 := bX5.c0
  have x1 := bX5.c1
  have x2 := bX5.c2
  have x3 := bX5.c3
  cases hev : evT x with
  | error c =>
    have HE : Hid (relR g (evT x) (evT y) = .error c) := by rw [hev]; rfl
    rw [hev] at hnx
    clear hev
    go_wp2_with fail
    refine hnx.mono ?_
    rintro e W7 ⟨he, hb7⟩
    simp only [NumSays] at he
    obtain ⟨t, rfl, hx⟩ := he
    clear hnx x0 x1 x2 x3 hnil
    have s7 := hb7.size
    have bZ7 := bZ5.below hb7 (by omega)
    have hB7 : Below W.heap.size W W7 := hB5.trans (hb7.mono (by omega))
    have z0 := bZ7.c0
    have z1 := bZ7.c1
    have z2 := bZ7.c2
    have z3 := bZ7.c3
    obtain ⟨f0, f1, f2, f3⟩ := bZ7.frz
    have bV : BoxT (set4 W7 (W.heap.size + 2) 0 t) (W.heap.size + 2) t := set4_box bZ7 t
    have hBV : Below W.heap.size W (set4 W7 (W.heap.size + 2) 0 t) := set4_below hB7 (by omega) 0 _
    have hxV : HoldsT 3 W6.heap.size (set4 W7 (W.heap.size + 2) 0 t) t.val c := holds_set4 hx (by omega) 0 _
    obtain ⟨V, hV⟩ : ∃ V, set4 W7 (W.heap.size + 2) 0 t = V := ⟨_, rfl⟩
    rw [hV] at bV hBV hxV
    have HV : Hid _ := hV
    clear hV
    have HBV : Hid _ := bV
    clear bV
    clear bX5 bY5 bZ5 bZ7 hb7 hx hB7
    simp only [TV.val]
    go_wp2_with fail
    have hV := HV.out
    unfold set4 at hV
    simp only [Nat.zero_add] at hV
    try rw [hV]
    clear hV HV z0 z1 z2 z3 f0 f1 f2 f3
    have bV : BoxT V (W.heap.size + 2) t := HBV.out
    have z0 := bV.c0
    have z1 := bV.c1
    have z2 := bV.c2
    have z3 := bV.c3
    obtain ⟨f0, f1, f2, f3⟩ := bV.frz
    have HF : Hid (HoldsT 3 W.heap.size (set4 V (W.heap.size + 2) 0 t).drew t.val c ∧ Below W.heap.size W (set4 V (W.heap.size + 2) 0 t).drew) :=
      ⟨((holds_set4 hxV (by omega) 0 _).mono (Nat.le_refl _) (by omega)).below (Below.refl _ _).drew, (set4_below hBV (by omega) 0 _).drew⟩
    clear bV HBV hBV hxV
    go_region
    go_wp2_with fail
    refine bodyPost_ret (v := .tuple #[.bool false, t.val, .int .i64 14]) (by simp [results, Try.results15, go_sem, TV.val, z0, z1, z2, z3]) rfl ⟨?_, HF.out.2⟩
    rw [HE.out]
    exact ⟨_, rfl, HF.out.1⟩
  | ok p =>
    have HE : Hid (evT x = .ok p) := hev
    rw [hev] at hnx
    clear hev
    simp only [NumSays, noTerm, TV.val] at hnx
    go_wp2_with fail
    refine hnx.mono ?_
    rintro e W7 ⟨rfl, hb7⟩
    clear hnx x0 x1 x2 x3 hnil
    have s7 := hb7.size
    have bZ7 := bZ5.below hb7 (by omega)
    have bY7 := bY5.below hb7 (by omega)
    have hB7 : Below W.heap.size W W7 := hB5.trans (hb7.mono (by omega))
    have z0 := bZ7.c0
    have z1 := bZ7.c1
    have z2 := bZ7.c2
    have z3 := bZ7.c3
    obtain ⟨f0, f1, f2, f3⟩ := bZ7.frz
    have bZ8 : BoxT (set4 W7 (W.heap.size + 2) 0 noTerm) (W.heap.size + 2) noTerm := set4_box bZ7 noTerm
    have bY8 : BoxT (set4 W7 (W.heap.size + 2) 0 noTerm) (W.heap.size + 1) y.tv := bY7.set4 (by omega) _
    have hB8 : Below W.heap.size W (set4 W7 (W.heap.size + 2) 0 noTerm) := set4_below hB7 (by omega) 0 _
    have hny := HNY.out _ hB8
    have s8 : (set4 W7 (W.heap.size + 2) 0 noTerm).heap.size = W7.heap.size := set4_size _ _ _ _
    have y0 := bY8.c0
    have y1 := bY8.c1
    have y2 := bY8.c2
    have y3 := bY8.c3
    obtain ⟨W8, hW8⟩ : ∃ W8, set4 W7 (W.heap.size + 2) 0 noTerm = W8 := ⟨_, rfl⟩
    rw [hW8] at bZ8 bY8 hB8 hny s8 y0 y1 y2 y3
    simp only [set4, noTerm, Nat.zero_add] at hW8
    clear bY7 bZ7 bX5 bY5 bZ5 hb7
    cases hew : evT y with
    | error c =>
      have HR : Hid (relR g (evT x) (evT y) = .error c) := by rw [HE.out, hew]; rfl
      rw [hew] at hny
      clear hew
      go_wp2_with fail
      try rw [hW8]
      clear hW8 z0 z1 z2 z3 f0 f1 f2 f3
      refine hny.mono ?_
      rintro e W9 ⟨he, hb9⟩
      simp only [NumSays] at he
      obtain ⟨t, rfl, hx⟩ := he
      clear hny y0 y1 y2 y3
      have s9 := hb9.size
      have bZ9 := bZ8.below hb9 (by omega)
      have hB9 : Below W.heap.size W W9 := hB8.trans (hb9.mono (by omega))
      have z0 := bZ9.c0
      have z1 := bZ9.c1
      have z2 := bZ9.c2
      have z3 := bZ9.c3
      obtain ⟨f0, f1, f2, f3⟩ := bZ9.frz
      have bV : BoxT (set4 W9 (W.heap.size + 2) 0 t) (W.heap.size + 2) t := set4_box bZ9 t
      have hBV : Below W.heap.size W (set4 W9 (W.heap.size + 2) 0 t) := set4_below hB9 (by omega) 0 _
      have hxV : HoldsT 3 W8.heap.size (set4 W9 (W.heap.size + 2) 0 t) t.val c := holds_set4 hx (by omega) 0 _
      obtain ⟨V, hV⟩ : ∃ V, set4 W9 (W.heap.size + 2) 0 t = V := ⟨_, rfl⟩
      rw [hV] at bV hBV hxV
      have HV : Hid _ := hV
      clear hV
      have HBV : Hid _ := bV
      clear bV
      clear bY8 bZ8 bZ9 hb9 hx hB9 hB8
      simp only [TV.val]
      go_wp2_with fail
      have hV := HV.out
      unfold set4 at hV
      simp only [Nat.zero_add] at hV
      try rw [hV]
      clear hV HV z0 z1 z2 z3 f0 f1 f2 f3
      have bV : BoxT V (W.heap.size + 2) t := HBV.out
      have z0 := bV.c0
      have z1 := bV.c1
      have z2 := bV.c2
      have z3 := bV.c3
      obtain ⟨f0, f1, f2, f3⟩ := bV.frz
      have HF : Hid (HoldsT 3 W.heap.size (set4 V (W.heap.size + 2) 0 t).drew t.val c ∧ Below W.heap.size W (set4 V (W.heap.size + 2) 0 t).drew) :=
        ⟨((holds_set4 hxV (by omega) 0 _).mono (Nat.le_refl _) (by omega)).below (Below.refl _ _).drew, (set4_below hBV (by omega) 0 _).drew⟩
      clear bV HBV hBV hxV
      go_region
      go_wp2_with fail
      refine bodyPost_ret (v := .tuple #[.bool false, t.val, .int .i64 14]) (by simp [results, Try.results15, go_sem, TV.val, z0, z1, z2, z3]) rfl ⟨?_, HF.out.2⟩
      rw [HR.out]
      exact ⟨_, rfl, HF.out.1⟩
    | ok r =>
      have HR : Hid (relR g (evT x) (evT y) = .ok (g p r)) := by rw [HE.out, hew]; rfl
      rw [hew] at hny
      clear hew
      simp only [NumSays, noTerm, TV.val] at hny
      go_wp2_with fail
      try rw [hW8]
      clear hW8 z0 z1 z2 z3 f0 f1 f2 f3
      refine hny.mono ?_
      rintro e W9 ⟨rfl, hb9⟩
      clear hny y0 y1 y2 y3
      have s9 := hb9.size
      have bZ9 := bZ8.below hb9 (by omega)
      have hB9 : Below W.heap.size W W9 := hB8.trans (hb9.mono (by omega))
      have z0 := bZ9.c0
      have z1 := bZ9.c1
      have z2 := bZ9.c2
      have z3 := bZ9.c3
      obtain ⟨f0, f1, f2, f3⟩ := bZ9.frz
      have bZV : BoxT (set4 W9 (W.heap.size + 2) 0 noTerm) (W.heap.size + 2) noTerm := set4_box bZ9 noTerm
      have hBV : Below W.heap.size W (set4 W9 (W.heap.size + 2) 0 noTerm) := set4_below hB9 (by omega) 0 _
      obtain ⟨V, hV⟩ : ∃ V, set4 W9 (W.heap.size + 2) 0 noTerm = V := ⟨_, rfl⟩
      rw [hV] at bZV hBV
      simp only [set4, noTerm, Nat.zero_add] at hV
      have hcall := HQ.out p r V
      generalize g p r = gb at *
      clear bZ9 bZ8 bY8 hb9 hB9 hB8
      go_wp2_with fail
      try rw [hV]
      refine hcall.mono ?_
      rintro e U ⟨rfl, hU⟩
      subst hU
      clear hcall hV z0 z1 z2 z3 f0 f1 f2 f3
      have z0 := bZV.c0
      have z1 := bZV.c1
      have z2 := bZV.c2
      have z3 := bZV.c3
      obtain ⟨f0, f1, f2, f3⟩ := bZV.frz
      have HF : Hid (Below W.heap.size W (set4 U (W.heap.size + 2) 0 noTerm)) := set4_below hBV (by omega) 0 _
      clear bZV hBV
      go_wp2_with fail
      refine bodyPost_ret (v := .tuple #[.bool gb, noTerm.val, .int .i64 0]) (by simp [results, Try.results15, go_sem, TV.val, noTerm, z0, z1, z2, z3]) rfl ⟨?_, HF.out⟩
      rw [HR.out]
      exact rfl
end Go.Proofs.Ytffbhinpmlcopab

