import Derived.Test.YtffbhinpmlcopabArU
import Derived.Test.YtffbhinpmlcopabArV
/- hornref.Holds. -/
namespace Go.Proofs.Ytffbhinpmlcopab
open Go.RowKit Go.Shelf

set_option maxRecDepth 100000 in
set_option maxHeartbeats 4000000 in
theorem rholds_gt {n m : Nat} (s : ByteArray) (x : Tm n) (y : Tm m) (W : World) (hX : IsT W.heap.size W x) (hY : IsT W.heap.size W y) (okx : okT x = true) (oky : okT y = true) (nx : numsT x) (ny : numsT y) (hL : s.toList = [62]) :
    Calls Try.prog 16 #[.string s, x.tv.val, y.tv.val] W fun e W' => HSays W.heap.size (relR (fun a b => decide (b < a)) (evT x) (evT y)) e W' ∧ Below W.heap.size W W' := by
  obtain ⟨W3, hW3, hb3, hs3, bX, bY, bZ⟩ := box2_zero W x.tv y.tv
  have hcx := formed_any _ x W3 ((hX.below hb3).mono (by omega))
  rw [okx] at hcx
  have HCY : Hid (∀ V, Below W.heap.size W V → _) := fun V (hb : Below W.heap.size W V) => formed_any _ y V ((hY.below hb).mono hb.size)
  have HNX : Hid (∀ V, Below W.heap.size W V → _) := fun V (hb : Below W.heap.size W V) => reval_any x V ((hX.below hb).mono hb.size) okx nx
  have HNY : Hid (∀ V, Below W.heap.size W V → _) := fun V (hb : Below W.heap.size W V) => reval_any y V ((hY.below hb).mono hb.size) oky ny
  simp only [TV.val] at HNX HNY
  simp only [TV.val] at hcx HCY ⊢
  have x0 := bX.c0
  have x1 := bX.c1
  have x2 := bX.c2
  have x3 := bX.c3
  go_enter Try.func16, Try.ntmps16
  go_wp2_with fail
  refine hcx.mono ?_
  rintro e W4 ⟨rfl, hb4⟩
  try rw [hW3] at hb4
  clear hcx hW3 x0 x1 x2 x3
  have s4 := hb4.size
  have bY4 := bY.below hb4 (by omega)
  have y0 := bY4.c0
  have y1 := bY4.c1
  have y2 := bY4.c2
  have y3 := bY4.c3
  have hB4 : Below W.heap.size W W4 := hb3.trans (hb4.mono (by omega))
  have hcy := HCY.out W4 hB4
  rw [oky] at hcy
  clear okx oky hX hY
  go_wp2_with fail
  refine hcy.mono ?_
  rintro e W5 ⟨rfl, hb5⟩
  clear hcy y0 y1 y2 y3 HCY
  have s5 := hb5.size
  have hB5 : Below W.heap.size W W5 := hB4.trans (hb5.mono (by omega))
  have bX5 := (bX.below hb4 (by omega)).below hb5 (by omega)
  have bY5 := bY4.below hb5 (by omega)
  have bZ5 := (bZ.below hb4 (by omega)).below hb5 (by omega)
  clear bX bY bZ bY4 hb4 hb5 hB4 hb3
  have hnx := HNX.out W5 hB5
  have x0 := bX5.c0
  have x1 := bX5.c1
  have x2 := bX5.c2
  have x3 := bX5.c3
  have HL : Hid _ := hL
  cases hev : evT x with
  | error c =>
    have HE : Hid (relR (fun a b => decide (b < a)) (evT x) (evT y) = .error c) := by rw [hev]; rfl
    rw [hev] at hnx
    clear hev
    go_wp2_with fail
    refine hnx.mono ?_
    rintro e W7 ⟨he, hb7⟩
    simp only [RSays] at he
    obtain ⟨t, rfl, hx⟩ := he
    clear hnx x0 x1 x2 x3
    have s7 := hb7.size
    have bZ7 := bZ5.below hb7 (by omega)
    have hB7 : Below W.heap.size W W7 := hB5.trans (hb7.mono (by omega))
    have bTV := BoxT.new W7 t
    have bZV := bZ7.alloc (.cells #[.int .i64 t.k, .int .i64 t.N, .string t.s, .slice t.a t.len t.cap] 24)
    have hBV : Below W.heap.size W (W7.alloc (.cells #[.int .i64 t.k, .int .i64 t.N, .string t.s, .slice t.a t.len t.cap] 24)) := hB7.alloc (by omega) _
    have hxV := hx.below ((Below.refl W7.heap.size W7).alloc (Nat.le_refl _) (.cells #[.int .i64 t.k, .int .i64 t.N, .string t.s, .slice t.a t.len t.cap] 24))
    obtain ⟨V, hV⟩ : ∃ V, W7.alloc (.cells #[.int .i64 t.k, .int .i64 t.N, .string t.s, .slice t.a t.len t.cap] 24) = V := ⟨_, rfl⟩
    rw [hV] at bTV bZV hBV hxV
    clear bX5 bY5 bZ5 bZ7 hb7 hx hB7
    have HT : Hid (BoxT V W7.heap.size t) := bTV
    have HZ : Hid (BoxT V (W.heap.size + 2) noTerm) := bZV
    clear bTV bZV
    simp only [TV.val]
    go_wp2_with fail
    try rw [hV]
    clear hV
    have bTV : BoxT V W7.heap.size t := HT.out
    have bZV : BoxT V (W.heap.size + 2) noTerm := HZ.out
    have z0 := bZV.c0
    have z1 := bZV.c1
    have z2 := bZV.c2
    have z3 := bZV.c3
    obtain ⟨f0, f1, f2, f3⟩ := bZV.frz
    have x0 := bTV.c0
    have x1 := bTV.c1
    have x2 := bTV.c2
    have x3 := bTV.c3
    have HF : Hid (HoldsT 3 W.heap.size (set4 V (W.heap.size + 2) 0 t).drew t.val c ∧ Below W.heap.size W (set4 V (W.heap.size + 2) 0 t).drew) :=
      ⟨((holds_set4 hxV (by omega) 0 _).mono (Nat.le_refl _) (by omega)).below (Below.refl _ _).drew, (set4_below hBV (by omega) 0 _).drew⟩
    clear bZV bTV hBV hxV
    go_region
    go_wp2_with fail
    refine bodyPost_ret (v := .tuple #[.bool false, t.val, .int .i64 14]) (by simp [results, Try.results16, go_sem, TV.val, z0, z1, z2, z3]) rfl ⟨?_, HF.out.2⟩
    rw [HE.out]
    exact ⟨_, rfl, HF.out.1⟩
  | ok p =>
    have HE : Hid (evT x = .ok p) := hev
    rw [hev] at hnx
    clear hev
    simp only [RSays, noTerm, TV.val] at hnx
    go_wp2_with fail
    refine hnx.mono ?_
    rintro e W7 ⟨rfl, hb7⟩
    clear hnx x0 x1 x2 x3
    have s7 := hb7.size
    have hB8 : Below W.heap.size W (W7.alloc (.cells #[.int .i64 0, .int .i64 0, .string ⟨#[]⟩, .slice none 0 0] 24)) := (hB5.trans (hb7.mono (by omega))).alloc (by omega) _
    have bZ8 := (bZ5.below hb7 (by omega)).alloc (.cells #[.int .i64 0, .int .i64 0, .string ⟨#[]⟩, .slice none 0 0] 24)
    have bY8 := (bY5.below hb7 (by omega)).alloc (.cells #[.int .i64 0, .int .i64 0, .string ⟨#[]⟩, .slice none 0 0] 24)
    have bT8 := BoxT.new W7 noTerm
    simp only [noTerm] at bT8
    have hny := HNY.out _ hB8
    have y0 := bY8.c0
    have y1 := bY8.c1
    have y2 := bY8.c2
    have y3 := bY8.c3
    have HT8 : Hid (BoxT (W7.alloc (.cells #[.int .i64 0, .int .i64 0, .string ⟨#[]⟩, .slice none 0 0] 24)) W7.heap.size noTerm) := bT8
    have HZ8 : Hid (BoxT (W7.alloc (.cells #[.int .i64 0, .int .i64 0, .string ⟨#[]⟩, .slice none 0 0] 24)) (W.heap.size + 2) noTerm) := bZ8
    clear bT8 bZ8 bY8 bX5 bY5 bZ5 hb7
    cases hew : evT y with
    | error c =>
      have HR : Hid (relR (fun a b => decide (b < a)) (evT x) (evT y) = .error c) := by rw [HE.out, hew]; rfl
      rw [hew] at hny
      clear hew
      go_wp2_with fail
      refine hny.mono ?_
      rintro e W9 ⟨he, hb9⟩
      simp only [RSays] at he
      obtain ⟨t, rfl, hx⟩ := he
      clear hny y0 y1 y2 y3
      have s9 := hb9.size
      simp only [World.size_alloc] at s9
      have bT9 : BoxT W9 W7.heap.size noTerm := BoxT.below (show BoxT _ _ noTerm from HT8.out) hb9 (by simp)
      have bZ9 : BoxT W9 (W.heap.size + 2) noTerm := BoxT.below (show BoxT _ _ noTerm from HZ8.out) hb9 (by simp; omega)
      have hB9 : Below W.heap.size W W9 := hB8.trans (hb9.mono hB8.size)
      have t0 := bT9.c0
      have t1 := bT9.c1
      have t2 := bT9.c2
      have t3 := bT9.c3
      obtain ⟨g0, g1, g2, g3⟩ := bT9.frz
      have bTV : BoxT (set4 W9 W7.heap.size 0 t) W7.heap.size t := set4_box bT9 t
      have bZV := bZ9.set4 (b := W7.heap.size) (by omega) t
      have hBV : Below W.heap.size W (set4 W9 W7.heap.size 0 t) := set4_below hB9 (by omega) 0 _
      have hxV := holds_set4 hx (b := W7.heap.size) (by simp) 0 t
      simp only [World.size_alloc] at hxV
      obtain ⟨V, hV⟩ : ∃ V, set4 W9 W7.heap.size 0 t = V := ⟨_, rfl⟩
      rw [hV] at bTV bZV hBV hxV
      have HV : Hid _ := hV
      have HT : Hid (BoxT V W7.heap.size t) := bTV
      have HZ : Hid (BoxT V (W.heap.size + 2) noTerm) := bZV
      clear hV bTV bZV bT9 bZ9 hb9 hx hB9
      simp only [TV.val]
      go_wp2_with fail
      have hV := HV.out
      unfold set4 at hV
      simp only [Nat.zero_add] at hV
      try rw [hV]
      clear hV HV t0 t1 t2 t3 g0 g1 g2 g3
      have bTV : BoxT V W7.heap.size t := HT.out
      have bZV : BoxT V (W.heap.size + 2) noTerm := HZ.out
      have z0 := bZV.c0
      have z1 := bZV.c1
      have z2 := bZV.c2
      have z3 := bZV.c3
      obtain ⟨f0, f1, f2, f3⟩ := bZV.frz
      have x0 := bTV.c0
      have x1 := bTV.c1
      have x2 := bTV.c2
      have x3 := bTV.c3
      have HF : Hid (HoldsT 3 W.heap.size (set4 V (W.heap.size + 2) 0 t).drew t.val c ∧ Below W.heap.size W (set4 V (W.heap.size + 2) 0 t).drew) :=
        ⟨((holds_set4 hxV (by omega) 0 _).mono (Nat.le_refl _) (by omega)).below (Below.refl _ _).drew, (set4_below hBV (by omega) 0 _).drew⟩
      clear bZV bTV hBV hxV
      go_region
      go_wp2_with fail
      refine bodyPost_ret (v := .tuple #[.bool false, t.val, .int .i64 14]) (by simp [results, Try.results16, go_sem, TV.val, z0, z1, z2, z3]) rfl ⟨?_, HF.out.2⟩
      rw [HR.out]
      exact ⟨_, rfl, HF.out.1⟩
    | ok r =>
      have HEW : Hid (evT y = .ok r) := hew
      rw [hew] at hny
      clear hew
      simp only [RSays, noTerm, TV.val] at hny
      go_wp2_with fail
      refine hny.mono ?_
      rintro e W9 ⟨rfl, hb9⟩
      clear hny y0 y1 y2 y3
      have s9 := hb9.size
      simp only [World.size_alloc] at s9
      have bT9 : BoxT W9 W7.heap.size noTerm := BoxT.below (show BoxT _ _ noTerm from HT8.out) hb9 (by simp)
      have bZ9 : BoxT W9 (W.heap.size + 2) noTerm := BoxT.below (show BoxT _ _ noTerm from HZ8.out) hb9 (by simp; omega)
      have hB9 : Below W.heap.size W W9 := hB8.trans (hb9.mono hB8.size)
      have t0 := bT9.c0
      have t1 := bT9.c1
      have t2 := bT9.c2
      have t3 := bT9.c3
      obtain ⟨g0, g1, g2, g3⟩ := bT9.frz
      have bZV := bZ9.set4 (b := W7.heap.size) (by omega) noTerm
      have hBV : Below W.heap.size W (set4 W9 W7.heap.size 0 noTerm) := set4_below hB9 (by omega) 0 _
      obtain ⟨V, hV⟩ : ∃ V, set4 W9 W7.heap.size 0 noTerm = V := ⟨_, rfl⟩
      rw [hV] at bZV hBV
      simp only [set4, noTerm, Nat.zero_add] at hV
      have z0 := bZV.c0
      have z1 := bZV.c1
      have z2 := bZV.c2
      have z3 := bZV.c3
      obtain ⟨f0, f1, f2, f3⟩ := bZV.frz
      have HF : Hid (Below W.heap.size W (set4 V (W.heap.size + 2) 0 noTerm)) := set4_below hBV (by omega) 0 _
      clear bZV hBV bT9 bZ9 hb9 hB9 hB8 hB5
      have hL := HL.out
      rcases Int.lt_trichotomy p r with h | h | h
      · have h2 : ¬ (r < p) := by omega
        have HR : Hid (relR (fun a b => decide (b < a)) (evT x) (evT y) = .ok false) := by
          rw [HE.out, HEW.out]
          show Except.ok _ = Except.ok _
          congr 1
          first | (simp; done) | (simp; omega)
        clear HE HEW
        go_wp2_with fail
        refine bodyPost_ret (v := .tuple #[.bool false, noTerm.val, .int .i64 0]) (by simp [results, Try.results16, go_sem, TV.val, noTerm, z0, z1, z2, z3] <;> omega) rfl ⟨?_, HF.out⟩
        rw [HR.out]
        exact rfl
      · have HP : Hid _ := h
        subst h
        have HR : Hid (relR (fun a b => decide (b < a)) (evT x) (evT y) = .ok false) := by
          rw [HE.out, HEW.out]
          show Except.ok _ = Except.ok _
          congr 1
          first | (simp; done) | (simp; omega)
        clear HE HEW
        go_wp2_with fail
        refine bodyPost_ret (v := .tuple #[.bool false, noTerm.val, .int .i64 0]) (by simp [results, Try.results16, go_sem, TV.val, noTerm, z0, z1, z2, z3] <;> omega) rfl ⟨?_, HF.out⟩
        rw [HR.out]
        exact rfl
      · have h2 : ¬ (p < r) := by omega
        have HR : Hid (relR (fun a b => decide (b < a)) (evT x) (evT y) = .ok true) := by
          rw [HE.out, HEW.out]
          show Except.ok _ = Except.ok _
          congr 1
          first | (simp; done) | (simp; omega)
        clear HE HEW
        go_wp2_with fail
        refine bodyPost_ret (v := .tuple #[.bool true, noTerm.val, .int .i64 0]) (by simp [results, Try.results16, go_sem, TV.val, noTerm, z0, z1, z2, z3] <;> omega) rfl ⟨?_, HF.out⟩
        rw [HR.out]
        exact rfl
end Go.Proofs.Ytffbhinpmlcopab

