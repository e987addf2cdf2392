import Derived.Test.YtdjlekcapfeniaaBbB
import Derived.Test.YtdjlekcapfeniaaPs
/- base.makeBody. (Written by wip/makebgen.py.) -/
namespace Go.Proofs.Ytdjlekcapfeniaa
open Go.RowKit Go.Shelf

set_option maxRecDepth 100000 in
set_option maxHeartbeats 1000000 in
theorem makeBody_int (N : Int) (s : ByteArray) (a : Option Addr) (len cap : Nat) (b o : Nat) (W : World) (hx : cellsAt W b o ⟨2, N, s, a, len, cap⟩) :
    Calls Try.prog 21 #[.pointer (some ⟨b, o, none⟩)] W fun e W' => e = .returned (.bool false) ∧ W' = W := by
  obtain ⟨c0, c1, c2, c3⟩ := hx
  clear c1 c2 c3
  go_enter Try.func21, Try.ntmps21
  go_wp2_with fail
  all_goals go_ret
  all_goals exact ⟨rfl, rfl⟩
set_option maxRecDepth 100000 in
set_option maxHeartbeats 1000000 in
theorem makeBody_var (N : Int) (s : ByteArray) (a : Option Addr) (len cap : Nat) (b o : Nat) (W : World) (hx : cellsAt W b o ⟨1, N, s, a, len, cap⟩) (hsp : Spot W b o) :
    Calls Try.prog 21 #[.pointer (some ⟨b, o, none⟩)] W fun e W' => e = .returned (.bool true) ∧ W' = set4 (W.alloc (.cells #[.int .i64 1, .int .i64 N, .string s, .slice a len cap] 24)) b o (compV ⟨#[99, 97, 108, 108]⟩ (some ⟨W.heap.size, 0, none⟩) 1 1) := by
  have hsp1 : Spot (W.alloc (.cells #[.int .i64 1, .int .i64 N, .string s, .slice a len cap] 24)) b o := hsp.kept (Below.heap_alloc _ _ _ hsp.lt)
  obtain ⟨g0, y0⟩ := hsp1.cell (q := o) (by omega)
  obtain ⟨g1, y1⟩ := hsp1.cell (q := o + 1) (by omega)
  obtain ⟨g2, y2⟩ := hsp1.cell (q := o + 2) (by omega)
  obtain ⟨g3, y3⟩ := hsp1.cell (q := o + 3) (by omega)
  obtain ⟨v0, z0⟩ := Option.isSome_iff_exists.1 g0
  obtain ⟨v1, z1⟩ := Option.isSome_iff_exists.1 g1
  obtain ⟨v2, z2⟩ := Option.isSome_iff_exists.1 g2
  obtain ⟨v3, z3⟩ := Option.isSome_iff_exists.1 g3
  obtain ⟨c0, c1, c2, c3⟩ := hx
  simp only at c0 c1 c2 c3
  clear hsp hsp1 g0 g1 g2 g3
  go_enter Try.func21, Try.ntmps21
  go_wp2_with fail
  all_goals go_ret
  all_goals exact ⟨rfl, rfl⟩
theorem nameL_and : (⟨#[44]⟩ : ByteArray).toList = [44] := by decide +kernel
theorem nameL_or : (⟨#[59]⟩ : ByteArray).toList = [59] := by decide +kernel
theorem nameL_then : (⟨#[45, 62]⟩ : ByteArray).toList = [45, 62] := by decide +kernel
set_option maxRecDepth 100000 in
set_option maxHeartbeats 1000000 in
theorem makeBody_other (x : TV) (b o : Nat) (W : World) (hx : cellsAt W b o x) (hb : b < W.heap.size) (k1 : (x.k == 1) = false) (k2 : (x.k == 2) = false) (n1 : isC x [44] = false) (n2 : isC x [59] = false) (n3 : isC x [45, 62] = false) :
    Calls Try.prog 21 #[.pointer (some ⟨b, o, none⟩)] W fun e W' => e = .returned (.bool true) ∧ Below W.heap.size W W' := by
  have i1 := isOfTwo_any x ⟨#[44]⟩
  have i2 := isOfTwo_any x ⟨#[59]⟩
  have i3 := isOfTwo_any x ⟨#[45, 62]⟩
  rw [nameL_and, n1] at i1
  rw [nameL_or, n2] at i2
  rw [nameL_then, n3] at i3
  have HX : Hid (∀ V, Below W.heap.size W V → cellsAt V b o x) := fun V hV => hx.kept (hV.block b hb)
  obtain ⟨c0, c1, c2, c3⟩ := hx
  clear n1 n2 n3 hb
  simp only [TV.val] at i1 i2 i3
  go_enter Try.func21, Try.ntmps21
  go_wp2_with fail
  refine (i1 _).mono ?_
  clear i1 c0 c1 c2 c3
  rintro e W1 ⟨rfl, hb1⟩
  obtain ⟨c0, c1, c2, c3⟩ := HX.out W1 hb1
  go_wp2_with fail
  refine (i2 _).mono ?_
  clear i2 c0 c1 c2 c3
  rintro e W2 ⟨rfl, hb2⟩
  replace hb1 := hb1.trans (hb2.mono hb1.size)
  clear hb2
  obtain ⟨c0, c1, c2, c3⟩ := HX.out W2 hb1
  go_wp2_with fail
  refine (i3 _).mono ?_
  clear i3 c0 c1 c2 c3
  rintro e W3 ⟨rfl, hb3⟩
  replace hb1 := hb1.trans (hb3.mono hb1.size)
  clear hb3 HX
  go_wp2_with fail
  all_goals go_ret
  all_goals exact ⟨rfl, hb1⟩
set_option maxRecDepth 100000 in
set_option maxHeartbeats 2000000 in
theorem makeBody_and {n : Nat} (ih : ∀ (t : Tm n) (b o : Nat) (W : World), okT t = true → cellsAt W b o t.tv → Spot W b o → IsT W.heap.size W t → Rows W t → (blks t).Nodup → b ∉ blks t → Calls Try.prog 21 #[.pointer (some ⟨b, o, none⟩)] W fun e W' => e = .returned (.bool (bodyC t).isSome) ∧ MbSays n b o (blks t) W (bodyC t) W')
    (x : TV) (u v : Tm n) (b o B : Nat) (W : World) (hP : Pair W b o B x u v) (oku : okT u = true) (okv : okT v = true) (hk4 : x.k = 4) (hN0 : x.N = 0) (n1 : isC x [44] = true) :
    Calls Try.prog 21 #[.pointer (some ⟨b, o, none⟩)] W fun e W' => e = .returned (.bool (bodyJ x.s.toList [bodyC u, bodyC v]).isSome) ∧ MbSays (n + 1) b o (B :: (blks u ++ blks v)) W (bodyJ x.s.toList [bodyC u, bodyC v]) W' := by
  have i1 := isOfTwo_any x ⟨#[44]⟩
  rw [nameL_and, n1] at i1
  clear n1
  have HU : Hid (∀ V, Below W.heap.size W V → Calls Try.prog 21 #[.pointer (some ⟨B, 0, none⟩)] V fun e W' => e = .returned (.bool (bodyC u).isSome) ∧ MbSays n B 0 (blks u) V (bodyC u) W') := fun V hV => by
    have p := hP.below hV
    exact ih u B 0 V oku p.cu p.spots.1 p.tu p.ru p.parts.1 p.parts.2.2.1
  have HV : Hid (∀ V V2, Below W.heap.size W V → Turned B 0 (blks u) V V2 → Calls Try.prog 21 #[.pointer (some ⟨B, 4, none⟩)] V2 fun e W' => e = .returned (.bool (bodyC v).isSome) ∧ MbSays n B 4 (blks v) V2 (bodyC v) W') := fun V V2 hV ht => by
    have p := hP.below hV
    obtain ⟨q1, q2, q3, q4, q5⟩ := p.second ht
    exact ih v B 4 V2 okv q3 q2 q4 q5 p.parts.2.1 p.parts.2.2.2.1
  have HX : Hid (∀ V, Below W.heap.size W V → cellsAt V b o x) := fun V hV => (hP.below hV).xc
  have HX2 : Hid (∀ V V2, Below W.heap.size W V → Turned B 0 (blks u) V V2 → cellsAt V2 b o x) := fun V V2 hV ht => ((hP.below hV).second ht).1
  have HN : Hid (∀ V V2, Below W.heap.size W V → Turned B 0 (blks u) V V2 → Turned b o (B :: (blks u ++ blks v)) W V2) := fun V V2 hV ht => (hP.below hV).half hV ht
  have HB : Hid (∀ V V2 V3 cu cv, Below W.heap.size W V → Turned B 0 (blks u) V V2 → StandsB n B 0 (blks u) V.heap.size V2 cu → Turned B 4 (blks v) V2 V3 → StandsB n B 4 (blks v) V2.heap.size V3 cv → Turned b o (B :: (blks u ++ blks v)) W V3 ∧ StandsB (n + 1) b o (B :: (blks u ++ blks v)) W.heap.size V3 ((4, 0, x.s.toList, 2) :: (cu ++ cv))) := fun V V2 V3 cu cv hV ht su ht2 sv => (hP.below hV).both hV ht su ht2 sv hk4 hN0
  have HN2 : Hid (∀ V V2 V3, Below W.heap.size W V → Turned B 0 (blks u) V V2 → Turned B 4 (blks v) V2 V3 → Turned b o (B :: (blks u ++ blks v)) W V3) := fun V V2 V3 hV ht ht2 => ((hP.below hV).half hV ht).trans (ht2.outer (by simp) (fun k hk => by simp [hk]) hP.nb)
  obtain ⟨c0, c1, c2, c3⟩ := hP.xc
  have hxa := hP.xa
  have hxl := hP.xl
  clear hP oku okv ih
  obtain ⟨k, N, s, a, len, cap⟩ := x
  simp only at hk4 hN0 hxa hxl
  subst hk4 hN0 hxa hxl
  generalize bodyC u = ru at HU ⊢
  generalize bodyC v = rv at HV ⊢
  simp only [TV.val] at i1 c0 c1 c2 c3
  go_enter Try.func21, Try.ntmps21
  go_wp2_with fail
  refine (i1 _).mono ?_
  clear i1 c0 c1 c2 c3
  rintro e W1 ⟨rfl, hc⟩
  have hb1 := hc
  clear hc
  obtain ⟨c0, c1, c2, c3⟩ := HX.out W1 hb1
  simp only at c0 c1 c2 c3
  have hu := HU.out W1 hb1
  clear HU HX
  go_wp2_with fail
  refine hu.mono ?_
  clear hu c0 c1 c2 c3
  rintro e V2 ⟨rfl, hm2⟩
  obtain ⟨ht2, hs2⟩ := hm2
  cases ru with
  | none =>
    have HF : Hid (Turned b o (B :: (blks u ++ blks v)) W V2) := HN.out _ _ hb1 ht2
    clear HN HB HN2 HV HX2 ht2 hs2 hb1
    simp only [Option.isSome_none]
    go_wp2_with fail
    all_goals go_ret
    all_goals exact ⟨rfl, HF.out, fun c hc => by cases hc⟩
  | some cu =>
    have hv := HV.out _ _ hb1 ht2
    obtain ⟨c0, c1, c2, c3⟩ := HX2.out _ _ hb1 ht2
    simp only at c0 c1 c2 c3
    have HH : Hid (Below W.heap.size W W1 ∧ Turned B 0 (blks u) W1 V2 ∧ StandsB n B 0 (blks u) (World.heap W1).size V2 cu) := ⟨hb1, ht2, hs2 cu rfl⟩
    clear HN HV HX2 ht2 hs2 hb1
    simp only [Option.isSome_some]
    go_wp2_with fail
    refine hv.mono ?_
    clear hv c0 c1 c2 c3
    rintro e V3 ⟨rfl, hm3⟩
    obtain ⟨ht3, hs3⟩ := hm3
    cases rv with
    | none =>
      have HF : Hid (Turned b o (B :: (blks u ++ blks v)) W V3) := HN2.out _ _ _ HH.out.1 HH.out.2.1 ht3
      clear HN2 HB HH ht3 hs3
      simp only [Option.isSome_none]
      go_wp2_with fail
      all_goals go_ret
      all_goals exact ⟨rfl, HF.out, fun c hc => by cases hc⟩
    | some cv =>
      have HF := hide (HB.out _ _ _ _ _ HH.out.1 HH.out.2.1 HH.out.2.2 ht3 (hs3 cv rfl))
      clear HN2 HB HH ht3 hs3
      simp only [Option.isSome_some]
      go_wp2_with fail
      all_goals go_ret
      all_goals exact ⟨rfl, HF.out.1, fun c hc => by cases hc; exact HF.out.2⟩
set_option maxRecDepth 100000 in
set_option maxHeartbeats 2000000 in
theorem makeBody_or {n : Nat} (ih : ∀ (t : Tm n) (b o : Nat) (W : World), okT t = true → cellsAt W b o t.tv → Spot W b o → IsT W.heap.size W t → Rows W t → (blks t).Nodup → b ∉ blks t → Calls Try.prog 21 #[.pointer (some ⟨b, o, none⟩)] W fun e W' => e = .returned (.bool (bodyC t).isSome) ∧ MbSays n b o (blks t) W (bodyC t) W')
    (x : TV) (u v : Tm n) (b o B : Nat) (W : World) (hP : Pair W b o B x u v) (oku : okT u = true) (okv : okT v = true) (hk4 : x.k = 4) (hN0 : x.N = 0) (n1 : isC x [44] = false) (n2 : isC x [59] = true) :
    Calls Try.prog 21 #[.pointer (some ⟨b, o, none⟩)] W fun e W' => e = .returned (.bool (bodyJ x.s.toList [bodyC u, bodyC v]).isSome) ∧ MbSays (n + 1) b o (B :: (blks u ++ blks v)) W (bodyJ x.s.toList [bodyC u, bodyC v]) W' := by
  have i1 := isOfTwo_any x ⟨#[44]⟩
  rw [nameL_and, n1] at i1
  have i2 := isOfTwo_any x ⟨#[59]⟩
  rw [nameL_or, n2] at i2
  clear n1 n2
  have HU : Hid (∀ V, Below W.heap.size W V → Calls Try.prog 21 #[.pointer (some ⟨B, 0, none⟩)] V fun e W' => e = .returned (.bool (bodyC u).isSome) ∧ MbSays n B 0 (blks u) V (bodyC u) W') := fun V hV => by
    have p := hP.below hV
    exact ih u B 0 V oku p.cu p.spots.1 p.tu p.ru p.parts.1 p.parts.2.2.1
  have HV : Hid (∀ V V2, Below W.heap.size W V → Turned B 0 (blks u) V V2 → Calls Try.prog 21 #[.pointer (some ⟨B, 4, none⟩)] V2 fun e W' => e = .returned (.bool (bodyC v).isSome) ∧ MbSays n B 4 (blks v) V2 (bodyC v) W') := fun V V2 hV ht => by
    have p := hP.below hV
    obtain ⟨q1, q2, q3, q4, q5⟩ := p.second ht
    exact ih v B 4 V2 okv q3 q2 q4 q5 p.parts.2.1 p.parts.2.2.2.1
  have HX : Hid (∀ V, Below W.heap.size W V → cellsAt V b o x) := fun V hV => (hP.below hV).xc
  have HX2 : Hid (∀ V V2, Below W.heap.size W V → Turned B 0 (blks u) V V2 → cellsAt V2 b o x) := fun V V2 hV ht => ((hP.below hV).second ht).1
  have HN : Hid (∀ V V2, Below W.heap.size W V → Turned B 0 (blks u) V V2 → Turned b o (B :: (blks u ++ blks v)) W V2) := fun V V2 hV ht => (hP.below hV).half hV ht
  have HB : Hid (∀ V V2 V3 cu cv, Below W.heap.size W V → Turned B 0 (blks u) V V2 → StandsB n B 0 (blks u) V.heap.size V2 cu → Turned B 4 (blks v) V2 V3 → StandsB n B 4 (blks v) V2.heap.size V3 cv → Turned b o (B :: (blks u ++ blks v)) W V3 ∧ StandsB (n + 1) b o (B :: (blks u ++ blks v)) W.heap.size V3 ((4, 0, x.s.toList, 2) :: (cu ++ cv))) := fun V V2 V3 cu cv hV ht su ht2 sv => (hP.below hV).both hV ht su ht2 sv hk4 hN0
  have HN2 : Hid (∀ V V2 V3, Below W.heap.size W V → Turned B 0 (blks u) V V2 → Turned B 4 (blks v) V2 V3 → Turned b o (B :: (blks u ++ blks v)) W V3) := fun V V2 V3 hV ht ht2 => ((hP.below hV).half hV ht).trans (ht2.outer (by simp) (fun k hk => by simp [hk]) hP.nb)
  obtain ⟨c0, c1, c2, c3⟩ := hP.xc
  have hxa := hP.xa
  have hxl := hP.xl
  clear hP oku okv ih
  obtain ⟨k, N, s, a, len, cap⟩ := x
  simp only at hk4 hN0 hxa hxl
  subst hk4 hN0 hxa hxl
  generalize bodyC u = ru at HU ⊢
  generalize bodyC v = rv at HV ⊢
  simp only [TV.val] at i1 i2 c0 c1 c2 c3
  go_enter Try.func21, Try.ntmps21
  go_wp2_with fail
  refine (i1 _).mono ?_
  clear i1 c0 c1 c2 c3
  rintro e W1 ⟨rfl, hc⟩
  have hb1 := hc
  clear hc
  obtain ⟨c0, c1, c2, c3⟩ := HX.out W1 hb1
  simp only at c0 c1 c2 c3
  go_wp2_with fail
  refine (i2 _).mono ?_
  clear i2 c0 c1 c2 c3
  rintro e W2 ⟨rfl, hc⟩
  replace hb1 := hb1.trans (hc.mono hb1.size)
  clear hc
  obtain ⟨c0, c1, c2, c3⟩ := HX.out W2 hb1
  simp only at c0 c1 c2 c3
  have hu := HU.out W2 hb1
  clear HU HX
  go_wp2_with fail
  refine hu.mono ?_
  clear hu c0 c1 c2 c3
  rintro e V2 ⟨rfl, hm2⟩
  obtain ⟨ht2, hs2⟩ := hm2
  cases ru with
  | none =>
    have HF : Hid (Turned b o (B :: (blks u ++ blks v)) W V2) := HN.out _ _ hb1 ht2
    clear HN HB HN2 HV HX2 ht2 hs2 hb1
    simp only [Option.isSome_none]
    go_wp2_with fail
    all_goals go_ret
    all_goals exact ⟨rfl, HF.out, fun c hc => by cases hc⟩
  | some cu =>
    have hv := HV.out _ _ hb1 ht2
    obtain ⟨c0, c1, c2, c3⟩ := HX2.out _ _ hb1 ht2
    simp only at c0 c1 c2 c3
    have HH : Hid (Below W.heap.size W W2 ∧ Turned B 0 (blks u) W2 V2 ∧ StandsB n B 0 (blks u) (World.heap W2).size V2 cu) := ⟨hb1, ht2, hs2 cu rfl⟩
    clear HN HV HX2 ht2 hs2 hb1
    simp only [Option.isSome_some]
    go_wp2_with fail
    refine hv.mono ?_
    clear hv c0 c1 c2 c3
    rintro e V3 ⟨rfl, hm3⟩
    obtain ⟨ht3, hs3⟩ := hm3
    cases rv with
    | none =>
      have HF : Hid (Turned b o (B :: (blks u ++ blks v)) W V3) := HN2.out _ _ _ HH.out.1 HH.out.2.1 ht3
      clear HN2 HB HH ht3 hs3
      simp only [Option.isSome_none]
      go_wp2_with fail
      all_goals go_ret
      all_goals exact ⟨rfl, HF.out, fun c hc => by cases hc⟩
    | some cv =>
      have HF := hide (HB.out _ _ _ _ _ HH.out.1 HH.out.2.1 HH.out.2.2 ht3 (hs3 cv rfl))
      clear HN2 HB HH ht3 hs3
      simp only [Option.isSome_some]
      go_wp2_with fail
      all_goals go_ret
      all_goals exact ⟨rfl, HF.out.1, fun c hc => by cases hc; exact HF.out.2⟩
set_option maxRecDepth 100000 in
set_option maxHeartbeats 2000000 in
theorem makeBody_then {n : Nat} (ih : ∀ (t : Tm n) (b o : Nat) (W : World), okT t = true → cellsAt W b o t.tv → Spot W b o → IsT W.heap.size W t → Rows W t → (blks t).Nodup → b ∉ blks t → Calls Try.prog 21 #[.pointer (some ⟨b, o, none⟩)] W fun e W' => e = .returned (.bool (bodyC t).isSome) ∧ MbSays n b o (blks t) W (bodyC t) W')
    (x : TV) (u v : Tm n) (b o B : Nat) (W : World) (hP : Pair W b o B x u v) (oku : okT u = true) (okv : okT v = true) (hk4 : x.k = 4) (hN0 : x.N = 0) (n1 : isC x [44] = false) (n2 : isC x [59] = false) (n3 : isC x [45, 62] = true) :
    Calls Try.prog 21 #[.pointer (some ⟨b, o, none⟩)] W fun e W' => e = .returned (.bool (bodyJ x.s.toList [bodyC u, bodyC v]).isSome) ∧ MbSays (n + 1) b o (B :: (blks u ++ blks v)) W (bodyJ x.s.toList [bodyC u, bodyC v]) W' := by
  have i1 := isOfTwo_any x ⟨#[44]⟩
  rw [nameL_and, n1] at i1
  have i2 := isOfTwo_any x ⟨#[59]⟩
  rw [nameL_or, n2] at i2
  have i3 := isOfTwo_any x ⟨#[45, 62]⟩
  rw [nameL_then, n3] at i3
  clear n1 n2 n3
  have HU : Hid (∀ V, Below W.heap.size W V → Calls Try.prog 21 #[.pointer (some ⟨B, 0, none⟩)] V fun e W' => e = .returned (.bool (bodyC u).isSome) ∧ MbSays n B 0 (blks u) V (bodyC u) W') := fun V hV => by
    have p := hP.below hV
    exact ih u B 0 V oku p.cu p.spots.1 p.tu p.ru p.parts.1 p.parts.2.2.1
  have HV : Hid (∀ V V2, Below W.heap.size W V → Turned B 0 (blks u) V V2 → Calls Try.prog 21 #[.pointer (some ⟨B, 4, none⟩)] V2 fun e W' => e = .returned (.bool (bodyC v).isSome) ∧ MbSays n B 4 (blks v) V2 (bodyC v) W') := fun V V2 hV ht => by
    have p := hP.below hV
    obtain ⟨q1, q2, q3, q4, q5⟩ := p.second ht
    exact ih v B 4 V2 okv q3 q2 q4 q5 p.parts.2.1 p.parts.2.2.2.1
  have HX : Hid (∀ V, Below W.heap.size W V → cellsAt V b o x) := fun V hV => (hP.below hV).xc
  have HX2 : Hid (∀ V V2, Below W.heap.size W V → Turned B 0 (blks u) V V2 → cellsAt V2 b o x) := fun V V2 hV ht => ((hP.below hV).second ht).1
  have HN : Hid (∀ V V2, Below W.heap.size W V → Turned B 0 (blks u) V V2 → Turned b o (B :: (blks u ++ blks v)) W V2) := fun V V2 hV ht => (hP.below hV).half hV ht
  have HB : Hid (∀ V V2 V3 cu cv, Below W.heap.size W V → Turned B 0 (blks u) V V2 → StandsB n B 0 (blks u) V.heap.size V2 cu → Turned B 4 (blks v) V2 V3 → StandsB n B 4 (blks v) V2.heap.size V3 cv → Turned b o (B :: (blks u ++ blks v)) W V3 ∧ StandsB (n + 1) b o (B :: (blks u ++ blks v)) W.heap.size V3 ((4, 0, x.s.toList, 2) :: (cu ++ cv))) := fun V V2 V3 cu cv hV ht su ht2 sv => (hP.below hV).both hV ht su ht2 sv hk4 hN0
  have HN2 : Hid (∀ V V2 V3, Below W.heap.size W V → Turned B 0 (blks u) V V2 → Turned B 4 (blks v) V2 V3 → Turned b o (B :: (blks u ++ blks v)) W V3) := fun V V2 V3 hV ht ht2 => ((hP.below hV).half hV ht).trans (ht2.outer (by simp) (fun k hk => by simp [hk]) hP.nb)
  obtain ⟨c0, c1, c2, c3⟩ := hP.xc
  have hxa := hP.xa
  have hxl := hP.xl
  clear hP oku okv ih
  obtain ⟨k, N, s, a, len, cap⟩ := x
  simp only at hk4 hN0 hxa hxl
  subst hk4 hN0 hxa hxl
  generalize bodyC u = ru at HU ⊢
  generalize bodyC v = rv at HV ⊢
  simp only [TV.val] at i1 i2 i3 c0 c1 c2 c3
  go_enter Try.func21, Try.ntmps21
  go_wp2_with fail
  refine (i1 _).mono ?_
  clear i1 c0 c1 c2 c3
  rintro e W1 ⟨rfl, hc⟩
  have hb1 := hc
  clear hc
  obtain ⟨c0, c1, c2, c3⟩ := HX.out W1 hb1
  simp only at c0 c1 c2 c3
  go_wp2_with fail
  refine (i2 _).mono ?_
  clear i2 c0 c1 c2 c3
  rintro e W2 ⟨rfl, hc⟩
  replace hb1 := hb1.trans (hc.mono hb1.size)
  clear hc
  obtain ⟨c0, c1, c2, c3⟩ := HX.out W2 hb1
  simp only at c0 c1 c2 c3
  go_wp2_with fail
  refine (i3 _).mono ?_
  clear i3 c0 c1 c2 c3
  rintro e W3 ⟨rfl, hc⟩
  replace hb1 := hb1.trans (hc.mono hb1.size)
  clear hc
  obtain ⟨c0, c1, c2, c3⟩ := HX.out W3 hb1
  simp only at c0 c1 c2 c3
  have hu := HU.out W3 hb1
  clear HU HX
  go_wp2_with fail
  refine hu.mono ?_
  clear hu c0 c1 c2 c3
  rintro e V2 ⟨rfl, hm2⟩
  obtain ⟨ht2, hs2⟩ := hm2
  cases ru with
  | none =>
    have HF : Hid (Turned b o (B :: (blks u ++ blks v)) W V2) := HN.out _ _ hb1 ht2
    clear HN HB HN2 HV HX2 ht2 hs2 hb1
    simp only [Option.isSome_none]
    go_wp2_with fail
    all_goals go_ret
    all_goals exact ⟨rfl, HF.out, fun c hc => by cases hc⟩
  | some cu =>
    have hv := HV.out _ _ hb1 ht2
    obtain ⟨c0, c1, c2, c3⟩ := HX2.out _ _ hb1 ht2
    simp only at c0 c1 c2 c3
    have HH : Hid (Below W.heap.size W W3 ∧ Turned B 0 (blks u) W3 V2 ∧ StandsB n B 0 (blks u) (World.heap W3).size V2 cu) := ⟨hb1, ht2, hs2 cu rfl⟩
    clear HN HV HX2 ht2 hs2 hb1
    simp only [Option.isSome_some]
    go_wp2_with fail
    refine hv.mono ?_
    clear hv c0 c1 c2 c3
    rintro e V3 ⟨rfl, hm3⟩
    obtain ⟨ht3, hs3⟩ := hm3
    cases rv with
    | none =>
      have HF : Hid (Turned b o (B :: (blks u ++ blks v)) W V3) := HN2.out _ _ _ HH.out.1 HH.out.2.1 ht3
      clear HN2 HB HH ht3 hs3
      simp only [Option.isSome_none]
      go_wp2_with fail
      all_goals go_ret
      all_goals exact ⟨rfl, HF.out, fun c hc => by cases hc⟩
    | some cv =>
      have HF := hide (HB.out _ _ _ _ _ HH.out.1 HH.out.2.1 HH.out.2.2 ht3 (hs3 cv rfl))
      clear HN2 HB HH ht3 hs3
      simp only [Option.isSome_some]
      go_wp2_with fail
      all_goals go_ret
      all_goals exact ⟨rfl, HF.out.1, fun c hc => by cases hc; exact HF.out.2⟩
theorem cells_inj {W : World} {b o : Nat} {x y : TV} (h : cellsAt W b o x) (h' : cellsAt W b o y) : x = y := by
  obtain ⟨a0, a1, a2, a3⟩ := h
  obtain ⟨b0, b1, b2, b3⟩ := h'
  rw [a0] at b0
  rw [a1] at b1
  rw [a2] at b2
  rw [a3] at b3
  cases x; cases y
  simp_all
/-- base.makeBody, whatever the term. -/
theorem makeBody_any : ∀ (n : Nat) (t : Tm n) (b o : Nat) (W : World), okT t = true → cellsAt W b o t.tv → Spot W b o → IsT W.heap.size W t → Rows W t → (blks t).Nodup → b ∉ blks t → Calls Try.prog 21 #[.pointer (some ⟨b, o, none⟩)] W fun e W' => e = .returned (.bool (bodyC t).isSome) ∧ MbSays n b o (blks t) W (bodyC t) W' := by
  intro n
  induction n with
  | zero => intro t; exact Empty.elim t
  | succ n ih =>
    intro t b o W ok hc hsp hT hR hap hnb
    have hw := hT.wl
    obtain ⟨x, kids⟩ := t
    have hk := ok_kids ok
    have hsl := hT.2.2.1
    rw [bodyC_succ]
    by_cases k1 : x.k = 1
    · rw [if_pos k1]
      obtain rfl := var_kids hw ok k1
      obtain ⟨k, N, s, a, len, cap⟩ := x
      simp only at k1
      subst k1
      refine (makeBody_var N s a len cap b o W hc hsp).mono ?_
      rintro e W' ⟨rfl, rfl⟩
      have hb1 : Below W.heap.size W (W.alloc (.cells #[.int .i64 1, .int .i64 N, .string s, .slice a len cap] 24)) := (Below.refl _ W).alloc (Nat.le_refl _) _
      refine ⟨rfl, Turned.set4 hb1 hsp.lt _, fun c hc' => ?_⟩
      cases hc'
      have hsp1 := hsp.kept (hb1.block b hsp.lt)
      have hbn := World.alloc_heap_new W (.cells #[.int .i64 1, .int .i64 N, .string s, .slice a len cap] 24)
      have hne : W.heap.size ≠ b := by have := hsp.lt; omega
      have hl : len = 0 := by
        have := hT.1
        simpa [Tm.tv, Tm.kids] using this
      have hbn' := (set4_other (W.alloc (.cells #[.int .i64 1, .int .i64 N, .string s, .slice a len cap] 24)) b o (compV ⟨#[99, 97, 108, 108]⟩ (some ⟨W.heap.size, 0, none⟩) 1 1) hne).trans hbn
      obtain ⟨q, hq1, hq2, hq3, hq4, hq5⟩ : ∃ q : Tm (n + 1), q.tv = ⟨1, N, s, a, len, cap⟩ ∧ code q = [(⟨1, N, s, a, len, cap⟩ : TV).nd] ∧ blks q = [] ∧ (∀ m V, IsT m V q) ∧ ∀ V, Rows V q :=
        ⟨((⟨1, N, s, a, len, cap⟩, []) : TV × List (Tm n)), rfl, by rw [code_succ]; rfl, by rw [blks_succ]; simp, fun m V => ⟨hl, by show len ≤ _; omega, hsl, .inl rfl⟩, fun V => ⟨.inl rfl, fun z hz => by cases hz⟩⟩
      have hct : code (n := n + 1) ((⟨1, N, s, a, len, cap⟩, []) : TV × List (Tm n)) = [(⟨1, N, s, a, len, cap⟩ : TV).nd] := by rw [code_succ]; rfl
      refine ⟨((compV ⟨#[99, 97, 108, 108]⟩ (some ⟨W.heap.size, 0, none⟩) 1 1, [q]) : TV × List (Tm (n + 1))), ?_, ?_, ?_, ?_, ?_, ?_⟩
      · exact set4_cells _ b o _ (hsp1.cell (by omega)).1 (hsp1.cell (by omega)).1 (hsp1.cell (by omega)).1 (hsp1.cell (by omega)).1
      · refine ⟨rfl, by show (1 : Nat) ≤ _; omega, by show (4 : Nat) ≤ _; omega, .inr ⟨W.heap.size, 0, rfl, by rw [set4_size]; simp, fun j z hz => ?_⟩⟩
        have hj : j = 0 ∧ z = q := by
          match j, hz with
          | 0, hz => exact ⟨rfl, by simpa [Tm.kids] using hz.symm⟩
          | k + 1, hz => simp [Tm.kids] at hz
        obtain ⟨rfl, rfl⟩ := hj
        refine ⟨?_, hq4 _ _⟩
        rw [hq1]
        refine ⟨?_, ?_, ?_, ?_⟩ <;> simp [World.cell?, hbn']
      · refine ⟨.inr ⟨W.heap.size, _, rfl, hbn', rfl⟩, fun z hz => ?_⟩
        have : z = q := by simpa [Tm.kids] using hz
        subst this
        exact hq5 _
      · rw [blks_succ, if_neg (by simp)]
        simp [compV, hq3]
      · rw [code_succ]
        simp only [List.flatMap_cons, List.flatMap_nil, List.append_nil]
        rw [hq2, hct, ← callL_eq]
        rfl
      · intro z hz
        rw [blks_succ, if_neg (by simp)] at hz
        simp [compV, hq3] at hz
        exact .inr (by omega)
    · rw [if_neg k1]
      by_cases k2 : x.k = 2
      · rw [if_pos k2]
        obtain ⟨k, N, s, a, len, cap⟩ := x
        simp only at k2
        subst k2
        refine (makeBody_int N s a len cap b o W hc).mono ?_
        rintro e W' ⟨rfl, rfl⟩
        exact ⟨rfl, Turned.of_below (Below.refl _ _), fun c hc' => by cases hc'⟩
      · rw [if_neg k2]
        have e1 := isC_isB hk.1 [44]
        have e2 := isC_isB hk.1 [59]
        have e3 := isC_isB hk.1 [45, 62]
        cases hj : junct x with
        | true =>
          rw [if_pos rfl]
          obtain ⟨u, v, rfl⟩ := two_kids hw (junct_len hj)
          obtain ⟨B, hP, eb⟩ := pair_of (x := x) hc hsp hT hR hap hnb
          rw [eb]
          have hx4 : x.k = 4 ∧ x.N = 0 := by
            have := junct_len hj
            rcases wm_cases hk.1 with ⟨h, _⟩ | ⟨_, h⟩ | ⟨h, h', _⟩
            · omega
            · omega
            · exact ⟨h, h'⟩
          have oku := hk.2 u (by simp)
          have okv := hk.2 v (by simp)
          unfold junct at hj
          rw [← e1, ← e2, ← e3] at hj
          simp only [List.map_cons, List.map_nil]
          cases n1 : isC x [44] with
          | true => exact makeBody_and ih x u v b o B W hP oku okv hx4.1 hx4.2 n1
          | false =>
            cases n2 : isC x [59] with
            | true => exact makeBody_or ih x u v b o B W hP oku okv hx4.1 hx4.2 n1 n2
            | false =>
              cases n3 : isC x [45, 62] with
              | true => exact makeBody_then ih x u v b o B W hP oku okv hx4.1 hx4.2 n1 n2 n3
              | false => rw [n1, n2, n3] at hj; cases hj
        | false =>
          rw [if_neg (by simp)]
          unfold junct at hj
          rw [← e1, ← e2, ← e3] at hj
          simp only [Bool.or_eq_false_iff] at hj
          refine (makeBody_other x b o W hc hsp.lt (by simpa using k1) (by simpa using k2) hj.1 hj.2.1 hj.2.2).mono ?_
          rintro e W' ⟨rfl, hb⟩
          refine ⟨rfl, Turned.of_below hb, fun c hc' => ?_⟩
          cases hc'
          have hT' := (hT.below hb).mono hb.size
          refine ⟨Tm.lift (n := n + 1) ((x, kids) : TV × List (Tm n)), ?_, lift_isT hT', lift_rows (hR.kept fun k hk' => hb.block k (hT.blks_lt k hk')), ?_, lift_code _, fun k hk' => .inl ?_⟩
          · exact Eq.mpr (congrArg (cellsAt W' b o) (lift_tv (n := n + 1) ((x, kids) : TV × List (Tm n)))) (hc.kept (hb.block b hsp.lt))
          · exact Eq.mpr (congrArg List.Nodup (lift_blks (n := n + 1) ((x, kids) : TV × List (Tm n)))) hap
          · exact (lift_blks (n := n + 1) ((x, kids) : TV × List (Tm n))) ▸ hk'
end Go.Proofs.Ytdjlekcapfeniaa

/- base.Body. -/
namespace Go.Proofs.Ytdjlekcapfeniaa
open Go.RowKit Go.Shelf

theorem stands_holds {n b o : Nat} {L : List Nat} {sz : Nat} {W' : World} {c : List Nd} {lo : Nat} (h : StandsB n b o L sz W' c) (hL : ∀ k ∈ L, lo ≤ k) (hsz : lo ≤ sz) : ∃ y : TV, cellsAt W' b o y ∧ HoldsS (n + 1) (lo ≤ ·) W' y.val c := by
  obtain ⟨t', h1, h2, _, _, h5, h6⟩ := h
  refine ⟨t'.tv, h1, ?_⟩
  rw [← h5]
  exact holdsS_of h2 (blk_of h2 fun k hk => by
    rcases h6 k hk with h | h
    · exact hL k h
    · exact Nat.le_trans hsz h)
theorem holdsS_set4 {D lo : Nat} {W : World} {v : Value} {c : List Nd} (h : HoldsS D (lo ≤ ·) W v c) {b : Nat} (hb : b < lo) (o : Nat) (x : TV) : HoldsS D (lo ≤ ·) (set4 W b o x) v c :=
  h.fromS (fun k hk _ => set4_other W b o x (by have : lo ≤ k := hk; omega)) (by rw [set4_size]; exact Nat.le_refl _)
theorem isL_nil (m : Nat) (W : World) (n : Nat) : IsL m W none 0 ([] : List (Int × Tm n)) := by
  refine ⟨rfl, by omega, ?_⟩
  exact .inl rfl
end Go.Proofs.Ytdjlekcapfeniaa

