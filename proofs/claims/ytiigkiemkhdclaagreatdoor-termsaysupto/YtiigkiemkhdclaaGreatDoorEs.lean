import Derived.Test.YtiigkiemkhdclaaGreatDoorM
import Derived.Test.YtiigkiemkhdclaaGreatDoorC
import Derived.WalkLawsBesides
import Derived.Deep.RegionHeld3
import Derived.Test.YtiigkiemkhdclaaGreatDoorJs
/- The contracts of cmp.Compare at int, int64 and string, and of term.orderTop. -/
namespace Go.Proofs.YtiigkiemkhdclaaGreatDoor
open Go.RowKit Go.Shelf

theorem ret_int {k : IntKind} {a b : Int} (h : a = b) : Ending.returned (.int k a) = .returned (.int k b) := by rw [h]
theorem cmp3_lt {a b : Int} (h : a < b) : -1 = cmp3 a b := by unfold cmp3; rw [if_pos h]
theorem cmp3_gt {a b : Int} (h : b < a) : 1 = cmp3 a b := by unfold cmp3; rw [if_neg (by omega), if_pos h]
theorem cmp3_eq {a b : Int} (h1 : b ≤ a) (h2 : a ≤ b) : 0 = cmp3 a b := by unfold cmp3; rw [if_neg (by omega), if_neg (by omega)]

set_option maxHeartbeats 400000 in
theorem cmpi_any (a b : Int) (w : World) : Calls Tryz.prog 101 #[.int .i64 a, .int .i64 b] w fun e W' => e = .returned (.int .i64 (cmp3 a b)) ∧ W' = w := by
  go_enter Tryz.func101, Tryz.ntmps101
  go_wp2
  all_goals go_ret
  all_goals refine ⟨?_, rfl⟩
  · exact ret_int (cmp3_lt ‹_›)
  · exact ret_int (cmp3_gt ‹b < a›)
  · exact ret_int (cmp3_eq ‹b ≤ a› ‹a ≤ b›)
set_option maxHeartbeats 400000 in
theorem cmpl_any (a b : Int) (w : World) : Calls Tryz.prog 95 #[.int .i64 a, .int .i64 b] w fun e W' => e = .returned (.int .i64 (cmp3 a b)) ∧ W' = w := by
  go_enter Tryz.func95, Tryz.ntmps95
  go_wp2
  all_goals go_ret
  all_goals refine ⟨?_, rfl⟩
  · exact ret_int (cmp3_lt ‹_›)
  · exact ret_int (cmp3_gt ‹b < a›)
  · exact ret_int (cmp3_eq ‹b ≤ a› ‹a ≤ b›)
set_option maxHeartbeats 400000 in
theorem cmps_any (a b : ByteArray) (w : World) : Calls Tryz.prog 102 #[.string a, .string b] w fun e W' => e = .returned (.int .i64 (cmpS a.toList b.toList)) ∧ W' = w := by
  go_enter Tryz.func102, Tryz.ntmps102
  go_wp2
  all_goals go_ret
  all_goals refine ⟨?_, rfl⟩
  · exact ret_int (by unfold cmpS; rw [if_pos ‹_›])
  · have h1 : Op.bytesLess a.toList b.toList = false := by assumption
    have h2 : (!a.toList == b.toList) = true := by assumption
    exact ret_int (by unfold cmpS; rw [if_neg (by rw [h1]; simp), if_neg (by simpa using h2)])
  · have h1 : Op.bytesLess a.toList b.toList = false := by assumption
    have h2 : (!a.toList == b.toList) = false := by assumption
    exact ret_int (by unfold cmpS; rw [if_neg (by rw [h1]; simp), if_pos (by simpa using h2)])

theorem otop1 {x y : TV} (h : cmp3 x.k y.k ≠ 0) : cmp3 x.k y.k = otop x y := by unfold otop thenC; rw [if_pos h]
theorem otop2 {x y : TV} (h : cmp3 x.k y.k = 0) (h2 : cmp3 x.N y.N ≠ 0) : cmp3 x.N y.N = otop x y := by unfold otop thenC; rw [if_neg (by omega), if_pos h2]
theorem otop3 {x y : TV} (h : cmp3 x.k y.k = 0) (h2 : cmp3 x.N y.N = 0) (h3 : cmp3 x.len y.len ≠ 0) : cmp3 x.len y.len = otop x y := by unfold otop thenC; rw [if_neg (by omega), if_neg (by omega), if_pos h3]
theorem otop4 {x y : TV} (h : cmp3 x.k y.k = 0) (h2 : cmp3 x.N y.N = 0) (h3 : cmp3 x.len y.len = 0) : cmpS x.s.toList y.s.toList = otop x y := by unfold otop thenC; rw [if_neg (by omega), if_neg (by omega), if_neg (by omega)]

set_option maxHeartbeats 1000000 in
theorem otop_any (x y : TV) (w : World) : Calls Tryz.prog 90 #[x.val, y.val] w fun e W' => e = .returned (.int .i64 (otop x y)) ∧ Below w.heap.size w W' := by
  simp only [TV.val]
  have hB : Below w.heap.size w ((w.alloc (.cells #[.int .i64 x.k, .int .i64 x.N, .string x.s, .slice x.a x.len x.cap] 24)).alloc (.cells #[.int .i64 y.k, .int .i64 y.N, .string y.s, .slice y.a y.len y.cap] 24)) := ((Below.refl _ w).alloc (Nat.le_refl _) _).alloc (by simp) _
  have HB := hide hB
  clear hB
  have h49 := cmpi_any x.k y.k ((w.alloc (.cells #[.int .i64 x.k, .int .i64 x.N, .string x.s, .slice x.a x.len x.cap] 24)).alloc (.cells #[.int .i64 y.k, .int .i64 y.N, .string y.s, .slice y.a y.len y.cap] 24))
  have h42 := cmpl_any x.N y.N ((w.alloc (.cells #[.int .i64 x.k, .int .i64 x.N, .string x.s, .slice x.a x.len x.cap] 24)).alloc (.cells #[.int .i64 y.k, .int .i64 y.N, .string y.s, .slice y.a y.len y.cap] 24))
  have h49b := cmpi_any x.len y.len ((w.alloc (.cells #[.int .i64 x.k, .int .i64 x.N, .string x.s, .slice x.a x.len x.cap] 24)).alloc (.cells #[.int .i64 y.k, .int .i64 y.N, .string y.s, .slice y.a y.len y.cap] 24))
  have h50 := cmps_any x.s y.s ((w.alloc (.cells #[.int .i64 x.k, .int .i64 x.N, .string x.s, .slice x.a x.len x.cap] 24)).alloc (.cells #[.int .i64 y.k, .int .i64 y.N, .string y.s, .slice y.a y.len y.cap] 24))
  have e1 := @otop1 x y
  have e2 := @otop2 x y
  have e3 := @otop3 x y
  have e4 := @otop4 x y
  generalize cmp3 x.k y.k = c1 at *
  generalize cmp3 x.N y.N = c2 at *
  generalize cmp3 x.len y.len = c3 at *
  generalize cmpS x.s.toList y.s.toList = c4 at *
  generalize otop x y = r at *
  have E1 := hide e1
  have E2 := hide e2
  have E3 := hide e3
  have E4 := hide e4
  clear e1 e2 e3 e4
  by_cases hc1 : c1 = 0
  · have hb1 : (c1 != 0) = false := by simp [hc1]
    have H1 := hide hc1
    clear hc1
    by_cases hc2 : c2 = 0
    · have hb2 : (c2 != 0) = false := by simp [hc2]
      have H2 := hide hc2
      clear hc2
      by_cases hc3 : c3 = 0
      · have hb3 : (c3 != 0) = false := by simp [hc3]
        have H3 := hide hc3
        clear hc3
        go_enter Tryz.func90, Tryz.ntmps90
        go_wp2_with (first
          | (go_at_call 101; refine h49.mono ?_; clear h49; rintro e w' ⟨rfl, rfl⟩)
          | (go_at_call 95; refine h42.mono ?_; clear h42; rintro e w' ⟨rfl, rfl⟩)
          | (go_at_call 101; refine h49b.mono ?_; clear h49b; rintro e w' ⟨rfl, rfl⟩)
          | (go_at_call 102; refine h50.mono ?_; clear h50; rintro e w' ⟨rfl, rfl⟩))
        go_ret
        exact ⟨ret_int ((unhide E4) (unhide H1) (unhide H2) (unhide H3)), unhide HB⟩
      · have hb3 : (c3 != 0) = true := by simp [hc3]
        go_enter Tryz.func90, Tryz.ntmps90
        go_wp2_with (first
          | (go_at_call 101; refine h49.mono ?_; clear h49; rintro e w' ⟨rfl, rfl⟩)
          | (go_at_call 95; refine h42.mono ?_; clear h42; rintro e w' ⟨rfl, rfl⟩)
          | (go_at_call 101; refine h49b.mono ?_; clear h49b; rintro e w' ⟨rfl, rfl⟩))
        go_ret
        exact ⟨ret_int ((unhide E3) (unhide H1) (unhide H2) hc3), unhide HB⟩
    · have hb2 : (c2 != 0) = true := by simp [hc2]
      go_enter Tryz.func90, Tryz.ntmps90
      go_wp2_with (first
        | (go_at_call 101; refine h49.mono ?_; clear h49; rintro e w' ⟨rfl, rfl⟩)
        | (go_at_call 95; refine h42.mono ?_; clear h42; rintro e w' ⟨rfl, rfl⟩))
      go_ret
      exact ⟨ret_int ((unhide E2) (unhide H1) hc2), unhide HB⟩
  · have hb1 : (c1 != 0) = true := by simp [hc1]
    go_enter Tryz.func90, Tryz.ntmps90
    go_wp2_with (go_at_call 101; refine h49.mono ?_; clear h49; rintro e w' ⟨rfl, rfl⟩)
    go_ret
    exact ⟨ret_int ((unhide E1) hc1), unhide HB⟩
end Go.Proofs.YtiigkiemkhdclaaGreatDoor

/- The contract of term.order: it answers ordT of two terms; nothing that lay is changed. -/
namespace Go.Proofs.YtiigkiemkhdclaaGreatDoor
open Go.RowKit Go.Shelf

theorem lexL_stop {α : Type} {f : α → α → Int} : ∀ (a b : List α) (j : Nat) (u v : α), a[j]? = some u → b[j]? = some v → lexL f (a.take j) (b.take j) = 0 → f u v ≠ 0 → lexL f a b = f u v := by
  intro a
  induction a with
  | nil => intro b j u v h; simp at h
  | cons x a ih =>
    intro b j u v hu hv h hne
    cases b with
    | nil => simp at hv
    | cons y b =>
      cases j with
      | zero =>
        simp at hu hv; subst hu; subst hv
        simp only [lexL, thenC]; rw [if_pos hne]
      | succ j =>
        simp only [List.take_succ_cons, lexL, thenC_zero] at h
        simp only [List.getElem?_cons_succ] at hu hv
        simp only [lexL, thenC]
        rw [if_neg (by omega)]
        exact ih b j u v hu hv h.2 hne
theorem lexL_next {α : Type} {f : α → α → Int} : ∀ (a b : List α) (j : Nat) (u v : α), a[j]? = some u → b[j]? = some v → lexL f (a.take j) (b.take j) = 0 → f u v = 0 → lexL f (a.take (j + 1)) (b.take (j + 1)) = 0 := by
  intro a
  induction a with
  | nil => intro b j u v h; simp at h
  | cons x a ih =>
    intro b j u v hu hv h hne
    cases b with
    | nil => simp at hv
    | cons y b =>
      cases j with
      | zero =>
        simp at hu hv; subst hu; subst hv
        simp [lexL, thenC_zero, hne]
      | succ j =>
        simp only [List.take_succ_cons, lexL, thenC_zero] at h ⊢
        simp only [List.getElem?_cons_succ] at hu hv
        exact ⟨h.1, by simpa using ih b j u v hu hv h.2 hne⟩

/-- The j-th of the Args, in a later world. -/
theorem kid_at {n : Nat} {w wr : World} {a : Option Addr} {len : Nat} {kids : List (Tm n)} (hkids : kids = [] ∨ ∃ b off, a = some ⟨b, off, none⟩ ∧ b < w.heap.size ∧ ∀ j u, kids[j]? = some u → cellsAt w b (off + j * 4) u.tv ∧ IsT w.heap.size w u)
    (hbw : Below w.heap.size w wr) {j : Nat} (hj : j < len) (hl : len ≤ kids.length) :
    ∃ u b off, kids[j]? = some u ∧ a = some ⟨b, off, none⟩ ∧ cellsAt wr b (off + j * 4) u.tv ∧ IsT wr.heap.size wr u ∧ b < w.heap.size := by
  obtain ⟨u, hu⟩ : ∃ u, kids[j]? = some u := ⟨kids[j]'(by omega), List.getElem?_eq_getElem (by omega)⟩
  have hne : kids ≠ [] := by rintro rfl; simp at hu
  obtain ⟨b, off, ha, hbk, hk⟩ := hkids.resolve_left hne
  obtain ⟨⟨c0, c1, c2, c3⟩, hT⟩ := hk j u hu
  exact ⟨u, b, off, hu, ha, ⟨(hbw.cell (p := ⟨b, off + j * 4, none⟩) hbk).trans c0, (hbw.cell (p := ⟨b, off + j * 4 + 1, none⟩) hbk).trans c1, (hbw.cell (p := ⟨b, off + j * 4 + 2, none⟩) hbk).trans c2, (hbw.cell (p := ⟨b, off + j * 4 + 3, none⟩) hbk).trans c3⟩, (hT.below hbw).mono hbw.size, hbk⟩

theorem bcell {W w1 : World} (hb : Below W.heap.size W w1) : ∀ b o, b < W.heap.size → w1.cell? ⟨b, o, none⟩ = W.cell? ⟨b, o, none⟩ := fun b o h => hb.cell (p := ⟨b, o, none⟩) h
theorem two_boxes {w W1 : World} {c0 c1 c2 c3 d0 d1 d2 d3 : Value} (hb : Below ((w.alloc (.cells #[c0, c1, c2, c3] 24)).alloc (.cells #[d0, d1, d2, d3] 24)).heap.size ((w.alloc (.cells #[c0, c1, c2, c3] 24)).alloc (.cells #[d0, d1, d2, d3] 24)) W1) :
    (Below w.heap.size w W1 ∧ w.heap.size + 2 ≤ W1.heap.size) ∧ W1.cell? ⟨w.heap.size, 3, none⟩ = some c3 ∧ W1.cell? ⟨w.heap.size + 1, 3, none⟩ = some d3 := by
  have hs := hb.size
  have hs2 : ((w.alloc (.cells #[c0, c1, c2, c3] 24)).alloc (.cells #[d0, d1, d2, d3] 24)).heap.size = w.heap.size + 2 := by simp
  rw [hs2] at hb hs
  exact ⟨⟨(((Below.refl _ w).alloc (Nat.le_refl _) _).alloc (by simp) _).trans (hb.mono (by omega)), hs⟩, (hb.cell (p := ⟨w.heap.size, 3, none⟩) (by simp)).trans (by simp), (hb.cell (p := ⟨w.heap.size + 1, 3, none⟩) (by simp)).trans (by simp)⟩

set_option maxRecDepth 100000 in
set_option maxHeartbeats 1000000 in
theorem order_any : ∀ (n : Nat) (x y : Tm n) (w : World), IsT w.heap.size w x → IsT w.heap.size w y → Calls Tryz.prog 78 #[x.tv.val, y.tv.val] w fun e W' => e = .returned (.int .i64 (ordT x y)) ∧ Below w.heap.size w W' := by
  intro n
  induction n with
  | zero => intro t; exact Empty.elim t
  | succ n ih =>
    intro x y w hx hy
    obtain ⟨⟨k, kN, s, a, len, cap⟩, kids⟩ := x
    obtain ⟨⟨k', kN', s', a', len', cap'⟩, kids'⟩ := y
    obtain ⟨hlen, hmax, hsm, hkids⟩ := hx
    obtain ⟨hlen', hmax', hsm', hkids'⟩ := hy
    simp only [Tm.tv, Tm.kids] at hlen hmax hsm hkids hlen' hmax' hsm' hkids'
    have HI := hide ih
    clear ih
    have htop : Calls Tryz.prog 90 #[.agg #[.int .i64 k, .int .i64 kN, .string s, .slice a len cap], .agg #[.int .i64 k', .int .i64 kN', .string s', .slice a' len' cap']] ((w.alloc (.cells #[.int .i64 k, .int .i64 kN, .string s, .slice a len cap] 24)).alloc (.cells #[.int .i64 k', .int .i64 kN', .string s', .slice a' len' cap'] 24))
        fun e W1 => e = .returned (.int .i64 (otop ⟨k, kN, s, a, len, cap⟩ ⟨k', kN', s', a', len', cap'⟩)) ∧ (Below w.heap.size w W1 ∧ w.heap.size + 2 ≤ W1.heap.size) ∧ W1.cell? ⟨w.heap.size, 3, none⟩ = some (.slice a len cap) ∧ W1.cell? ⟨w.heap.size + 1, 3, none⟩ = some (.slice a' len' cap') :=
      (otop_any ⟨k, kN, s, a, len, cap⟩ ⟨k', kN', s', a', len', cap'⟩ _).mono fun e W1 h =>
        ⟨h.1, two_boxes h.2⟩
    simp only [TV.val, Tm.tv, ordT, Tm.kids]
    have hz := @otop_zero ⟨k, kN, s, a, len, cap⟩ ⟨k', kN', s', a', len', cap'⟩
    have hll : otop ⟨k, kN, s, a, len, cap⟩ ⟨k', kN', s', a', len', cap'⟩ = 0 → len = len' := by
      intro h
      have := hz.1 h
      simp [stop] at this
      omega
    clear hz
    generalize otop ⟨k, kN, s, a, len, cap⟩ ⟨k', kN', s', a', len', cap'⟩ = c at *
    by_cases hc : c = 0
    · have hlq := hll hc
      have hl1 : len ≤ kids.length := by omega
      have hl2 : kids.length ≤ len := by omega
      have hl3 : len ≤ kids'.length := by omega
      have hl4 : kids'.length ≤ len := by omega
      have hl5 : (len : Int) ≤ len' := by omega
      clear hll hlq hlen hlen'
      have hc' : (c != 0) = false := by simp [hc]
      have hfin : thenC c (lexL ordT kids kids') = lexL ordT kids kids' := by unfold thenC; rw [if_neg (by omega)]
      rw [hfin]
      clear hc hfin
      go_enter Tryz.func78, Tryz.ntmps78
      go_wp2_with (go_at_call 90; refine htop.mono ?_; clear htop; rintro e W1 ⟨rfl, ⟨hb1, hzz⟩, hcc, hcd⟩)
      go_loopw [17] (fun i wr => ∃ j : Nat, j ≤ len ∧ i = .int .i64 j ∧ lexL ordT (kids.take j) (kids'.take j) = 0 ∧ Below W1.heap.size W1 wr) (fun i _ => len - (intOf i).toNat)
      case atStart => exact ⟨0, Nat.zero_le _, rfl, by simp [lexL], Below.refl _ _⟩
      case round =>
        obtain ⟨j, hj, rfl, ho, hb⟩ := hrel
        have hbw : Below w.heap.size w wr := hb1.trans (hb.mono (by omega))
        have HO := hide ho
        clear ho
        by_cases hlt : j < len
        · obtain ⟨u, b, off, hu, rfl, ⟨c0, c1, c2, c3⟩, hT, hbk⟩ := kid_at hkids hbw hlt hl1
          obtain ⟨v, b', off', hv, rfl, ⟨d0, d1, d2, d3⟩, hT', hbk'⟩ := kid_at hkids' hbw hlt hl3
          replace hcc := (hb.cell (p := ⟨w.heap.size, 3, none⟩) (by simp; omega)).trans hcc
          replace hcd := (hb.cell (p := ⟨w.heap.size + 1, 3, none⟩) (by simp; omega)).trans hcd
          have hj1 : (j : Int) < len := by omega
          have hj2 : (j : Int) < len' := by omega
          have ihu : Calls Tryz.prog 78 #[.agg #[.int .i64 u.tv.k, .int .i64 u.tv.N, .string u.tv.s, .slice u.tv.a u.tv.len u.tv.cap], .agg #[.int .i64 v.tv.k, .int .i64 v.tv.N, .string v.tv.s, .slice v.tv.a v.tv.len v.tv.cap]] wr.drew fun e W2 => e = .returned (.int .i64 (ordT u v)) ∧ Below wr.heap.size wr W2 :=
            ((unhide HI) u v wr.drew (hT.below (Below.refl _ wr).drew) (hT'.below (Below.refl _ wr).drew)).mono fun e W2 h => ⟨h.1, (Below.refl _ wr).drew.trans h.2⟩
          have hy1 : w.heap.size < wr.heap.size := by have := hb.size; omega
          have hy2 : w.heap.size + 1 < wr.heap.size := by have := hb.size; omega
          have hy3 : b < wr.heap.size := by omega
          have hy4 : b' < wr.heap.size := by omega
          have hstop := lexL_stop (f := ordT) kids kids' j u v hu hv (unhide HO)
          have hnext := lexL_next (f := ordT) kids kids' j u v hu hv (unhide HO)
          clear hkids hkids' hT hT' hu hv
          generalize ordT u v = d at *
          have HN := hide hnext
          have HS := hide hstop
          clear hnext hstop
          by_cases hd : d = 0
          · have hd' : (d != 0) = false := by simp [hd]
            have HD := hide hd
            clear hd
            go_wp2_with fail
            go_region_held3 (fun w' => w'.cell? ⟨w.heap.size, 3, none⟩ = some (.slice (some ⟨b, off, none⟩) len cap) ∧ w'.cell? ⟨w.heap.size + 1, 3, none⟩ = some (.slice (some ⟨b', off', none⟩) len' cap')
              ∧ w'.cell? ⟨b, off + j * 4, none⟩ = some (.int .i64 u.tv.k) ∧ w'.cell? ⟨b, off + j * 4 + 1, none⟩ = some (.int .i64 u.tv.N) ∧ w'.cell? ⟨b, off + j * 4 + 2, none⟩ = some (.string u.tv.s) ∧ w'.cell? ⟨b, off + j * 4 + 3, none⟩ = some (.slice u.tv.a u.tv.len u.tv.cap)
              ∧ w'.cell? ⟨b', off' + j * 4, none⟩ = some (.int .i64 v.tv.k) ∧ w'.cell? ⟨b', off' + j * 4 + 1, none⟩ = some (.int .i64 v.tv.N) ∧ w'.cell? ⟨b', off' + j * 4 + 2, none⟩ = some (.string v.tv.s) ∧ w'.cell? ⟨b', off' + j * 4 + 3, none⟩ = some (.slice v.tv.a v.tv.len v.tv.cap)) (go_keep)
              (first | (go_at_call 78; refine ihu.mono ?_; clear ihu; rintro e W2 ⟨rfl, hb2⟩; have hbc := bcell hb2))
            go_wp2_with fail
            go_roundw
            case rel => exact ⟨j + 1, by omega, by go_num, (unhide HN) (unhide HD), hb.trans (hb2.mono hb.size)⟩
            case measure => simp [intOf]; omega
          · have hd' : (d != 0) = true := by simp [hd]
            have HD := hide hd
            clear hd
            go_wp2_with fail
            go_region_held3 (fun w' => w'.cell? ⟨w.heap.size, 3, none⟩ = some (.slice (some ⟨b, off, none⟩) len cap) ∧ w'.cell? ⟨w.heap.size + 1, 3, none⟩ = some (.slice (some ⟨b', off', none⟩) len' cap')
              ∧ w'.cell? ⟨b, off + j * 4, none⟩ = some (.int .i64 u.tv.k) ∧ w'.cell? ⟨b, off + j * 4 + 1, none⟩ = some (.int .i64 u.tv.N) ∧ w'.cell? ⟨b, off + j * 4 + 2, none⟩ = some (.string u.tv.s) ∧ w'.cell? ⟨b, off + j * 4 + 3, none⟩ = some (.slice u.tv.a u.tv.len u.tv.cap)
              ∧ w'.cell? ⟨b', off' + j * 4, none⟩ = some (.int .i64 v.tv.k) ∧ w'.cell? ⟨b', off' + j * 4 + 1, none⟩ = some (.int .i64 v.tv.N) ∧ w'.cell? ⟨b', off' + j * 4 + 2, none⟩ = some (.string v.tv.s) ∧ w'.cell? ⟨b', off' + j * 4 + 3, none⟩ = some (.slice v.tv.a v.tv.len v.tv.cap)) (go_keep)
              (first | (go_at_call 78; refine ihu.mono ?_; clear ihu; rintro e W2 ⟨rfl, hb2⟩; have hbc := bcell hb2))
            go_wp2_with fail
            go_ret
            exact ⟨ret_int ((unhide HS) (unhide HD)).symm, hbw.trans (hb2.mono hbw.size)⟩
        · have ht : kids.take j = kids := List.take_of_length_le (by omega)
          have ht' : kids'.take j = kids' := List.take_of_length_le (by omega)
          have HT := hide ht
          have HT' := hide ht'
          clear ht ht' hkids hkids'
          go_wp2_with fail
          go_ret
          exact ⟨by have h := unhide HO; rw [unhide HT, unhide HT'] at h; rw [h]; rfl, hbw⟩
    · have hc' : (c != 0) = true := by simp [hc]
      have hfin : thenC c (lexL ordT kids kids') = c := by unfold thenC; rw [if_pos hc]
      rw [hfin]
      clear hkids hkids' hc hfin hlen hlen' hll
      go_enter Tryz.func78, Tryz.ntmps78
      go_wp2_with (go_at_call 90; refine htop.mono ?_; clear htop; rintro e W1 ⟨rfl, ⟨hb1, _⟩, _⟩)
      go_ret
      exact ⟨rfl, hb1⟩
end Go.Proofs.YtiigkiemkhdclaaGreatDoor

/- The contract of term.replace: each variable of a term gives way to what a function says of it, in new memory. -/
namespace Go.Proofs.YtiigkiemkhdclaaGreatDoor
open Go.RowKit Go.Shelf

theorem code_take {n : Nat} (kids : List (Tm n)) (j : Nat) (u : Tm n) (h : kids[j]? = some u) : (kids.take (j + 1)).flatMap code = (kids.take j).flatMap code ++ code u := by
  obtain ⟨hj, rfl⟩ := List.getElem?_eq_some_iff.1 h
  rw [List.take_succ_eq_append_getElem hj, List.flatMap_append, List.flatMap_cons, List.flatMap_nil, List.append_nil]

/-- What lies behind the call's first steps: the term's box, the cell of the result, the room that was made. -/
theorem made_world (W : World) (x : TV) (len : Nat) : ∃ W3, ((W.alloc (.cells #[.int .i64 x.k, .int .i64 x.N, .string x.s, .slice x.a x.len x.cap] 24)).alloc (.cells #[.int .i64 0, .int .i64 0, .string ⟨#[]⟩, .slice none 0 0] 24)).alloc (.cells (madeCells #[.int .i64 0, .int .i64 0, .string ⟨#[]⟩, .slice none 0 0] (len * 4)) 24) = W3 ∧
    Below W.heap.size W W3 ∧ W3.heap.size = W.heap.size + 3 ∧ BoxT W3 W.heap.size x ∧ W3.heap[W.heap.size + 1]? = some (.cells #[.int .i64 0, .int .i64 0, .string ⟨#[]⟩, .slice none 0 0] 24 (0, 0)) ∧ Row4 W3 (W.heap.size + 2) len := by
  refine ⟨_, rfl, (((Below.refl _ W).alloc (Nat.le_refl _) _).alloc (by simp) _).alloc (by simp; omega) _, by simp, ((BoxT.new W x).alloc _).alloc _, ?_, ?_⟩
  · have h := World.alloc_heap_new (W.alloc (.cells #[.int .i64 x.k, .int .i64 x.N, .string x.s, .slice x.a x.len x.cap] 24)) (.cells #[.int .i64 0, .int .i64 0, .string ⟨#[]⟩, .slice none 0 0] 24)
    rw [World.size_alloc] at h
    exact (Below.heap_alloc _ _ _ (by simp)).trans h
  · refine ⟨madeCells #[.int .i64 0, .int .i64 0, .string ⟨#[]⟩, .slice none 0 0] (len * 4), ?_, size_madeCells _ _⟩
    have h := World.alloc_heap_new ((W.alloc (.cells #[.int .i64 x.k, .int .i64 x.N, .string x.s, .slice x.a x.len x.cap] 24)).alloc (.cells #[.int .i64 0, .int .i64 0, .string ⟨#[]⟩, .slice none 0 0] 24)) (.cells (madeCells #[.int .i64 0, .int .i64 0, .string ⟨#[]⟩, .slice none 0 0] (len * 4)) 24)
    rw [World.size_alloc, World.size_alloc] at h
    exact h

/-- The end of replace at a compound. -/
theorem comp_end {D : Nat} {W wr : World} {s : ByteArray} {len : Nat} {c : List Nd} (hB : Below W.heap.size W wr) (hs : s.size ≤ 9223372036854775807) (hl : len ≤ 50) (hsz : W.heap.size + 3 ≤ wr.heap.size) (hw : Written D (W.heap.size + 2) len wr c) :
    let x : TV := ⟨4, 0, s, some ⟨W.heap.size + 2, 0, none⟩, len, len⟩
    Below W.heap.size W (set4 wr (W.heap.size + 1) 0 x) ∧ HoldsT (D + 1) W.heap.size (set4 wr (W.heap.size + 1) 0 x) x.val ((4, 0, s.toList, len) :: c) := by
  intro x
  refine ⟨set4_below hB (by omega) 0 x, fun m hm => ?_⟩
  obtain ⟨M, rfl⟩ : ∃ M, m = M + 1 := ⟨m - 1, by omega⟩
  obtain ⟨ks, hkl, hks, hkc⟩ := hw M (by omega)
  refine ⟨((x, ks) : TV × List (Tm M)), rfl, ?_, ?_, ?_⟩
  · refine ⟨hkl.symm, ?_, hs, .inr ⟨W.heap.size + 2, 0, rfl, by rw [set4_size]; omega, fun j u hu => ?_⟩⟩
    · show len ≤ _
      omega
    · obtain ⟨k1, k2, k3⟩ := hks j u hu
      refine ⟨?_, ?_⟩
      · rw [Nat.zero_add]
        exact k1.kept (set4_other wr _ 0 x (by omega))
      · rw [set4_size]
        exact k2.from (fun q hq => set4_other wr _ 0 x (by omega)) k3
  · exact ⟨.inr ⟨W.heap.size + 2, 0, rfl, by omega⟩, fun u hu => by
      obtain ⟨j, hj⟩ := List.mem_iff_getElem?.1 hu
      exact (hks j u hj).2.2.mono (by omega)⟩
  · rw [code_succ, hkc]; rfl

set_option maxRecDepth 100000 in
set_option maxHeartbeats 1000000 in
theorem replace_comp {n : Nat} (fv : Value) (β : Int → List Nd) (D : Nat) (w : World)
    (ih : ∀ (u : Tm n) (W : World), Below w.heap.size w W → IsT W.heap.size W u → okT u = true → Calls Tryz.prog 60 #[u.tv.val, fv] W fun e W' => ∃ v, e = .returned v ∧ Below W.heap.size W W' ∧ HoldsT (n + D) W.heap.size W' v ((code u).flatMap (subN β)))
    (s : ByteArray) (a : Option Addr) (len cap : Nat) (kids : List (Tm n)) (W : World) (hbW : Below w.heap.size w W) (hs : s.size ≤ 9223372036854775807) (hl50 : len ≤ 50) (hlen : len = kids.length)
    (hkids : kids = [] ∨ ∃ b off, a = some ⟨b, off, none⟩ ∧ b < W.heap.size ∧ ∀ j u, kids[j]? = some u → cellsAt W b (off + j * 4) u.tv ∧ IsT W.heap.size W u) (hok : ∀ u ∈ kids, okT u = true) :
    Calls Tryz.prog 60 #[.agg #[.int .i64 4, .int .i64 0, .string s, .slice a len cap], fv] W fun e W' => ∃ v, e = .returned v ∧ Below W.heap.size W W' ∧ HoldsT (n + 1 + D) W.heap.size W' v ((4, 0, s.toList, len) :: (kids.flatMap code).flatMap (subN β)) := by
  have hl1 : len ≤ kids.length := by omega
  have hl2 : kids.length ≤ len := by omega
  clear hlen
  have HI := hide ih
  have HO := hide hok
  clear ih hok
  have hmk := make_terms len hl50
  go_enter Tryz.func60, Tryz.ntmps60
  go_wp2_with fail
  obtain ⟨W3, hW3, hb3, hs3, bT, hz, hr⟩ := made_world W ⟨4, 0, s, a, len, cap⟩ len
  simp only at hW3
  rw [hW3]
  clear hW3 hmk
  have HZ := hide hz
  have HT := hide bT
  have HR := hide hr
  have HS := hide hs3
  clear hz bT hr hs3
  go_loopw [25] (fun i wr => ∃ j : Nat, j ≤ len ∧ i = .int .i64 j ∧ Below (W.heap.size + 2) W3 wr ∧ Row4 wr (W.heap.size + 2) len ∧ Written (n + D) (W.heap.size + 2) j wr (((kids.take j).flatMap code).flatMap (subN β))) (fun i _ => len - (intOf i).toNat)
  case atStart => exact ⟨0, Nat.zero_le _, rfl, Below.refl _ _, unhide HR, Written.zero _ _ _⟩
  case round =>
    obtain ⟨j, hj, rfl, hb, hrow, hwr⟩ := hrel
    have hbw : Below W.heap.size W wr := hb3.trans (hb.mono (by omega))
    have hsz : W.heap.size + 3 ≤ wr.heap.size := by have := hb.size; have := unhide HS; omega
    by_cases hlt : j < len
    · obtain ⟨u, b, off, hu, rfl, ⟨c0, c1, c2, c3⟩, hT, hbk⟩ := kid_at hkids hbw hlt hl1
      have hbu : Below wr.heap.size wr (wr.alloc (.cells #[.int .i64 u.tv.k, .int .i64 u.tv.N, .string u.tv.s, .slice u.tv.a u.tv.len u.tv.cap] 24)) := (Below.refl _ wr).alloc (Nat.le_refl _) _
      have ihu := (unhide HI) u (wr.alloc (.cells #[.int .i64 u.tv.k, .int .i64 u.tv.N, .string u.tv.s, .slice u.tv.a u.tv.len u.tv.cap] 24)) (hbW.trans ((hbw.trans (hbu.mono hbw.size)).mono hbW.size)) ((hT.below hbu).mono hbu.size) ((unhide HO) u (List.mem_of_getElem? hu))
      have hcode := code_take kids j u hu
      have HC := hide hcode
      have HW := hide hwr
      have HRW := hide hrow
      clear hT hkids hu hcode hwr hrow
      simp only [TV.val] at ihu
      have hj1 : (j : Int) < len := by omega
      go_wp2_with fail
      refine ihu.mono ?_
      clear ihu
      rintro e W5 ⟨v, rfl, hb5, hv⟩
      obtain ⟨t5, ht5, -⟩ := hv _ (Nat.le_refl _)
      subst ht5
      have hb5' : Below wr.heap.size wr W5 := hbu.trans (hb5.mono hbu.size)
      have hrow5 : Row4 W5 (W.heap.size + 2) len := (unhide HRW).kept (hb5'.block _ (unhide HRW).lt)
      obtain ⟨⟨_, z0⟩, y0⟩ := hrow5.cell (o := j * 4) (by omega)
      obtain ⟨⟨_, z1⟩, y1⟩ := hrow5.cell (o := j * 4 + 1) (by omega)
      obtain ⟨⟨_, z2⟩, y2⟩ := hrow5.cell (o := j * 4 + 2) (by omega)
      obtain ⟨⟨_, z3⟩, y3⟩ := hrow5.cell (o := j * 4 + 3) (by omega)
      have hv5 : HoldsT (n + D) (W.heap.size + 2 + 1) W5 t5.tv.val ((code u).flatMap (subN β)) := hv.mono (Nat.le_refl _) (by simp; omega)
      have hfin := (unhide HW).next hlt hrow5 hb5' (unhide HRW).lt hv5
      rw [← List.flatMap_append, ← unhide HC] at hfin
      have hfin2 := hrow5.set4 (j * 4) t5.tv
      have hfin3 : Below (W.heap.size + 2) W3 (set4 W5 (W.heap.size + 2) (j * 4) t5.tv) := set4_below (hb.trans (hb5'.mono (by omega))) (Nat.le_refl _) _ _
      have G1 := hide hfin
      have G2 := hide hfin2
      have G3 := hide hfin3
      clear hfin hfin2 hfin3 hv hv5 hb5 hrow5 hb5' hbu
      simp only [TV.val]
      go_wp2_with fail
      go_roundw
      case rel => exact ⟨j + 1, by omega, by go_num, unhide G3, unhide G2, unhide G1⟩
      case measure => simp [intOf]; omega
    · have ht : kids.take j = kids := List.take_of_length_le (by omega)
      obtain rfl : j = len := by omega
      rw [ht] at hwr
      obtain ⟨⟨z0, z1, z2, z3⟩, y0, y1, y2, y3⟩ := zbox_kept ((hb.block (W.heap.size + 1) (by omega)).trans (unhide HZ))
      have bT : BoxT wr W.heap.size ⟨4, 0, s, a, j, cap⟩ := (hb.block W.heap.size (by omega)).trans (unhide HT)
      have x2 := bT.c2
      obtain ⟨f1, f2⟩ := comp_end hbw hs hl50 hsz hwr
      have F1 := hide f1
      have F2 := hide f2
      clear f1 f2 hwr ht hkids hrow
      go_wp2_with fail
      exact bodyPost_ret (v := (⟨4, 0, s, some ⟨W.heap.size + 2, 0, none⟩, j, j⟩ : TV).val) (by simp [results, Tryz.results60, go_sem, TV.val, z0, z1, z2, z3]) rfl ⟨_, rfl, unhide F1, by have h := unhide F2; rw [show n + 1 + D = n + D + 1 by omega]; exact h⟩

theorem ok_kids {n : Nat} {x : TV} {kids : List (Tm n)} (h : okT (n := n + 1) ((x, kids) : TV × List (Tm n)) = true) : wmB x.k x.N x.s x.len = true ∧ ∀ u ∈ kids, okT u = true := by
  rw [okT_succ, Bool.and_eq_true] at h
  exact ⟨h.1, List.all_eq_true.1 h.2⟩
theorem wm_cases {k N : Int} {s : ByteArray} {len : Nat} (h : wmB k N s len = true) : (k = 1 ∧ 0 ≤ N ∧ N ≤ 1099511627776 ∧ s.toList = [] ∧ len = 0) ∨ ((k = 2 ∨ k = 3) ∧ len = 0) ∨ (k = 4 ∧ N = 0 ∧ 1 ≤ len ∧ len ≤ 50) := by
  unfold wmB at h
  split at h
  · rename_i hk
    simp at h
    exact .inl ⟨hk, h.1.1.1, h.1.1.2, h.1.2, h.2⟩
  · split at h
    · rename_i hk
      simp at h
      exact .inr (.inl ⟨.inl hk, h.2⟩)
    · split at h
      · rename_i hk
        simp at h
        exact .inr (.inl ⟨.inr hk, h.2⟩)
      · split at h
        · rename_i hk
          simp at h
          exact .inr (.inr ⟨hk, h.1.1.1, by omega, by omega⟩)
        · cases h

/-- term.replace, whatever the term. -/
theorem replace_any (g : Nat) (lb : Array Value) (β : Int → List Nd) (D : Nat) (w : World) (hD : 1 ≤ D) (eg : ∀ args w, (callFunc g args).run Tryz.prog w = .ok (.enter g args) w) (hbec : Becomes g lb β D w) :
    ∀ (n : Nat) (t : Tm n) (W : World), Below w.heap.size w W → IsT W.heap.size W t → okT t = true →
      Calls Tryz.prog 60 #[t.tv.val, .func (.func g) #[] lb] W fun e W' => ∃ v, e = .returned v ∧ Below W.heap.size W W' ∧ HoldsT (n + D) W.heap.size W' v ((code t).flatMap (subN β)) := by
  intro n
  induction n with
  | zero => intro t; exact Empty.elim t
  | succ n ih =>
    intro t W hb hT hok
    obtain ⟨⟨k, N, s, a, len, cap⟩, kids⟩ := t
    obtain ⟨hwm, hk⟩ := ok_kids hok
    obtain ⟨h1, h2, h3, h4⟩ := hT
    simp only [Tm.tv, Tm.kids] at h1 h2 h3 h4 hwm
    rw [code_succ, List.flatMap_cons]
    rcases wm_cases hwm with ⟨rfl, hN1, hN2, hse, rfl⟩ | ⟨hk23, rfl⟩ | ⟨rfl, rfl, hl1, hl2⟩
    · have hnil : kids = [] := List.length_eq_zero_iff.1 h1.symm
      subst hnil
      refine (replace_var g lb β D w eg hbec N s a 0 cap W hN1 hN2 hb).mono fun e W' h => ?_
      obtain ⟨v, he, hb', hv⟩ := h
      exact ⟨v, he, hb', by simpa [subN, TV.nd] using hv.mono (by omega) (Nat.le_refl _)⟩
    · have hnil : kids = [] := List.length_eq_zero_iff.1 h1.symm
      subst hnil
      refine (replace_leaf _ k N s a 0 cap W hk23 h3).mono fun e W' h => ?_
      obtain ⟨v, he, hb', hv⟩ := h
      have hne : ¬ k = 1 := by omega
      exact ⟨v, he, hb', by simpa [subN, TV.nd, hne] using hv.mono (by omega) (Nat.le_refl _)⟩
    · refine (replace_comp _ β D w ih s a len cap kids W hb h3 hl2 h1 h4 hk).mono fun e W' h => ?_
      obtain ⟨v, he, hb', hv⟩ := h
      exact ⟨v, he, hb', by simpa [subN, TV.nd] using hv⟩
end Go.Proofs.YtiigkiemkhdclaaGreatDoor

