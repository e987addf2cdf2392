import Derived.Test.YtcjeeagnfmipgaaGreatDoorG
import Derived.Test.YtcjeeagnfmipgaaGreatDoorLr
import Derived.Test.YtcjeeagnfmipgaaGreatDoorMps
/- The contracts of hornref.Less and hornref.Compare: the order of terms. -/
namespace Go.Proofs.YtcjeeagnfmipgaaGreatDoor
open Go.RowKit Go.Shelf

theorem thenC_neg {c d : Int} (h : c ≠ 0) : thenC c d = c := if_pos h
theorem thenC_pos {d : Int} : thenC 0 d = d := if_neg (by simp)
theorem cmp3_self (a : Int) : cmp3 a a = 0 := cmp3_zero.2 rfl
theorem cmp3_less {a b : Int} : cmp3 a b < 0 ↔ a < b := by unfold cmp3; split <;> (try split) <;> omega
theorem cmpS_self (a : List UInt8) : cmpS a a = 0 := cmpS_zero.2 rfl
theorem cmpS_neg {a b : List UInt8} : cmpS a b < 0 ↔ Op.bytesLess a b = true := by
  unfold cmpS
  split
  · simp_all
  · split <;> simp_all
/-- Less than, by the order. -/
def lessT {n : Nat} (a b : Tm n) : Bool := decide (ordT a b < 0)
theorem less_kind {n : Nat} {x y : TV} {a b : List (Tm n)} (h : x.k ≠ y.k) : lessT (n := n + 1) ((x, a) : TV × List (Tm n)) ((y, b) : TV × List (Tm n)) = decide (x.k < y.k) := by
  have h1 : cmp3 x.k y.k ≠ 0 := fun e => h (cmp3_zero.1 e)
  unfold lessT
  show decide (thenC (otop x y) _ < 0) = _
  unfold otop
  rw [thenC_neg h1, thenC_neg h1]
  exact decide_eq_decide.2 cmp3_less
theorem less_num {n : Nat} {x y : TV} {a b : List (Tm n)} (hk : x.k = y.k) (hl : x.len = y.len) (hs : x.s.toList = y.s.toList) (ha : a = []) (hb : b = []) : lessT (n := n + 1) ((x, a) : TV × List (Tm n)) ((y, b) : TV × List (Tm n)) = decide (x.N < y.N) := by
  subst ha hb
  unfold lessT
  show decide (thenC (otop x y) (lexL ordT [] []) < 0) = _
  unfold otop
  rw [hk, hl, hs, cmp3_self, cmp3_self, cmpS_self, thenC_pos, thenC_pos]
  by_cases h : x.N = y.N
  · rw [h, cmp3_self, thenC_pos, thenC_pos]; simp [lexL]
  · have h1 : cmp3 x.N y.N ≠ 0 := fun e => h (cmp3_zero.1 e)
    rw [thenC_neg h1, thenC_neg h1]
    exact decide_eq_decide.2 cmp3_less
theorem less_len {n : Nat} {x y : TV} {a b : List (Tm n)} (hk : x.k = y.k) (hN : x.N = y.N) (hl : x.len ≠ y.len) : lessT (n := n + 1) ((x, a) : TV × List (Tm n)) ((y, b) : TV × List (Tm n)) = decide (x.len < y.len) := by
  have h1 : cmp3 x.len y.len ≠ 0 := fun e => hl (by have := cmp3_zero.1 e; omega)
  unfold lessT
  show decide (thenC (otop x y) _ < 0) = _
  unfold otop
  rw [hk, hN, cmp3_self, cmp3_self, thenC_pos, thenC_pos, thenC_neg h1, thenC_neg h1]
  exact decide_eq_decide.2 (cmp3_less.trans (by omega))
theorem less_name {n : Nat} {x y : TV} {a b : List (Tm n)} (hk : x.k = y.k) (hN : x.N = y.N) (hl : x.len = y.len) (hs : x.s.toList ≠ y.s.toList) : lessT (n := n + 1) ((x, a) : TV × List (Tm n)) ((y, b) : TV × List (Tm n)) = Op.bytesLess x.s.toList y.s.toList := by
  have h1 : cmpS x.s.toList y.s.toList ≠ 0 := fun e => hs (cmpS_zero.1 e)
  unfold lessT
  show decide (thenC (otop x y) _ < 0) = _
  unfold otop
  rw [hk, hN, hl, cmp3_self, cmp3_self, cmp3_self, thenC_pos, thenC_pos, thenC_pos, thenC_neg h1, Bool.eq_iff_iff, decide_eq_true_eq]
  exact cmpS_neg
theorem less_kids {n : Nat} {x y : TV} {a b : List (Tm n)} (h : stop x y = true) : lessT (n := n + 1) ((x, a) : TV × List (Tm n)) ((y, b) : TV × List (Tm n)) = decide (lexL ordT a b < 0) := by
  unfold lessT
  show decide (thenC (otop x y) (lexL ordT a b) < 0) = _
  rw [otop_zero.2 h, thenC_pos]

set_option maxRecDepth 100000 in
set_option maxHeartbeats 2000000 in
theorem rless_any : ∀ (n : Nat) (x y : Tm n) (w : World), IsT w.heap.size w x → IsT w.heap.size w y → okT x = true → okT y = true → Calls Tryz.prog 79 #[x.tv.val, y.tv.val] w fun e W' => e = .returned (.bool (lessT x y)) ∧ Below w.heap.size w W' := by
  intro n
  induction n with
  | zero => intro t; exact Empty.elim t
  | succ n ih =>
    intro x y w hx hy ox oy
    obtain ⟨⟨k, kN, s, a, len, cap⟩, kids⟩ := x
    obtain ⟨⟨k', kN', s', a', len', cap'⟩, kids'⟩ := y
    obtain ⟨hlen, hmax, hsm, hkids⟩ := hx
    obtain ⟨hlen', hmax', hsm', hkids'⟩ := hy
    obtain ⟨wx, okx⟩ := ok_kids ox
    obtain ⟨wy, oky⟩ := ok_kids oy
    simp only [Tm.tv, Tm.kids] at hlen hmax hsm hkids hlen' hmax' hsm' hkids' wx wy
    have HI := hide ih
    have HOX := hide okx
    have HOY := hide oky
    clear ih ox oy okx oky
    suffices key : ∀ r, lessT (n := n + 1) ((⟨k, kN, s, a, len, cap⟩, kids) : TV × List (Tm n)) ((⟨k', kN', s', a', len', cap'⟩, kids') : TV × List (Tm n)) = r → Calls Tryz.prog 79 #[.agg #[.int .i64 k, .int .i64 kN, .string s, .slice a len cap], .agg #[.int .i64 k', .int .i64 kN', .string s', .slice a' len' cap']] w fun e W' => e = .returned (.bool r) ∧ Below w.heap.size w W' from key _ rfl
    intro r hr
    by_cases hk : k = k'
    · subst hk
      by_cases hk12 : k = 1 ∨ k = 2
      · have hl0 : len = 0 ∧ s.toList = [] := by rcases hk12 with rfl | rfl <;> (simp [wmB] at wx; constructor <;> first | omega | exact wx.1.2 | exact wx.1)
        have hl0' : len' = 0 ∧ s'.toList = [] := by rcases hk12 with rfl | rfl <;> (simp [wmB] at wy; constructor <;> first | omega | exact wy.1.2 | exact wy.1)
        have hkn : kids = [] := List.length_eq_zero_iff.1 (by omega)
        have hkn' : kids' = [] := List.length_eq_zero_iff.1 (by omega)
        have hll : len = len' := by omega
        have hss : s.toList = s'.toList := by rw [hl0.2, hl0'.2]
        have e := less_num (x := ⟨k, kN, s, a, len, cap⟩) (y := ⟨k, kN', s', a', len', cap'⟩) (a := kids) (b := kids') rfl hll hss hkn hkn'
        rw [hr] at e
        simp only at e
        subst e
        clear hkn hkn' hll hss
        clear hkids hkids' HI HOX HOY wx wy hl0 hl0' hlen hlen' hr
        rcases hk12 with rfl | rfl
        all_goals
          go_enter Tryz.func79, Tryz.ntmps79
          go_wp2_with fail
          go_ret
          exact ⟨rfl, ((Below.refl _ w).alloc (Nat.le_refl _) _).alloc (by simp) _⟩
      · have hN : kN = kN' := by
          have h1 : kN = 0 := by
            unfold wmB at wx
            rw [if_neg (by omega), if_neg (by omega)] at wx
            split at wx
            · simp at wx; exact wx.1.1
            · split at wx
              · simp at wx; exact wx.1.1.1
              · cases wx
          have h2 : kN' = 0 := by
            unfold wmB at wy
            rw [if_neg (by omega), if_neg (by omega)] at wy
            split at wy
            · simp at wy; exact wy.1.1
            · split at wy
              · simp at wy; exact wy.1.1.1
              · cases wy
          omega
        have hk1 : (k == 1) = false := by simp; omega
        have hk2 : (k == 2) = false := by simp; omega
        subst hN
        clear wx wy hk12
        by_cases hl : len = len'
        · have hlx : ((len : Int) != (len' : Int)) = false := by simp; omega
          by_cases hs : s.toList = s'.toList
          · have hst : stop (⟨k, kN, s, a, len, cap⟩ : TV) ⟨k, kN, s', a', len', cap'⟩ = true := by simp [stop, hs, hl]
            have e := less_kids (x := ⟨k, kN, s, a, len, cap⟩) (y := ⟨k, kN, s', a', len', cap'⟩) (a := kids) (b := kids') hst
            rw [hr] at e
            subst e
            have hs' : (s.toList == s'.toList) = true := by simp [hs]
            have hl1 : len ≤ kids.length := by omega
            have hl2 : kids.length ≤ len := by omega
            have hl3 : len ≤ kids'.length := by omega
            have hl4 : kids'.length ≤ len := by omega
            have hl5 : (len : Int) ≤ len' := by omega
            clear hlen hlen' hl hr hs hst
            go_enter Tryz.func79, Tryz.ntmps79
            go_wp2_with fail
            obtain ⟨W1, hW1⟩ : ∃ W1, (w.alloc (.cells #[.int .i64 k, .int .i64 kN, .string s, .slice a len cap] 24)).alloc (.cells #[.int .i64 k, .int .i64 kN, .string s', .slice a' len' cap'] 24) = W1 := ⟨_, rfl⟩
            have hBB := Below.refl ((w.alloc (.cells #[.int .i64 k, .int .i64 kN, .string s, .slice a len cap] 24)).alloc (.cells #[.int .i64 k, .int .i64 kN, .string s', .slice a' len' cap'] 24)).heap.size ((w.alloc (.cells #[.int .i64 k, .int .i64 kN, .string s, .slice a len cap] 24)).alloc (.cells #[.int .i64 k, .int .i64 kN, .string s', .slice a' len' cap'] 24))
            obtain ⟨⟨hb1, hzz⟩, hcc, hcd⟩ := two_boxes hBB
            clear hBB
            rw [hW1] at hb1 hzz hcc hcd ⊢
            clear hW1
            go_loopw [5] (fun i wr => ∃ j : Nat, j ≤ len ∧ i = .int .i64 j ∧ lexL ordT (kids.take j) (kids'.take j) = 0 ∧ Below W1.heap.size W1 wr) (fun i _ => len - (intOf i).toNat)
            case atStart => exact ⟨0, Nat.zero_le _, rfl, by simp [lexL], Below.refl _ _⟩
            case round =>
              obtain ⟨j, hj, rfl, ho, hb⟩ := hrel
              have hbw : Below w.heap.size w wr := hb1.trans (hb.mono (by omega))
              have HO := hide ho
              clear ho
              replace hcc := (hb.cell (p := ⟨w.heap.size, 3, none⟩) (by simp; omega)).trans hcc
              replace hcd := (hb.cell (p := ⟨w.heap.size + 1, 3, none⟩) (by simp; omega)).trans hcd
              by_cases hlt : j < len
              · obtain ⟨u, b, off, hu, rfl, ⟨c0, c1, c2, c3⟩, hT, hbk⟩ := kid_at hkids hbw hlt hl1
                obtain ⟨v, b', off', hv, rfl, ⟨d0, d1, d2, d3⟩, hT', hbk'⟩ := kid_at hkids' hbw hlt hl3
                have hj1 : (j : Int) < len := by omega
                have hj2 : (j : Int) < len' := by omega
                have hsame : Calls Tryz.prog 41 #[.agg #[.int .i64 u.tv.k, .int .i64 u.tv.N, .string u.tv.s, .slice u.tv.a u.tv.len u.tv.cap], .agg #[.int .i64 v.tv.k, .int .i64 v.tv.N, .string v.tv.s, .slice v.tv.a v.tv.len v.tv.cap]] wr.drew fun e W2 => e = .returned (.bool (sameT u v)) ∧ Below wr.heap.size wr W2 :=
                  (same_any n u v wr.drew (hT.below (Below.refl _ wr).drew) (hT'.below (Below.refl _ wr).drew)).mono fun e W2 h => ⟨h.1, (Below.refl _ wr).drew.trans h.2⟩
                have hless : ∀ W2, Below wr.heap.size wr W2 → Calls Tryz.prog 79 #[.agg #[.int .i64 u.tv.k, .int .i64 u.tv.N, .string u.tv.s, .slice u.tv.a u.tv.len u.tv.cap], .agg #[.int .i64 v.tv.k, .int .i64 v.tv.N, .string v.tv.s, .slice v.tv.a v.tv.len v.tv.cap]] W2.drew fun e W3 => e = .returned (.bool (lessT u v)) ∧ Below W2.heap.size W2 W3 := fun W2 h2 =>
                  ((unhide HI) u v W2.drew ((hT.below h2.drew).mono h2.drew.size) ((hT'.below h2.drew).mono h2.drew.size) ((unhide HOX) u (List.mem_of_getElem? hu)) ((unhide HOY) v (List.mem_of_getElem? hv))).mono fun e W3 h => ⟨h.1, (Below.refl _ W2).drew.trans h.2⟩
                have hy1 : w.heap.size < wr.heap.size := by have := hb.size; omega
                have hy2 : w.heap.size + 1 < wr.heap.size := by have := hb.size; omega
                have hy3 : b < wr.heap.size := by omega
                have hy4 : b' < wr.heap.size := by omega
                have hstop : sameT u v = false → decide (lexL ordT kids kids' < 0) = lessT u v := fun h => by
                  have hne : ordT u v ≠ 0 := fun e => by rw [(ord_zero u v).1 e] at h; cases h
                  rw [lexL_stop kids kids' j u v hu hv (unhide HO) hne]; rfl
                have hnext : sameT u v = true → lexL ordT (kids.take (j + 1)) (kids'.take (j + 1)) = 0 := fun h => lexL_next kids kids' j u v hu hv (unhide HO) ((ord_zero u v).2 h)
                clear hkids hkids' hT hT' hu hv
                generalize sameT u v = d at *
                generalize lessT u v = q at *
                have HN := hide hnext
                have HS := hide hstop
                have HL := hide hless
                clear hnext hstop hless
                cases d with
                | true =>
                  go_wp2_with fail
                  go_region_held3 (fun w' => w'.cell? ⟨w.heap.size, 3, none⟩ = some (.slice (some ⟨b, off, none⟩) len cap) ∧ w'.cell? ⟨w.heap.size + 1, 3, none⟩ = some (.slice (some ⟨b', off', none⟩) len' cap')
                  ∧ w'.cell? ⟨b, off + j * 4, none⟩ = some (.int .i64 u.tv.k) ∧ w'.cell? ⟨b, off + j * 4 + 1, none⟩ = some (.int .i64 u.tv.N) ∧ w'.cell? ⟨b, off + j * 4 + 2, none⟩ = some (.string u.tv.s) ∧ w'.cell? ⟨b, off + j * 4 + 3, none⟩ = some (.slice u.tv.a u.tv.len u.tv.cap)
                  ∧ w'.cell? ⟨b', off' + j * 4, none⟩ = some (.int .i64 v.tv.k) ∧ w'.cell? ⟨b', off' + j * 4 + 1, none⟩ = some (.int .i64 v.tv.N) ∧ w'.cell? ⟨b', off' + j * 4 + 2, none⟩ = some (.string v.tv.s) ∧ w'.cell? ⟨b', off' + j * 4 + 3, none⟩ = some (.slice v.tv.a v.tv.len v.tv.cap)) (go_keep)
                    (first | (go_at_call 41; refine hsame.mono ?_; clear hsame; rintro e W2 ⟨rfl, hb2⟩; have hbc := bcell hb2))
                  go_wp2_with fail
                  go_roundw
                  case rel => exact ⟨j + 1, by omega, by go_num, (unhide HN) (by simp), hb.trans (hb2.mono hb.size)⟩
                  case measure => simp [intOf]; omega
                | false =>
                  go_wp2_with fail
                  go_region_held3 (fun w' => w'.cell? ⟨w.heap.size, 3, none⟩ = some (.slice (some ⟨b, off, none⟩) len cap) ∧ w'.cell? ⟨w.heap.size + 1, 3, none⟩ = some (.slice (some ⟨b', off', none⟩) len' cap')
                  ∧ w'.cell? ⟨b, off + j * 4, none⟩ = some (.int .i64 u.tv.k) ∧ w'.cell? ⟨b, off + j * 4 + 1, none⟩ = some (.int .i64 u.tv.N) ∧ w'.cell? ⟨b, off + j * 4 + 2, none⟩ = some (.string u.tv.s) ∧ w'.cell? ⟨b, off + j * 4 + 3, none⟩ = some (.slice u.tv.a u.tv.len u.tv.cap)
                  ∧ w'.cell? ⟨b', off' + j * 4, none⟩ = some (.int .i64 v.tv.k) ∧ w'.cell? ⟨b', off' + j * 4 + 1, none⟩ = some (.int .i64 v.tv.N) ∧ w'.cell? ⟨b', off' + j * 4 + 2, none⟩ = some (.string v.tv.s) ∧ w'.cell? ⟨b', off' + j * 4 + 3, none⟩ = some (.slice v.tv.a v.tv.len v.tv.cap)) (go_keep)
                    (first | (go_at_call 41; refine hsame.mono ?_; clear hsame; rintro e W2 ⟨rfl, hb2⟩; have hbc := bcell hb2))
                  have hls := (unhide HL) W2 hb2
                  have hz2 := hb2.size
                  have e1 : W2.cell? ⟨w.heap.size, 3, none⟩ = some (.slice (some ⟨b, off, none⟩) len cap) := (hbc _ _ hy1).trans hcc
                  have e2 : W2.cell? ⟨w.heap.size + 1, 3, none⟩ = some (.slice (some ⟨b', off', none⟩) len' cap') := (hbc _ _ hy2).trans hcd
                  have f0 := (hbc b (off + j * 4) hy3).trans c0
                  have f1 := (hbc b (off + j * 4 + 1) hy3).trans c1
                  have f2 := (hbc b (off + j * 4 + 2) hy3).trans c2
                  have f3 := (hbc b (off + j * 4 + 3) hy3).trans c3
                  have g0 := (hbc b' (off' + j * 4) hy4).trans d0
                  have g1 := (hbc b' (off' + j * 4 + 1) hy4).trans d1
                  have g2 := (hbc b' (off' + j * 4 + 2) hy4).trans d2
                  have g3 := (hbc b' (off' + j * 4 + 3) hy4).trans d3
                  have hq1 : w.heap.size < W2.heap.size := by omega
                  have hq2 : w.heap.size + 1 < W2.heap.size := by omega
                  have hq3 : b < W2.heap.size := by omega
                  have hq4 : b' < W2.heap.size := by omega
                  clear hbc
                  go_wp2_with fail
                  go_region_held3 (fun w' => w'.cell? ⟨w.heap.size, 3, none⟩ = some (.slice (some ⟨b, off, none⟩) len cap) ∧ w'.cell? ⟨w.heap.size + 1, 3, none⟩ = some (.slice (some ⟨b', off', none⟩) len' cap')
                  ∧ w'.cell? ⟨b, off + j * 4, none⟩ = some (.int .i64 u.tv.k) ∧ w'.cell? ⟨b, off + j * 4 + 1, none⟩ = some (.int .i64 u.tv.N) ∧ w'.cell? ⟨b, off + j * 4 + 2, none⟩ = some (.string u.tv.s) ∧ w'.cell? ⟨b, off + j * 4 + 3, none⟩ = some (.slice u.tv.a u.tv.len u.tv.cap)
                  ∧ w'.cell? ⟨b', off' + j * 4, none⟩ = some (.int .i64 v.tv.k) ∧ w'.cell? ⟨b', off' + j * 4 + 1, none⟩ = some (.int .i64 v.tv.N) ∧ w'.cell? ⟨b', off' + j * 4 + 2, none⟩ = some (.string v.tv.s) ∧ w'.cell? ⟨b', off' + j * 4 + 3, none⟩ = some (.slice v.tv.a v.tv.len v.tv.cap)) (go_keep)
                    (first | (go_at_call 79; refine hls.mono ?_; clear hls; rintro e W3 ⟨rfl, hb3⟩; have hbd := bcell hb3))
                  go_wp2_with fail
                  go_ret
                  exact ⟨ret_bool ((unhide HS) (by simp)).symm, hbw.trans ((hb2.trans (hb3.mono hz2)).mono hbw.size)⟩
              · have ht : kids.take j = kids := List.take_of_length_le (by omega)
                have ht' : kids'.take j = kids' := List.take_of_length_le (by omega)
                have hz : lexL ordT kids kids' = 0 := by have h := unhide HO; rw [ht, ht'] at h; exact h
                have HZ := hide hz
                clear ht ht' hkids hkids' hz
                go_wp2_with fail
                go_ret
                exact ⟨ret_bool (by rw [unhide HZ]; rfl), hbw⟩
          · have e := less_name (x := ⟨k, kN, s, a, len, cap⟩) (y := ⟨k, kN, s', a', len', cap'⟩) (a := kids) (b := kids') rfl rfl hl hs
            rw [hr] at e
            simp only at e
            subst e
            have hs' : (s.toList == s'.toList) = false := by simp [hs]
            clear hkids hkids' HI HOX HOY hlen hlen' hl hr hs
            go_enter Tryz.func79, Tryz.ntmps79
            go_wp2_with fail
            go_ret
            exact ⟨rfl, ((Below.refl _ w).alloc (Nat.le_refl _) _).alloc (by simp) _⟩
        · have hlx : ((len : Int) != (len' : Int)) = true := by simp; omega
          have e := less_len (x := ⟨k, kN, s, a, len, cap⟩) (y := ⟨k, kN, s', a', len', cap'⟩) (a := kids) (b := kids') rfl rfl hl
          rw [hr] at e
          simp only at e
          subst e
          clear hkids hkids' HI HOX HOY hlen hlen' hl hr
          go_enter Tryz.func79, Tryz.ntmps79
          go_wp2_with fail
          go_ret
          exact ⟨rfl, ((Below.refl _ w).alloc (Nat.le_refl _) _).alloc (by simp) _⟩
    · have hk' : (k != k') = true := by simp [hk]
      have e := less_kind (x := ⟨k, kN, s, a, len, cap⟩) (y := ⟨k', kN', s', a', len', cap'⟩) (a := kids) (b := kids') hk
      rw [hr] at e
      simp only at e
      subst e
      clear hkids hkids' HI HOX HOY wx wy hlen hlen' hk hr
      go_enter Tryz.func79, Tryz.ntmps79
      go_wp2_with fail
      go_ret
      exact ⟨rfl, ((Below.refl _ w).alloc (Nat.le_refl _) _).alloc (by simp) _⟩

set_option maxRecDepth 100000 in
set_option maxHeartbeats 1000000 in
theorem rcompare_any {n : Nat} (x y : Tm n) (w : World) (hx : IsT w.heap.size w x) (hy : IsT w.heap.size w y) (ox : okT x = true) (oy : okT y = true) :
    Calls Tryz.prog 45 #[x.tv.val, y.tv.val] w fun e W' => e = .returned (.int .i64 (ordT x y)) ∧ Below w.heap.size w W' := by
  have hr := (isCmp_ord n).range x y
  have ha := (isCmp_ord n).anti x y
  obtain ⟨W2, hW2, hB2, hba, hbb, hsz⟩ := two_new w x.tv y.tv
  have h1 := rless_any n x y W2 ((hx.below hB2).mono hB2.size) ((hy.below hB2).mono hB2.size) ox oy
  have h2 := fun (W : World) (hb : Below w.heap.size w W) => rless_any n y x W ((hy.below hb).mono hb.size) ((hx.below hb).mono hb.size) oy ox
  unfold lessT at h1 h2
  have c0 := hba.c0
  have c1 := hba.c1
  have c2 := hba.c2
  have c3 := hba.c3
  have d0 := hbb.c0
  have d1 := hbb.c1
  have d2 := hbb.c2
  have d3 := hbb.c3
  generalize ordT x y = r at *
  generalize ordT y x = q at *
  have HH2 := hide h2
  clear hx hy ox oy h2
  simp only [TV.val] at h1 HH2 ⊢
  go_enter Tryz.func45, Tryz.ntmps45
  go_wp2_with fail
  refine h1.mono ?_
  clear h1 c0 c1 c2 c3 d0 d1 d2 d3 hW2
  rintro e W3 ⟨rfl, hb3⟩
  have hB3 : Below w.heap.size w W3 := hB2.trans (hb3.mono hB2.size)
  have hba3 : BoxT W3 w.heap.size x.tv := (hb3.block _ (by omega)).trans hba
  have hbb3 : BoxT W3 (w.heap.size + 1) y.tv := (hb3.block _ (by omega)).trans hbb
  have c0 := hba3.c0
  have c1 := hba3.c1
  have c2 := hba3.c2
  have c3 := hba3.c3
  have d0 := hbb3.c0
  have d1 := hbb3.c1
  have d2 := hbb3.c2
  have d3 := hbb3.c3
  have hl2 := (unhide HH2) W3 hB3
  clear hba hbb hba3 hbb3 hb3 hB2
  by_cases hr0 : r < 0
  · have hd : decide (r < 0) = true := decide_eq_true hr0
    obtain rfl : r = -1 := by omega
    clear hl2
    go_wp2_with fail
    go_ret
    exact ⟨rfl, hB3⟩
  · have hd : decide (r < 0) = false := decide_eq_false hr0
    by_cases hq0 : q < 0
    · have hqd : decide (q < 0) = true := decide_eq_true hq0
      obtain rfl : r = 1 := by omega
      rw [hqd] at hl2
      go_wp2_with fail
      refine hl2.mono ?_
      clear hl2
      rintro e W4 ⟨rfl, hb4⟩
      have hB4 := hB3.trans (hb4.mono hB3.size)
      go_wp2_with fail
      go_ret
      exact ⟨rfl, hB4⟩
    · have hqd : decide (q < 0) = false := decide_eq_false hq0
      obtain rfl : r = 0 := by omega
      rw [hqd] at hl2
      go_wp2_with fail
      refine hl2.mono ?_
      clear hl2
      rintro e W4 ⟨rfl, hb4⟩
      have hB4 := hB3.trans (hb4.mono hB3.size)
      go_wp2_with fail
      go_ret
      exact ⟨rfl, hB4⟩
end Go.Proofs.YtcjeeagnfmipgaaGreatDoor

