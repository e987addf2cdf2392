import Derived.Test.YtcjeeagnfmipgaaGreatDoorVa
import Derived.Test.YtcjeeagnfmipgaaGreatDoorSws
/- The contract of hornref.Variant: two terms are variants just if, numbered from 0 on, they are the same. -/
namespace Go.Proofs.YtcjeeagnfmipgaaGreatDoor
open Go.RowKit Go.Shelf Go.Maps

/-- A row of parts lies in the world. -/
structure PartRow (W : World) (g : Nat) (l : List TV) : Prop where
  lt : g < W.heap.size
  cells : ∀ (j : Nat) x, l[j]? = some x → cellsAt W g (j * 4) x
theorem PartRow.on {W W' : World} {g : Nat} {l : List TV} (h : PartRow W g l) (hb : Below W.heap.size W W') : PartRow W' g l :=
  ⟨Nat.lt_of_lt_of_le h.lt hb.size, fun j x hx => (h.cells j x hx).kept (hb.block g h.lt)⟩
theorem owns_partRow {W : World} {base : Nat} {v : Value} {l : List TV} (h : W.ownsRow base 24 4 v l.length (l.flatMap TV.row)) (h1 : 1 ≤ l.length) : ∃ g cap, v = .slice (some ⟨g, 0, none⟩) l.length cap ∧ PartRow W g l := by
  rcases owns_cells h with ⟨_, hn⟩ | ⟨g, cap, hv, _, hlt, hc⟩
  · subst hn; simp at h1
  · exact ⟨g, cap, hv, hlt, hc⟩
/-- What VarAt says of parts' cells. -/
def likeV (x y : TV) : Prop := x.k = y.k ∧ x.s.toList = y.s.toList ∧ x.len = y.len ∧ (x.k ≠ 1 → x.N = y.N)
def pairV (x y x' y' : TV) : Prop := x.k = 1 → x'.k = 1 → (x.N = x'.N ↔ y.N = y'.N)
def AtV (p q : List TV) (i : Nat) : Prop := ∀ x y, p[i]? = some x → q[i]? = some y → likeV x y ∧ ∀ (j : Nat) x' y', p[j]? = some x' → q[j]? = some y' → j < i → pairV x y x' y'
theorem atV_varAt {p q : List TV} {i : Nat} (h : AtV p q i) : VarAt (p.map TV.nd) (q.map TV.nd) i := by
  intro x y hx hy
  rw [List.getElem?_map] at hx hy
  obtain ⟨x0, hx0, rfl⟩ := Option.map_eq_some_iff.1 hx
  obtain ⟨y0, hy0, rfl⟩ := Option.map_eq_some_iff.1 hy
  obtain ⟨h1, h2⟩ := h x0 y0 hx0 hy0
  refine ⟨h1, fun j x' y' hx' hy' hj => ?_⟩
  rw [List.getElem?_map] at hx' hy'
  obtain ⟨x1, hx1, rfl⟩ := Option.map_eq_some_iff.1 hx'
  obtain ⟨y1, hy1, rfl⟩ := Option.map_eq_some_iff.1 hy'
  exact h2 j x1 y1 hx1 hy1 hj
theorem varAt_atV {p q : List TV} {i : Nat} (h : VarAt (p.map TV.nd) (q.map TV.nd) i) : AtV p q i := by
  intro x y hx hy
  obtain ⟨h1, h2⟩ := h x.nd y.nd (by rw [List.getElem?_map, hx]; rfl) (by rw [List.getElem?_map, hy]; rfl)
  exact ⟨h1, fun j x' y' hx' hy' hj => h2 j x'.nd y'.nd (by rw [List.getElem?_map, hx']; rfl) (by rw [List.getElem?_map, hy']; rfl) hj⟩

set_option maxRecDepth 100000 in
set_option maxHeartbeats 4000000 in
theorem rvariant_any {n : Nat} (x y : Tm n) (w : World) (hx : IsT w.heap.size w x) (hy : IsT w.heap.size w y) (ox : okT x = true) (oy : okT y = true) (lx : (parts x).length ≤ 4194304) (ly : (parts y).length ≤ 4194304) :
    Calls Tryz.prog 46 #[x.tv.val, y.tv.val] w fun e W' => e = .returned (.bool (decide (canon 0 (code x) = canon 0 (code y)))) ∧ Below w.heap.size w W' := by
  have okx : okC (code x) := by unfold okC; rw [← okT_code]; exact ox
  have oky : okC (code y) := by unfold okC; rw [← okT_code]; exact oy
  have hyes : (parts x).length = (parts y).length → (∀ i, AtV (parts x) (parts y) i) → decide (canon 0 (code x) = canon 0 (code y)) = true := fun h1 h2 =>
    decide_eq_true (variant_canon oky ⟨by simpa [code] using h1, fun i => atV_varAt (h2 i)⟩)
  have hno : ∀ i, ¬ AtV (parts x) (parts y) i → decide (canon 0 (code x) = canon 0 (code y)) = false := fun i h =>
    decide_eq_false fun e => h (varAt_atV ((canon_variant okx oky e).2 i))
  have hnl : (parts x).length ≠ (parts y).length → decide (canon 0 (code x) = canon 0 (code y)) = false := fun h =>
    decide_eq_false fun e => h (by simpa [code] using (canon_variant okx oky e).1)
  obtain ⟨W1, hW1, hB1, hba, hbb, hsz⟩ := two_new w x.tv y.tv
  have hF : Calls Tryz.prog 36 #[x.tv.val] W1.drew fun e W2 => ∃ g c, e = .returned (.slice (some ⟨g, 0, none⟩) (parts x).length c) ∧ Below W1.heap.size W1 W2 ∧ Calls Tryz.prog 36 #[y.tv.val] W2 fun e W3 => ∃ g' c', e = .returned (.slice (some ⟨g', 0, none⟩) (parts y).length c') ∧ Below W1.heap.size W1 W3 ∧ PartRow W3 g (parts x) ∧ PartRow W3 g' (parts y) := by
    have hx1 : IsT W1.drew.heap.size W1.drew x := (hx.below hB1.drew).mono hB1.drew.size
    refine (flat_any n x W1.drew hx1 (by omega)).mono fun e W2 h => ?_
    obtain ⟨v, he, hb2, hown⟩ := h
    obtain ⟨g, c, rfl, hr⟩ := owns_partRow hown (parts_pos x)
    have hb12 : Below W1.heap.size W1 W2 := (Below.refl _ W1).drew.trans hb2
    refine ⟨g, c, he, hb12, ?_⟩
    have hB2 := hB1.trans (hb12.mono hB1.size)
    refine (flat_any n y W2 ((hy.below hB2).mono hB2.size) (by omega)).mono fun e W3 h => ?_
    obtain ⟨v', he', hb3, hown'⟩ := h
    obtain ⟨g', c', rfl, hr'⟩ := owns_partRow hown' (parts_pos y)
    exact ⟨g', c', he', hb12.trans (hb3.mono hb12.size), hr.on hb3, hr'⟩
  have c0 := hba.c0
  have c1 := hba.c1
  have c2 := hba.c2
  have c3 := hba.c3
  have d0 := hbb.c0
  have d1 := hbb.c1
  have d2 := hbb.c2
  have d3 := hbb.c3
  have hy1 : w.heap.size < W1.heap.size := hba.lt
  have hy2 : w.heap.size + 1 < W1.heap.size := hbb.lt
  have HB1 := hide hB1
  have HYES := hide hyes
  have HNO := hide hno
  have HNL := hide hnl
  generalize decide (canon 0 (code x) = canon 0 (code y)) = res at *
  generalize parts x = p at *
  generalize parts y = q at *
  simp only [TV.val] at hF ⊢
  clear hx hy ox oy okx oky hyes hno hnl hba hbb hB1 hsz
  go_enter Tryz.func46, Tryz.ntmps46
  go_wp2_with fail
  clear hW1
  go_region_held3 (fun w' => w'.cell? ⟨w.heap.size, 0, none⟩ = some (.int .i64 x.tv.k) ∧ w'.cell? ⟨w.heap.size, 1, none⟩ = some (.int .i64 x.tv.N) ∧ w'.cell? ⟨w.heap.size, 2, none⟩ = some (.string x.tv.s) ∧ w'.cell? ⟨w.heap.size, 3, none⟩ = some (.slice x.tv.a x.tv.len x.tv.cap)
      ∧ w'.cell? ⟨w.heap.size + 1, 0, none⟩ = some (.int .i64 y.tv.k) ∧ w'.cell? ⟨w.heap.size + 1, 1, none⟩ = some (.int .i64 y.tv.N) ∧ w'.cell? ⟨w.heap.size + 1, 2, none⟩ = some (.string y.tv.s) ∧ w'.cell? ⟨w.heap.size + 1, 3, none⟩ = some (.slice y.tv.a y.tv.len y.tv.cap)) (go_keep)
    (first | (go_at_call 36; refine hF.mono ?_; clear hF; rintro e W2 ⟨g, cp, rfl, hb2, hG⟩; have hbc := bcell hb2) | (go_at_call 36; refine hG.mono ?_; clear hG; rintro e W3 ⟨g', cp', rfl, hb3, hr, hr'⟩; have hbd := bcell hb3))
  have hB3 : Below w.heap.size w W3 := (unhide HB1).trans (hb3.mono (unhide HB1).size)
  have HB3 := hide hB3
  have HR := hide hr
  have HR' := hide hr'
  clear c0 c1 c2 c3 d0 d1 d2 d3 hbc hbd hb2 hb3 hr hr' hB3 hy1 hy2
  by_cases hpq : p.length = q.length
  · have hlx : ((p.length : Int) != (q.length : Int)) = false := by simp [hpq]
    have hl1 : p.length ≤ q.length := by omega
    have hl2 : q.length ≤ p.length := by omega
    have HYES2 := hide ((unhide HYES) hpq)
    clear hpq HYES HNL
    go_wp2_with fail
    go_loopw [7] (fun i wr => ∃ j : Nat, j ≤ p.length ∧ i = .int .i64 j ∧ (∀ i, i < j → AtV p q i) ∧ Below W3.heap.size W3 wr) (fun i _ => p.length - (intOf i).toNat)
    case atStart => exact ⟨0, Nat.zero_le _, rfl, fun i h => by omega, Below.refl _ _⟩
    case round =>
      obtain ⟨j, hj, rfl, ho, hb⟩ := hrel
      have hbw : Below w.heap.size w wr := (unhide HB3).trans (hb.mono (unhide HB3).size)
      have HO := hide ho
      have HBW := hide hbw
      clear ho hbw
      by_cases hlt : j < p.length
      · obtain ⟨xi, hxi⟩ : ∃ z, p[j]? = some z := ⟨p[j], List.getElem?_eq_getElem hlt⟩
        obtain ⟨yi, hyi⟩ : ∃ z, q[j]? = some z := ⟨q[j]'(by omega), List.getElem?_eq_getElem (by omega)⟩
        obtain ⟨c0, c1, c2, c3⟩ := ((unhide HR).on hb).cells j xi hxi
        obtain ⟨d0, d1, d2, d3⟩ := ((unhide HR').on hb).cells j yi hyi
        have hj1 : (j : Int) < p.length := by omega
        have hj2 : (j : Int) < q.length := by omega
        have HXI := hide hxi
        have HYI := hide hyi
        clear hxi hyi
        have hbd : Below w.heap.size w wr.drew := (unhide HBW).drew
        have hfalse : ¬ likeV xi yi → res = false := fun h => (unhide HNO) j fun hv => h (hv xi yi (unhide HXI) (unhide HYI)).1
        have HFA := hide hfalse
        clear hfalse
        by_cases hk : xi.k = yi.k
        · have hk' : (xi.k != yi.k) = false := by simp [hk]
          by_cases hs : xi.s.toList = yi.s.toList
          · have hs' : (xi.s.toList == yi.s.toList) = true := by simp [hs]
            by_cases hl : xi.len = yi.len
            · have hl' : ((xi.len : Int) != (yi.len : Int)) = false := by simp [hl]
              by_cases hk1 : xi.k = 1
              · have hk1' : (xi.k != 1) = false := by simp [hk1]
                have hk1e : (xi.k == 1) = true := by simp [hk1]
                have hlk : likeV xi yi := ⟨hk, hs, hl, fun h => (h hk1).elim⟩
                have HLK := hide hlk
                have HK1 := hide hk1
                have hb3d : Below W3.heap.size W3 wr.drew.drew := hb.drew.drew
                clear hk hs hl hk1 hlk
                go_wp2_with fail
                go_region
                go_wp2_with fail
                go_region
                go_wp2_with fail
                go_loopw [8] (fun i2 wr2 => ∃ m : Nat, m ≤ j ∧ i2 = .int .i64 m ∧ (∀ (i : Nat) x' y', p[i]? = some x' → q[i]? = some y' → i < m → pairV xi yi x' y') ∧ Below W3.heap.size W3 wr2) (fun i2 _ => j - (intOf i2).toNat)
                case atStart => exact ⟨0, Nat.zero_le _, rfl, fun i x' y' _ _ h => by omega, hb3d⟩
                case round =>
                  obtain ⟨m, hm, rfl, hpo, hb2⟩ := hrel
                  have HPO := hide hpo
                  clear hpo
                  by_cases hmj : m < j
                  · obtain ⟨xm, hxm⟩ : ∃ z, p[m]? = some z := ⟨p[m]'(by omega), List.getElem?_eq_getElem (by omega)⟩
                    obtain ⟨ym, hym⟩ : ∃ z, q[m]? = some z := ⟨q[m]'(by omega), List.getElem?_eq_getElem (by omega)⟩
                    obtain ⟨c0, c1, c2, c3⟩ := ((unhide HR).on hb2).cells j xi (unhide HXI)
                    obtain ⟨d0, d1, d2, d3⟩ := ((unhide HR').on hb2).cells j yi (unhide HYI)
                    obtain ⟨e0, e1, e2, e3⟩ := ((unhide HR).on hb2).cells m xm hxm
                    obtain ⟨f0, f1, f2, f3⟩ := ((unhide HR').on hb2).cells m ym hym
                    have hm1 : (m : Int) < p.length := by omega
                    have hm2 : (m : Int) < q.length := by omega
                    have hm3 : (m : Int) < j := by omega
                    have hb2d := hb2.drew
                    have hbwd := (unhide HB3).trans (hb2d.mono (unhide HB3).size)
                    have hnx : pairV xi yi xm ym → ∀ (i : Nat) x' y', p[i]? = some x' → q[i]? = some y' → i < m + 1 → pairV xi yi x' y' := fun hp i x' y' hx' hy' hi => by
                      by_cases e : i = m
                      · subst e; rw [hxm] at hx'; rw [hym] at hy'; cases hx'; cases hy'; exact hp
                      · exact (unhide HPO) i x' y' hx' hy' (by omega)
                    have hst : ¬ pairV xi yi xm ym → res = false := fun h => (unhide HNO) j fun hv => h ((hv xi yi (unhide HXI) (unhide HYI)).2 m xm ym hxm hym hmj)
                    have HNX := hide hnx
                    have HST := hide hst
                    clear hxm hym hnx hst c3 d3 e3 f3 c2 d2 e2 f2
                    by_cases hkm : xm.k = 1
                    · have hkm' : (xm.k == 1) = true := by simp [hkm]
                      have HKM := hide hkm
                      clear hkm
                      by_cases hn : xi.N = xm.N
                      · have hn' : (xi.N == xm.N) = true := by simp [hn]
                        by_cases hn2 : yi.N = ym.N
                        · have hn2' : (yi.N == ym.N) = true := by simp [hn2]
                          have hpp : pairV xi yi xm ym := fun _ _ => ⟨fun _ => hn2, fun _ => hn⟩
                          have HPP := hide hpp
                          clear hn hn2 hpp
                          go_wp2_with fail
                          go_region
                          go_wp2_with fail
                          go_roundw
                          case rel => exact ⟨m + 1, by omega, by go_num, (unhide HNX) (unhide HPP), hb2d⟩
                          case measure => simp [intOf]; omega
                        · have hn2' : (yi.N == ym.N) = false := by simp [hn2]
                          have hpp : ¬ pairV xi yi xm ym := fun h => hn2 ((h (unhide HK1) (unhide HKM)).1 hn)
                          clear hn hn2
                          have hre := (unhide HST) (hpp)
                          have HRE := hide hre
                          clear hre hpp
                          go_wp2_with fail
                          go_region
                          go_wp2_with fail
                          go_ret
                          exact ⟨ret_bool (unhide HRE).symm, hbwd⟩
                      · have hn' : (xi.N == xm.N) = false := by simp [hn]
                        by_cases hn2 : yi.N = ym.N
                        · have hn2' : (yi.N == ym.N) = true := by simp [hn2]
                          have hpp : ¬ pairV xi yi xm ym := fun h => hn ((h (unhide HK1) (unhide HKM)).2 hn2)
                          clear hn hn2
                          have hre := (unhide HST) (hpp)
                          have HRE := hide hre
                          clear hre hpp
                          go_wp2_with fail
                          go_region
                          go_wp2_with fail
                          go_ret
                          exact ⟨ret_bool (unhide HRE).symm, hbwd⟩
                        · have hn2' : (yi.N == ym.N) = false := by simp [hn2]
                          have hpp : pairV xi yi xm ym := fun _ _ => ⟨fun h => (hn h).elim, fun h => (hn2 h).elim⟩
                          have HPP := hide hpp
                          clear hn hn2 hpp
                          go_wp2_with fail
                          go_region
                          go_wp2_with fail
                          go_roundw
                          case rel => exact ⟨m + 1, by omega, by go_num, (unhide HNX) (unhide HPP), hb2d⟩
                          case measure => simp [intOf]; omega
                    · have hkm' : (xm.k == 1) = false := by simp [hkm]
                      have hpp : pairV xi yi xm ym := fun _ h => (hkm h).elim
                      have HPP := hide hpp
                      clear hkm hpp
                      go_wp2_with fail
                      go_region
                      go_wp2_with fail
                      go_roundw
                      case rel => exact ⟨m + 1, by omega, by go_num, (unhide HNX) (unhide HPP), hb2d⟩
                      case measure => simp [intOf]; omega
                  · have hall : ∀ i, i < j + 1 → AtV p q i := fun i hi => by
                      by_cases e : i = j
                      · subst e
                        intro z z' hz hz'
                        rw [unhide HXI] at hz; rw [unhide HYI] at hz'; cases hz; cases hz'
                        exact ⟨unhide HLK, fun i2 x' y' hx' hy' h2 => (unhide HPO) i2 x' y' hx' hy' (by omega)⟩
                      · exact (unhide HO) i (by omega)
                    have HALL := hide hall
                    have hmj' : ¬ (m : Int) < (j : Int) := by omega
                    clear hall
                    go_wp2_with fail
                    exact ⟨⟨j + 1, by omega, by go_num, unhide HALL, hb2⟩, by simp [intOf]; omega⟩
              · have hk1' : (xi.k != 1) = true := by simp [hk1]
                have hk1e : (xi.k == 1) = false := by simp [hk1]
                by_cases hN : xi.N = yi.N
                · have hN' : (xi.N != yi.N) = false := by simp [hN]
                  have hlk : likeV xi yi := ⟨hk, hs, hl, fun _ => hN⟩
                  have HLK := hide hlk
                  have hkn : ∀ _ : xi.k = 1, False := fun h => hk1 h
                  have HKN := hide hkn
                  have hb3d : Below W3.heap.size W3 wr.drew.drew := hb.drew.drew
                  clear hk hs hl hk1 hlk hN hkn
                  go_wp2_with fail
                  go_region
                  go_wp2_with fail
                  go_region
                  go_wp2_with fail
                  go_loopw [8] (fun i2 wr2 => ∃ m : Nat, m ≤ j ∧ i2 = .int .i64 m ∧ (∀ (i : Nat) x' y', p[i]? = some x' → q[i]? = some y' → i < m → pairV xi yi x' y') ∧ Below W3.heap.size W3 wr2) (fun i2 _ => j - (intOf i2).toNat)
                  case atStart => exact ⟨0, Nat.zero_le _, rfl, fun i x' y' _ _ h => by omega, hb3d⟩
                  case round =>
                    obtain ⟨m, hm, rfl, hpo, hb2⟩ := hrel
                    have HPO := hide hpo
                    clear hpo
                    by_cases hmj : m < j
                    · obtain ⟨xm, hxm⟩ : ∃ z, p[m]? = some z := ⟨p[m]'(by omega), List.getElem?_eq_getElem (by omega)⟩
                      obtain ⟨ym, hym⟩ : ∃ z, q[m]? = some z := ⟨q[m]'(by omega), List.getElem?_eq_getElem (by omega)⟩
                      obtain ⟨c0, c1, c2, c3⟩ := ((unhide HR).on hb2).cells j xi (unhide HXI)
                      obtain ⟨d0, d1, d2, d3⟩ := ((unhide HR').on hb2).cells j yi (unhide HYI)
                      obtain ⟨e0, e1, e2, e3⟩ := ((unhide HR).on hb2).cells m xm hxm
                      obtain ⟨f0, f1, f2, f3⟩ := ((unhide HR').on hb2).cells m ym hym
                      have hm1 : (m : Int) < p.length := by omega
                      have hm2 : (m : Int) < q.length := by omega
                      have hm3 : (m : Int) < j := by omega
                      have hb2d := hb2.drew
                      have hbwd := (unhide HB3).trans (hb2d.mono (unhide HB3).size)
                      have hnx : pairV xi yi xm ym → ∀ (i : Nat) x' y', p[i]? = some x' → q[i]? = some y' → i < m + 1 → pairV xi yi x' y' := fun hp i x' y' hx' hy' hi => by
                        by_cases e : i = m
                        · subst e; rw [hxm] at hx'; rw [hym] at hy'; cases hx'; cases hy'; exact hp
                        · exact (unhide HPO) i x' y' hx' hy' (by omega)
                      have hst : ¬ pairV xi yi xm ym → res = false := fun h => (unhide HNO) j fun hv => h ((hv xi yi (unhide HXI) (unhide HYI)).2 m xm ym hxm hym hmj)
                      have HNX := hide hnx
                      have HST := hide hst
                      clear hxm hym hnx hst c3 d3 e3 f3 c2 d2 e2 f2
                      go_wp2_with fail
                      go_region
                      go_wp2_with fail
                      go_roundw
                      case rel => exact ⟨m + 1, by omega, by go_num, (unhide HNX) (fun h => (unhide HKN h).elim), hb2d⟩
                      case measure => simp [intOf]; omega
                    · have hall : ∀ i, i < j + 1 → AtV p q i := fun i hi => by
                        by_cases e : i = j
                        · subst e
                          intro z z' hz hz'
                          rw [unhide HXI] at hz; rw [unhide HYI] at hz'; cases hz; cases hz'
                          exact ⟨unhide HLK, fun i2 x' y' hx' hy' h2 => (unhide HPO) i2 x' y' hx' hy' (by omega)⟩
                        · exact (unhide HO) i (by omega)
                      have HALL := hide hall
                      have hmj' : ¬ (m : Int) < (j : Int) := by omega
                      clear hall
                      go_wp2_with fail
                      exact ⟨⟨j + 1, by omega, by go_num, unhide HALL, hb2⟩, by simp [intOf]; omega⟩
                · have hN' : (xi.N != yi.N) = true := by simp [hN]
                  have hre := (unhide HFA) (fun h => hN (h.2.2.2 hk1))
                  have HRE := hide hre
                  have hbdd : Below w.heap.size w wr.drew.drew := hbd.drew
                  clear hk hs hl hre hN hk1
                  go_wp2_with fail
                  go_region
                  go_wp2_with fail
                  go_region
                  go_wp2_with fail
                  go_ret
                  exact ⟨ret_bool (unhide HRE).symm, hbdd⟩
            · have hl' : ((xi.len : Int) != (yi.len : Int)) = true := by simp; omega
              have hre := (unhide HFA) (fun h => hl h.2.2.1)
              have HRE := hide hre
              clear hk hs hl hre
              go_wp2_with fail
              go_region
              go_wp2_with fail
              go_ret
              exact ⟨ret_bool (unhide HRE).symm, hbd⟩
          · have hs' : (xi.s.toList == yi.s.toList) = false := by simp [hs]
            have hre := (unhide HFA) (fun h => hs h.2.1)
            have HRE := hide hre
            clear hk hs hre
            go_wp2_with fail
            go_region
            go_wp2_with fail
            go_ret
            exact ⟨ret_bool (unhide HRE).symm, hbd⟩
        · have hk' : (xi.k != yi.k) = true := by simp [hk]
          have hre := (unhide HFA) (fun h => hk h.1)
          have HRE := hide hre
          clear hk hre
          go_wp2_with fail
          go_region
          go_wp2_with fail
          go_ret
          exact ⟨ret_bool (unhide HRE).symm, hbd⟩
      · have hre := (unhide HYES2) (fun i => by
          by_cases h : i < j
          · exact (unhide HO) i h
          · intro z z' hz; have := (List.getElem?_eq_some_iff.1 hz).1; omega)
        have HRE := hide hre
        clear hre
        go_wp2_with fail
        go_ret
        exact ⟨ret_bool (unhide HRE).symm, unhide HBW⟩
  · have hlx : ((p.length : Int) != (q.length : Int)) = true := by simp; omega
    have hre := (unhide HNL) hpq
    have HRE := hide hre
    clear hre hpq
    go_wp2_with fail
    go_ret
    exact ⟨ret_bool (unhide HRE).symm, unhide HB3⟩
end Go.Proofs.YtcjeeagnfmipgaaGreatDoor

