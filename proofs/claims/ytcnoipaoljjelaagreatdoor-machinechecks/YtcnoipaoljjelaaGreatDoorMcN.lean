import Derived.Test.YtcnoipaoljjelaaGreatDoorMcL
/- hornref.CheckCode. (Written by wip/mngen.py.) -/
namespace Go.Proofs.YtcnoipaoljjelaaGreatDoor
open Go.RowKit Go.Shelf Go.Maps

theorem row6 {E : List EV} {sz : Int} {j : Nat} {x : EV} (hx : E[j]? = some x) (h : entOk sz x = false) : entB E sz = false := ent_bad hx (by rw [h, Bool.and_false])
theorem row7 {E : List EV} {sz : Int} {i j : Nat} {x y : EV} (hx : E[j]? = some x) (hy : E[i]? = some y) (hij : i < j) (hk : keyE y = keyE x) : entB E sz = false := by
  refine ent_bad hx ?_
  have hm : keyE x ∈ (E.take j).map keyE := by
    rw [← hk]
    refine List.mem_map.2 ⟨y, ?_, rfl⟩
    exact List.mem_of_getElem? (i := i) (by rw [List.getElem?_take, if_pos hij]; exact hy)
  rw [decide_eq_true hm]
  rfl
theorem row8 {E : List EV} {j : Nat} {x : EV} (h : ∀ i y, E[i]? = some y → i < j → keyE y ≠ keyE x) : keyE x ∉ (E.take j).map keyE := fun hm => by
  obtain ⟨y, hy, e⟩ := List.mem_map.1 hm
  obtain ⟨i, hi⟩ := List.getElem?_of_mem hy
  rw [List.getElem?_take] at hi
  split at hi
  · rename_i hlt; exact h i y hi hlt e
  · cases hi
set_option maxRecDepth 100000 in
set_option maxHeartbeats 16000000 in
theorem rcheck_any (I : List IV) (a : Option Addr) (len cap : Nat) (E : List EV) (a' : Option Addr) (len' cap' : Nat) (q m : Int) (w : World) (hI : IsI w a len I) (hE : IsE w a' len' E) (hm : w.cell? ⟨splitLay_ren.g 1, 0, none⟩ = some (.int .i64 m)) (hm0 : splitLay_ren.g 1 < w.heap.size) : Calls Tryz.prog 5 #[.agg #[.slice a len cap, .slice a' len' cap', .int .i64 q]] w fun e w' => e = .returned (.int .i64 (checkV I q E)) ∧ Below w.heap.size w w' := by
  have h1 := hI.1
  have hB1 : Below w.heap.size w (w.alloc (.cells #[.slice a len cap, .slice a' len' cap', .int .i64 q] 25)) := (Below.refl _ w).alloc (Nat.le_refl _) _
  have hbx := World.alloc_heap_new w (.cells #[.slice a len cap, .slice a' len' cap', .int .i64 q] 25)
  have hcs : ∀ W, Below (w.alloc (.cells #[.slice a len cap, .slice a' len' cap', .int .i64 q] 25)).heap.size (w.alloc (.cells #[.slice a len cap, .slice a' len' cap', .int .i64 q] 25)) W → W.cell? ⟨w.heap.size, 0, none⟩ = some (.slice a len cap) ∧ W.cell? ⟨w.heap.size, 1, none⟩ = some (.slice a' len' cap') ∧ W.cell? ⟨w.heap.size, 2, none⟩ = some (.int .i64 q) := fun W hW => by
    have h := (hW.block w.heap.size (by simp)).trans hbx
    exact ⟨by simp only [World.cell?, h]; rfl, by simp only [World.cell?, h]; rfl, by simp only [World.cell?, h]; rfl⟩
  have hwl : w.heap.size < (w.alloc (.cells #[.slice a len cap, .slice a' len' cap', .int .i64 q] 25)).heap.size := by simp
  unfold checkV
  rw [← h1]
  by_cases hbig : 100000 < len
  · rw [if_pos hbig]
    have hbi : (100000 : Int) < (len : Int) := by omega
    clear hcs hbx hI hE h1 hwl hm hm0
    go_enter Tryz.func5, Tryz.ntmps5
    go_wp2_with fail
    go_ret
    exact ⟨rfl, hB1⟩
  · rw [if_neg hbig]
    have hbi : ¬ (100000 : Int) < (len : Int) := by omega
    obtain ⟨V, hV⟩ : ∃ V : Int, (if (instrB I len && (placeB q len && entB E len)) = true then 0 else 10) = V := ⟨_, rfl⟩
    rw [hV]
    have F1 : Hid (instrB I len = false → V = 10) := fun h => by rw [← hV, h]; rfl
    have F2 : Hid (placeB q len = false → V = 10) := fun h => by rw [← hV, h]; simp
    have F3 : Hid (entB E len = false → V = 10) := fun h => by rw [← hV, h]; simp
    have F4 : Hid (instrB I len = true → placeB q len = true → entB E len = true → V = 0) := fun k1 k2 k3 => by rw [← hV, k1, k2, k3]; rfl
    have HI := hide (hI.below hB1)
    have HE := hide (hE.below hB1)
    have HC := hide hcs
    have HB := hide hB1
    have HL := hide h1
    have HM := hide (And.intro ((hB1.cell (p := ⟨splitLay_ren.g 1, 0, none⟩) hm0).trans hm) (Nat.lt_of_lt_of_le hm0 hB1.size))
    have HWL := hide hwl
    have HL' := hide hE.1
    have hb' := hE.2.1
    clear hcs hbx hI hE h1 hB1 hbig hV hm hm0 hwl
    rcases (by omega : len = 0 ∨ (len ≠ 0 ∧ q < 0) ∨ (len ≠ 0 ∧ ¬ q < 0 ∧ (len : Int) ≤ q) ∨ (len ≠ 0 ∧ ¬ q < 0 ∧ ¬ (len : Int) ≤ q)) with g1 | ⟨g1, g2⟩ | ⟨g1, g2, g3⟩ | ⟨g1, g2, g3⟩
    · have hv : V = 10 := F1.out (by have hI0 : I = [] := List.length_eq_zero_iff.1 ((unhide HL).symm.trans g1); rw [hI0]; rfl)
      have HV := hide hv
      have HB0 : Hid (Below w.heap.size w (w.alloc (.cells #[.slice a len cap, .slice a' len' cap', .int .i64 q] 25))) := HB
      subst g1
      clear hv
      go_enter Tryz.func5, Tryz.ntmps5
      go_wp2_with fail
      go_ret
      exact ⟨by rw [unhide HV]; rfl, unhide HB0⟩
    · have HV := hide (F2.out (by unfold placeB; simp; omega))
      have g1' : ((len : Int) == 0) = false := by simpa using g1
      go_enter Tryz.func5, Tryz.ntmps5
      go_wp2_with fail
      go_ret
      exact ⟨by rw [unhide HV]; rfl, unhide HB⟩
    · have HV := hide (F2.out (by unfold placeB; simp; omega))
      have g1' : ((len : Int) == 0) = false := by simpa using g1
      go_enter Tryz.func5, Tryz.ntmps5
      go_wp2_with fail
      go_ret
      exact ⟨by rw [unhide HV]; rfl, unhide HB⟩
    · have HPL := hide (show placeB q len = true by unfold placeB; simp; omega)
      have g1' : ((len : Int) == 0) = false := by simpa using g1
      go_enter Tryz.func5, Tryz.ntmps5
      go_wp2_with fail
      obtain ⟨W1, hW1⟩ : ∃ W1, w.alloc (.cells #[.slice a len cap, .slice a' len' cap', .int .i64 q] 25) = W1 := ⟨_, rfl⟩
      rw [hW1] at HI HE HC HB HM HWL ⊢
      clear hW1 F2
      go_loopw [4] (fun i wr => ∃ j : Nat, j ≤ len ∧ i = .int .i64 j ∧ Hid (Below W1.heap.size W1 wr ∧ ∀ k x, I[k]? = some x → k < j → okI x len = true)) (fun i _ => len - (intOf i).toNat)
      case atStart => exact ⟨0, Nat.zero_le _, rfl, Below.refl _ _, fun k x _ h => by omega⟩
      case round =>
        obtain ⟨j, hj, rfl, HJ⟩ := hrel
        obtain ⟨wa, hwa⟩ : ∃ wa, wa = wr := ⟨wr, rfl⟩
        subst hwa
        by_cases hlt : j < len
        · obtain ⟨hbr, hok⟩ := unhide HJ
          obtain ⟨op, x, y, k, s, n, b, off, hx, rfl, hbl, c0, c1, c2, c3, c4, c5⟩ := ins_at (unhide HI) hbr hlt
          obtain ⟨d0, d1, d2⟩ := (unhide HC) wa hbr
          have hj1 : (j : Int) < len := by omega
          have hbw : b < wa.heap.size := Nat.lt_of_lt_of_le hbl hbr.size
          have hin := rinstr_any ⟨op, x, y, ⟨k, s, n⟩⟩ len m wa (by omega) (by omega) ((hbr.cell (p := ⟨splitLay_ren.g 1, 0, none⟩) (unhide HM).2).trans (unhide HM).1) (Nat.lt_of_lt_of_le (unhide HM).2 hbr.size)
          simp only [IV.val] at hin
          have HX := hide hx
          have HO := hide hok
          have HBR := hide hbr
          clear hbr hok hx
          cases hq : okI ⟨op, x, y, ⟨k, s, n⟩⟩ len with
          | true =>
            rw [hq] at hin
            have HQ := hide hq
            clear hq
            go_wp2_with fail
            refine hin.mono ?_
            rintro e w2 ⟨rfl, hb2⟩
            have HN := hide (show Below W1.heap.size W1 w2 ∧ ∀ k x, I[k]? = some x → k < j + 1 → okI x len = true from ⟨(unhide HBR).trans (hb2.mono (unhide HBR).size), fun k' x' hx' hk' => by
              by_cases hjk : k' < j
              · exact (unhide HO) k' x' hx' hjk
              · obtain rfl : k' = j := by omega
                rw [unhide HX] at hx'
                cases hx'
                exact unhide HQ⟩)
            clear hb2 hin
            go_wp2_with fail
            go_roundw
            case rel => exact ⟨j + 1, by omega, by go_num, unhide HN⟩
            case measure => simp [intOf]; omega
          | false =>
            rw [hq] at hin
            have HV := hide (F1.out (by unfold instrB; rw [all_not (unhide HX) hq]; rfl))
            clear hq
            go_wp2_with fail
            refine hin.mono ?_
            rintro e w2 ⟨rfl, hb2⟩
            have HN := hide ((unhide HB).trans (((unhide HBR).trans (hb2.mono (unhide HBR).size)).mono (unhide HB).size))
            clear hb2 hin
            go_wp2_with fail
            go_ret
            exact ⟨by rw [unhide HV]; rfl, unhide HN⟩
        · obtain rfl : j = len := by omega
          have hj1 : ¬ (j : Int) < j := by omega
          obtain ⟨hbr, hok⟩ := unhide HJ
          have hall : (I.all fun x => okI x j) = true := all_of (fun k x hx hk => hok k x hx (by have := unhide HL; omega))
          obtain ⟨m1, rfl⟩ : ∃ m1, j = m1 + 1 := ⟨j - 1, by omega⟩
          obtain ⟨op, x, y, k, s, n, b, off, hx, rfl, hbl, c0, c1, c2, c3, c4, c5⟩ := ins_at (unhide HI) hbr (Nat.lt_succ_self m1)
          obtain ⟨d0, d1, d2⟩ := (unhide HC) wa hbr
          have hiv : instrB I ((m1 + 1 : Nat) : Int) = leaveB op := by unfold instrB; rw [hall, last_of (unhide HL).symm hx]; rfl
          have HIV := hide hiv
          have HBR := hide hbr
          have hm2 : ((m1 + 1 : Nat) : Int) - 1 = (m1 : Int) := by omega
          clear hbr hok hall hx c1 c2 c3 c4 c5 hiv d2
          rcases (by omega : op = 15 ∨ op = 16 ∨ op = 17 ∨ op = 19 ∨ (op ≠ 15 ∧ op ≠ 16 ∧ op ≠ 17 ∧ op ≠ 19)) with o1 | o1 | o1 | o1 | ⟨o1, o2, o3, o4⟩
          rotate_left 4
          · have e1 : (op == 15) = false := by simpa using o1
            have e2 : (op == 16) = false := by simpa using o2
            have e3 : (op == 17) = false := by simpa using o3
            have e4 : (op == 19) = false := by simpa using o4
            have e1' : (op != 15) = true := by simpa using o1
            have e2' : (op != 16) = true := by simpa using o2
            have e3' : (op != 17) = true := by simpa using o3
            have e4' : (op != 19) = true := by simpa using o4
            have HV := hide (F1.out ((unhide HIV).trans (by unfold leaveB; rw [e1, e2, e3, e4]; rfl)))
            have HN := hide ((unhide HB).trans ((unhide HBR).mono (unhide HB).size))
            go_wp2_with fail
            go_ret
            exact ⟨by rw [unhide HV]; rfl, unhide HN⟩
          all_goals
            have HIT := hide (show instrB I ((m1 + 1 : Nat) : Int) = true from (unhide HIV).trans (by rw [o1]; rfl))
            subst o1
            go_wp2_with fail
            clear hj1 hlt hj hm2 c0 d0 d1 hbl hbi g1 g1' g2 g3
            go_loopw [6] (fun i wr => ∃ j : Nat, j ≤ len' ∧ i = .int .i64 j ∧ Hid (Below W1.heap.size W1 wr ∧ entB (E.take j) ((m1 + 1 : Nat) : Int) = true)) (fun i _ => len' - (intOf i).toNat)
            case atStart => exact ⟨0, Nat.zero_le _, rfl, unhide HBR, by simp [entB]⟩
            case round =>
              obtain ⟨j, hj, rfl, HJ⟩ := hrel
              obtain ⟨wo, hwo⟩ : ∃ wo, wo = wr := ⟨wr, rfl⟩
              subst hwo
              obtain ⟨hbr, hok⟩ := unhide HJ
              obtain ⟨d0, d1, d2⟩ := (unhide HC) wo hbr
              by_cases hlt : j < len'
              · obtain ⟨s, n, t, b', off', hx, hko, rfl, hbl', c0', c1', c2'⟩ := ent_at (unhide HE) hbr hlt
                have hj1' : (j : Int) < len' := by omega
                have hbw' : b' < wo.heap.size := Nat.lt_of_lt_of_le hbl' hbr.size
                have hB2 : Below wo.heap.size wo (wo.alloc (.cells #[.string s, .int .i64 n, .int .i64 t] 39)) := (Below.refl _ wo).alloc (Nat.le_refl _) _
                have hbad := fun h => row6 (sz := ((m1 + 1 : Nat) : Int)) hx h
                have hsn := ent_snoc hx ((m1 + 1 : Nat) : Int)
                have HX := hide (And.intro hbad (And.intro hsn hx))
                have HOK := hide hok
                have HB2 := hide (hbr.trans (hB2.mono hbr.size))
                have HEX := hide (World.alloc_heap_new wo (.cells #[.string s, .int .i64 n, .int .i64 t] 39))
                have HN := hide ((unhide HB).trans ((hbr.trans (hB2.mono hbr.size)).mono (unhide HB).size))
                have hrs := rres_any s n m (wo.alloc (.cells #[.string s, .int .i64 n, .int .i64 t] 39)) (((unhide HB2).cell (p := ⟨splitLay_ren.g 1, 0, none⟩) (unhide HM).2).trans (unhide HM).1) (Nat.lt_of_lt_of_le (unhide HM).2 (unhide HB2).size)
                clear hbr hok hx hB2 hbad hsn d0 d2
                have HVB := hide (fun h : t < 0 ∨ ((m1 + 1 : Nat) : Int) ≤ t ∨ n < 0 ∨ 50 < n ∨ 100 < s.size => F3.out ((unhide HX).1 (by unfold entOk codeB placeB; simp; omega)))
                cases hr : resB s.toList n with
                | true =>
                  rw [hr] at hrs
                  have HV := hide (F3.out ((unhide HX).1 (by unfold entOk codeB; rw [hr]; simp)))
                  clear hr
                  go_wp2_with fail
                  all_goals first | (go_ret; exact ⟨by rw [(unhide HVB) (by omega)]; rfl, unhide HN⟩) | skip
                  refine Calls.mono hrs ?_
                  rintro e w3 ⟨rfl, hb3⟩
                  have HN3 := hide ((unhide HN).trans (hb3.mono (unhide HN).size))
                  clear hrs hb3
                  go_wp2_with fail
                  go_ret
                  exact ⟨by rw [unhide HV]; rfl, unhide HN3⟩
                | false =>
                  rw [hr] at hrs
                  have HEO' := hide (fun h : ¬ (t < 0 ∨ ((m1 + 1 : Nat) : Int) ≤ t ∨ n < 0 ∨ 50 < n ∨ 100 < s.size) => show entOk ((m1 + 1 : Nat) : Int) ⟨s, n, t⟩ = true by unfold entOk codeB placeB; rw [hr]; simp; omega)
                  clear hr
                  go_wp2_with fail
                  all_goals first | (go_ret; exact ⟨by rw [(unhide HVB) (by omega)]; rfl, unhide HN⟩) | skip
                  have HEO := hide ((unhide HEO') (by omega))
                  refine Calls.mono hrs ?_
                  rintro e w3 ⟨rfl, hb3⟩
                  have hB3 := (unhide HB2).trans (hb3.mono (unhide HB2).size)
                  have hex3 : w3.heap[wo.heap.size]? = some (.cells #[.string s, .int .i64 n, .int .i64 t] 39 (0, 0)) := (hb3.block _ (by simp)).trans (unhide HEX)
                  have HB3 := hide hB3
                  have HX3 := hide hex3
                  have HN3 := hide ((unhide HN).trans (hb3.mono (unhide HN).size))
                  have hjl := hj1'
                  clear hrs hb3 hB3 hex3 HB2 HEX c0' c1' c2' hbw'
                  go_wp2_with fail
                  go_loopw [8] (fun i wr => ∃ l : Nat, l ≤ j ∧ i = .int .i64 l ∧ Hid (Below w3.heap.size w3 wr ∧ ∀ i y, E[i]? = some y → i < l → keyE y ≠ keyE ⟨s, n, t⟩)) (fun i _ => j - (intOf i).toNat)
                  case atStart => exact ⟨0, Nat.zero_le _, rfl, Below.refl _ _, fun i y _ h => by omega⟩
                  case round =>
                    obtain ⟨l, hl, rfl, HI2⟩ := hrel
                    obtain ⟨wi, hwi⟩ : ∃ wi, wi = wr := ⟨wr, rfl⟩
                    subst hwi
                    obtain ⟨hbi2, hno⟩ := unhide HI2
                    have hBi := (unhide HB3).trans (hbi2.mono (unhide HB3).size)
                    obtain ⟨d0, d1, d2⟩ := (unhide HC) wi hBi
                    by_cases hll : l < j
                    · obtain ⟨s2, n2, t2, b2, off2, hx2, -, eab, hbl2, x0, x1, x2⟩ := ent_at (unhide HE) hBi (j := l) (by omega)
                      obtain ⟨rfl, rfl⟩ : b' = b2 ∧ off' = off2 := by simpa using eab
                      have hl1 : (l : Int) < j := by omega
                      have hbx3 : wi.heap[wo.heap.size]? = some (.cells #[.string s, .int .i64 n, .int .i64 t] 39 (0, 0)) := (hbi2.block _ (Array.getElem?_eq_some_iff.1 (unhide HX3)).1).trans (unhide HX3)
                      have y0 : wi.cell? ⟨wo.heap.size, 0, none⟩ = some (.string s) := by simp only [World.cell?, hbx3]; rfl
                      have y1 : wi.cell? ⟨wo.heap.size, 1, none⟩ = some (.int .i64 n) := by simp only [World.cell?, hbx3]; rfl
                      have hll2 : (l : Int) < len' := by omega
                      have hll3 : l < len' := by omega
                      have KEEP : wi.cell? ⟨w.heap.size, 1, none⟩ = some (.slice (some ⟨b', off', none⟩) len' cap') ∧ wi.cell? ⟨b', off' + l * 3, none⟩ = some (.string s2) ∧ wi.cell? ⟨b', off' + l * 3 + 1, none⟩ = some (.int .i64 n2) ∧ wi.cell? ⟨wo.heap.size, 0, none⟩ = some (.string s) ∧ wi.cell? ⟨wo.heap.size, 1, none⟩ = some (.int .i64 n) := ⟨d1, x0, x1, y0, y1⟩
                      have HKE := hide (And.intro hx2 hno)
                      have HBI := hide hbi2
                      clear d0 d1 d2 x0 x1 x2 y0 y1 hbx3 hx2 hno hbi2 hBi eab
                      cases hs : (s2.toList == s.toList) with
                      | false =>
                        have HNK := hide (show keyE ⟨s2, n2, t2⟩ ≠ keyE ⟨s, n, t⟩ from fun e => by have e1 : s2.toList = s.toList := congrArg (·.1) e; rw [e1] at hs; simp at hs)
                        go_wp2_with fail
                        refine wp_region_noPanic ?_
                        refine wp_region_held_drew (S := (fun w' => w'.cell? ⟨w.heap.size, 1, none⟩ = some (.slice (some ⟨b', off', none⟩) len' cap') ∧ w'.cell? ⟨b', off' + l * 3, none⟩ = some (.string s2) ∧ w'.cell? ⟨b', off' + l * 3 + 1, none⟩ = some (.int .i64 n2) ∧ w'.cell? ⟨wo.heap.size, 0, none⟩ = some (.string s) ∧ w'.cell? ⟨wo.heap.size, 1, none⟩ = some (.int .i64 n))) (by kernel_rfl) ?_ (fun hHeld => ?_)
                        · exact KEEP
                        refine wpAnyH_take (i := 0) (oi := { dst := some 110, op := Op.fieldAddr 25 (Operand.tmp 1) 1, type := 0, pos := "machine.go:86", after := #[], guard := none }) (v := ?_) rfl (by kernel_rfl) (by kernel_rfl) (by kernel_rfl) (fun _ _ _ h => h) (Or.inl ⟨by rfl, ?_⟩) hHeld ?_
                        rotate_left
                        · (intro w' hSw; (try dsimp only at hSw); go_simp; try with_reducible rfl)
                        try simp only [Act.put, List.setIfInBounds_toArray, List.set_cons_zero, List.set_cons_succ]
                        refine wpAnyH_take (i := 1) (oi := { dst := some 111, op := Op.load 23 (Operand.tmp 110), type := 23, pos := "machine.go:86", after := #[{ on := 0, ground := Ground.data }], guard := none }) (v := ?_) rfl (by kernel_rfl) (by kernel_rfl) (by kernel_rfl) (fun _ _ _ h => h) (Or.inl ⟨by rfl, ?_⟩) hHeld ?_
                        rotate_left
                        · (intro w' hSw; (try dsimp only at hSw); go_simp; try with_reducible rfl)
                        try simp only [Act.put, List.setIfInBounds_toArray, List.set_cons_zero, List.set_cons_succ]
                        refine wpAnyH_take (i := 2) (oi := { dst := some 112, op := Op.move (Operand.tmp 8), type := 3, pos := "machine.go:86", after := #[], guard := none }) (v := ?_) rfl (by kernel_rfl) (by kernel_rfl) (by kernel_rfl) (fun _ _ _ h => h) (Or.inl ⟨by rfl, ?_⟩) hHeld ?_
                        rotate_left
                        · (intro w' hSw; (try dsimp only at hSw); go_simp; try with_reducible rfl)
                        try simp only [Act.put, List.setIfInBounds_toArray, List.set_cons_zero, List.set_cons_succ]
                        refine wpAnyH_take (i := 3) (oi := { dst := some 113, op := Op.indexAddr 23 (Operand.tmp 111) (Operand.tmp 112), type := 0, pos := "machine.go:86", after := #[{ on := 1, ground := Ground.data }, { on := 2, ground := Ground.data }], guard := none }) (v := ?_) rfl (by kernel_rfl) (by kernel_rfl) (by kernel_rfl) (fun _ _ _ h => h) (Or.inl ⟨by rfl, ?_⟩) hHeld ?_
                        rotate_left
                        · (intro w' hSw; (try dsimp only at hSw); go_simp; try with_reducible rfl)
                        try simp only [Act.put, List.setIfInBounds_toArray, List.set_cons_zero, List.set_cons_succ]
                        refine wpAnyH_take (i := 4) (oi := { dst := some 114, op := Op.fieldAddr 39 (Operand.tmp 113) 0, type := 0, pos := "machine.go:86", after := #[{ on := 3, ground := Ground.data }], guard := none }) (v := ?_) rfl (by kernel_rfl) (by kernel_rfl) (by kernel_rfl) (fun _ _ _ h => h) (Or.inl ⟨by rfl, ?_⟩) hHeld ?_
                        rotate_left
                        · (intro w' hSw; (try dsimp only at hSw); go_simp; try with_reducible rfl)
                        try simp only [Act.put, List.setIfInBounds_toArray, List.set_cons_zero, List.set_cons_succ]
                        refine wpAnyH_take (i := 5) (oi := { dst := some 115, op := Op.load 9 (Operand.tmp 114), type := 9, pos := "machine.go:86", after := #[{ on := 4, ground := Ground.data }], guard := none }) (v := ?_) rfl (by kernel_rfl) (by kernel_rfl) (by kernel_rfl) (fun _ _ _ h => h) (Or.inl ⟨by rfl, ?_⟩) hHeld ?_
                        rotate_left
                        · (intro w' hSw; (try dsimp only at hSw); go_simp; try with_reducible rfl)
                        try simp only [Act.put, List.setIfInBounds_toArray, List.set_cons_zero, List.set_cons_succ]
                        refine wpAnyH_take (i := 6) (oi := { dst := some 116, op := Op.fieldAddr 39 (Operand.tmp 7) 0, type := 0, pos := "machine.go:86", after := #[], guard := none }) (v := ?_) rfl (by kernel_rfl) (by kernel_rfl) (by kernel_rfl) (fun _ _ _ h => h) (Or.inl ⟨by rfl, ?_⟩) hHeld ?_
                        rotate_left
                        · (intro w' hSw; (try dsimp only at hSw); go_simp; try with_reducible rfl)
                        try simp only [Act.put, List.setIfInBounds_toArray, List.set_cons_zero, List.set_cons_succ]
                        refine wpAnyH_take (i := 7) (oi := { dst := some 117, op := Op.load 9 (Operand.tmp 116), type := 9, pos := "machine.go:86", after := #[{ on := 6, ground := Ground.data }], guard := none }) (v := ?_) rfl (by kernel_rfl) (by kernel_rfl) (by kernel_rfl) (fun _ _ _ h => h) (Or.inl ⟨by rfl, ?_⟩) hHeld ?_
                        rotate_left
                        · (intro w' hSw; (try dsimp only at hSw); go_simp; try with_reducible rfl)
                        try simp only [Act.put, List.setIfInBounds_toArray, List.set_cons_zero, List.set_cons_succ]
                        refine wpAnyH_take (i := 8) (oi := { dst := some 118, op := Op.binOp BinOp.eql 9 (Operand.tmp 115) (Operand.tmp 117) 9, type := 4, pos := "machine.go:86", after := #[{ on := 5, ground := Ground.data }, { on := 7, ground := Ground.data }], guard := none }) (v := ?_) rfl (by kernel_rfl) (by kernel_rfl) (by kernel_rfl) (fun _ _ _ h => h) (Or.inl ⟨by rfl, ?_⟩) hHeld ?_
                        rotate_left
                        · (intro w' hSw; (try dsimp only at hSw); go_simp; try with_reducible rfl)
                        try simp only [Act.put, List.setIfInBounds_toArray, List.set_cons_zero, List.set_cons_succ]
                        refine wpAnyH_take (i := 9) (oi := { dst := some 119, op := Op.move (Operand.tmp 118), type := 4, pos := "machine.go:86", after := #[{ on := 8, ground := Ground.data }], guard := none }) (v := ?_) rfl (by kernel_rfl) (by kernel_rfl) (by kernel_rfl) (fun _ _ _ h => h) (Or.inl ⟨by rfl, ?_⟩) hHeld ?_
                        rotate_left
                        · (intro w' hSw; (try dsimp only at hSw); go_simp; try with_reducible rfl)
                        try simp only [Act.put, List.setIfInBounds_toArray, List.set_cons_zero, List.set_cons_succ]
                        refine wpAnyH_take (i := 10) (oi := { dst := some 120, op := Op.fieldAddr 25 (Operand.tmp 1) 1, type := 0, pos := "machine.go:86", after := #[{ on := 9, ground := Ground.guard }], guard := some (9, true) }) (v := undef) rfl (by kernel_rfl) (by kernel_rfl) (by kernel_rfl) (fun _ _ _ h => h) (Or.inr ⟨by rfl, rfl⟩) hHeld ?_
                        try simp only [Act.put, List.setIfInBounds_toArray, List.set_cons_zero, List.set_cons_succ]
                        refine wpAnyH_take (i := 11) (oi := { dst := some 121, op := Op.load 23 (Operand.tmp 120), type := 23, pos := "machine.go:86", after := #[{ on := 10, ground := Ground.data }, { on := 9, ground := Ground.guard }], guard := some (9, true) }) (v := undef) rfl (by kernel_rfl) (by kernel_rfl) (by kernel_rfl) (fun _ _ _ h => h) (Or.inr ⟨by rfl, rfl⟩) hHeld ?_
                        try simp only [Act.put, List.setIfInBounds_toArray, List.set_cons_zero, List.set_cons_succ]
                        refine wpAnyH_take (i := 12) (oi := { dst := some 122, op := Op.move (Operand.tmp 8), type := 3, pos := "machine.go:86", after := #[{ on := 9, ground := Ground.guard }], guard := some (9, true) }) (v := undef) rfl (by kernel_rfl) (by kernel_rfl) (by kernel_rfl) (fun _ _ _ h => h) (Or.inr ⟨by rfl, rfl⟩) hHeld ?_
                        try simp only [Act.put, List.setIfInBounds_toArray, List.set_cons_zero, List.set_cons_succ]
                        refine wpAnyH_take (i := 13) (oi := { dst := some 123, op := Op.indexAddr 23 (Operand.tmp 121) (Operand.tmp 122), type := 0, pos := "machine.go:86", after := #[{ on := 11, ground := Ground.data }, { on := 12, ground := Ground.data }, { on := 9, ground := Ground.guard }], guard := some (9, true) }) (v := undef) rfl (by kernel_rfl) (by kernel_rfl) (by kernel_rfl) (fun _ _ _ h => h) (Or.inr ⟨by rfl, rfl⟩) hHeld ?_
                        try simp only [Act.put, List.setIfInBounds_toArray, List.set_cons_zero, List.set_cons_succ]
                        refine wpAnyH_take (i := 14) (oi := { dst := some 124, op := Op.fieldAddr 39 (Operand.tmp 123) 1, type := 0, pos := "machine.go:86", after := #[{ on := 13, ground := Ground.data }, { on := 9, ground := Ground.guard }], guard := some (9, true) }) (v := undef) rfl (by kernel_rfl) (by kernel_rfl) (by kernel_rfl) (fun _ _ _ h => h) (Or.inr ⟨by rfl, rfl⟩) hHeld ?_
                        try simp only [Act.put, List.setIfInBounds_toArray, List.set_cons_zero, List.set_cons_succ]
                        refine wpAnyH_take (i := 15) (oi := { dst := some 125, op := Op.load 3 (Operand.tmp 124), type := 3, pos := "machine.go:86", after := #[{ on := 14, ground := Ground.data }, { on := 9, ground := Ground.guard }], guard := some (9, true) }) (v := undef) rfl (by kernel_rfl) (by kernel_rfl) (by kernel_rfl) (fun _ _ _ h => h) (Or.inr ⟨by rfl, rfl⟩) hHeld ?_
                        try simp only [Act.put, List.setIfInBounds_toArray, List.set_cons_zero, List.set_cons_succ]
                        refine wpAnyH_take (i := 16) (oi := { dst := some 126, op := Op.fieldAddr 39 (Operand.tmp 7) 1, type := 0, pos := "machine.go:86", after := #[{ on := 9, ground := Ground.guard }], guard := some (9, true) }) (v := undef) rfl (by kernel_rfl) (by kernel_rfl) (by kernel_rfl) (fun _ _ _ h => h) (Or.inr ⟨by rfl, rfl⟩) hHeld ?_
                        try simp only [Act.put, List.setIfInBounds_toArray, List.set_cons_zero, List.set_cons_succ]
                        refine wpAnyH_take (i := 17) (oi := { dst := some 127, op := Op.load 3 (Operand.tmp 126), type := 3, pos := "machine.go:86", after := #[{ on := 16, ground := Ground.data }, { on := 9, ground := Ground.guard }], guard := some (9, true) }) (v := undef) rfl (by kernel_rfl) (by kernel_rfl) (by kernel_rfl) (fun _ _ _ h => h) (Or.inr ⟨by rfl, rfl⟩) hHeld ?_
                        try simp only [Act.put, List.setIfInBounds_toArray, List.set_cons_zero, List.set_cons_succ]
                        refine wpAnyH_take (i := 18) (oi := { dst := some 128, op := Op.binOp BinOp.eql 3 (Operand.tmp 125) (Operand.tmp 127) 3, type := 4, pos := "machine.go:86", after := #[{ on := 15, ground := Ground.data }, { on := 17, ground := Ground.data }, { on := 9, ground := Ground.guard }], guard := some (9, true) }) (v := undef) rfl (by kernel_rfl) (by kernel_rfl) (by kernel_rfl) (fun _ _ _ h => h) (Or.inr ⟨by rfl, rfl⟩) hHeld ?_
                        try simp only [Act.put, List.setIfInBounds_toArray, List.set_cons_zero, List.set_cons_succ]
                        refine wpAnyH_take (i := 19) (oi := { dst := some 129, op := Op.pick (Operand.tmp 119) (Operand.tmp 128) (Operand.const (Value.bool false)), type := 4, pos := "machine.go:86", after := #[{ on := 9, ground := Ground.data }, { on := 18, ground := Ground.data }], guard := none }) (v := ?_) rfl (by kernel_rfl) (by kernel_rfl) (by kernel_rfl) (fun _ _ _ h => h) (Or.inl ⟨by rfl, ?_⟩) hHeld ?_
                        rotate_left
                        · (intro w' hSw; (try dsimp only at hSw); go_simp; try with_reducible rfl)
                        try simp only [Act.put, List.setIfInBounds_toArray, List.set_cons_zero, List.set_cons_succ]
                        refine wpAnyH_done (by kernel_rfl) ?_ _
                        refine NoPanic.normal ?_
                        have HN4 := hide (show Below w3.heap.size w3 wi.drew ∧ ∀ i y, E[i]? = some y → i < l + 1 → keyE y ≠ keyE ⟨s, n, t⟩ from ⟨(unhide HBI).drew, fun i y hy hi => by
                          by_cases hil : i < l
                          · exact (unhide HKE).2 i y hy hil
                          · obtain rfl : i = l := by omega
                            rw [(unhide HKE).1] at hy
                            cases hy
                            exact unhide HNK⟩)
                        clear KEEP
                        go_wp2_with fail
                        go_roundw
                        case rel => exact ⟨l + 1, by omega, by go_num, unhide HN4⟩
                        case measure => simp [intOf]; omega
                      | true =>
                        cases hn2 : (n2 == n) with
                        | false =>
                          have HNK := hide (show keyE ⟨s2, n2, t2⟩ ≠ keyE ⟨s, n, t⟩ from fun e => by have e1 : n2 = n := congrArg (·.2) e; rw [e1] at hn2; simp at hn2)
                          go_wp2_with fail
                          refine wp_region_noPanic ?_
                          refine wp_region_held_drew (S := (fun w' => w'.cell? ⟨w.heap.size, 1, none⟩ = some (.slice (some ⟨b', off', none⟩) len' cap') ∧ w'.cell? ⟨b', off' + l * 3, none⟩ = some (.string s2) ∧ w'.cell? ⟨b', off' + l * 3 + 1, none⟩ = some (.int .i64 n2) ∧ w'.cell? ⟨wo.heap.size, 0, none⟩ = some (.string s) ∧ w'.cell? ⟨wo.heap.size, 1, none⟩ = some (.int .i64 n))) (by kernel_rfl) ?_ (fun hHeld => ?_)
                          · exact KEEP
                          refine wpAnyH_take (i := 0) (oi := { dst := some 110, op := Op.fieldAddr 25 (Operand.tmp 1) 1, type := 0, pos := "machine.go:86", after := #[], guard := none }) (v := ?_) rfl (by kernel_rfl) (by kernel_rfl) (by kernel_rfl) (fun _ _ _ h => h) (Or.inl ⟨by rfl, ?_⟩) hHeld ?_
                          rotate_left
                          · (intro w' hSw; (try dsimp only at hSw); go_simp; try with_reducible rfl)
                          try simp only [Act.put, List.setIfInBounds_toArray, List.set_cons_zero, List.set_cons_succ]
                          refine wpAnyH_take (i := 1) (oi := { dst := some 111, op := Op.load 23 (Operand.tmp 110), type := 23, pos := "machine.go:86", after := #[{ on := 0, ground := Ground.data }], guard := none }) (v := ?_) rfl (by kernel_rfl) (by kernel_rfl) (by kernel_rfl) (fun _ _ _ h => h) (Or.inl ⟨by rfl, ?_⟩) hHeld ?_
                          rotate_left
                          · (intro w' hSw; (try dsimp only at hSw); go_simp; try with_reducible rfl)
                          try simp only [Act.put, List.setIfInBounds_toArray, List.set_cons_zero, List.set_cons_succ]
                          refine wpAnyH_take (i := 2) (oi := { dst := some 112, op := Op.move (Operand.tmp 8), type := 3, pos := "machine.go:86", after := #[], guard := none }) (v := ?_) rfl (by kernel_rfl) (by kernel_rfl) (by kernel_rfl) (fun _ _ _ h => h) (Or.inl ⟨by rfl, ?_⟩) hHeld ?_
                          rotate_left
                          · (intro w' hSw; (try dsimp only at hSw); go_simp; try with_reducible rfl)
                          try simp only [Act.put, List.setIfInBounds_toArray, List.set_cons_zero, List.set_cons_succ]
                          refine wpAnyH_take (i := 3) (oi := { dst := some 113, op := Op.indexAddr 23 (Operand.tmp 111) (Operand.tmp 112), type := 0, pos := "machine.go:86", after := #[{ on := 1, ground := Ground.data }, { on := 2, ground := Ground.data }], guard := none }) (v := ?_) rfl (by kernel_rfl) (by kernel_rfl) (by kernel_rfl) (fun _ _ _ h => h) (Or.inl ⟨by rfl, ?_⟩) hHeld ?_
                          rotate_left
                          · (intro w' hSw; (try dsimp only at hSw); go_simp; try with_reducible rfl)
                          try simp only [Act.put, List.setIfInBounds_toArray, List.set_cons_zero, List.set_cons_succ]
                          refine wpAnyH_take (i := 4) (oi := { dst := some 114, op := Op.fieldAddr 39 (Operand.tmp 113) 0, type := 0, pos := "machine.go:86", after := #[{ on := 3, ground := Ground.data }], guard := none }) (v := ?_) rfl (by kernel_rfl) (by kernel_rfl) (by kernel_rfl) (fun _ _ _ h => h) (Or.inl ⟨by rfl, ?_⟩) hHeld ?_
                          rotate_left
                          · (intro w' hSw; (try dsimp only at hSw); go_simp; try with_reducible rfl)
                          try simp only [Act.put, List.setIfInBounds_toArray, List.set_cons_zero, List.set_cons_succ]
                          refine wpAnyH_take (i := 5) (oi := { dst := some 115, op := Op.load 9 (Operand.tmp 114), type := 9, pos := "machine.go:86", after := #[{ on := 4, ground := Ground.data }], guard := none }) (v := ?_) rfl (by kernel_rfl) (by kernel_rfl) (by kernel_rfl) (fun _ _ _ h => h) (Or.inl ⟨by rfl, ?_⟩) hHeld ?_
                          rotate_left
                          · (intro w' hSw; (try dsimp only at hSw); go_simp; try with_reducible rfl)
                          try simp only [Act.put, List.setIfInBounds_toArray, List.set_cons_zero, List.set_cons_succ]
                          refine wpAnyH_take (i := 6) (oi := { dst := some 116, op := Op.fieldAddr 39 (Operand.tmp 7) 0, type := 0, pos := "machine.go:86", after := #[], guard := none }) (v := ?_) rfl (by kernel_rfl) (by kernel_rfl) (by kernel_rfl) (fun _ _ _ h => h) (Or.inl ⟨by rfl, ?_⟩) hHeld ?_
                          rotate_left
                          · (intro w' hSw; (try dsimp only at hSw); go_simp; try with_reducible rfl)
                          try simp only [Act.put, List.setIfInBounds_toArray, List.set_cons_zero, List.set_cons_succ]
                          refine wpAnyH_take (i := 7) (oi := { dst := some 117, op := Op.load 9 (Operand.tmp 116), type := 9, pos := "machine.go:86", after := #[{ on := 6, ground := Ground.data }], guard := none }) (v := ?_) rfl (by kernel_rfl) (by kernel_rfl) (by kernel_rfl) (fun _ _ _ h => h) (Or.inl ⟨by rfl, ?_⟩) hHeld ?_
                          rotate_left
                          · (intro w' hSw; (try dsimp only at hSw); go_simp; try with_reducible rfl)
                          try simp only [Act.put, List.setIfInBounds_toArray, List.set_cons_zero, List.set_cons_succ]
                          refine wpAnyH_take (i := 8) (oi := { dst := some 118, op := Op.binOp BinOp.eql 9 (Operand.tmp 115) (Operand.tmp 117) 9, type := 4, pos := "machine.go:86", after := #[{ on := 5, ground := Ground.data }, { on := 7, ground := Ground.data }], guard := none }) (v := ?_) rfl (by kernel_rfl) (by kernel_rfl) (by kernel_rfl) (fun _ _ _ h => h) (Or.inl ⟨by rfl, ?_⟩) hHeld ?_
                          rotate_left
                          · (intro w' hSw; (try dsimp only at hSw); go_simp; try with_reducible rfl)
                          try simp only [Act.put, List.setIfInBounds_toArray, List.set_cons_zero, List.set_cons_succ]
                          refine wpAnyH_take (i := 9) (oi := { dst := some 119, op := Op.move (Operand.tmp 118), type := 4, pos := "machine.go:86", after := #[{ on := 8, ground := Ground.data }], guard := none }) (v := ?_) rfl (by kernel_rfl) (by kernel_rfl) (by kernel_rfl) (fun _ _ _ h => h) (Or.inl ⟨by rfl, ?_⟩) hHeld ?_
                          rotate_left
                          · (intro w' hSw; (try dsimp only at hSw); go_simp; try with_reducible rfl)
                          try simp only [Act.put, List.setIfInBounds_toArray, List.set_cons_zero, List.set_cons_succ]
                          refine wpAnyH_take (i := 10) (oi := { dst := some 120, op := Op.fieldAddr 25 (Operand.tmp 1) 1, type := 0, pos := "machine.go:86", after := #[{ on := 9, ground := Ground.guard }], guard := some (9, true) }) (v := ?_) rfl (by kernel_rfl) (by kernel_rfl) (by kernel_rfl) (fun _ _ _ h => h) (Or.inl ⟨by rfl, ?_⟩) hHeld ?_
                          rotate_left
                          · (intro w' hSw; (try dsimp only at hSw); go_simp; try with_reducible rfl)
                          try simp only [Act.put, List.setIfInBounds_toArray, List.set_cons_zero, List.set_cons_succ]
                          refine wpAnyH_take (i := 11) (oi := { dst := some 121, op := Op.load 23 (Operand.tmp 120), type := 23, pos := "machine.go:86", after := #[{ on := 10, ground := Ground.data }, { on := 9, ground := Ground.guard }], guard := some (9, true) }) (v := ?_) rfl (by kernel_rfl) (by kernel_rfl) (by kernel_rfl) (fun _ _ _ h => h) (Or.inl ⟨by rfl, ?_⟩) hHeld ?_
                          rotate_left
                          · (intro w' hSw; (try dsimp only at hSw); go_simp; try with_reducible rfl)
                          try simp only [Act.put, List.setIfInBounds_toArray, List.set_cons_zero, List.set_cons_succ]
                          refine wpAnyH_take (i := 12) (oi := { dst := some 122, op := Op.move (Operand.tmp 8), type := 3, pos := "machine.go:86", after := #[{ on := 9, ground := Ground.guard }], guard := some (9, true) }) (v := ?_) rfl (by kernel_rfl) (by kernel_rfl) (by kernel_rfl) (fun _ _ _ h => h) (Or.inl ⟨by rfl, ?_⟩) hHeld ?_
                          rotate_left
                          · (intro w' hSw; (try dsimp only at hSw); go_simp; try with_reducible rfl)
                          try simp only [Act.put, List.setIfInBounds_toArray, List.set_cons_zero, List.set_cons_succ]
                          refine wpAnyH_take (i := 13) (oi := { dst := some 123, op := Op.indexAddr 23 (Operand.tmp 121) (Operand.tmp 122), type := 0, pos := "machine.go:86", after := #[{ on := 11, ground := Ground.data }, { on := 12, ground := Ground.data }, { on := 9, ground := Ground.guard }], guard := some (9, true) }) (v := ?_) rfl (by kernel_rfl) (by kernel_rfl) (by kernel_rfl) (fun _ _ _ h => h) (Or.inl ⟨by rfl, ?_⟩) hHeld ?_
                          rotate_left
                          · (intro w' hSw; (try dsimp only at hSw); go_simp; try with_reducible rfl)
                          try simp only [Act.put, List.setIfInBounds_toArray, List.set_cons_zero, List.set_cons_succ]
                          refine wpAnyH_take (i := 14) (oi := { dst := some 124, op := Op.fieldAddr 39 (Operand.tmp 123) 1, type := 0, pos := "machine.go:86", after := #[{ on := 13, ground := Ground.data }, { on := 9, ground := Ground.guard }], guard := some (9, true) }) (v := ?_) rfl (by kernel_rfl) (by kernel_rfl) (by kernel_rfl) (fun _ _ _ h => h) (Or.inl ⟨by rfl, ?_⟩) hHeld ?_
                          rotate_left
                          · (intro w' hSw; (try dsimp only at hSw); go_simp; try with_reducible rfl)
                          try simp only [Act.put, List.setIfInBounds_toArray, List.set_cons_zero, List.set_cons_succ]
                          refine wpAnyH_take (i := 15) (oi := { dst := some 125, op := Op.load 3 (Operand.tmp 124), type := 3, pos := "machine.go:86", after := #[{ on := 14, ground := Ground.data }, { on := 9, ground := Ground.guard }], guard := some (9, true) }) (v := ?_) rfl (by kernel_rfl) (by kernel_rfl) (by kernel_rfl) (fun _ _ _ h => h) (Or.inl ⟨by rfl, ?_⟩) hHeld ?_
                          rotate_left
                          · (intro w' hSw; (try dsimp only at hSw); go_simp; try with_reducible rfl)
                          try simp only [Act.put, List.setIfInBounds_toArray, List.set_cons_zero, List.set_cons_succ]
                          refine wpAnyH_take (i := 16) (oi := { dst := some 126, op := Op.fieldAddr 39 (Operand.tmp 7) 1, type := 0, pos := "machine.go:86", after := #[{ on := 9, ground := Ground.guard }], guard := some (9, true) }) (v := ?_) rfl (by kernel_rfl) (by kernel_rfl) (by kernel_rfl) (fun _ _ _ h => h) (Or.inl ⟨by rfl, ?_⟩) hHeld ?_
                          rotate_left
                          · (intro w' hSw; (try dsimp only at hSw); go_simp; try with_reducible rfl)
                          try simp only [Act.put, List.setIfInBounds_toArray, List.set_cons_zero, List.set_cons_succ]
                          refine wpAnyH_take (i := 17) (oi := { dst := some 127, op := Op.load 3 (Operand.tmp 126), type := 3, pos := "machine.go:86", after := #[{ on := 16, ground := Ground.data }, { on := 9, ground := Ground.guard }], guard := some (9, true) }) (v := ?_) rfl (by kernel_rfl) (by kernel_rfl) (by kernel_rfl) (fun _ _ _ h => h) (Or.inl ⟨by rfl, ?_⟩) hHeld ?_
                          rotate_left
                          · (intro w' hSw; (try dsimp only at hSw); go_simp; try with_reducible rfl)
                          try simp only [Act.put, List.setIfInBounds_toArray, List.set_cons_zero, List.set_cons_succ]
                          refine wpAnyH_take (i := 18) (oi := { dst := some 128, op := Op.binOp BinOp.eql 3 (Operand.tmp 125) (Operand.tmp 127) 3, type := 4, pos := "machine.go:86", after := #[{ on := 15, ground := Ground.data }, { on := 17, ground := Ground.data }, { on := 9, ground := Ground.guard }], guard := some (9, true) }) (v := ?_) rfl (by kernel_rfl) (by kernel_rfl) (by kernel_rfl) (fun _ _ _ h => h) (Or.inl ⟨by rfl, ?_⟩) hHeld ?_
                          rotate_left
                          · (intro w' hSw; (try dsimp only at hSw); go_simp; try with_reducible rfl)
                          try simp only [Act.put, List.setIfInBounds_toArray, List.set_cons_zero, List.set_cons_succ]
                          refine wpAnyH_take (i := 19) (oi := { dst := some 129, op := Op.pick (Operand.tmp 119) (Operand.tmp 128) (Operand.const (Value.bool false)), type := 4, pos := "machine.go:86", after := #[{ on := 9, ground := Ground.data }, { on := 18, ground := Ground.data }], guard := none }) (v := ?_) rfl (by kernel_rfl) (by kernel_rfl) (by kernel_rfl) (fun _ _ _ h => h) (Or.inl ⟨by rfl, ?_⟩) hHeld ?_
                          rotate_left
                          · (intro w' hSw; (try dsimp only at hSw); go_simp; try with_reducible rfl)
                          try simp only [Act.put, List.setIfInBounds_toArray, List.set_cons_zero, List.set_cons_succ]
                          refine wpAnyH_done (by kernel_rfl) ?_ _
                          refine NoPanic.normal ?_
                          have HN4 := hide (show Below w3.heap.size w3 wi.drew ∧ ∀ i y, E[i]? = some y → i < l + 1 → keyE y ≠ keyE ⟨s, n, t⟩ from ⟨(unhide HBI).drew, fun i y hy hi => by
                            by_cases hil : i < l
                            · exact (unhide HKE).2 i y hy hil
                            · obtain rfl : i = l := by omega
                              rw [(unhide HKE).1] at hy
                              cases hy
                              exact unhide HNK⟩)
                          clear KEEP
                          go_wp2_with fail
                          go_roundw
                          case rel => exact ⟨l + 1, by omega, by go_num, unhide HN4⟩
                          case measure => simp [intOf]; omega
                        | true =>
                          have HV := hide (F3.out (row7 (unhide HX).2.2 (unhide HKE).1 hll (by unfold keyE; simp only; rw [eq_of_beq hs, eq_of_beq hn2])))
                          go_wp2_with fail
                          refine wp_region_noPanic ?_
                          refine wp_region_held_drew (S := (fun w' => w'.cell? ⟨w.heap.size, 1, none⟩ = some (.slice (some ⟨b', off', none⟩) len' cap') ∧ w'.cell? ⟨b', off' + l * 3, none⟩ = some (.string s2) ∧ w'.cell? ⟨b', off' + l * 3 + 1, none⟩ = some (.int .i64 n2) ∧ w'.cell? ⟨wo.heap.size, 0, none⟩ = some (.string s) ∧ w'.cell? ⟨wo.heap.size, 1, none⟩ = some (.int .i64 n))) (by kernel_rfl) ?_ (fun hHeld => ?_)
                          · exact KEEP
                          refine wpAnyH_take (i := 0) (oi := { dst := some 110, op := Op.fieldAddr 25 (Operand.tmp 1) 1, type := 0, pos := "machine.go:86", after := #[], guard := none }) (v := ?_) rfl (by kernel_rfl) (by kernel_rfl) (by kernel_rfl) (fun _ _ _ h => h) (Or.inl ⟨by rfl, ?_⟩) hHeld ?_
                          rotate_left
                          · (intro w' hSw; (try dsimp only at hSw); go_simp; try with_reducible rfl)
                          try simp only [Act.put, List.setIfInBounds_toArray, List.set_cons_zero, List.set_cons_succ]
                          refine wpAnyH_take (i := 1) (oi := { dst := some 111, op := Op.load 23 (Operand.tmp 110), type := 23, pos := "machine.go:86", after := #[{ on := 0, ground := Ground.data }], guard := none }) (v := ?_) rfl (by kernel_rfl) (by kernel_rfl) (by kernel_rfl) (fun _ _ _ h => h) (Or.inl ⟨by rfl, ?_⟩) hHeld ?_
                          rotate_left
                          · (intro w' hSw; (try dsimp only at hSw); go_simp; try with_reducible rfl)
                          try simp only [Act.put, List.setIfInBounds_toArray, List.set_cons_zero, List.set_cons_succ]
                          refine wpAnyH_take (i := 2) (oi := { dst := some 112, op := Op.move (Operand.tmp 8), type := 3, pos := "machine.go:86", after := #[], guard := none }) (v := ?_) rfl (by kernel_rfl) (by kernel_rfl) (by kernel_rfl) (fun _ _ _ h => h) (Or.inl ⟨by rfl, ?_⟩) hHeld ?_
                          rotate_left
                          · (intro w' hSw; (try dsimp only at hSw); go_simp; try with_reducible rfl)
                          try simp only [Act.put, List.setIfInBounds_toArray, List.set_cons_zero, List.set_cons_succ]
                          refine wpAnyH_take (i := 3) (oi := { dst := some 113, op := Op.indexAddr 23 (Operand.tmp 111) (Operand.tmp 112), type := 0, pos := "machine.go:86", after := #[{ on := 1, ground := Ground.data }, { on := 2, ground := Ground.data }], guard := none }) (v := ?_) rfl (by kernel_rfl) (by kernel_rfl) (by kernel_rfl) (fun _ _ _ h => h) (Or.inl ⟨by rfl, ?_⟩) hHeld ?_
                          rotate_left
                          · (intro w' hSw; (try dsimp only at hSw); go_simp; try with_reducible rfl)
                          try simp only [Act.put, List.setIfInBounds_toArray, List.set_cons_zero, List.set_cons_succ]
                          refine wpAnyH_take (i := 4) (oi := { dst := some 114, op := Op.fieldAddr 39 (Operand.tmp 113) 0, type := 0, pos := "machine.go:86", after := #[{ on := 3, ground := Ground.data }], guard := none }) (v := ?_) rfl (by kernel_rfl) (by kernel_rfl) (by kernel_rfl) (fun _ _ _ h => h) (Or.inl ⟨by rfl, ?_⟩) hHeld ?_
                          rotate_left
                          · (intro w' hSw; (try dsimp only at hSw); go_simp; try with_reducible rfl)
                          try simp only [Act.put, List.setIfInBounds_toArray, List.set_cons_zero, List.set_cons_succ]
                          refine wpAnyH_take (i := 5) (oi := { dst := some 115, op := Op.load 9 (Operand.tmp 114), type := 9, pos := "machine.go:86", after := #[{ on := 4, ground := Ground.data }], guard := none }) (v := ?_) rfl (by kernel_rfl) (by kernel_rfl) (by kernel_rfl) (fun _ _ _ h => h) (Or.inl ⟨by rfl, ?_⟩) hHeld ?_
                          rotate_left
                          · (intro w' hSw; (try dsimp only at hSw); go_simp; try with_reducible rfl)
                          try simp only [Act.put, List.setIfInBounds_toArray, List.set_cons_zero, List.set_cons_succ]
                          refine wpAnyH_take (i := 6) (oi := { dst := some 116, op := Op.fieldAddr 39 (Operand.tmp 7) 0, type := 0, pos := "machine.go:86", after := #[], guard := none }) (v := ?_) rfl (by kernel_rfl) (by kernel_rfl) (by kernel_rfl) (fun _ _ _ h => h) (Or.inl ⟨by rfl, ?_⟩) hHeld ?_
                          rotate_left
                          · (intro w' hSw; (try dsimp only at hSw); go_simp; try with_reducible rfl)
                          try simp only [Act.put, List.setIfInBounds_toArray, List.set_cons_zero, List.set_cons_succ]
                          refine wpAnyH_take (i := 7) (oi := { dst := some 117, op := Op.load 9 (Operand.tmp 116), type := 9, pos := "machine.go:86", after := #[{ on := 6, ground := Ground.data }], guard := none }) (v := ?_) rfl (by kernel_rfl) (by kernel_rfl) (by kernel_rfl) (fun _ _ _ h => h) (Or.inl ⟨by rfl, ?_⟩) hHeld ?_
                          rotate_left
                          · (intro w' hSw; (try dsimp only at hSw); go_simp; try with_reducible rfl)
                          try simp only [Act.put, List.setIfInBounds_toArray, List.set_cons_zero, List.set_cons_succ]
                          refine wpAnyH_take (i := 8) (oi := { dst := some 118, op := Op.binOp BinOp.eql 9 (Operand.tmp 115) (Operand.tmp 117) 9, type := 4, pos := "machine.go:86", after := #[{ on := 5, ground := Ground.data }, { on := 7, ground := Ground.data }], guard := none }) (v := ?_) rfl (by kernel_rfl) (by kernel_rfl) (by kernel_rfl) (fun _ _ _ h => h) (Or.inl ⟨by rfl, ?_⟩) hHeld ?_
                          rotate_left
                          · (intro w' hSw; (try dsimp only at hSw); go_simp; try with_reducible rfl)
                          try simp only [Act.put, List.setIfInBounds_toArray, List.set_cons_zero, List.set_cons_succ]
                          refine wpAnyH_take (i := 9) (oi := { dst := some 119, op := Op.move (Operand.tmp 118), type := 4, pos := "machine.go:86", after := #[{ on := 8, ground := Ground.data }], guard := none }) (v := ?_) rfl (by kernel_rfl) (by kernel_rfl) (by kernel_rfl) (fun _ _ _ h => h) (Or.inl ⟨by rfl, ?_⟩) hHeld ?_
                          rotate_left
                          · (intro w' hSw; (try dsimp only at hSw); go_simp; try with_reducible rfl)
                          try simp only [Act.put, List.setIfInBounds_toArray, List.set_cons_zero, List.set_cons_succ]
                          refine wpAnyH_take (i := 10) (oi := { dst := some 120, op := Op.fieldAddr 25 (Operand.tmp 1) 1, type := 0, pos := "machine.go:86", after := #[{ on := 9, ground := Ground.guard }], guard := some (9, true) }) (v := ?_) rfl (by kernel_rfl) (by kernel_rfl) (by kernel_rfl) (fun _ _ _ h => h) (Or.inl ⟨by rfl, ?_⟩) hHeld ?_
                          rotate_left
                          · (intro w' hSw; (try dsimp only at hSw); go_simp; try with_reducible rfl)
                          try simp only [Act.put, List.setIfInBounds_toArray, List.set_cons_zero, List.set_cons_succ]
                          refine wpAnyH_take (i := 11) (oi := { dst := some 121, op := Op.load 23 (Operand.tmp 120), type := 23, pos := "machine.go:86", after := #[{ on := 10, ground := Ground.data }, { on := 9, ground := Ground.guard }], guard := some (9, true) }) (v := ?_) rfl (by kernel_rfl) (by kernel_rfl) (by kernel_rfl) (fun _ _ _ h => h) (Or.inl ⟨by rfl, ?_⟩) hHeld ?_
                          rotate_left
                          · (intro w' hSw; (try dsimp only at hSw); go_simp; try with_reducible rfl)
                          try simp only [Act.put, List.setIfInBounds_toArray, List.set_cons_zero, List.set_cons_succ]
                          refine wpAnyH_take (i := 12) (oi := { dst := some 122, op := Op.move (Operand.tmp 8), type := 3, pos := "machine.go:86", after := #[{ on := 9, ground := Ground.guard }], guard := some (9, true) }) (v := ?_) rfl (by kernel_rfl) (by kernel_rfl) (by kernel_rfl) (fun _ _ _ h => h) (Or.inl ⟨by rfl, ?_⟩) hHeld ?_
                          rotate_left
                          · (intro w' hSw; (try dsimp only at hSw); go_simp; try with_reducible rfl)
                          try simp only [Act.put, List.setIfInBounds_toArray, List.set_cons_zero, List.set_cons_succ]
                          refine wpAnyH_take (i := 13) (oi := { dst := some 123, op := Op.indexAddr 23 (Operand.tmp 121) (Operand.tmp 122), type := 0, pos := "machine.go:86", after := #[{ on := 11, ground := Ground.data }, { on := 12, ground := Ground.data }, { on := 9, ground := Ground.guard }], guard := some (9, true) }) (v := ?_) rfl (by kernel_rfl) (by kernel_rfl) (by kernel_rfl) (fun _ _ _ h => h) (Or.inl ⟨by rfl, ?_⟩) hHeld ?_
                          rotate_left
                          · (intro w' hSw; (try dsimp only at hSw); go_simp; try with_reducible rfl)
                          try simp only [Act.put, List.setIfInBounds_toArray, List.set_cons_zero, List.set_cons_succ]
                          refine wpAnyH_take (i := 14) (oi := { dst := some 124, op := Op.fieldAddr 39 (Operand.tmp 123) 1, type := 0, pos := "machine.go:86", after := #[{ on := 13, ground := Ground.data }, { on := 9, ground := Ground.guard }], guard := some (9, true) }) (v := ?_) rfl (by kernel_rfl) (by kernel_rfl) (by kernel_rfl) (fun _ _ _ h => h) (Or.inl ⟨by rfl, ?_⟩) hHeld ?_
                          rotate_left
                          · (intro w' hSw; (try dsimp only at hSw); go_simp; try with_reducible rfl)
                          try simp only [Act.put, List.setIfInBounds_toArray, List.set_cons_zero, List.set_cons_succ]
                          refine wpAnyH_take (i := 15) (oi := { dst := some 125, op := Op.load 3 (Operand.tmp 124), type := 3, pos := "machine.go:86", after := #[{ on := 14, ground := Ground.data }, { on := 9, ground := Ground.guard }], guard := some (9, true) }) (v := ?_) rfl (by kernel_rfl) (by kernel_rfl) (by kernel_rfl) (fun _ _ _ h => h) (Or.inl ⟨by rfl, ?_⟩) hHeld ?_
                          rotate_left
                          · (intro w' hSw; (try dsimp only at hSw); go_simp; try with_reducible rfl)
                          try simp only [Act.put, List.setIfInBounds_toArray, List.set_cons_zero, List.set_cons_succ]
                          refine wpAnyH_take (i := 16) (oi := { dst := some 126, op := Op.fieldAddr 39 (Operand.tmp 7) 1, type := 0, pos := "machine.go:86", after := #[{ on := 9, ground := Ground.guard }], guard := some (9, true) }) (v := ?_) rfl (by kernel_rfl) (by kernel_rfl) (by kernel_rfl) (fun _ _ _ h => h) (Or.inl ⟨by rfl, ?_⟩) hHeld ?_
                          rotate_left
                          · (intro w' hSw; (try dsimp only at hSw); go_simp; try with_reducible rfl)
                          try simp only [Act.put, List.setIfInBounds_toArray, List.set_cons_zero, List.set_cons_succ]
                          refine wpAnyH_take (i := 17) (oi := { dst := some 127, op := Op.load 3 (Operand.tmp 126), type := 3, pos := "machine.go:86", after := #[{ on := 16, ground := Ground.data }, { on := 9, ground := Ground.guard }], guard := some (9, true) }) (v := ?_) rfl (by kernel_rfl) (by kernel_rfl) (by kernel_rfl) (fun _ _ _ h => h) (Or.inl ⟨by rfl, ?_⟩) hHeld ?_
                          rotate_left
                          · (intro w' hSw; (try dsimp only at hSw); go_simp; try with_reducible rfl)
                          try simp only [Act.put, List.setIfInBounds_toArray, List.set_cons_zero, List.set_cons_succ]
                          refine wpAnyH_take (i := 18) (oi := { dst := some 128, op := Op.binOp BinOp.eql 3 (Operand.tmp 125) (Operand.tmp 127) 3, type := 4, pos := "machine.go:86", after := #[{ on := 15, ground := Ground.data }, { on := 17, ground := Ground.data }, { on := 9, ground := Ground.guard }], guard := some (9, true) }) (v := ?_) rfl (by kernel_rfl) (by kernel_rfl) (by kernel_rfl) (fun _ _ _ h => h) (Or.inl ⟨by rfl, ?_⟩) hHeld ?_
                          rotate_left
                          · (intro w' hSw; (try dsimp only at hSw); go_simp; try with_reducible rfl)
                          try simp only [Act.put, List.setIfInBounds_toArray, List.set_cons_zero, List.set_cons_succ]
                          refine wpAnyH_take (i := 19) (oi := { dst := some 129, op := Op.pick (Operand.tmp 119) (Operand.tmp 128) (Operand.const (Value.bool false)), type := 4, pos := "machine.go:86", after := #[{ on := 9, ground := Ground.data }, { on := 18, ground := Ground.data }], guard := none }) (v := ?_) rfl (by kernel_rfl) (by kernel_rfl) (by kernel_rfl) (fun _ _ _ h => h) (Or.inl ⟨by rfl, ?_⟩) hHeld ?_
                          rotate_left
                          · (intro w' hSw; (try dsimp only at hSw); go_simp; try with_reducible rfl)
                          try simp only [Act.put, List.setIfInBounds_toArray, List.set_cons_zero, List.set_cons_succ]
                          refine wpAnyH_done (by kernel_rfl) ?_ _
                          refine NoPanic.normal ?_
                          have HN4 := hide ((unhide HN3).trans ((unhide HBI).drew.mono (unhide HN3).size))
                          clear KEEP
                          go_wp2_with fail
                          go_ret
                          exact ⟨by rw [unhide HV]; rfl, unhide HN4⟩
                    · obtain rfl : l = j := by omega
                      have hl1 : ¬ (l : Int) < l := by omega
                      have HN4 := hide (show Below W1.heap.size W1 wi ∧ entB (E.take (l + 1)) ((m1 + 1 : Nat) : Int) = true from ⟨hBi, by rw [(unhide HX).2.1, unhide HOK, unhide HEO, decide_eq_false (row8 hno)]; rfl⟩)
                      clear hbi2 hno hBi d0 d1 d2
                      go_wp2_with fail
                      go_roundw
                      case rel => exact ⟨l + 1, by omega, by go_num, unhide HN4⟩
                      case measure => simp [intOf]; omega
              · obtain rfl : j = len' := by omega
                have hj1' : ¬ (j : Int) < j := by omega
                have HV := hide (F4.out (unhide HIT) (unhide HPL) (by have h := hok; rw [List.take_of_length_le (by have := unhide HL'; omega)] at h; exact h))
                have HN := hide ((unhide HB).trans (hbr.mono (unhide HB).size))
                clear hbr hok d0 d2
                go_wp2_with fail
                go_ret
                exact ⟨by rw [unhide HV]; rfl, unhide HN⟩
end Go.Proofs.YtcnoipaoljjelaaGreatDoor

