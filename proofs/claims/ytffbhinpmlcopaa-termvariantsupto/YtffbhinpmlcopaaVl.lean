import Derived.Test.YtffbhinpmlcopaaVms
import Derived.Test.YtffbhinpmlcopaaTw
/- The law hornkeep.TermVariants: it answers true, whatever the two terms and the number (within a bound of the terms' parts). -/
namespace Go.Proofs.Ytffbhinpmlcopaa
open Go.RowKit Go.Shelf Go.Maps

theorem variant_c {D : Nat} {W : World} {v v' : Value} {c c' : List Nd} (h : TC D W v c) (h' : TC D W v' c') (hD39 : D ≤ 549755813888 := by omega) :
    Calls Try.prog 21 #[v, v'] W fun e W' => ∃ (f : Bool) (r : Int), e = .returned (.tuple #[.bool f, .int .i64 r]) ∧ Below W.heap.size W W' ∧ (okC c → okC c' → f = decide (canon 0 c = canon 0 c')) := by
  obtain ⟨p, rfl, hp, _, rfl⟩ := h.2 D (Nat.le_refl _) h.1
  obtain ⟨t, rfl, ht, _, rfl⟩ := h'.2 D (Nat.le_refl _) h'.1
  by_cases hok : (okT p && okT t) = true
  · rw [Bool.and_eq_true] at hok
    refine (variant_any p t W hp ht hok.1 hok.2 hD39).mono fun e W' h => ?_
    exact ⟨_, _, h.1, h.2, fun _ _ => rfl⟩
  · refine (variant_no p t W hp ht (by simpa using hok)).mono fun e W' h => ?_
    refine ⟨_, _, h.1, h.2, fun h1 h2 => ?_⟩
    unfold okC at h1 h2
    rw [← okT_code] at h1 h2
    exact (hok (by rw [h1, h2]; rfl)).elim
theorem zero_tc (D : Nat) (W : World) (hDl : D + 1 ≤ 2199023255552 := by omega) : TC (D + 1) W (⟨0, 0, ⟨#[]⟩, none, 0, 0⟩ : TV).val [(⟨0, 0, ⟨#[]⟩, none, 0, 0⟩ : TV).nd] :=
  ((holds_leaf ⟨0, 0, ⟨#[]⟩, none, 0, 0⟩ rfl rfl rfl (by simp [ByteArray.size]) 0 W).mono (by omega) (Nat.le_refl _)).holdsS.tc hDl
/-- What Rename answers: a term in any case; where there is no error, one that is numbered as the first. -/
theorem ren_tc {n : Nat} {t : Tm n} {lo : Nat} {W' : World} {x : TV} {r : Int} (h : RenSays t lo W' x r) (hDl : n + 1 ≤ 2199023255552 := by omega) : ∃ c, TC (n + 1) W' x.val c ∧ (r = 0 → okC c ∧ canon 0 (code t) = canon 0 c) := by
  rcases h with ⟨rfl, f, h1, h2⟩ | ⟨h1, rfl⟩
  · exact ⟨_, h2.holdsS.tc hDl, fun _ => ⟨h1, (canon_canon f (code t)).symm⟩⟩
  · exact ⟨_, zero_tc n W' hDl, fun h => (h1 h).elim⟩

set_option maxRecDepth 100000 in
set_option maxHeartbeats 2000000 in
theorem termVariants_ok {n : Nat} (a b : Tm n) (from' : Int) (w : World) (ha : IsT w.heap.size w a) (hb : IsT w.heap.size w b) (oka : okT a = true) (okb : okT b = true) (hla : (code a).length ≤ 4194304) (hlb : (code b).length ≤ 4194304) (hn40 : n ≤ 1048576) :
    Calls Try.prog 6 #[a.tv.val, b.tv.val, .int .i64 from'] w fun e W' => e = .returned (.bool true) ∧ Below w.heap.size w W' := by
  obtain ⟨W0, hW0, hB0, hba, hbb, hs0⟩ := two_new w a.tv b.tv
  have hfa := fun (W : World) (hb' : Below w.heap.size w W) => formed_any n a W ((ha.below hb').mono hb'.size)
  have hfb := fun (W : World) (hb' : Below w.heap.size w W) => formed_any n b W ((hb.below hb').mono hb'.size)
  have hre := fun (W : World) (hb' : Below w.heap.size w W) => rename_any a from' W ((ha.below hb').mono hb'.size) oka
  rw [oka] at hfa
  rw [okb] at hfb
  have ta : TC n w a.tv.val (code a) := tc_of ha
  have tb : TC n w b.tv.val (code b) := tc_of hb
  have oca : okC (code a) := by unfold okC; rw [← okT_code]; exact oka
  have ocb : okC (code b) := by unfold okC; rw [← okT_code]; exact okb
  have c0 := hba.c0
  have c1 := hba.c1
  have c2 := hba.c2
  have c3 := hba.c3
  simp only [TV.val] at hfa hfb hre ta tb ⊢
  have HFB := hide hfb
  have HRE := hide hre
  have TA := hide ta
  have TB := hide tb
  have OCA := hide oca
  have OCB := hide ocb
  have hfa0 := hfa W0 hB0
  clear hfa hfb hre ta tb oca ocb ha hb oka okb hs0
  go_enter Try.func6, Try.ntmps6
  go_wp2_with fail
  refine hfa0.mono ?_
  clear hfa0 c0 c1 c2 c3 hW0
  rintro e W1 ⟨rfl, hb1⟩
  have hB1 := hB0.trans (hb1.mono hB0.size)
  replace hba := hba.kept hb1
  replace hbb := hbb.kept hb1
  clear hb1 hB0
  have d0 := hbb.c0
  have d1 := hbb.c1
  have d2 := hbb.c2
  have d3 := hbb.c3
  go_wp2_with fail
  refine ((unhide HFB) W1 hB1).mono ?_
  clear d0 d1 d2 d3 HFB
  rintro e W2 ⟨rfl, hb2⟩
  have hB2 := hB1.trans (hb2.mono hB1.size)
  replace hba := hba.kept hb2
  replace hbb := hbb.kept hb2
  clear hb2 hB1
  have c0 := hba.c0
  have c1 := hba.c1
  have c2 := hba.c2
  have c3 := hba.c3
  go_wp2_with fail
  refine ((unhide HRE) W2 hB2).mono ?_
  clear c0 c1 c2 c3 HRE
  rintro e W3 ⟨x, k, r, rfl, hb3, hx⟩
  obtain ⟨cx, tx, hcx⟩ := ren_tc hx
  have hb4 : Below W3.heap.size W3 (W3.alloc (.cells #[.int .i64 x.k, .int .i64 x.N, .string x.s, .slice x.a x.len x.cap] 24)) := (Below.refl _ W3).alloc (Nat.le_refl _) _
  have hb24 := hb3.trans (hb4.mono hb3.size)
  have hB4 := hB2.trans (hb24.mono hB2.size)
  replace hba := hba.kept hb24
  replace hbb := hbb.kept hb24
  have hbx := BoxT.new W3 x
  have hva := variant_c (((unhide TA).below hB4).mono (show n ≤ n + 1 by omega)) (tx.below hb4)
  have c0 := hba.c0
  have c1 := hba.c1
  have c2 := hba.c2
  have c3 := hba.c3
  have x0 := hbx.c0
  have x1 := hbx.c1
  have x2 := hbx.c2
  have x3 := hbx.c3
  have HCX := hide hcx
  have HBA := hide hba
  have HBB := hide hbb
  have HB4 := hide hB4
  simp only [TV.val] at hva
  clear hx tx hcx hb3 hb4 hb24 hB2 hbx hba hbb hB4
  go_wp2_with fail
  refine hva.mono ?_
  clear hva c0 c1 c2 c3 x0 x1 x2 x3
  rintro e W5 ⟨f, r', rfl, hb5, hf⟩
  have hB5 := (unhide HB4).trans (hb5.mono (unhide HB4).size)
  have hba := (unhide HBA).kept hb5
  have hbb := (unhide HBB).kept hb5
  have hok5 : r = 0 → f = true := fun h => by
    obtain ⟨k1, k2⟩ := (unhide HCX) h
    rw [hf (unhide OCA) k1]
    exact decide_eq_true k2
  have hva := variant_c ((unhide TA).below hB5) ((unhide TB).below hB5)
  have c0 := hba.c0
  have c1 := hba.c1
  have c2 := hba.c2
  have c3 := hba.c3
  have d0 := hbb.c0
  have d1 := hbb.c1
  have d2 := hbb.c2
  have d3 := hbb.c3
  have HVA := hide hva
  have HBA5 := hide hba
  have HBB5 := hide hbb
  have HB5 := hide hB5
  clear hf hb5 HBA HBB HB4 HCX hba hbb hB5 hva
  have hgo : (r == 0) = false ∨ ((r == 0) = true ∧ f = true) := by
    by_cases h : r = 0
    · exact .inr ⟨by simp [h], hok5 h⟩
    · exact .inl (by simp [h])
  clear hok5
  rcases hgo with hr | ⟨hr, rfl⟩
  all_goals
    go_wp2_with fail
    have hva := unhide HVA
    refine hva.mono ?_
    clear hva HVA c0 c1 c2 c3 d0 d1 d2 d3
    rintro e W6 ⟨g, r'', rfl, hb6, hg⟩
    have hB6 := (unhide HB5).trans (hb6.mono (unhide HB5).size)
    have hba := (unhide HBA5).kept hb6
    have hbb := (unhide HBB5).kept hb6
    have hge := hg (unhide OCA) (unhide OCB)
    have HGE := hide hge
    have hma := match_c ((unhide TA).below hB6) ((unhide TB).below hB6) (unhide OCA) (unhide OCB) hla
    have c0 := hba.c0
    have c1 := hba.c1
    have c2 := hba.c2
    have c3 := hba.c3
    have d0 := hbb.c0
    have d1 := hbb.c1
    have d2 := hbb.c2
    have d3 := hbb.c3
    have HBA6 := hide hba
    have HBB6 := hide hbb
    have HB6 := hide hB6
    clear hg hge hb6 hba hbb hB6 HBA5 HBB5 HB5
    go_wp2_with fail
    refine hma.mono ?_
    clear hma c0 c1 c2 c3 d0 d1 d2 d3
    rintro e W7 ⟨la, ll, lc, x1, rfl, hb7, hx1, -⟩
    have hB7 := (unhide HB6).trans (hb7.mono (unhide HB6).size)
    have hba := (unhide HBA6).kept hb7
    have hbb := (unhide HBB6).kept hb7
    have HX1 := hide hx1
    have hma := match_c ((unhide TB).below hB7) ((unhide TA).below hB7) (unhide OCB) (unhide OCA) hlb
    have c0 := hba.c0
    have c1 := hba.c1
    have c2 := hba.c2
    have c3 := hba.c3
    have d0 := hbb.c0
    have d1 := hbb.c1
    have d2 := hbb.c2
    have d3 := hbb.c3
    have HB7 := hide hB7
    clear hx1 hb7 hba hbb hB7 HBA6 HBB6 HB6
    go_wp2_with fail
    refine hma.mono ?_
    clear hma c0 c1 c2 c3 d0 d1 d2 d3
    rintro e W8 ⟨la', ll', lc', y1, rfl, hb8, hy1, -⟩
    have hB8 := (unhide HB7).trans (hb8.mono (unhide HB7).size)
    have hall : g = (x1 && y1) := by
      rw [unhide HGE, Bool.eq_iff_iff, decide_eq_true_eq, variants_iff (unhide OCA) (unhide OCB), Bool.and_eq_true, unhide HX1, hy1]
    have HALL := hide hall
    clear hb8 hy1 hall
    cases x1 with
    | false =>
      obtain rfl : g = false := by have := unhide HALL; simpa using this
      go_wp2_with fail
      exact bodyPost_ret (v := .bool true) (by simp [results, Try.results6, go_sem]) rfl ⟨rfl, hB8⟩
    | true =>
      obtain rfl : g = y1 := by have := unhide HALL; simpa using this
      go_wp2_with fail
      exact bodyPost_ret (v := .bool true) (by simp [results, Try.results6, go_sem]) rfl ⟨rfl, hB8⟩

set_option maxRecDepth 100000 in
set_option maxHeartbeats 1000000 in
theorem termVariants_no {n : Nat} (a b : Tm n) (from' : Int) (w : World) (ha : IsT w.heap.size w a) (hb : IsT w.heap.size w b) (hno : ¬ (okT a = true ∧ okT b = true)) :
    Calls Try.prog 6 #[a.tv.val, b.tv.val, .int .i64 from'] w fun e W' => e = .returned (.bool true) ∧ Below w.heap.size w W' := by
  obtain ⟨W0, hW0, hB0, hba, hbb, hs0⟩ := two_new w a.tv b.tv
  have hfa := formed_any n a W0 ((ha.below hB0).mono hB0.size)
  have hfb := fun (W : World) (hb' : Below w.heap.size w W) => formed_any n b W ((hb.below hb').mono hb'.size)
  have c0 := hba.c0
  have c1 := hba.c1
  have c2 := hba.c2
  have c3 := hba.c3
  simp only [TV.val] at hfa hfb ⊢
  have HFB := hide hfb
  clear hfb ha hb hs0
  cases oka : okT a with
  | false =>
    rw [oka] at hfa
    clear oka hno
    go_enter Try.func6, Try.ntmps6
    go_wp2_with fail
    refine hfa.mono ?_
    clear hfa c0 c1 c2 c3 hW0
    rintro e W1 ⟨rfl, hb1⟩
    have hB1 := hB0.trans (hb1.mono hB0.size)
    clear hb1 hB0
    go_wp2_with fail
    exact bodyPost_ret (v := .bool true) (by simp [results, Try.results6, go_sem]) rfl ⟨rfl, hB1⟩
  | true =>
    rw [oka] at hfa
    have okb : okT b = false := by
      cases okb : okT b with
      | false => rfl
      | true => exact (hno ⟨oka, okb⟩).elim
    rw [okb] at HFB
    clear oka hno okb
    go_enter Try.func6, Try.ntmps6
    go_wp2_with fail
    refine hfa.mono ?_
    clear hfa c0 c1 c2 c3 hW0
    rintro e W1 ⟨rfl, hb1⟩
    have hB1 := hB0.trans (hb1.mono hB0.size)
    replace hbb := hbb.kept hb1
    clear hb1 hB0
    have d0 := hbb.c0
    have d1 := hbb.c1
    have d2 := hbb.c2
    have d3 := hbb.c3
    go_wp2_with fail
    refine ((unhide HFB) W1 hB1).mono ?_
    clear d0 d1 d2 d3 HFB
    rintro e W2 ⟨rfl, hb2⟩
    have hB2 := hB1.trans (hb2.mono hB1.size)
    clear hb2 hB1
    go_wp2_with fail
    exact bodyPost_ret (v := .bool true) (by simp [results, Try.results6, go_sem]) rfl ⟨rfl, hB2⟩
theorem termVariants_any {n : Nat} (a b : Tm n) (from' : Int) (w : World) (ha : IsT w.heap.size w a) (hb : IsT w.heap.size w b) (hla : (code a).length ≤ 4194304) (hlb : (code b).length ≤ 4194304) (hn40 : n ≤ 1048576) :
    Calls Try.prog 6 #[a.tv.val, b.tv.val, .int .i64 from'] w fun e W' => e = .returned (.bool true) ∧ Below w.heap.size w W' := by
  by_cases h : okT a = true ∧ okT b = true
  · exact termVariants_ok a b from' w ha hb h.1 h.2 hla hlb hn40
  · exact termVariants_no a b from' w ha hb h
end Go.Proofs.Ytffbhinpmlcopaa

