import Derived.Test.YtdjlekcapfeniaaE
import Derived.Deep.RegionHeld3
/- The contract of term.order: it answers ordT of two terms; nothing that lay is changed. -/
namespace Go.Proofs.Ytdjlekcapfeniaa
open Go.RowKit Go.Shelf

theorem lexL_stop {α : Type} {f : α → α → Int} : ∀ (a b : List α) (j : Nat) (u v : α), a[j]? = some u → b[j]? = some v → lexL f (a.take j) (b.take j) = 0 → f u v ≠ 0 → lexL f a b = f u v := by
  intro a
  induction a with
  | nil => intro b j u v h; simp at h
  | cons x a ih =>
    intro b j u v hu hv h hne
    cases b with
    | nil => simp at hv
    | cons y b =>
      cases j with
      | zero =>
        simp at hu hv; subst hu; subst hv
        simp only [lexL, thenC]; rw [if_pos hne]
      | succ j =>
        simp only [List.take_succ_cons, lexL, thenC_zero] at h
        simp only [List.getElem?_cons_succ] at hu hv
        simp only [lexL, thenC]
        rw [if_neg (by omega)]
        exact ih b j u v hu hv h.2 hne
theorem lexL_next {α : Type} {f : α → α → Int} : ∀ (a b : List α) (j : Nat) (u v : α), a[j]? = some u → b[j]? = some v → lexL f (a.take j) (b.take j) = 0 → f u v = 0 → lexL f (a.take (j + 1)) (b.take (j + 1)) = 0 := by
  intro a
  induction a with
  | nil => intro b j u v h; simp at h
  | cons x a ih =>
    intro b j u v hu hv h hne
    cases b with
    | nil => simp at hv
    | cons y b =>
      cases j with
      | zero =>
        simp at hu hv; subst hu; subst hv
        simp [lexL, thenC_zero, hne]
      | succ j =>
        simp only [List.take_succ_cons, lexL, thenC_zero] at h ⊢
        simp only [List.getElem?_cons_succ] at hu hv
        exact ⟨h.1, by simpa using ih b j u v hu hv h.2 hne⟩

/-- The j-th of the Args, in a later world. -/
theorem kid_at {n : Nat} {w wr : World} {a : Option Addr} {len : Nat} {kids : List (Tm n)} (hkids : kids = [] ∨ ∃ b off, a = some ⟨b, off, none⟩ ∧ b < w.heap.size ∧ ∀ j u, kids[j]? = some u → cellsAt w b (off + j * 4) u.tv ∧ IsT w.heap.size w u)
    (hbw : Below w.heap.size w wr) {j : Nat} (hj : j < len) (hl : len ≤ kids.length) :
    ∃ u b off, kids[j]? = some u ∧ a = some ⟨b, off, none⟩ ∧ cellsAt wr b (off + j * 4) u.tv ∧ IsT wr.heap.size wr u ∧ b < w.heap.size := by
  obtain ⟨u, hu⟩ : ∃ u, kids[j]? = some u := ⟨kids[j]'(by omega), List.getElem?_eq_getElem (by omega)⟩
  have hne : kids ≠ [] := by rintro rfl; simp at hu
  obtain ⟨b, off, ha, hbk, hk⟩ := hkids.resolve_left hne
  obtain ⟨⟨c0, c1, c2, c3⟩, hT⟩ := hk j u hu
  exact ⟨u, b, off, hu, ha, ⟨(hbw.cell (p := ⟨b, off + j * 4, none⟩) hbk).trans c0, (hbw.cell (p := ⟨b, off + j * 4 + 1, none⟩) hbk).trans c1, (hbw.cell (p := ⟨b, off + j * 4 + 2, none⟩) hbk).trans c2, (hbw.cell (p := ⟨b, off + j * 4 + 3, none⟩) hbk).trans c3⟩, (hT.below hbw).mono hbw.size, hbk⟩

theorem bcell {W w1 : World} (hb : Below W.heap.size W w1) : ∀ b o, b < W.heap.size → w1.cell? ⟨b, o, none⟩ = W.cell? ⟨b, o, none⟩ := fun b o h => hb.cell (p := ⟨b, o, none⟩) h
theorem two_boxes {w W1 : World} {c0 c1 c2 c3 d0 d1 d2 d3 : Value} (hb : Below ((w.alloc (.cells #[c0, c1, c2, c3] 24)).alloc (.cells #[d0, d1, d2, d3] 24)).heap.size ((w.alloc (.cells #[c0, c1, c2, c3] 24)).alloc (.cells #[d0, d1, d2, d3] 24)) W1) :
    (Below w.heap.size w W1 ∧ w.heap.size + 2 ≤ W1.heap.size) ∧ W1.cell? ⟨w.heap.size, 3, none⟩ = some c3 ∧ W1.cell? ⟨w.heap.size + 1, 3, none⟩ = some d3 := by
  have hs := hb.size
  have hs2 : ((w.alloc (.cells #[c0, c1, c2, c3] 24)).alloc (.cells #[d0, d1, d2, d3] 24)).heap.size = w.heap.size + 2 := by simp
  rw [hs2] at hb hs
  exact ⟨⟨(((Below.refl _ w).alloc (Nat.le_refl _) _).alloc (by simp) _).trans (hb.mono (by omega)), hs⟩, (hb.cell (p := ⟨w.heap.size, 3, none⟩) (by simp)).trans (by simp), (hb.cell (p := ⟨w.heap.size + 1, 3, none⟩) (by simp)).trans (by simp)⟩

set_option maxRecDepth 100000 in
set_option maxHeartbeats 1000000 in
theorem order_any : ∀ (n : Nat) (x y : Tm n) (w : World), IsT w.heap.size w x → IsT w.heap.size w y → Calls Try.prog 54 #[x.tv.val, y.tv.val] w fun e W' => e = .returned (.int .i64 (ordT x y)) ∧ Below w.heap.size w W' := by
  intro n
  induction n with
  | zero => intro t; exact Empty.elim t
  | succ n ih =>
    intro x y w hx hy
    obtain ⟨⟨k, kN, s, a, len, cap⟩, kids⟩ := x
    obtain ⟨⟨k', kN', s', a', len', cap'⟩, kids'⟩ := y
    obtain ⟨hlen, hmax, hsm, hkids⟩ := hx
    obtain ⟨hlen', hmax', hsm', hkids'⟩ := hy
    simp only [Tm.tv, Tm.kids] at hlen hmax hsm hkids hlen' hmax' hsm' hkids'
    have HI := hide ih
    clear ih
    have htop : Calls Try.prog 58 #[.agg #[.int .i64 k, .int .i64 kN, .string s, .slice a len cap], .agg #[.int .i64 k', .int .i64 kN', .string s', .slice a' len' cap']] ((w.alloc (.cells #[.int .i64 k, .int .i64 kN, .string s, .slice a len cap] 24)).alloc (.cells #[.int .i64 k', .int .i64 kN', .string s', .slice a' len' cap'] 24))
        fun e W1 => e = .returned (.int .i64 (otop ⟨k, kN, s, a, len, cap⟩ ⟨k', kN', s', a', len', cap'⟩)) ∧ (Below w.heap.size w W1 ∧ w.heap.size + 2 ≤ W1.heap.size) ∧ W1.cell? ⟨w.heap.size, 3, none⟩ = some (.slice a len cap) ∧ W1.cell? ⟨w.heap.size + 1, 3, none⟩ = some (.slice a' len' cap') :=
      (otop_any ⟨k, kN, s, a, len, cap⟩ ⟨k', kN', s', a', len', cap'⟩ _).mono fun e W1 h =>
        ⟨h.1, two_boxes h.2⟩
    simp only [TV.val, Tm.tv, ordT, Tm.kids]
    have hz := @otop_zero ⟨k, kN, s, a, len, cap⟩ ⟨k', kN', s', a', len', cap'⟩
    have hll : otop ⟨k, kN, s, a, len, cap⟩ ⟨k', kN', s', a', len', cap'⟩ = 0 → len = len' := by
      intro h
      have := hz.1 h
      simp [stop] at this
      omega
    clear hz
    generalize otop ⟨k, kN, s, a, len, cap⟩ ⟨k', kN', s', a', len', cap'⟩ = c at *
    by_cases hc : c = 0
    · have hlq := hll hc
      have hl1 : len ≤ kids.length := by omega
      have hl2 : kids.length ≤ len := by omega
      have hl3 : len ≤ kids'.length := by omega
      have hl4 : kids'.length ≤ len := by omega
      have hl5 : (len : Int) ≤ len' := by omega
      clear hll hlq hlen hlen'
      have hc' : (c != 0) = false := by simp [hc]
      have hfin : thenC c (lexL ordT kids kids') = lexL ordT kids kids' := by unfold thenC; rw [if_neg (by omega)]
      rw [hfin]
      clear hc hfin
      go_enter Try.func54, Try.ntmps54
      go_wp2_with (go_at_call 58; refine htop.mono ?_; clear htop; rintro e W1 ⟨rfl, ⟨hb1, hzz⟩, hcc, hcd⟩)
      go_loopw [17] (fun i wr => ∃ j : Nat, j ≤ len ∧ i = .int .i64 j ∧ lexL ordT (kids.take j) (kids'.take j) = 0 ∧ Below W1.heap.size W1 wr) (fun i _ => len - (intOf i).toNat)
      case atStart => exact ⟨0, Nat.zero_le _, rfl, by simp [lexL], Below.refl _ _⟩
      case round =>
        obtain ⟨j, hj, rfl, ho, hb⟩ := hrel
        have hbw : Below w.heap.size w wr := hb1.trans (hb.mono (by omega))
        have HO := hide ho
        clear ho
        by_cases hlt : j < len
        · obtain ⟨u, b, off, hu, rfl, ⟨c0, c1, c2, c3⟩, hT, hbk⟩ := kid_at hkids hbw hlt hl1
          obtain ⟨v, b', off', hv, rfl, ⟨d0, d1, d2, d3⟩, hT', hbk'⟩ := kid_at hkids' hbw hlt hl3
          replace hcc := (hb.cell (p := ⟨w.heap.size, 3, none⟩) (by simp; omega)).trans hcc
          replace hcd := (hb.cell (p := ⟨w.heap.size + 1, 3, none⟩) (by simp; omega)).trans hcd
          have hj1 : (j : Int) < len := by omega
          have hj2 : (j : Int) < len' := by omega
          have ihu : Calls Try.prog 54 #[.agg #[.int .i64 u.tv.k, .int .i64 u.tv.N, .string u.tv.s, .slice u.tv.a u.tv.len u.tv.cap], .agg #[.int .i64 v.tv.k, .int .i64 v.tv.N, .string v.tv.s, .slice v.tv.a v.tv.len v.tv.cap]] wr.drew fun e W2 => e = .returned (.int .i64 (ordT u v)) ∧ Below wr.heap.size wr W2 :=
            ((unhide HI) u v wr.drew (hT.below (Below.refl _ wr).drew) (hT'.below (Below.refl _ wr).drew)).mono fun e W2 h => ⟨h.1, (Below.refl _ wr).drew.trans h.2⟩
          have hy1 : w.heap.size < wr.heap.size := by have := hb.size; omega
          have hy2 : w.heap.size + 1 < wr.heap.size := by have := hb.size; omega
          have hy3 : b < wr.heap.size := by omega
          have hy4 : b' < wr.heap.size := by omega
          have hstop := lexL_stop (f := ordT) kids kids' j u v hu hv (unhide HO)
          have hnext := lexL_next (f := ordT) kids kids' j u v hu hv (unhide HO)
          clear hkids hkids' hT hT' hu hv
          generalize ordT u v = d at *
          have HN := hide hnext
          have HS := hide hstop
          clear hnext hstop
          by_cases hd : d = 0
          · have hd' : (d != 0) = false := by simp [hd]
            have HD := hide hd
            clear hd
            go_wp2_with fail
            go_region_held3 (fun w' => w'.cell? ⟨w.heap.size, 3, none⟩ = some (.slice (some ⟨b, off, none⟩) len cap) ∧ w'.cell? ⟨w.heap.size + 1, 3, none⟩ = some (.slice (some ⟨b', off', none⟩) len' cap')
              ∧ w'.cell? ⟨b, off + j * 4, none⟩ = some (.int .i64 u.tv.k) ∧ w'.cell? ⟨b, off + j * 4 + 1, none⟩ = some (.int .i64 u.tv.N) ∧ w'.cell? ⟨b, off + j * 4 + 2, none⟩ = some (.string u.tv.s) ∧ w'.cell? ⟨b, off + j * 4 + 3, none⟩ = some (.slice u.tv.a u.tv.len u.tv.cap)
              ∧ w'.cell? ⟨b', off' + j * 4, none⟩ = some (.int .i64 v.tv.k) ∧ w'.cell? ⟨b', off' + j * 4 + 1, none⟩ = some (.int .i64 v.tv.N) ∧ w'.cell? ⟨b', off' + j * 4 + 2, none⟩ = some (.string v.tv.s) ∧ w'.cell? ⟨b', off' + j * 4 + 3, none⟩ = some (.slice v.tv.a v.tv.len v.tv.cap)) (go_keep)
              (first | (go_at_call 54; refine ihu.mono ?_; clear ihu; rintro e W2 ⟨rfl, hb2⟩; have hbc := bcell hb2))
            go_wp2_with fail
            go_roundw
            case rel => exact ⟨j + 1, by omega, by go_num, (unhide HN) (unhide HD), hb.trans (hb2.mono hb.size)⟩
            case measure => simp [intOf]; omega
          · have hd' : (d != 0) = true := by simp [hd]
            have HD := hide hd
            clear hd
            go_wp2_with fail
            go_region_held3 (fun w' => w'.cell? ⟨w.heap.size, 3, none⟩ = some (.slice (some ⟨b, off, none⟩) len cap) ∧ w'.cell? ⟨w.heap.size + 1, 3, none⟩ = some (.slice (some ⟨b', off', none⟩) len' cap')
              ∧ w'.cell? ⟨b, off + j * 4, none⟩ = some (.int .i64 u.tv.k) ∧ w'.cell? ⟨b, off + j * 4 + 1, none⟩ = some (.int .i64 u.tv.N) ∧ w'.cell? ⟨b, off + j * 4 + 2, none⟩ = some (.string u.tv.s) ∧ w'.cell? ⟨b, off + j * 4 + 3, none⟩ = some (.slice u.tv.a u.tv.len u.tv.cap)
              ∧ w'.cell? ⟨b', off' + j * 4, none⟩ = some (.int .i64 v.tv.k) ∧ w'.cell? ⟨b', off' + j * 4 + 1, none⟩ = some (.int .i64 v.tv.N) ∧ w'.cell? ⟨b', off' + j * 4 + 2, none⟩ = some (.string v.tv.s) ∧ w'.cell? ⟨b', off' + j * 4 + 3, none⟩ = some (.slice v.tv.a v.tv.len v.tv.cap)) (go_keep)
              (first | (go_at_call 54; refine ihu.mono ?_; clear ihu; rintro e W2 ⟨rfl, hb2⟩; have hbc := bcell hb2))
            go_wp2_with fail
            go_ret
            exact ⟨ret_int ((unhide HS) (unhide HD)).symm, hbw.trans (hb2.mono hbw.size)⟩
        · have ht : kids.take j = kids := List.take_of_length_le (by omega)
          have ht' : kids'.take j = kids' := List.take_of_length_le (by omega)
          have HT := hide ht
          have HT' := hide ht'
          clear ht ht' hkids hkids'
          go_wp2_with fail
          go_ret
          exact ⟨by have h := unhide HO; rw [unhide HT, unhide HT'] at h; rw [h]; rfl, hbw⟩
    · have hc' : (c != 0) = true := by simp [hc]
      have hfin : thenC c (lexL ordT kids kids') = c := by unfold thenC; rw [if_pos hc]
      rw [hfin]
      clear hkids hkids' hc hfin hlen hlen' hll
      go_enter Try.func54, Try.ntmps54
      go_wp2_with (go_at_call 58; refine htop.mono ?_; clear htop; rintro e W1 ⟨rfl, ⟨hb1, _⟩, _⟩)
      go_ret
      exact ⟨rfl, hb1⟩
theorem kid_below {n n₀ : Nat} {w wr : World} {a : Option Addr} {len : Nat} {kids : List (Tm n)} (hkids : kids = [] ∨ ∃ b off, a = some ⟨b, off, none⟩ ∧ b < n₀ ∧ ∀ j u, kids[j]? = some u → cellsAt w b (off + j * 4) u.tv ∧ IsT n₀ w u)
    (hbw : Below n₀ w wr) {j : Nat} (hj : j < len) (hl : len ≤ kids.length) :
    ∃ u b off, kids[j]? = some u ∧ a = some ⟨b, off, none⟩ ∧ cellsAt wr b (off + j * 4) u.tv ∧ IsT n₀ wr u ∧ b < n₀ := by
  obtain ⟨u, hu⟩ : ∃ u, kids[j]? = some u := ⟨kids[j]'(by omega), List.getElem?_eq_getElem (by omega)⟩
  have hne : kids ≠ [] := by rintro rfl; simp at hu
  obtain ⟨b, off, ha, hbk, hk⟩ := hkids.resolve_left hne
  obtain ⟨⟨c0, c1, c2, c3⟩, hT⟩ := hk j u hu
  exact ⟨u, b, off, hu, ha, ⟨(hbw.cell (p := ⟨b, off + j * 4, none⟩) hbk).trans c0, (hbw.cell (p := ⟨b, off + j * 4 + 1, none⟩) hbk).trans c1, (hbw.cell (p := ⟨b, off + j * 4 + 2, none⟩) hbk).trans c2, (hbw.cell (p := ⟨b, off + j * 4 + 3, none⟩) hbk).trans c3⟩, hT.below hbw, hbk⟩
end Go.Proofs.Ytdjlekcapfeniaa

