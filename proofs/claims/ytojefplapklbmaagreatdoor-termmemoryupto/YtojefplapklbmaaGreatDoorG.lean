import Derived.Test.YtojefplapklbmaaGreatDoorF
/- The contract of hornref.Same: it answers sameT of two terms; nothing that lay is changed. -/
namespace Go.Proofs.YtojefplapklbmaaGreatDoor
open Go.RowKit Go.Shelf

theorem ret_bool {a b : Bool} (h : a = b) : Ending.returned (.bool a) = .returned (.bool b) := by rw [h]
theorem all2_stop {α : Type} {f : α → α → Bool} : ∀ (a b : List α) (j : Nat) (u v : α), a[j]? = some u → b[j]? = some v → f u v = false → all2 f a b = false := by
  intro a
  induction a with
  | nil => intro b j u v h; simp at h
  | cons x a ih =>
    intro b j u v hu hv hne
    cases b with
    | nil => simp at hv
    | cons y b =>
      cases j with
      | zero => simp at hu hv; subst hu; subst hv; simp [all2, hne]
      | succ j =>
        simp only [List.getElem?_cons_succ] at hu hv
        simp [all2, ih b j u v hu hv hne]
theorem all2_next {α : Type} {f : α → α → Bool} : ∀ (a b : List α) (j : Nat) (u v : α), a[j]? = some u → b[j]? = some v → all2 f (a.take j) (b.take j) = true → f u v = true → all2 f (a.take (j + 1)) (b.take (j + 1)) = true := by
  intro a
  induction a with
  | nil => intro b j u v h; simp at h
  | cons x a ih =>
    intro b j u v hu hv h hne
    cases b with
    | nil => simp at hv
    | cons y b =>
      cases j with
      | zero => simp at hu hv; subst hu; subst hv; simp [all2, hne]
      | succ j =>
        simp only [List.take_succ_cons, all2, Bool.and_eq_true] at h ⊢
        simp only [List.getElem?_cons_succ] at hu hv
        exact ⟨h.1, by simpa using ih b j u v hu hv h.2 hne⟩

set_option maxRecDepth 100000 in
set_option maxHeartbeats 1000000 in
theorem same_any : ∀ (n : Nat) (x y : Tm n) (w : World), IsT w.heap.size w x → IsT w.heap.size w y → Calls Tryz.prog 41 #[x.tv.val, y.tv.val] w fun e W' => e = .returned (.bool (sameT x y)) ∧ Below w.heap.size w W' := by
  intro n
  induction n with
  | zero => intro t; exact Empty.elim t
  | succ n ih =>
    intro x y w hx hy
    obtain ⟨⟨k, kN, s, a, len, cap⟩, kids⟩ := x
    obtain ⟨⟨k', kN', s', a', len', cap'⟩, kids'⟩ := y
    obtain ⟨hlen, hmax, hsm, hkids⟩ := hx
    obtain ⟨hlen', hmax', hsm', hkids'⟩ := hy
    simp only [Tm.tv, Tm.kids] at hlen hmax hsm hkids hlen' hmax' hsm' hkids'
    have HI := hide ih
    clear ih
    simp only [TV.val, Tm.tv, sameT, Tm.kids]
    cases hst : stop ⟨k, kN, s, a, len, cap⟩ ⟨k', kN', s', a', len', cap'⟩ with
    | false =>
      rw [Bool.false_and]
      have HS := hide hst
      clear hst hkids hkids' hlen hlen' HI
      go_enter Tryz.func41, Tryz.ntmps41
      go_wp2_with fail
      all_goals first | (go_ret; exact ⟨rfl, ((Below.refl _ w).alloc (Nat.le_refl _) _).alloc (by simp) _⟩) | skip
      exfalso
      have h := unhide HS
      clear HS
      have h1 : k = k' := by assumption
      have h2 : kN = kN' := by assumption
      have h3 : s.toList = s'.toList := by assumption
      have h4 : ((len : Int) != (len' : Int)) = false := by assumption
      simp at h4
      have h5 : len = len' := by omega
      simp [stop, h1, h2, h3, h5] at h
    | true =>
      rw [Bool.true_and]
      simp [stop] at hst
      obtain ⟨rfl, rfl, hs, hlq⟩ := hst
      have hl1 : len ≤ kids.length := by omega
      have hl2 : kids.length ≤ len := by omega
      have hl3 : len ≤ kids'.length := by omega
      have hl4 : kids'.length ≤ len := by omega
      have hl5 : (len : Int) ≤ len' := by omega
      have hl6 : ((len : Int) != (len' : Int)) = false := by simp; omega
      clear hlq hlen hlen'
      go_enter Tryz.func41, Tryz.ntmps41
      go_wp2_with fail
      obtain ⟨W1, hW1⟩ : ∃ W1, (w.alloc (.cells #[.int .i64 k, .int .i64 kN, .string s, .slice a len cap] 24)).alloc (.cells #[.int .i64 k, .int .i64 kN, .string s', .slice a' len' cap'] 24) = W1 := ⟨_, rfl⟩
      have hBB := Below.refl ((w.alloc (.cells #[.int .i64 k, .int .i64 kN, .string s, .slice a len cap] 24)).alloc (.cells #[.int .i64 k, .int .i64 kN, .string s', .slice a' len' cap'] 24)).heap.size ((w.alloc (.cells #[.int .i64 k, .int .i64 kN, .string s, .slice a len cap] 24)).alloc (.cells #[.int .i64 k, .int .i64 kN, .string s', .slice a' len' cap'] 24))
      obtain ⟨⟨hb1, hzz⟩, hcc, hcd⟩ := two_boxes hBB
      clear hBB
      rw [hW1] at hb1 hzz hcc hcd ⊢
      clear hW1
      go_loopw [5] (fun i wr => ∃ j : Nat, j ≤ len ∧ i = .int .i64 j ∧ all2 sameT (kids.take j) (kids'.take j) = true ∧ Below W1.heap.size W1 wr) (fun i _ => len - (intOf i).toNat)
      case atStart => exact ⟨0, Nat.zero_le _, rfl, by simp [all2], Below.refl _ _⟩
      case round =>
        obtain ⟨j, hj, rfl, ho, hb⟩ := hrel
        have hbw : Below w.heap.size w wr := hb1.trans (hb.mono (by omega))
        have HO := hide ho
        clear ho
        replace hcc := (hb.cell (p := ⟨w.heap.size, 3, none⟩) (by simp; omega)).trans hcc
        replace hcd := (hb.cell (p := ⟨w.heap.size + 1, 3, none⟩) (by simp; omega)).trans hcd
        by_cases hlt : j < len
        · obtain ⟨u, b, off, hu, rfl, ⟨c0, c1, c2, c3⟩, hT, hbk⟩ := kid_at hkids hbw hlt hl1
          obtain ⟨v, b', off', hv, rfl, ⟨d0, d1, d2, d3⟩, hT', hbk'⟩ := kid_at hkids' hbw hlt hl3
          have hj1 : (j : Int) < len := by omega
          have hj2 : (j : Int) < len' := by omega
          have ihu : Calls Tryz.prog 41 #[.agg #[.int .i64 u.tv.k, .int .i64 u.tv.N, .string u.tv.s, .slice u.tv.a u.tv.len u.tv.cap], .agg #[.int .i64 v.tv.k, .int .i64 v.tv.N, .string v.tv.s, .slice v.tv.a v.tv.len v.tv.cap]] wr.drew fun e W2 => e = .returned (.bool (sameT u v)) ∧ Below wr.heap.size wr W2 :=
            ((unhide HI) u v wr.drew (hT.below (Below.refl _ wr).drew) (hT'.below (Below.refl _ wr).drew)).mono fun e W2 h => ⟨h.1, (Below.refl _ wr).drew.trans h.2⟩
          have hy1 : w.heap.size < wr.heap.size := by have := hb.size; omega
          have hy2 : w.heap.size + 1 < wr.heap.size := by have := hb.size; omega
          have hy3 : b < wr.heap.size := by omega
          have hy4 : b' < wr.heap.size := by omega
          have hstop := all2_stop (f := sameT) kids kids' j u v hu hv
          have hnext := all2_next (f := sameT) kids kids' j u v hu hv (unhide HO)
          clear hkids hkids' hT hT' hu hv
          generalize sameT u v = d at *
          have HN := hide hnext
          have HS := hide hstop
          clear hnext hstop
          cases d with
          | true =>
            go_wp2_with fail
            go_region_held3 (fun w' => w'.cell? ⟨w.heap.size, 3, none⟩ = some (.slice (some ⟨b, off, none⟩) len cap) ∧ w'.cell? ⟨w.heap.size + 1, 3, none⟩ = some (.slice (some ⟨b', off', none⟩) len' cap')
              ∧ w'.cell? ⟨b, off + j * 4, none⟩ = some (.int .i64 u.tv.k) ∧ w'.cell? ⟨b, off + j * 4 + 1, none⟩ = some (.int .i64 u.tv.N) ∧ w'.cell? ⟨b, off + j * 4 + 2, none⟩ = some (.string u.tv.s) ∧ w'.cell? ⟨b, off + j * 4 + 3, none⟩ = some (.slice u.tv.a u.tv.len u.tv.cap)
              ∧ w'.cell? ⟨b', off' + j * 4, none⟩ = some (.int .i64 v.tv.k) ∧ w'.cell? ⟨b', off' + j * 4 + 1, none⟩ = some (.int .i64 v.tv.N) ∧ w'.cell? ⟨b', off' + j * 4 + 2, none⟩ = some (.string v.tv.s) ∧ w'.cell? ⟨b', off' + j * 4 + 3, none⟩ = some (.slice v.tv.a v.tv.len v.tv.cap)) (go_keep)
              (first | (go_at_call 41; refine ihu.mono ?_; clear ihu; rintro e W2 ⟨rfl, hb2⟩; have hbc := bcell hb2))
            go_wp2_with fail
            go_roundw
            case rel => exact ⟨j + 1, by omega, by go_num, (unhide HN) (by simp), hb.trans (hb2.mono hb.size)⟩
            case measure => simp [intOf]; omega
          | false =>
            go_wp2_with fail
            go_region_held3 (fun w' => w'.cell? ⟨w.heap.size, 3, none⟩ = some (.slice (some ⟨b, off, none⟩) len cap) ∧ w'.cell? ⟨w.heap.size + 1, 3, none⟩ = some (.slice (some ⟨b', off', none⟩) len' cap')
              ∧ w'.cell? ⟨b, off + j * 4, none⟩ = some (.int .i64 u.tv.k) ∧ w'.cell? ⟨b, off + j * 4 + 1, none⟩ = some (.int .i64 u.tv.N) ∧ w'.cell? ⟨b, off + j * 4 + 2, none⟩ = some (.string u.tv.s) ∧ w'.cell? ⟨b, off + j * 4 + 3, none⟩ = some (.slice u.tv.a u.tv.len u.tv.cap)
              ∧ w'.cell? ⟨b', off' + j * 4, none⟩ = some (.int .i64 v.tv.k) ∧ w'.cell? ⟨b', off' + j * 4 + 1, none⟩ = some (.int .i64 v.tv.N) ∧ w'.cell? ⟨b', off' + j * 4 + 2, none⟩ = some (.string v.tv.s) ∧ w'.cell? ⟨b', off' + j * 4 + 3, none⟩ = some (.slice v.tv.a v.tv.len v.tv.cap)) (go_keep)
              (first | (go_at_call 41; refine ihu.mono ?_; clear ihu; rintro e W2 ⟨rfl, hb2⟩; have hbc := bcell hb2))
            go_wp2_with fail
            go_ret
            exact ⟨ret_bool ((unhide HS) (by simp)).symm, hbw.trans (hb2.mono hbw.size)⟩
        · have ht : kids.take j = kids := List.take_of_length_le (by omega)
          have ht' : kids'.take j = kids' := List.take_of_length_le (by omega)
          have HT := hide ht
          have HT' := hide ht'
          clear ht ht' hkids hkids'
          go_wp2_with fail
          go_ret
          exact ⟨ret_bool (by have h := unhide HO; rw [unhide HT, unhide HT'] at h; rw [h]), hbw⟩
end Go.Proofs.YtojefplapklbmaaGreatDoor

