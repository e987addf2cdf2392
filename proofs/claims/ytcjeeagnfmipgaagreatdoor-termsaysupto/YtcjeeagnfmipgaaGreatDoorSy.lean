import Derived.Test.YtcjeeagnfmipgaaGreatDoorSx
/- The contracts of hornref.shapes, whatever the terms, and of hornref.Match. -/
namespace Go.Proofs.YtcjeeagnfmipgaaGreatDoor
open Go.RowKit Go.Shelf Go.Maps

theorem shTop_no {k k' N N' : Int} {s s' : ByteArray} {a a' : Option Addr} {len len' cap cap' : Nat} (h : ¬ shTop ⟨k, N, s, a, len, cap⟩ ⟨k', N', s', a', len', cap'⟩ = true) : k = k' → s.toList = s'.toList → len ≠ len' := by
  intro h1 h2 h3
  exact h (by simp [shTop, h1, h2, h3])

set_option maxRecDepth 100000 in
set_option maxHeartbeats 2000000 in
theorem shapes_any {D n₀ sb : Nat} : ∀ (n : Nat) (p t : Tm n) (w : World) (c : List (Int × List Nd)), n ≤ D → ShI D sb c w → IsT n₀ w p → IsT n₀ w t → n₀ ≤ sb → c.length + (code p).length ≤ 4194304 →
    Calls Tryz.prog 83 #[p.tv.val, t.tv.val, .pointer (some ⟨sb, 0, none⟩)] w fun e W' => e = .returned (.bool (shT p t c).1) ∧ GrB (fun k => k = sb) w.heap.size w W' ∧ ShI D sb (shT p t c).2 W' := by
  intro n
  induction n with
  | zero => intro p; exact Empty.elim p
  | succ n ih =>
    intro p t w c hD hS hp ht hnb hbig
    have hcp := code_kids p
    have hsl := hS.lt
    by_cases hk : p.tv.k = 1
    · rw [shT_var hk]
      obtain ⟨⟨k, N, s, a, len, cap⟩, kids⟩ := p
      simp only [Tm.tv] at hk
      subst hk
      exact shapes_var N s a len cap t w c hD hS ht hnb (by rw [hcp] at hbig; simp only [List.length_cons] at hbig; omega)
    · obtain ⟨R, hR⟩ : ∃ R, shT p t c = R := ⟨_, rfl⟩
      have hR1 : shTop p.tv t.tv = true → R = matL shT p.kids t.kids c := fun h => by rw [← hR]; exact shT_same hk h
      have hR0 : ¬ shTop p.tv t.tv = true → R = (false, c) := fun h => by rw [← hR]; exact shT_else hk h
      rw [hR]
      clear hR
      have hbk : c.length + (p.kids.flatMap code).length + 1 ≤ 4194304 := by rw [hcp] at hbig; simp only [List.length_cons] at hbig; omega
      clear hcp hbig
      obtain ⟨⟨k, kN, s, a, len, cap⟩, kids⟩ := p
      obtain ⟨⟨k', kN', s', a', len', cap'⟩, kids'⟩ := t
      obtain ⟨hlen, hmax, hsm, hkids⟩ := hp
      obtain ⟨hlen', hmax', hsm', hkids'⟩ := ht
      simp only [Tm.tv, Tm.kids] at hk hlen hmax hsm hkids hlen' hmax' hsm' hkids' hR1 hR0 hbk
      have hk1 : (k == 1) = false := by rw [beq_eq_false_iff_ne]; exact hk
      have HI := hide ih
      have HS := hide hS
      clear ih hS
      obtain ⟨W1, hW1, hB1, hba, hbb, hsz⟩ := two_new w ⟨k, kN, s, a, len, cap⟩ ⟨k', kN', s', a', len', cap'⟩
      simp only at hW1
      have hn : n₀ ≤ w.heap.size := by omega
      have b0 := hba.c0
      have b2 := hba.c2
      have b3 := hba.c3
      have d0 := hbb.c0
      have d2 := hbb.c2
      have d3 := hbb.c3
      simp only at b0 b2 b3 d0 d2 d3
      simp only [TV.val, Tm.tv]
      cases htop : shTop ⟨k, kN, s, a, len, cap⟩ ⟨k', kN', s', a', len', cap'⟩ with
      | true =>
        obtain rfl := hR1 htop
        simp [shTop] at htop
        obtain ⟨rfl, hs, hl⟩ := htop
        have hs' : (s.toList == s'.toList) = true := by simp [hs]
        have hl' : ((len : Int) != (len' : Int)) = false := by simp; omega
        have hl1 : len ≤ kids.length := by omega
        have hl2 : kids.length ≤ len := by omega
        have hl3 : len ≤ kids'.length := by omega
        have hl4 : kids'.length ≤ len := by omega
        have hl5 : (len : Int) ≤ len' := by omega
        have HB1 := hide hB1
        have HSZ := hide hsz
        clear hR1 hR0 hk hs hl hlen hlen' hba hbb hB1 hsz
        go_enter Tryz.func83, Tryz.ntmps83
        go_wp2_with fail
        clear hW1
        go_loopw [9] (fun i wr => ∃ (j : Nat) (cj : List (Int × List Nd)), j ≤ len ∧ i = .int .i64 j ∧ GrB (fun k => k = sb) W1.heap.size W1 wr ∧ ShI D sb cj wr ∧ matL shT (kids.take j) (kids'.take j) c = (true, cj)) (fun i _ => len - (intOf i).toNat)
        case atStart => exact ⟨0, c, Nat.zero_le _, rfl, GrB.refl _ _ _, (unhide HS).below (unhide HB1), by simp [matL]⟩
        case round =>
          obtain ⟨j, cj, hj, rfl, hg, hmj, hml⟩ := hrel
          have hsz := unhide HSZ
          have hgs := hg.size
          have hgw : GrB (fun k => k = sb) w.heap.size w wr := (GrB.of_below (unhide HB1)).trans (hg.mono (by omega))
          have hbw : Below n₀ w wr := hgw.below (fun k e => by omega) hn
          have hcl : cj.length ≤ c.length + ((kids.take j).flatMap code).length := by
            have := shL_len (fun p t c => sh_len p t c) (kids.take j) (kids'.take j) c
            rw [hml] at this
            exact this
          have HMJ := hide hmj
          have HML := hide hml
          have HG := hide hg
          have HGW := hide hgw
          have hne1 : w.heap.size ≠ sb := by omega
          have hne2 : w.heap.size + 1 ≠ sb := by omega
          replace b3 := (hg.cell (k := w.heap.size) (o := 3) (by omega) hne1).trans b3
          replace d3 := (hg.cell (k := w.heap.size + 1) (o := 3) (by omega) hne2).trans d3
          clear hmj hml hg hgw b0 b2 d0 d2
          by_cases hlt : j < len
          · obtain ⟨u, bk, off, hu, rfl, ⟨c0, c1, c2, c3⟩, hT, hbk2⟩ := kid_below hkids hbw hlt hl1
            obtain ⟨v, bk', off', hv, rfl, ⟨e0, e1, e2, e3⟩, hT', hbk2'⟩ := kid_below hkids' hbw hlt hl3
            have hne3 : bk ≠ sb := by omega
            have hne4 : bk' ≠ sb := by omega
            have hj1 : (j : Int) < len := by omega
            have hj2 : (j : Int) < len' := by omega
            have hdr : Below wr.heap.size wr wr.drew := (Below.refl _ wr).drew
            have hpre : ((kids.take j).flatMap code).length + (code u).length ≤ (kids.flatMap code).length := by
              have h1 : kids.flatMap code = (kids.take (j + 1)).flatMap code ++ (kids.drop (j + 1)).flatMap code := by rw [← List.flatMap_append, List.take_append_drop]
              rw [h1, code_take kids j u hu]
              simp only [List.length_append]
              omega
            have ihu : Calls Tryz.prog 83 #[.agg #[.int .i64 u.tv.k, .int .i64 u.tv.N, .string u.tv.s, .slice u.tv.a u.tv.len u.tv.cap], .agg #[.int .i64 v.tv.k, .int .i64 v.tv.N, .string v.tv.s, .slice v.tv.a v.tv.len v.tv.cap], .pointer (some ⟨sb, 0, none⟩)] wr.drew fun e W2 => e = .returned (.bool (shT u v cj).1) ∧ GrB (fun k => k = sb) wr.heap.size wr W2 ∧ ShI D sb (shT u v cj).2 W2 :=
              ((unhide HI) u v wr.drew cj (by omega) ((unhide HMJ).below hdr) (hT.below (hdr.mono (by omega))) (hT'.below (hdr.mono (by omega))) hnb (by omega)).mono fun e W2 h => ⟨h.1, (GrB.of_below hdr).trans h.2.1, h.2.2⟩
            have hy1 : w.heap.size < wr.heap.size := by omega
            have hy2 : w.heap.size + 1 < wr.heap.size := by omega
            have hy3 : bk < wr.heap.size := by omega
            have hy4 : bk' < wr.heap.size := by omega
            obtain ⟨⟨r, c2'⟩, hr⟩ : ∃ m, shT u v cj = m := ⟨_, rfl⟩
            rw [hr] at ihu
            simp only at ihu
            have hnext := matL_next kids kids' j u v c cj c2' hu hv (unhide HML)
            have hstop := matL_stop kids kids' j u v c cj c2' hu hv (unhide HML)
            rw [hr] at hnext hstop
            have HN := hide hnext
            have HST := hide hstop
            clear hkids hkids' hT hT' hu hv hnext hstop hr hdr
            cases r with
            | true =>
              go_wp2_with fail
              go_region_held3 (fun w' => w'.cell? ⟨w.heap.size, 3, none⟩ = some (.slice (some ⟨bk, off, none⟩) len cap) ∧ w'.cell? ⟨w.heap.size + 1, 3, none⟩ = some (.slice (some ⟨bk', off', none⟩) len' cap')
                  ∧ w'.cell? ⟨bk, off + j * 4, none⟩ = some (.int .i64 u.tv.k) ∧ w'.cell? ⟨bk, off + j * 4 + 1, none⟩ = some (.int .i64 u.tv.N) ∧ w'.cell? ⟨bk, off + j * 4 + 2, none⟩ = some (.string u.tv.s) ∧ w'.cell? ⟨bk, off + j * 4 + 3, none⟩ = some (.slice u.tv.a u.tv.len u.tv.cap)
                  ∧ w'.cell? ⟨bk', off' + j * 4, none⟩ = some (.int .i64 v.tv.k) ∧ w'.cell? ⟨bk', off' + j * 4 + 1, none⟩ = some (.int .i64 v.tv.N) ∧ w'.cell? ⟨bk', off' + j * 4 + 2, none⟩ = some (.string v.tv.s) ∧ w'.cell? ⟨bk', off' + j * 4 + 3, none⟩ = some (.slice v.tv.a v.tv.len v.tv.cap)) (go_keep)
                (first | (go_at_call 83; refine ihu.mono ?_; clear ihu; rintro e W2 ⟨rfl, hg2, hm2⟩; have hbc := grb_cell hg2))
              have HM2 := hide hm2
              clear hm2 hbc
              go_wp2_with fail
              go_roundw
              case rel => exact ⟨j + 1, c2', by omega, by go_num, (unhide HG).trans (hg2.mono (by omega)), unhide HM2, (unhide HN) (by simp)⟩
              case measure => simp [intOf]; omega
            | false =>
              go_wp2_with fail
              go_region_held3 (fun w' => w'.cell? ⟨w.heap.size, 3, none⟩ = some (.slice (some ⟨bk, off, none⟩) len cap) ∧ w'.cell? ⟨w.heap.size + 1, 3, none⟩ = some (.slice (some ⟨bk', off', none⟩) len' cap')
                  ∧ w'.cell? ⟨bk, off + j * 4, none⟩ = some (.int .i64 u.tv.k) ∧ w'.cell? ⟨bk, off + j * 4 + 1, none⟩ = some (.int .i64 u.tv.N) ∧ w'.cell? ⟨bk, off + j * 4 + 2, none⟩ = some (.string u.tv.s) ∧ w'.cell? ⟨bk, off + j * 4 + 3, none⟩ = some (.slice u.tv.a u.tv.len u.tv.cap)
                  ∧ w'.cell? ⟨bk', off' + j * 4, none⟩ = some (.int .i64 v.tv.k) ∧ w'.cell? ⟨bk', off' + j * 4 + 1, none⟩ = some (.int .i64 v.tv.N) ∧ w'.cell? ⟨bk', off' + j * 4 + 2, none⟩ = some (.string v.tv.s) ∧ w'.cell? ⟨bk', off' + j * 4 + 3, none⟩ = some (.slice v.tv.a v.tv.len v.tv.cap)) (go_keep)
                (first | (go_at_call 83; refine ihu.mono ?_; clear ihu; rintro e W2 ⟨rfl, hg2, hm2⟩; have hbc := grb_cell hg2))
              have HM2 := hide hm2
              clear hm2 hbc
              go_wp2_with fail
              go_ret
              rw [(unhide HST) (by simp)]
              exact ⟨rfl, (unhide HGW).trans (hg2.mono (by omega)), unhide HM2⟩
          · have ht : kids.take j = kids := List.take_of_length_le (by omega)
            have ht' : kids'.take j = kids' := List.take_of_length_le (by omega)
            have hml := unhide HML
            rw [ht, ht'] at hml
            have HST := hide hml
            clear ht ht' hml hkids hkids'
            go_wp2_with fail
            go_ret
            rw [unhide HST]
            exact ⟨rfl, unhide HGW, unhide HMJ⟩
      | false =>
        have hno : ¬ shTop ⟨k, kN, s, a, len, cap⟩ ⟨k', kN', s', a', len', cap'⟩ = true := by rw [htop]; simp
        obtain rfl := hR0 hno
        have hcase := shTop_no hno
        have hfin : GrB (fun k => k = sb) w.heap.size w W1 ∧ ShI D sb c W1 := ⟨GrB.of_below hB1, (unhide HS).below hB1⟩
        have HF := hide hfin
        clear hR1 hR0 hno htop hk hkids hkids' hlen hlen' hba hbb hB1 hsz hfin HS HI
        by_cases hkk : k = k'
        · have hkk' : (k != k') = false := by simp [hkk]
          by_cases hs : s.toList = s'.toList
          · have hs' : (s.toList == s'.toList) = true := by simp [hs]
            have hl' : ((len : Int) != (len' : Int)) = true := by have := hcase hkk hs; simp; omega
            clear hkk hs hcase
            go_enter Tryz.func83, Tryz.ntmps83
            go_wp2_with fail
            go_ret
            exact ⟨rfl, unhide HF⟩
          · have hs' : (s.toList == s'.toList) = false := by simp [hs]
            clear hkk hs hcase
            go_enter Tryz.func83, Tryz.ntmps83
            go_wp2_with fail
            go_ret
            exact ⟨rfl, unhide HF⟩
        · have hkk' : (k != k') = true := by simp [hkk]
          clear hkk hcase
          go_enter Tryz.func83, Tryz.ntmps83
          go_wp2_with fail
          go_ret
          exact ⟨rfl, unhide HF⟩
end Go.Proofs.YtcjeeagnfmipgaaGreatDoor

