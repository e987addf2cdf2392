import Derived.Test.YtcjeeagnfmipgaaDoorMe
/- The contract of term.Match. -/
namespace Go.Proofs.YtcjeeagnfmipgaaDoor
open Go.RowKit Go.Shelf Go.Maps

/-- The step of a range over a map of terms. -/
theorem next_term (w : World) {ops : Array Oper} {rest : List Oper} {o : Oper} {a : Act} {Q : Exit → Act → World → Prop} (hg : o.guard = none) (it : Operand) (hop : o.op = Op.next it false)
    (b r n : Nat) (E : DataW TV) (left : Lit → Bool) (cnt : Nat) (hit : a.eval it = .pointer (some ⟨r, 0, none⟩)) (h : w.ranges Tryd.prog 2 termElem b r n E left cnt)
    (hDone : cnt = 0 → (∀ kl, left kl = false) → wpList Tryd.prog ops Q rest (a.put o.dst (.tuple #[.bool false])) w)
    (hMore : ∀ (N : Int) (x : TV) (w' : World) (cnt' : Nat), left (.int .i64 N) = true → (∀ zd, E.atKey (.int .i64 N) zd = .held x) → w'.ranges Tryd.prog 2 termElem b r n E (fun z => left z && !z.sameKey (.int .i64 N)) cnt' → cnt' < cnt →
      w.grownBy w' (some r) → w'.heap.size = w.heap.size → (Instr.entry (.pointer (some ⟨r, 0, none⟩))).run Tryd.prog w' = .ok (.tuple #[.int .i64 N, .agg #[.int .i64 x.k, .int .i64 x.N, .string x.s, .slice x.a x.len x.cap]]) w' → wpList Tryd.prog ops Q rest (a.put o.dst (.tuple #[.bool true, .int .i64 N, .agg #[.int .i64 x.k, .int .i64 x.N, .string x.s, .slice x.a x.len x.cap]])) w') :
    wpList Tryd.prog ops Q (o :: rest) a w :=
  wpList_next_ranges w hg it hop 2 Tryd.keyed2 termElem (Value.int .i64) TV.val (fun key kl hkey => by obtain ⟨x, rfl, _⟩ := Maps.keyOf_int_inv Tryd.underlying2 hkey; exact ⟨x, rfl⟩) (fun v y hv => by obtain ⟨c, rfl, _⟩ := termElem_inv hv; exact ⟨c, rfl⟩)
    b r n E left cnt hit h hDone (fun x c kl y w' cnt' hkey hlk hv hat hrg hlt hgr hsz hen => by
      obtain ⟨x', ex, rfl, hwx⟩ := Maps.keyOf_int_inv Tryd.underlying2 hkey
      cases ex
      obtain ⟨c', ec, rfl⟩ := termElem_inv hv
      have ec' := TV.val_inj ec
      subst ec'
      exact hMore x c w' cnt' hlk hat hrg hlt hgr hsz hen)

set_option maxRecDepth 100000 in
set_option maxHeartbeats 1000000 in
theorem match_any {n : Nat} (p t : Tm n) (w : World) (hp : IsT w.heap.size w p) (ht : IsT w.heap.size w t) (okp : okT p = true) (okt : okT t = true) (hbig : (code p).length ≤ 4194304) (hn40 : n ≤ 549755813888) :
    Calls Tryd.prog 6 #[p.tv.val, t.tv.val] w fun e W' => ∃ (la : Option Addr) (ll lc : Nat), e = .returned (.tuple #[.slice la ll lc, .bool (matT p t []).1, .int .i64 0]) ∧ Below w.heap.size w W' ∧ ((matT p t []).1 = true → OutB (n + 1) W' (.slice la ll lc) (code p).length (insF (matT p t []).2)) := by
  have hc := checkTwo p t w hp ht
  have h0 : chkL [p, t] = 0 := chkL_yes (by simp [okp, okt])
  rw [h0] at hc
  have hcl := matT_len p t []
  have hcok := matT_ok p t [] okt (fun q hq => by cases hq)
  have hmat := fun (W : World) (hb : Below w.heap.size w W) => matches_any (D := n) (n₀ := w.heap.size) hp.lim n p t (W.alloc (.map #[] 0)) W.heap.size [] (Nat.le_refl _) (Met.made n w.heap.size W) (hp.below (hb.alloc hb.size _)) (ht.below (hb.alloc hb.size _)) hb.size okp
  obtain ⟨⟨f, c⟩, hR⟩ : ∃ R, matT p t [] = R := ⟨_, rfl⟩
  rw [hR] at hmat hcl hcok ⊢
  simp only [List.length_nil, Nat.zero_add] at hmat hcl hcok ⊢
  clear hR
  simp only [TV.val] at hmat hc ⊢
  have HMAT := hide hmat
  have HOK := hide hcok
  clear h0 okp okt hp ht hmat hcok
  go_enter Tryd.func6, Tryd.ntmps6
  go_wp2_with fail
  refine hc.mono ?_
  clear hc
  rintro e W2 ⟨rfl, hb2, bx, bby⟩
  have bx3 : BoxT (W2.alloc (.map #[] 0)) w.heap.size p.tv := bx.alloc _
  have by3 : BoxT (W2.alloc (.map #[] 0)) (w.heap.size + 1) t.tv := bby.alloc _
  have c0 := bx3.c0
  have c1 := bx3.c1
  have c2 := bx3.c2
  have c3 := bx3.c3
  have d0 := by3.c0
  have d1 := by3.c1
  have d2 := by3.c2
  have d3 := by3.c3
  clear bx bby bx3 by3
  have hmm := @run_makeMap Tryd.prog
  go_wp2_with fail
  clear hmm
  refine ((unhide HMAT) W2 hb2).mono ?_
  rintro e W4 ⟨rfl, hg4, hm4⟩
  clear HMAT c0 c1 c2 c3 d0 d1 d2 d3
  have hb4 : Below w.heap.size w W4 := (hb2.alloc hb2.size _).trans (grown_below hg4 hb2.size (by simp; have := hb2.size; omega))
  cases f with
  | false =>
    have HB4 := hide hb4
    clear hb4 hm4 hb2 hg4
    go_wp2_with fail
    exact bodyPost_ret (v := .tuple #[.slice none 0 0, .bool false, .int .i64 0]) (by simp [results, Tryd.results6, go_sem]) rfl ⟨none, 0, 0, rfl, unhide HB4, fun h => by cases h⟩
  | true =>
    have hlt4 := hm4.lt
    have hw2 : w.heap.size ≤ W2.heap.size := hb2.size
    obtain ⟨E, e1, e2, e3⟩ := hm4.map
    have hone := hm4.once
    have hsz := e1.size_le
    clear hm4 hg4 hb2
    have HB4 := hide hb4
    have HE2 := hide e2
    have HE3 := hide e3
    have HON := hide hone
    clear hb4 e2 e3 hone
    go_wp2_with (first | (at_range; refine wpList_range_own _ rfl _ 43 rfl 2 24 Tryd.keyed2 Tryd.underlying43 _ W2.heap.size c.length E rfl e1 ?_; intro w0 hrg0 hg0 hs0) | go_in)
    go_frame
    go_loopw [9] (fun o wr => ∃ (left : Lit → Bool) (cnt : Nat) (l : List (Int × TV)) (cd : List (Int × List Nd)), wr.ranges Tryd.prog 2 termElem W2.heap.size W4.heap.size c.length E left cnt ∧ MadeB (n + 1) (W4.heap.size + 1 ≤ ·) (W4.heap.size + 1) wr o l cd ∧ l.length + cnt ≤ c.length ∧ Below W2.heap.size W4 wr ∧ W4.heap.size + 1 ≤ wr.heap.size ∧
      Once cd ∧ (∀ q ∈ cd, q ∈ c ∧ left (.int .i64 q.1) = false) ∧ ∀ q ∈ c, left (.int .i64 q.1) = true ∨ q ∈ cd) (fun _ wr => wr.rangeLeft W2.heap.size W4.heap.size)
    case atStart =>
      refine ⟨_, _, [], [], hrg0, MadeB.zero _ _ _ _, by simpa using hsz, ⟨hg0.os, hg0.tape, hg0.output, hg0.size, fun k hk => hg0.block k (by omega) (by simp)⟩, by omega, List.Pairwise.nil, (fun q hq => by cases hq), fun q hq => .inl (((unhide HE2) q.1).2 ⟨q, hq, rfl⟩)⟩
    case round =>
      obtain ⟨left, cnt, l, cd, hrg, hmd, hlc, hbr, hsr, hocd, hin, hout⟩ := hrel
      have HMD := hide hmd
      have HIN := hide (And.intro hocd (And.intro hin hout))
      clear hmd hocd hin hout
      go_wp2_with (first
        | (at_next; refine next_term _ rfl _ rfl W2.heap.size W4.heap.size c.length E left cnt rfl hrg ?_ ?_)
        | go_in)
      · intro hc0 hl0
        have hsame : insF cd = insF c := insF_same (unhide HIN).1 (unhide HON) fun q => ⟨fun hq => ((unhide HIN).2.1 q hq).1, fun hq => ((unhide HIN).2.2 q hq).resolve_left (by rw [hl0]; simp)⟩
        have hso := sortBinds_any u9 l cd wr (unhide HMD) (unhide HIN).1 (by omega)
        rw [hsame] at hso
        obtain ⟨la, lc, hv, -⟩ := (unhide HMD).isL (by omega)
        have HV := hide hv
        clear hv hsame hl0 hrg HMD HIN
        go_wp2_with fail
        refine hso.mono ?_
        clear hso
        rintro e W5 ⟨rfl, hb5, ho5⟩
        have ho6 := ho5.more (k' := (code p).length) (by omega)
        rw [unhide HV] at ho6
        have HO := hide ho6
        clear ho5 ho6
        have hbf : Below w.heap.size w W5 := (unhide HB4).trans ((hbr.mono hw2).trans (hb5.mono (by have := (unhide HB4).size; omega)))
        have HBF := hide hbf
        clear hbf hb5
        go_wp2_with fail
        exact bodyPost_ret (v := .tuple #[u9, .bool true, .int .i64 0]) (by simp [results, Tryd.results6, go_sem]) rfl ⟨la, l.length, lc, by rw [unhide HV], unhide HBF, unhide HO⟩
      · intro N x w1 cnt1 hlx hat hrg1 hlt hg1 hs1 hen
        obtain ⟨q, hq, rfl⟩ := ((unhide HE2) N).1 (has_true_of_atKey hat)
        obtain ⟨x', hx1, hx2⟩ := (unhide HE3) q hq
        have hxx : x' = x := by
          have h1 := hx1 .nil
          rw [hat] at h1
          simpa using h1.symm
        subst hxx
        clear hx1 hat
        have hbr1 : Below W2.heap.size W4 w1 := hbr.trans ⟨hg1.os, hg1.tape, hg1.output, hg1.size, fun k hk => hg1.block k (by omega) (by simp; omega)⟩
        have hb5 : Below w1.heap.size w1 (w1.alloc (.cells #[.int .i64 x'.k, .int .i64 x'.N, .string x'.s, .slice x'.a x'.len x'.cap] 24)) := (Below.refl _ w1).alloc (Nat.le_refl _) _
        have hbx := BoxT.new w1 x'
        have hsz5 : (w1.alloc (.cells #[.int .i64 x'.k, .int .i64 x'.N, .string x'.s, .slice x'.a x'.len x'.cap] 24)).heap.size = w1.heap.size + 1 := by simp
        have hx1 : HoldsS n (· < w.heap.size) w1 x'.val q.2 := hx2.fromS (fun k hk _ => hbr1.block k (by omega)) hbr1.size
        have hmd1 := (unhide HMD).grown hg1 (by omega)
        obtain ⟨i0, hi, hz0, hz1, hz2⟩ := info_parts Tryd.info_bind
        have HQ := hide hq
        have HLX := hide hlx
        clear hx2 hq hlx HMD
        obtain ⟨t', ht1, ht2, -, ht4⟩ := (hx1.below hb5) n (Nat.le_refl _) (by omega)
        have hcp := copy_any t' _ ht2 (by rw [okT_code, ht4]; exact (unhide HOK) q (unhide HQ))
        rw [← ht1, ht4] at hcp
        simp only [TV.val] at hcp
        have x0 := hbx.c0
        have x1 := hbx.c1
        have x2 := hbx.c2
        have x3 := hbx.c3
        have HMD1 := hide hmd1
        clear ht1 ht2 ht4 hx1 hbx hmd1
        go_wp2_with fail
        refine hcp.mono ?_
        clear hcp
        rintro e W6 ⟨y, rfl, hb6, hy⟩
        obtain ⟨W5, hW5⟩ : ∃ W5, w1.alloc (.cells #[.int .i64 x'.k, .int .i64 x'.N, .string x'.s, .slice x'.a x'.len x'.cap] 24) = W5 := ⟨_, rfl⟩
        rw [hW5] at hb5 hsz5 hb6 hy x0 x1 x2 x3
        try rw [hW5]
        clear hW5 x0 x1 x2 x3
        have hb67 : Below W6.heap.size W6 (W6.alloc (.cells #[.int .i64 q.1, .int .i64 y.k, .int .i64 y.N, .string y.s, .slice y.a y.len y.cap] 47)) := (Below.refl _ W6).alloc (Nat.le_refl _) _
        have hb17 : Below w1.heap.size w1 (W6.alloc (.cells #[.int .i64 q.1, .int .i64 y.k, .int .i64 y.N, .string y.s, .slice y.a y.len y.cap] 47)) := (hb5.trans (hb6.mono hb5.size)).trans (hb67.mono (by have := hb5.size; have := hb6.size; omega))
        have hsz6 : w1.heap.size + 1 ≤ W6.heap.size := by have := hb6.size; omega
        have hgl : ∀ g, u9.ownBlock = some g → W4.heap.size + 1 ≤ g ∧ g < w1.heap.size := fun g hg => owns_lt (unhide HMD1).owns hg
        have hone : ∀ M, n + 1 ≤ M → M ≤ 2199023255552 → ∃ ks : List (Int × Tm M), ks.map (fun p => (p.1, p.2.tv)) = [(q.1, y)] ∧ (∀ p ∈ ks, IsT (W6.alloc (.cells #[.int .i64 q.1, .int .i64 y.k, .int .i64 y.N, .string y.s, .slice y.a y.len y.cap] 47)).heap.size (W6.alloc (.cells #[.int .i64 q.1, .int .i64 y.k, .int .i64 y.N, .string y.s, .slice y.a y.len y.cap] 47)) p.2 ∧ BlkT (fun b => u9.ownBlock ≠ some b ∧ W4.heap.size + 1 ≤ b) p.2) ∧ cb ks = [q] := fun M hM hlm => by
          obtain ⟨u, h1, h2, h3, h4⟩ := hy M hM
          have h2 := h2 hlm
          refine ⟨[(q.1, u)], by simp [← TV.val_inj (y := u.tv) h1], fun p hp => ?_, by simp [cb, h4]⟩
          simp at hp
          subst hp
          refine ⟨(h2.below hb67).mono hb67.size, h3.new.blk.mono fun b hb => ⟨fun e => ?_, ?_⟩⟩
          · have := (hgl b e).2
            have h7 : W5.heap.size ≤ b := hb
            omega
          · have h7 : W5.heap.size ≤ b := hb
            have := hbr1.size
            omega
        have hown7 := ((unhide HMD1).below hb17).owns
        have hsz1 : W4.heap.size + 1 ≤ w1.heap.size := by omega
        have HO1 := hide hone
        have HO7 := hide hown7
        have HG := hide hgl
        clear hone hown7 hgl hy hen hg1 hs1 hbr
        go_wp2_with (at_builtin; go_must (refine wpList_append_own_at _ rfl _ _ 29 rfl (W4.heap.size + 1) 47 i0 _ 5 64 Tryd.underlying29 hi hz0 hz1 hz2 rfl (by decide) u9 l.length (l.flatMap bRow) rfl (unhide HO7) ⟨W6.heap.size, 0, none⟩ 1 1 ([(q.1, y)].flatMap bRow) rfl rfl (new_bind (W5 := W6) (V := q.1) (x := y)) (bRow_one _) (by unfold maxLen; omega) (by omega) (by simp; omega) ?_; intro v' w9 hown' hgrow hnil' hbk'))
        have hmade := (unhide HMD1).next hb17 (unhide HO1) hown' hgrow hbk'
        have hne : ∀ k, k < W4.heap.size + 1 → some k ≠ u9.ownBlock := fun k hk e => by have := ((unhide HG) k e.symm).1; omega
        have hrg9 := (hrg1.kept (row := none) ⟨hb17.os, hb17.tape, hb17.output, hb17.size, fun k hk _ => hb17.block k hk⟩ (by simp) (by simp)).kept hgrow (hne _ (by omega)) (hne _ (by omega))
        have hbr9 : Below W2.heap.size W4 w9 := (hbr1.trans (hb17.mono (by omega))).trans ⟨hgrow.os, hgrow.tape, hgrow.output, hgrow.size, fun k hk => hgrow.block k (by have := hb17.size; omega) (hne k (by omega))⟩
        have hsz9 : W4.heap.size + 1 ≤ w9.heap.size := by have := hgrow.size; have := hb17.size; omega
        have HMA := hide hmade
        have HRG := hide hrg9
        clear hmade hrg9 hown' hgrow hnil' hbk' hne hb17 hb67 hb6 hb5
        go_wp2_with fail
        go_roundw
        case rel =>
          obtain ⟨hocd, hin, hout⟩ := unhide HIN
          refine ⟨_, cnt1, _, _, unhide HRG, unhide HMA, by simp; omega, hbr9, hsz9, ?_, ?_, ?_⟩
          · unfold Once
            rw [List.pairwise_append]
            refine ⟨hocd, by simp, fun a ha b hb => ?_⟩
            simp at hb; subst hb
            intro e
            have := (hin a ha).2
            rw [e, unhide HLX] at this
            cases this
          · intro a ha
            rcases List.mem_append.1 ha with ha | ha
            · exact ⟨(hin a ha).1, by rw [(hin a ha).2]; rfl⟩
            · simp at ha; subst ha
              refine ⟨unhide HQ, ?_⟩
              rw [WideAt.sameKey_self (by trivial)]
              simp
          · intro a ha
            by_cases e : a.1 = q.1
            · exact .inr (by rw [Once.eq (unhide HON) ha (unhide HQ) e]; simp)
            · rcases hout a ha with h1 | h1
              · refine .inl ?_
                rw [h1, Maps.sameKey_ne (by simpa using e)]
                rfl
              · exact .inr (List.mem_append_left _ h1)
        case measure => rw [(unhide HRG).left_eq, hrg.left_eq]; omega
end Go.Proofs.YtcjeeagnfmipgaaDoor

