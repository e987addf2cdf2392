import Derived.Test.YtjdanfhbccpnpaaBdY
import Derived.Test.YtjdanfhbccpnpaaBcK
import Derived.Deep.CutRange
/- The law BaseView. (Written by wip/viewlaw.py.) -/
namespace Go.Proofs.Ytjdanfhbccpnpaa
open Go.RowKit Go.Shelf Go.Maps

/-- The j-th of a row of terms, in a later world. -/
theorem rowT_at {n : Nat} {W V : World} {a : Option Addr} {len : Nat} {kids : List (Tm (n + 1))} (h : RowT W.heap.size W a len kids) (hb : Below W.heap.size W V) {j : Nat} (hj : j < len) :
    ∃ u b off, kids[j]? = some u ∧ a = some ⟨b, off, none⟩ ∧ cellsAt V b (off + j * 4) u.tv ∧ IsT V.heap.size V u := by
  obtain ⟨h1, h2, h3⟩ := h
  obtain ⟨u, b, off, k1, k2, k3, k4, _⟩ := kid_at h3 hb hj (by omega)
  exact ⟨u, b, off, k1, k2, k3, k4⟩
theorem rowI_at {W V : World} {a : Option Addr} {len : Nat} {ns : List Int} (h : RowI W.heap.size W a len ns) (hb : Below W.heap.size W V) {j : Nat} (hj : j < len) :
    ∃ N b off, a = some ⟨b, off, none⟩ ∧ V.cell? ⟨b, off + j, none⟩ = some (.int .i64 N) ∧ -9223372036854775808 ≤ N ∧ N ≤ 9223372036854775807 := by
  obtain ⟨h1, h2, hN, h3⟩ := h
  obtain ⟨N, hu⟩ : ∃ N, ns[j]? = some N := ⟨ns[j]'(by omega), List.getElem?_eq_getElem (by omega)⟩
  have hne : ns ≠ [] := by rintro rfl; simp at hu
  obtain ⟨b, off, ha, hbk, hk⟩ := h3.resolve_left hne
  exact ⟨N, b, off, ha, (hb.cell (p := ⟨b, off + j, none⟩) hbk).trans (hk j N hu), hN N (List.mem_of_getElem? hu)⟩
/-- Whether a view gave one, and where it then is. -/
theorem restV_ans {A1 A2 : List En} {last : Int} {s : Option (Int × List Nd × List Nd)} (hs : (stepN A1 A2 last).map En.say = s) : ((ansS s).2.1 = true → restV A1 A2 (lastS last s) < restV A1 A2 last) ∧ restV A1 A2 (lastS last s) ≤ restV A1 A2 last := by
  cases h : stepN A1 A2 last with
  | none =>
    rw [h] at hs
    subst hs
    exact ⟨(fun e => by cases e), Nat.le_refl _⟩
  | some x =>
    rw [h] at hs
    subst hs
    have := restV_lt h
    exact ⟨fun _ => this, Nat.le_of_lt this⟩
theorem restN_len (A : List En) (p : Int) : restN A p ≤ A.length := List.length_filter_le _ _

set_option maxRecDepth 100000 in
set_option maxHeartbeats 8000000 in
theorem baseView_any {n : Nat} (la ma oa : Option Addr) (ll lc ml mc ol oc : Nat) (kl km : List (Tm (n + 1))) (os : List Int) (tg : Tm (n + 1)) (W : World) (hl : RowT W.heap.size W la ll kl) (hm : RowT W.heap.size W ma ml km) (ho : RowI W.heap.size W oa ol os) (hT : IsT W.heap.size W tg)
    (fl : ∀ u ∈ kl, (code u).length ≤ 1048576 ∧ numC (code u)) (fm : ∀ u ∈ km, (code u).length ≤ 1048576 ∧ numC (code u)) (bl : ll ≤ 1048576) (bm : ml ≤ 1048576) (bo : ol ≤ 1048576) (hn : numC (code tg)) (hn20 : n ≤ 1048576 := by omega) :
    Calls Try.prog 3 #[.slice la ll lc, .slice ma ml mc, tg.tv.val, .slice oa ol oc] W fun e W' => e = .returned (.bool true) ∧ Below W.heap.size W W' := by
  obtain ⟨W1, eW1, gW1, lW1, bt⟩ : ∃ V', W.alloc (.cells #[.int .i64 tg.tv.k, .int .i64 tg.tv.N, .string tg.tv.s, .slice tg.tv.a tg.tv.len tg.tv.cap] 24) = V' ∧ Below W.heap.size W V' ∧ V'.heap.size = W.heap.size + 1 ∧ BoxT V' W.heap.size tg.tv := ⟨_, rfl, (Below.refl _ _).alloc (Nat.le_refl _) _, by simp, BoxT.new W tg.tv⟩
  have HW : Hid (∀ V, Below W1.heap.size W1 V → Below W.heap.size W V ∧ BoxT V W.heap.size tg.tv) := fun V hb => ⟨gW1.trans (hb.mono (by omega)), bt.below hb (by omega)⟩
  have HT : Hid (∀ V, Below W1.heap.size W1 V → W1.heap.size ≤ V.heap.size → IsT V.heap.size V tg) := fun V hb _ => (hT.below (HW.out V hb).1).mono (HW.out V hb).1.size
  have HL : Hid (∀ V, Below W1.heap.size W1 V → ∀ j, j < ll → ∃ (u : Tm (n + 1)) (b off : Nat), la = some ⟨b, off, none⟩ ∧ cellsAt V b (off + j * 4) u.tv ∧ IsT V.heap.size V u ∧ Fits u) := fun V hb j hj => by
    obtain ⟨u, b, off, k1, k2, k3, k4⟩ := rowT_at hl (HW.out V hb).1 hj
    exact ⟨u, b, off, k2, k3, k4, k4.wl, (fl u (List.mem_of_getElem? k1)).1, (fl u (List.mem_of_getElem? k1)).2⟩
  have HM : Hid (∀ V, Below W1.heap.size W1 V → ∀ j, j < ml → ∃ (u : Tm (n + 1)) (b off : Nat), ma = some ⟨b, off, none⟩ ∧ cellsAt V b (off + j * 4) u.tv ∧ IsT V.heap.size V u ∧ Fits u) := fun V hb j hj => by
    obtain ⟨u, b, off, k1, k2, k3, k4⟩ := rowT_at hm (HW.out V hb).1 hj
    exact ⟨u, b, off, k2, k3, k4, k4.wl, (fm u (List.mem_of_getElem? k1)).1, (fm u (List.mem_of_getElem? k1)).2⟩
  have HO : Hid (∀ V, Below W1.heap.size W1 V → ∀ j, j < ol → ∃ N b off, oa = some ⟨b, off, none⟩ ∧ V.cell? ⟨b, off + j, none⟩ = some (.int .i64 N) ∧ -9223372036854775808 ≤ N ∧ N ≤ 9223372036854775807) := fun V hb j hj => rowI_at ho (HW.out V hb).1 hj
  have HNUM := hide hn
  clear hl hm ho hT fl fm hn gW1 bt
  have h1 := thereBase_any baseOps 0 W1 trivial (Nat.zero_le _)
  have hl1 := hide lW1
  clear lW1
  simp only [TV.val]
  go_enter Try.func3, Try.ntmps3
  go_wp2_with fail
  try rw [eW1]
  refine h1.mono ?_
  clear h1 eW1
  rintro e V1 ⟨rfl, g1⟩
  have h2 := st1_new (W := V1)
  have G1 := hide g1
  clear g1
  go_wp2_with fail
  refine h2.mono ?_
  clear h2
  rintro e V2 ⟨b, rfl, g2, M2, O2, m1, m2, m3⟩
  have h3 := st1_new2 (n₀ := W1.heap.size) (W₁ := W1) (V := V2) (b := b) (Nat.le_trans (unhide G1).size g2.size) ((unhide G1).trans (g2.mono (unhide G1).size)) ⟨M2, O2, fun k hk => Nat.le_trans (unhide G1).size (m1 k hk), m2, m3⟩
  clear g2 m1 m2 m3 G1
  go_wp2_with fail
  refine h3.mono ?_
  clear h3
  rintro e V3 ⟨u, rfl, S3⟩
  have HS3 := hide S3
  clear S3
  go_wp2_with fail
  go_loopw [11] (fun i wr => ∃ (j : Nat) (laid : Int), j ≤ ll ∧ i = .int .i64 j ∧ laid ≤ j ∧ St1 W1.heap.size W1 b u laid wr) (fun i _ => ll - (intOf i).toNat)
  case atStart => exact ⟨0, 0, Nat.zero_le _, rfl, by simp, unhide HS3⟩
  case round =>
    clear HS3
    obtain ⟨j, laid, hj, rfl, hlaid, S⟩ := hrel
    have HSb : Hid (Below W1.heap.size W1 wr) := by obtain ⟨M, Ob, Ou, Eb, Eu, k1, _⟩ := S; exact k1
    have HLJ : Hid (laid ≤ (j : Int)) := hlaid
    clear hlaid
    have HS := hide S
    clear S
    by_cases hlt : j < ll
    · obtain ⟨t, kb, off, rfl, ⟨c0, c1, c2, c3⟩, hTt, hF⟩ := HL.out wr HSb.out j hlt
      have hmk := bmake_new t wr hTt (by have := hF.len; omega)
      have HF := hide hF
      clear hTt hF
      have hj1 : (j : Int) < ll := by omega
      simp only [TV.val, clV] at hmk
      by_cases hz : (makeR t).1 = 0
      · have HZ := hide hz
        rw [hz] at hmk
        clear hz
        go_wp2_with fail
        refine hmk.mono ?_
        clear hmk c0 c1 c2 c3
        rintro e V5 ⟨⟨D5, x5, y5, rfl, q5, r5⟩, g5⟩
        obtain ⟨U5, eU5, gU5, lU5, bnew⟩ : ∃ V', V5.alloc (.cells #[.int .i64 x5.k, .int .i64 x5.N, .string x5.s, .slice x5.a x5.len x5.cap, .int .i64 y5.k, .int .i64 y5.N, .string y5.s, .slice y5.a y5.len y5.cap] 30) = V' ∧ Below V5.heap.size V5 V' ∧ V5.heap.size + 1 ≤ V'.heap.size ∧ BoxC V' V5.heap.size x5 y5 := ⟨_, rfl, (Below.refl _ _).alloc (Nat.le_refl _) _, by simp, BoxC.new V5 x5 y5⟩
        have gg : Below wr.heap.size wr U5 := g5.trans (gU5.mono g5.size)
        have hmd : MadeOf t wr.heap.size D5 U5 x5 y5 := ⟨HoldsS.below q5 gU5, HoldsS.below r5 gU5⟩
        have hb5 : laid < 1099511627776 := by have := HLJ.out; omega
        have ha := st1_add (unhide HS) gg hb5 t (unhide HF) (unhide HZ) hmd bnew g5.size
        obtain ⟨⟨k0, k1, k2, k3⟩, k4, k5, k6, k7⟩ := bnew.cs
        have HB5 := hide hb5
        clear q5 r5 g5 gU5 gg hmd bnew hb5
        simp only [clV] at ha
        go_wp2_with fail
        try rw [eU5]
        refine ha.mono ?_
        clear ha eU5 k0 k1 k2 k3 k4 k5 k6 k7
        rintro e V6 ⟨⟨v6, rfl⟩, S6, hmd6, bc6, s6⟩
        have ha := st1_add2 t S6 (unhide HB5) (unhide HF) (unhide HZ) hmd6
        obtain ⟨⟨k0, k1, k2, k3⟩, k4, k5, k6, k7⟩ := bc6.cs
        clear S6 hmd6 bc6
        simp only [clV] at ha
        go_wp2_with fail
        refine ha.mono ?_
        clear ha k0 k1 k2 k3 k4 k5 k6 k7
        rintro e V7 ⟨⟨v7, rfl⟩, S7⟩
        have HS7 := hide S7
        clear S7
        go_wp2_with fail
        go_roundw
        case rel => exact ⟨j + 1, laid + 1, by omega, by go_num, by have := HLJ.out; omega, unhide HS7⟩
        case measure => simp [intOf]; omega
      · have hne' : ((makeR t).1 == 0) = false := by simpa using hz
        generalize makeR t = mr at hmk hne' hz
        obtain ⟨mr1, mr2⟩ := mr
        simp only at hmk hne' hz
        go_wp2_with fail
        refine hmk.mono ?_
        clear hmk c0 c1 c2 c3
        rintro e V5 ⟨⟨D5, x5, y5, rfl, q5, r5⟩, g5⟩
        obtain ⟨U5, eU5, gU5⟩ : ∃ V', V5.alloc (.cells #[.int .i64 x5.k, .int .i64 x5.N, .string x5.s, .slice x5.a x5.len x5.cap, .int .i64 y5.k, .int .i64 y5.N, .string y5.s, .slice y5.a y5.len y5.cap] 30) = V' ∧ Below V5.heap.size V5 V' := ⟨_, rfl, (Below.refl _ _).alloc (Nat.le_refl _) _⟩
        have gg : Below wr.heap.size wr U5 := g5.trans (gU5.mono g5.size)
        have HS7 : Hid (St1 W1.heap.size W1 b u laid U5) := (unhide HS).below gg
        clear q5 r5 g5 gU5 gg HS
        go_wp2_with fail
        try rw [eU5]
        go_roundw
        case rel => exact ⟨j + 1, laid, by omega, by go_num, by have := HLJ.out; omega, unhide HS7⟩
        case measure => simp [intOf]; omega
    · have HJ : Hid (j = ll) := by show j = ll; omega
      clear HL
      have bg := ((HW.out wr HSb.out).2)
      have g0 := bg.c0
      have g1 := bg.c1
      have g2 := bg.c2
      have g3 := bg.c3
      clear bg
      have hbig : laid < 1048577 := by have := HLJ.out; have := HJ.out; omega
      have HBIG : Hid (laid ≤ 1048576) := by show laid ≤ 1048576; omega
      cases hok : okT tg with
      | false =>
        have hv := view_bad b tg wr (HT.out wr HSb.out HSb.out.size) hok
        simp only [TV.val] at hv
        have HK := hide hok
        clear hok hbig
        go_wp2_with fail
        refine hv.mono ?_
        clear hv g0 g1 g2 g3
        rintro e V5 ⟨rfl, g5⟩
        have hB5 : Below W1.heap.size W1 V5 := HSb.out.trans (g5.mono HSb.out.size)
        have hv := view_bad u tg V5 (HT.out V5 hB5 hB5.size) (unhide HK)
        have bg := ((HW.out V5 hB5).2)
        have g0 := bg.c0
        have g1 := bg.c1
        have g2 := bg.c2
        have g3 := bg.c3
        have HB5 := hide hB5
        clear bg g5 hB5
        simp only [TV.val] at hv
        go_wp2_with fail
        refine hv.mono ?_
        clear hv g0 g1 g2 g3
        rintro e V6 ⟨rfl, g6⟩
        have HF6 : Hid (Below W.heap.size W V6) := (HW.out V6 ((unhide HB5).trans (g6.mono (unhide HB5).size))).1
        clear g6 HB5
        go_wp2_with fail
        all_goals go_ret
        all_goals exact ⟨rfl, HF6.out⟩
      | true =>
        cases hcall : (decide (tg.tv.k = 3) || decide (tg.tv.k = 4)) with
        | false =>
          have hv := view_none b tg wr (HT.out wr HSb.out HSb.out.size) hok hcall
          simp only [TV.val] at hv
          have HK := hide hok
          have HC := hide hcall
          clear hok hbig hcall
          go_wp2_with fail
          refine hv.mono ?_
          clear hv g0 g1 g2 g3
          rintro e V5 ⟨rfl, g5⟩
          have hB5 : Below W1.heap.size W1 V5 := HSb.out.trans (g5.mono HSb.out.size)
          have hv := view_none u tg V5 (HT.out V5 hB5 hB5.size) (unhide HK) (unhide HC)
          have bg := ((HW.out V5 hB5).2)
          have g0 := bg.c0
          have g1 := bg.c1
          have g2 := bg.c2
          have g3 := bg.c3
          have HB5 := hide hB5
          clear bg g5 hB5
          simp only [TV.val] at hv
          go_wp2_with fail
          refine hv.mono ?_
          clear hv g0 g1 g2 g3
          rintro e V6 ⟨rfl, g6⟩
          have HF6 : Hid (Below W.heap.size W V6) := (HW.out V6 ((unhide HB5).trans (g6.mono (unhide HB5).size))).1
          clear g6 HB5
          go_wp2_with fail
          all_goals go_ret
          all_goals exact ⟨rfl, HF6.out⟩
        | true =>
          have hv := st2_view (unhide HS) hbig tg HT.out hok hcall (unhide HNUM)
          simp only [TV.val] at hv
          clear hok hbig hcall
          go_wp2_with fail
          refine hv.mono ?_
          clear hv g0 g1 g2 g3 HS
          rintro e V5 ⟨vb, rfl, ⟨hB5, _⟩, hv⟩
          have bg := ((HW.out V5 hB5).2)
          have g0 := bg.c0
          have g1 := bg.c1
          have g2 := bg.c2
          have g3 := bg.c3
          clear bg hB5
          go_wp2_with fail
          refine hv.mono ?_
          clear hv g0 g1 g2 g3
          rintro e V6 ⟨wb, A1, A2, B1, B2, rfl, sa1, sa2, hlen, S6⟩
          have HS6 := hide S6
          have HSA := hide (And.intro sa1 sa2)
          have HLEN := hide hlen
          clear S6 sa1 sa2 hlen HT HSb HJ HLJ HNUM hlt hj
          go_wp2_with fail
          go_loopw [18] (fun i wr => ∃ (j : Nat) (last : Int), i = .int .i64 j ∧ restV A1 A2 last ≤ restV A1 A2 (-9223372036854775808) ∧ j + restV A1 A2 last ≤ max ml ol + restV A1 A2 (-9223372036854775808) ∧ St2 W1.heap.size W1 b vb wb A1 A2 B1 B2 (1048576 + ((min j ml : Nat) : Int)) last last wr) (fun i wr => (max ml ol - (intOf i).toNat) + restV A1 A2 (lastAt wr vb))
          case atStart => exact ⟨0, -9223372036854775808, rfl, Nat.le_refl _, by omega, (unhide HS6).mono (by have := HBIG.out; omega)⟩
          case round =>
            clear HS6
            obtain ⟨j, last, rfl, hr1, hr2, S⟩ := hrel
            have HR := hide (And.intro hr1 hr2)
            have hjb : j ≤ 4194304 := by
              have h1 := restN_len A1 (-9223372036854775808)
              have h2 := restN_len A2 (-9223372036854775808)
              have h3 := (unhide HLEN)
              have h4 : restV A1 A2 (-9223372036854775808) = restN A1 (-9223372036854775808) + restN A2 (-9223372036854775808) := rfl
              omega
            have HLAST : Hid (lastAt wr vb = last) := S.last
            have HSb : Hid (Below W1.heap.size W1 wr) := S.base.1
            have HS := hide S
            clear S hr1 hr2
            go_upto_if 80 with fail
            go_cut [19, 20] from 75 to 156 (fun _ _ wc => St2 W1.heap.size W1 b vb wb A1 A2 B1 B2 (1048576 + ((min (j + 1) ml : Nat) : Int)) last last wc)
            case first =>
              by_cases hlt : j < ml
              · obtain ⟨t, kb, off, rfl, ⟨c0, c1, c2, c3⟩, hTt, hF⟩ := HM.out wr HSb.out j hlt
                have hmk := bmake_new t wr hTt (by have := hF.len; omega)
                have HF := hide hF
                clear hTt hF
                have hj1 : (j : Int) < ml := by omega
                simp only [TV.val, clV] at hmk
                have HB1 : Hid ((1048576 + ((min j ml : Nat) : Int)) + 1 ≤ 1048576 + ((min (j + 1) ml : Nat) : Int) ∧ 1048576 + ((min j ml : Nat) : Int) < 1099511627776) := by constructor <;> omega
                by_cases hz : (makeR t).1 = 0
                · have HZ := hide hz
                  rw [hz] at hmk
                  clear hz
                  go_wp2_with fail
                  refine hmk.mono ?_
                  clear hmk c0 c1 c2 c3
                  rintro e V5 ⟨⟨D5, x5, y5, rfl, q5, r5⟩, g5⟩
                  obtain ⟨U5, eU5, gU5, lU5, bnew⟩ : ∃ V', V5.alloc (.cells #[.int .i64 x5.k, .int .i64 x5.N, .string x5.s, .slice x5.a x5.len x5.cap, .int .i64 y5.k, .int .i64 y5.N, .string y5.s, .slice y5.a y5.len y5.cap] 30) = V' ∧ Below V5.heap.size V5 V' ∧ V5.heap.size + 1 ≤ V'.heap.size ∧ BoxC V' V5.heap.size x5 y5 := ⟨_, rfl, (Below.refl _ _).alloc (Nat.le_refl _) _, by simp, BoxC.new V5 x5 y5⟩
                  have gg : Below wr.heap.size wr U5 := g5.trans (gU5.mono g5.size)
                  have hmd : MadeOf t wr.heap.size D5 U5 x5 y5 := ⟨HoldsS.below q5 gU5, HoldsS.below r5 gU5⟩
                  have ha := fun first : Bool => st2_add ((unhide HS).below gg) HB1.out.2 first t (unhide HF) (unhide HZ) hmd
                  obtain ⟨⟨k0, k1, k2, k3⟩, k4, k5, k6, k7⟩ := bnew.cs
                  clear q5 r5 g5 gU5 gg hmd bnew HS
                  simp only [clV] at ha
                  go_wp2_with fail
                  try rw [eU5]
                  refine (ha _).mono ?_
                  clear ha eU5 k0 k1 k2 k3 k4 k5 k6 k7
                  rintro e V6 ⟨⟨v6, rfl⟩, S6⟩
                  have HS7 := hide S6
                  clear S6
                  go_wp2_with fail
                  go_meet
                  exact (unhide HS7).mono HB1.out.1
                · have hne' : ((makeR t).1 == 0) = false := by simpa using hz
                  generalize makeR t = mr at hmk hne' hz
                  obtain ⟨mr1, mr2⟩ := mr
                  simp only at hmk hne' hz
                  go_wp2_with fail
                  refine hmk.mono ?_
                  clear hmk c0 c1 c2 c3
                  rintro e V5 ⟨⟨D5, x5, y5, rfl, q5, r5⟩, g5⟩
                  obtain ⟨U5, eU5, gU5⟩ : ∃ V', V5.alloc (.cells #[.int .i64 x5.k, .int .i64 x5.N, .string x5.s, .slice x5.a x5.len x5.cap, .int .i64 y5.k, .int .i64 y5.N, .string y5.s, .slice y5.a y5.len y5.cap] 30) = V' ∧ Below V5.heap.size V5 V' := ⟨_, rfl, (Below.refl _ _).alloc (Nat.le_refl _) _⟩
                  have gg : Below wr.heap.size wr U5 := g5.trans (gU5.mono g5.size)
                  have HS7 := hide ((unhide HS).below gg)
                  clear q5 r5 g5 gU5 gg HS
                  go_wp2_with fail
                  try rw [eU5]
                  go_meet
                  exact (unhide HS7).mono (by have := HB1.out.1; omega)
              · have HB1 : Hid (1048576 + ((min j ml : Nat) : Int) ≤ 1048576 + ((min (j + 1) ml : Nat) : Int)) := by show _ ≤ _; omega
                clear HM
                go_wp2_with fail
                go_meet
                exact (unhide HS).mono HB1.out
            case rest =>
            clear HS HSb
            have HSc := hide hcut
            have HSb : Hid (Below W1.heap.size W1 wc) := hcut.base.1
            clear hcut
            go_upto_if 100 with fail
            go_cut [] from 75 to 156 (fun wd => St2 W1.heap.size W1 b vb wb A1 A2 B1 B2 (1048576 + ((min (j + 1) ml : Nat) : Int)) last last wd)
            case first =>
              by_cases hlt : j < ol
              · obtain ⟨N, kb, off, rfl, c0, hN0, hN1⟩ := HO.out wc HSb.out j hlt
                have hrm := st2_remove (unhide HSc) (by omega) N hN0 hN1
                have hj1 : (j : Int) < ol := by omega
                clear hN0 hN1 HSc HSb
                go_wp2_with fail
                refine hrm.mono ?_
                clear hrm c0
                rintro e V6 ⟨⟨v6, rfl⟩, S6⟩
                have HS7 := hide S6
                clear S6
                go_wp2_with fail
                go_meet
                exact unhide HS7
              · go_wp2_with fail
                go_meet
                exact unhide HSc
            case rest =>
            clear HSc HSb HM HO
            obtain ⟨s, hs⟩ : ∃ s, (stepN A1 A2 last).map En.say = s := ⟨_, rfl⟩
            have hs' : (stepN B1 B2 last).map En.say = s := (stepN_same (unhide HSA).1 (unhide HSA).2 last).symm.trans hs
            have hra := restV_ans hs
            have hwb := hcut.base.2.1
            have h5 := st2_nextV hcut s hs
            have HRA := hide hra
            have HS2 := hide hs'
            have HWB := hide hwb
            clear hs hs' hra hwb hcut HSA
            obtain ⟨nid, hnid⟩ : ∃ z, (ansS s).1 = z := ⟨_, rfl⟩
            obtain ⟨nb, hnb⟩ : ∃ z, (ansS s).2.1 = z := ⟨_, rfl⟩
            rw [hnid, hnb] at h5
            have HN := hide (And.intro hnid hnb)
            clear hnid hnb
            simp only [clV] at h5
            go_wp2_with fail
            refine h5.mono ?_
            clear h5
            rintro e V7 ⟨⟨D7, x7, y7, rfl, gv7⟩, s7, S7⟩
            obtain ⟨U7, eU7, gU7, lU7, bnew⟩ : ∃ V', V7.alloc (.cells #[.int .i64 x7.k, .int .i64 x7.N, .string x7.s, .slice x7.a x7.len x7.cap, .int .i64 y7.k, .int .i64 y7.N, .string y7.s, .slice y7.a y7.len y7.cap] 30) = V' ∧ Below V7.heap.size V7 V' ∧ V7.heap.size + 1 ≤ V'.heap.size ∧ BoxC V' V7.heap.size x7 y7 := ⟨_, rfl, (Below.refl _ _).alloc (Nat.le_refl _) _, by simp, BoxC.new V7 x7 y7⟩
            have gvU : GaveOf s wc.heap.size D7 U7 x7 y7 := gv7.gr (GrB.of_below (X := fun _ => False) gU7) (fun _ h => h.elim)
            have h6 := st2_nextW (S7.below gU7) s (unhide HS2)
            rw [(unhide HN).1, (unhide HN).2] at h6
            have HQ7 := hide (And.intro gvU (And.intro bnew (And.intro s7 lU7)))
            clear gv7 S7 gU7 bnew gvU s7 lU7
            simp only [clV] at h6
            go_wp2_with fail
            try rw [eU7]
            refine h6.mono ?_
            clear h6 eU7
            rintro e V8 ⟨⟨D8, x8, y8, rfl, gv8⟩, g8, S8⟩
            obtain ⟨U8, eU8, gU8, lU8, bnew⟩ : ∃ V', V8.alloc (.cells #[.int .i64 x8.k, .int .i64 x8.N, .string x8.s, .slice x8.a x8.len x8.cap, .int .i64 y8.k, .int .i64 y8.N, .string y8.s, .slice y8.a y8.len y8.cap] 30) = V' ∧ Below V8.heap.size V8 V' ∧ V8.heap.size + 1 ≤ V'.heap.size ∧ BoxC V' V8.heap.size x8 y8 := ⟨_, rfl, (Below.refl _ _).alloc (Nat.le_refl _) _, by simp, BoxC.new V8 x8 y8⟩
            obtain ⟨gv7, bc7, s7, l7⟩ := unhide HQ7
            have hw7 := unhide HWB
            have gc : GaveOf s wc.heap.size D7 U8 x7 y7 := (gv7.gr g8 (fun k hk => by omega)).gr (GrB.of_below (X := fun _ => False) gU8) (fun _ h => h.elim)
            have gd : GaveOf s U7.heap.size D8 U8 x8 y8 := gv8.gr (GrB.of_below (X := fun _ => False) gU8) (fun _ h => h.elim)
            have bcU : BoxC U8 V7.heap.size x7 y7 := BoxC.below ((g8.block _ bc7.lt (by omega)).trans bc7) gU8 (by have := g8.size; omega)
            have hS1 := same_shared gc.1 gd.1
            have hS2 : ∀ X, Below U8.heap.size U8 X → Calls Try.prog 12 #[y7.val, y8.val] X fun e W' => e = .returned (.bool (decide ((ansS s).2.2.2 = (ansS s).2.2.2))) ∧ Below X.heap.size X W' := fun X hX => same_shared (HoldsS.below gc.2 hX) (HoldsS.below gd.2 hX)
            simp only [decide_true] at hS1 hS2
            have HBX : Hid (∀ X, Below U8.heap.size U8 X → BoxC X V7.heap.size x7 y7 ∧ BoxC X V8.heap.size x8 y8) := fun X hX => ⟨bcU.below hX bcU.lt, bnew.below hX bnew.lt⟩
            have HS8 := hide (S8.below gU8)
            have HSM := hide hS2
            clear gv7 bc7 s7 l7 hw7 gc gd bcU gv8 g8 S8 gU8 bnew hS2 HQ7 HWB HS2
            obtain ⟨b7, b8⟩ := HBX.out U8 (Below.refl _ _)
            obtain ⟨⟨k0, k1, k2, k3⟩, k4, k5, k6, k7⟩ := b7.cs
            obtain ⟨⟨d0, d1, d2, d3⟩, d4, d5, d6, d7⟩ := b8.cs
            clear b7 b8
            simp only [TV.val] at hS1
            go_wp2_with fail
            try rw [eU8]
            refine hS1.mono ?_
            clear hS1 eU8 k0 k1 k2 k3 k4 k5 k6 k7 d0 d1 d2 d3 d4 d5 d6 d7
            rintro e X1 ⟨rfl, g1⟩
            have hS1 := HSM.out X1 g1
            obtain ⟨b7, b8⟩ := HBX.out X1 g1
            obtain ⟨⟨k0, k1, k2, k3⟩, k4, k5, k6, k7⟩ := b7.cs
            obtain ⟨⟨d0, d1, d2, d3⟩, d4, d5, d6, d7⟩ := b8.cs
            have HS9 := hide ((unhide HS8).below g1)
            clear b7 b8 g1 HS8 HSM HBX
            simp only [TV.val] at hS1
            go_wp2_with fail
            refine hS1.mono ?_
            clear hS1 k0 k1 k2 k3 k4 k5 k6 k7 d0 d1 d2 d3 d4 d5 d6 d7
            rintro e X2 ⟨rfl, g2⟩
            have HSX := hide ((unhide HS9).below g2)
            have HFX : Hid (Below W.heap.size W X2) := (HW.out X2 ((unhide HS9).base.1.trans (g2.mono (unhide HS9).base.2.2))).1
            have HLX : Hid (lastAt X2 vb = lastS last s) := (unhide HSX).last
            clear g2 HS9
            have HNB : Hid ((ansS s).2.1 = nb) := (unhide HN).2
            clear HN
            cases nb with
            | true =>
              go_wp2_with fail
              go_roundw
              case rel =>
                obtain ⟨r1, r2⟩ := unhide HRA
                obtain ⟨q1, q2⟩ := unhide HR
                have r3 := r1 (unhide HNB)
                exact ⟨j + 1, lastS last s, by go_num, by omega, by omega, unhide HSX⟩
              case measure =>
                have r3 := (unhide HRA).1 (unhide HNB)
                have e1 := unhide HLX
                have e2 := unhide HLAST
                rw [e1, e2]
                simp [intOf]
                omega
            | false =>
              by_cases h1 : j < ml
              · have h1' : (j : Int) < ml := by omega
                have h1a : ¬ ((ml : Int) ≤ j) := by omega
                have h1b : ¬ (ml ≤ j) := by omega
                have HE : Hid (j < max ml ol) := by show j < max ml ol; omega
                go_wp2_with fail
                go_roundw
                case rel =>
                  obtain ⟨r1, r2⟩ := unhide HRA
                  obtain ⟨q1, q2⟩ := unhide HR
                  have := HE.out
                  exact ⟨j + 1, lastS last s, by go_num, by omega, by omega, unhide HSX⟩
                case measure =>
                  have r3 := (unhide HRA).2
                  have e1 := unhide HLX
                  have e2 := unhide HLAST
                  have := HE.out
                  rw [e1, e2]
                  simp [intOf]
                  omega
              · have h1' : (ml : Int) ≤ j := by omega
                have h1b : ml ≤ j := by omega
                by_cases h2 : j < ol
                · have h2' : (j : Int) < ol := by omega
                  have h2a : ¬ ((ol : Int) ≤ j) := by omega
                  have h2b : ¬ (ol ≤ j) := by omega
                  have HE : Hid (j < max ml ol) := by show j < max ml ol; omega
                  go_wp2_with fail
                  go_roundw
                  case rel =>
                    obtain ⟨r1, r2⟩ := unhide HRA
                    obtain ⟨q1, q2⟩ := unhide HR
                    have := HE.out
                    exact ⟨j + 1, lastS last s, by go_num, by omega, by omega, unhide HSX⟩
                  case measure =>
                    have r3 := (unhide HRA).2
                    have e1 := unhide HLX
                    have e2 := unhide HLAST
                    have := HE.out
                    rw [e1, e2]
                    simp [intOf]
                    omega
                · have h2' : (ol : Int) ≤ j := by omega
                  have h2b : ol ≤ j := by omega
                  go_wp2_with fail
                  go_ret
                  exact ⟨rfl, HFX.out⟩
end Go.Proofs.Ytjdanfhbccpnpaa

