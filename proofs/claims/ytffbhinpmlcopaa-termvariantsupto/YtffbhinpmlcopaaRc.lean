import Derived.Test.YtffbhinpmlcopaaPl
/- The contract of hornref.Compose. -/
namespace Go.Proofs.Ytffbhinpmlcopaa
open Go.RowKit Go.Shelf

theorem insK_len {β : Type} (l : List (Int × β)) (n : Int) (y : β) : (insK l n y).length = l.length + 1 := by
  unfold insK
  have := congrArg List.length (List.takeWhile_append_dropWhile (p := fun p : Int × β => decide (p.1 < n)) (l := l))
  simp only [List.length_append, List.length_cons] at *
  omega
/-- A list of binds that is being made: at most k of them. -/
def OutB (D : Nat) (W : World) (v : Value) (k : Nat) (c : List (Int × List Nd)) : Prop :=
  ∃ a len cap l, v = .slice a len cap ∧ SrcB D W a len l c ∧ len ≤ k ∧ len ≤ cap ∧ (a = none → cap = 0)
theorem OutB.zero (D : Nat) (W : World) (hDl : D ≤ 2199023255552 := by omega) : OutB D W (.slice none 0 0) 0 [] :=
  ⟨none, 0, 0, [], rfl, ⟨hDl, fun M _ hlm => ⟨[], ⟨rfl, by omega, .inl rfl⟩, rfl, rfl⟩⟩, Nat.le_refl _, Nat.le_refl _, fun _ => rfl⟩
theorem OutB.below {D : Nat} {W W' : World} {v : Value} {k : Nat} {c : List (Int × List Nd)} (h : OutB D W v k c) (hb : Below W.heap.size W W') : OutB D W' v k c := by
  obtain ⟨a, len, cap, l, h1, h2, h3⟩ := h
  exact ⟨a, len, cap, l, h1, h2.below hb, h3⟩
theorem OutB.more {D : Nat} {W : World} {v : Value} {k k' : Nat} {c : List (Int × List Nd)} (h : OutB D W v k c) (hk : k ≤ k') : OutB D W v k' c := by
  obtain ⟨a, len, cap, l, h1, h2, h3, h4⟩ := h
  exact ⟨a, len, cap, l, h1, h2, by omega, h4⟩
theorem MadeB.out {D : Nat} {S : Nat → Prop} {base : Nat} {W : World} {v : Value} {l : List (Int × TV)} {c : List (Int × List Nd)} (h : MadeB D S base W v l c) {k : Nat} (hk : l.length ≤ k) (hl : k ≤ 1152921504606846976) (hDl : D ≤ 2199023255552 := by omega) : OutB D W v k c := by
  obtain ⟨a, cap, hv, hks⟩ := h.isL (by omega)
  obtain ⟨_, h2⟩ := h.owns
  refine ⟨a, l.length, cap, l, hv, ⟨hDl, fun M hM hlm => ?_⟩, hk, ?_⟩
  · obtain ⟨ks, k1, k2, k3, _⟩ := hks M hM hlm
    exact ⟨ks, k1, k2, k3⟩
  · rcases h2 with ⟨hv', hn⟩ | ⟨g, cap', cur, hv', hg, hb, hnc, _⟩
    · rw [hv'] at hv; simp at hv; obtain ⟨rfl, _, rfl⟩ := hv; exact ⟨by omega, fun _ => rfl⟩
    · rw [hv'] at hv; simp at hv; obtain ⟨rfl, rfl⟩ := hv; exact ⟨hnc, fun h => by cases h⟩
theorem place_out {D : Nat} {v : Value} {k : Nat} {c : List (Int × List Nd)} (N : Int) {x : TV} {ct : List Nd} {S : Nat → Prop} {W : World} (h : OutB D W v k c) (hx : HoldsS D S W x.val ct) (hbig : k ≤ 4194304) :
    Calls Try.prog 35 #[v, .int .i64 N, .agg #[.int .i64 x.k, .int .i64 x.N, .string x.s, .slice x.a x.len x.cap]] W fun e W' => ∃ v', e = .returned v' ∧ Below W.heap.size W W' ∧ OutB D W' v' (k + 1) (insK c N ct) := by
  obtain ⟨a, len, cap, l, rfl, h2, h3, h4, h5⟩ := h
  refine (place_any a len cap l c N x ct S W h2 hx (by omega) h4 h5).mono fun e W' hh => ?_
  obtain ⟨v', he, hb, hm⟩ := hh
  exact ⟨v', he, hb, hm.out (by rw [insK_len]; have := h2.len; omega) (by omega) h2.1⟩
theorem same_var {D : Nat} {S : Nat → Prop} {W : World} {x : TV} {ct : List Nd} (hx : HoldsS D S W x.val ct) (V : Int) (hDl : D + 1 ≤ 2199023255552 := by omega) : ∀ W3, Below W.heap.size W W3 → Calls Try.prog 11 #[.agg #[.int .i64 x.k, .int .i64 x.N, .string x.s, .slice x.a x.len x.cap], (varV V).val] W3 fun e W' => e = .returned (.bool (decide (ct = [varNd V]))) ∧ Below W3.heap.size W3 W' := fun W3 hb => by
  obtain ⟨t, h1, h2, _, h4⟩ := hx (D + 1) (by omega) hDl
  have hv := holds_leaf (varV V) rfl rfl rfl (by simp [varV, ByteArray.size]) 0 W3
  rw [varV_nd] at hv
  obtain ⟨u, u1, u2, _, u4⟩ := hv (D + 1) (by omega)
  have u2 := u2 hDl
  have hs := same_any (D + 1) t u W3 ((h2.below hb).mono hb.size) u2
  rw [← h1, ← u1] at hs
  have hd : sameT t u = decide (ct = [varNd V]) := by
    rw [sameT_code h2.wl u2.wl, h4, u4]
  rw [hd] at hs
  exact hs

def stepS (cu : List (Int × List Nd)) (c : List (Int × List Nd)) (p : Int × List Nd) : List (Int × List Nd) := if p.2.flatMap (subN (lookC cu)) = [varNd p.1] then c else insK c p.1 (p.2.flatMap (subN (lookC cu)))
def stepU (cs : List (Int × List Nd)) (c : List (Int × List Nd)) (p : Int × List Nd) : List (Int × List Nd) := if (∃ q ∈ cs, q.1 = p.1) ∨ p.2 = [varNd p.1] then c else insK c p.1 p.2
theorem cb_has {n : Nat} {ss : List (Int × Tm n)} {V : Int} : (∃ q ∈ cb ss, q.1 = V) ↔ ∃ p ∈ ss, p.1 = V := by
  constructor
  · rintro ⟨q, hq, h⟩
    obtain ⟨p, hp, rfl⟩ := List.mem_map.1 hq
    exact ⟨p, hp, h⟩
  · rintro ⟨p, hp, h⟩
    exact ⟨_, List.mem_map.2 ⟨p, hp, rfl⟩, h⟩
theorem foldl_take {α β : Type} (f : β → α → β) (b : β) (l : List α) (j : Nat) (x : α) (h : l[j]? = some x) : (l.take (j + 1)).foldl f b = f ((l.take j).foldl f b) x := by
  obtain ⟨hj, rfl⟩ := List.getElem?_eq_some_iff.1 h
  rw [List.take_succ_eq_append_getElem hj, List.foldl_append]; rfl

set_option maxRecDepth 100000 in
set_option maxHeartbeats 1000000 in
theorem rcompose_any {n : Nat} (ss us : List (Int × Tm n)) (a a' : Option Addr) (len len' cap cap' : Nat) (w : World) (hs : IsL w.heap.size w a len ss) (hu : IsL w.heap.size w a' len' us) (hoks : ∀ p ∈ ss, okT p.2 = true) (hbig : len + len' ≤ 4194304) (hn40 : n ≤ 549755813888) :
    Calls Try.prog 18 #[.slice a len cap, .slice a' len' cap'] w fun e W' => ∃ v, e = .returned v ∧ Below w.heap.size w W' ∧ OutB (n + (n + 1)) W' v (len + len') ((cb us).foldl (stepU (cb ss)) ((cb ss).foldl (stepS (cb us)) [])) := by
  have hl1 : len ≤ ss.length := by have := hs.1; omega
  have hl2 : ss.length ≤ len := by have := hs.1; omega
  have hm1 : len' ≤ us.length := by have := hu.1; omega
  have hm2 : us.length ≤ len' := by have := hu.1; omega
  have HS := hide hs
  have HU := hide hu
  have HOK := hide hoks
  clear hs hu hoks
  go_enter Try.func18, Try.ntmps18
  go_wp2_with fail
  go_loopw [5, 6] (fun o i wr => ∃ j : Nat, j ≤ len ∧ i = .int .i64 j ∧ Below w.heap.size w wr ∧ OutB (n + (n + 1)) wr o j (((cb ss).take j).foldl (stepS (cb us)) [])) (fun _ i _ => len - (intOf i).toNat)
  case atStart => exact ⟨0, Nat.zero_le _, rfl, Below.refl _ _, OutB.zero _ _⟩
  case round =>
    obtain ⟨j, hj, rfl, hb, hm⟩ := hrel
    have HM := hide hm
    clear hm
    by_cases hlt : j < len
    · obtain ⟨V, t, b, off, ht, rfl, hbk, hT, c0, c1, c2, c3, c4⟩ := bind_at (unhide HS) hb hlt
      have hj1 : (j : Int) < len := by omega
      have hokt : okT t = true := (unhide HOK) _ (List.mem_of_getElem? ht)
      have hcs : (cb ss)[j]? = some (V, code t) := by simp [cb, ht]
      have hap := rapply_any us a' len' cap' w.heap.size n t wr ((unhide HU).below hb) hb.size hT hokt
      have hst := foldl_take (stepS (cb us)) [] (cb ss) j _ hcs
      have HST := hide hst
      simp only [TV.val] at hap
      have hy3 : b < wr.heap.size := by have := hb.size; omega
      clear ht hT hokt hcs hst
      go_wp2_with fail
      refine hap.mono ?_
      clear hap
      rintro e W1 ⟨x, rfl, hb1, hx⟩
      go_wp2_with fail
      have hB2 := (Below.refl _ W1).alloc (Nat.le_refl _) (.cells #[.int .i64 x.k, .int .i64 x.N, .string x.s, .slice x.a x.len x.cap] 24)
      have hbx := BoxT.new W1 x
      have hx2 := hx.below hB2
      have hsz2 : (W1.alloc (.cells #[.int .i64 x.k, .int .i64 x.N, .string x.s, .slice x.a x.len x.cap] 24)).heap.size = W1.heap.size + 1 := by simp
      obtain ⟨W2, hW2⟩ : ∃ W2, W1.alloc (.cells #[.int .i64 x.k, .int .i64 x.N, .string x.s, .slice x.a x.len x.cap] 24) = W2 := ⟨_, rfl⟩
      rw [hW2] at hB2 hbx hx2 hsz2 ⊢
      clear hW2
      have hbr : Below wr.heap.size wr W2 := hb1.trans (hB2.mono hb1.size)
      have hbc := bcell hbr
      have d0 := (hbc b (off + j * 5) hy3).trans c0
      have x0 := hbx.c0
      have x1 := hbx.c1
      have x2 := hbx.c2
      have x3 := hbx.c3
      clear hbc
      have hsm := same_var hx2 V
      generalize hdd : decide ((code t).flatMap (subN (lookC (cb us))) = [varNd V]) = dd at hsm
      have HDD := hide hdd
      have HX := hide hx2
      have HBX := hide hbx
      have HSZ := hide hsz2
      clear hdd hx hx2 hbx hsz2
      have hlt2 : W1.heap.size < W2.heap.size := by have := unhide HSZ; omega
      have hlt3 : b < W2.heap.size := by have := hbr.size; omega
      have hv : Calls Try.prog 34 #[.int .i64 V] W2.drew fun e W3 => e = .returned (varV V).val ∧ Below W2.heap.size W2 W3 := (v_any V _).mono fun e W3 h => ⟨h.1, (Below.refl _ W2).drew.trans h.2⟩
      go_region_held3 (fun w' => w'.cell? ⟨b, off + j * 5, none⟩ = some (.int .i64 V)
              ∧ w'.cell? ⟨W1.heap.size, 0, none⟩ = some (.int .i64 x.k) ∧ w'.cell? ⟨W1.heap.size, 1, none⟩ = some (.int .i64 x.N) ∧ w'.cell? ⟨W1.heap.size, 2, none⟩ = some (.string x.s) ∧ w'.cell? ⟨W1.heap.size, 3, none⟩ = some (.slice x.a x.len x.cap)) (go_keep)
              (first | (go_at_call 34; refine hv.mono ?_; clear hv; rintro e W3 ⟨rfl, hb3⟩; have hbc := bcell hb3) | (go_at_call 11; refine (hsm W3 hb3).mono ?_; clear hsm; have hq1 := hb3.size; have hq2 : b < W3.heap.size := (by omega); have hq3 : W1.heap.size < W3.heap.size := (by omega); rintro e W4 ⟨rfl, hb4⟩; have hbd := bcell hb4))
      have hbq : Below W2.heap.size W2 W4 := hb3.trans (hb4.mono hb3.size)
      clear hbc hbd hb3 hb4 hq1 hq2 hq3
      cases dd with
      | true =>
        go_wp2_with fail
        go_roundw
        case rel =>
          have hbt : Below wr.heap.size wr W4 := hbr.trans (hbq.mono hbr.size)
          refine ⟨j + 1, by omega, by go_num, hb.trans (hbt.mono hb.size), ?_⟩
          rw [unhide HST]
          unfold stepS
          rw [if_pos (of_decide_eq_true (unhide HDD))]
          exact ((unhide HM).below hbt).more (by omega)
        case measure => simp [intOf]; omega
      | false =>
        have hbx4 : BoxT W4 W1.heap.size x := (hbq.block _ hlt2).trans (unhide HBX)
        have hbc := bcell hbq
        have e0 := (hbc b (off + j * 5) hlt3).trans d0
        have y0 := hbx4.c0
        have y1 := hbx4.c1
        have y2 := hbx4.c2
        have y3 := hbx4.c3
        have hlt5 : b < W4.heap.size := by have := hbq.size; omega
        have hlt6 : W1.heap.size < W4.heap.size := by have := hbq.size; omega
        clear hbx4 hbc
        have hpl : Calls Try.prog 35 #[u5, .int .i64 V, .agg #[.int .i64 x.k, .int .i64 x.N, .string x.s, .slice x.a x.len x.cap]] W4.drew fun e W' => ∃ v', e = .returned v' ∧ Below W4.heap.size W4 W' ∧ OutB (n + (n + 1)) W' v' (j + 1) (insK (((cb ss).take j).foldl (stepS (cb us)) []) V ((code t).flatMap (subN (lookC (cb us))))) :=
          (place_out V (((unhide HM).below (hbr.trans (hbq.mono hbr.size))).below (Below.refl _ W4).drew) ((((unhide HX).below hbq)).below (Below.refl _ W4).drew) (by omega)).mono fun e W' h => by
            obtain ⟨v', h1, h2, h3⟩ := h
            exact ⟨v', h1, (Below.refl _ W4).drew.trans h2, h3⟩
        go_wp2_with fail
        go_region_held3 (fun w' => w'.cell? ⟨b, off + j * 5, none⟩ = some (.int .i64 V)
              ∧ w'.cell? ⟨W1.heap.size, 0, none⟩ = some (.int .i64 x.k) ∧ w'.cell? ⟨W1.heap.size, 1, none⟩ = some (.int .i64 x.N) ∧ w'.cell? ⟨W1.heap.size, 2, none⟩ = some (.string x.s) ∧ w'.cell? ⟨W1.heap.size, 3, none⟩ = some (.slice x.a x.len x.cap)) (go_keep)
              (first | (go_at_call 35; refine hpl.mono ?_; clear hpl; rintro e W5 ⟨v', rfl, hb5, ho5⟩; have hbc := bcell hb5))
        go_wp2_with fail
        go_roundw
        case rel =>
          have hbt : Below wr.heap.size wr W5 := (hbr.trans (hbq.mono hbr.size)).trans (hb5.mono (by have := hbr.size; have := hbq.size; omega))
          refine ⟨j + 1, by omega, by go_num, hb.trans (hbt.mono hb.size), ?_⟩
          rw [unhide HST]
          unfold stepS
          rw [if_neg (of_decide_eq_false (unhide HDD))]
          exact ho5
        case measure => simp [intOf]; omega
    · have htk : (cb ss).take j = cb ss := List.take_of_length_le (by simp [cb]; omega)
      rw [htk] at HM
      clear htk
      have hj1 : ¬ (j : Int) < len := by omega
      have HB := hide hb
      clear hb
      go_wp2_with fail
      go_loopw [5, 8] (fun o i wq => ∃ k : Nat, k ≤ len' ∧ i = .int .i64 k ∧ Below w.heap.size w wq ∧ OutB (n + (n + 1)) wq o (len + k) (((cb us).take k).foldl (stepU (cb ss)) ((cb ss).foldl (stepS (cb us)) []))) (fun _ i _ => len' - (intOf i).toNat)
      case atStart => exact ⟨0, Nat.zero_le _, rfl, unhide HB, (unhide HM).more (by omega)⟩
      case round =>
        obtain ⟨k, hk, rfl, hb, hm⟩ := hrel
        clear HM HB
        have HM := hide hm
        clear hm
        by_cases hlt' : k < len'
        · obtain ⟨V, t, b, off, ht, rfl, hbk, hT, c0, c1, c2, c3, c4⟩ := bind_at (unhide HU) hb hlt'
          have hj2 : (k : Int) < len' := by omega
          have hcu : (cb us)[k]? = some (V, code t) := by simp [cb, ht]
          have hfi := rfind_any ss a len cap V w.heap.size wr ((unhide HS).below hb) hb.size
          simp only [FindSays, TV.val] at hfi
          have hst := foldl_take (stepU (cb ss)) ((cb ss).foldl (stepS (cb us)) []) (cb us) k _ hcu
          have HST := hide hst
          have hTS : HoldsS (n + (n + 1)) (· < wr.heap.size) wr t.tv.val (code t) := (holdsS_of hT hT.blk).mono (by omega) (fun _ h => h)
          have HTS := hide hTS
          have hy3 : b < wr.heap.size := by have := hb.size; omega
          clear ht hT hcu hst hTS
          go_wp2_with fail
          refine hfi.mono ?_
          clear hfi
          rintro e W1 ⟨x, f, rfl, hb1, hx, hf⟩
          have HF := hide hf
          clear hf hx
          cases f with
          | true =>
            have HEX := hide (cb_has.2 ((unhide HF).1 rfl))
            clear HF
            go_wp2_with fail
            go_quiet (fail)
            go_wp2_with fail
            go_roundw
            case rel =>
              have hbt : Below wr.heap.size wr ((W1.alloc (.cells #[.int .i64 x.k, .int .i64 x.N, .string x.s, .slice x.a x.len x.cap] 24)).drewN nq) := below_drewN (hb1.alloc hb1.size _) _
              refine ⟨k + 1, by omega, by go_num, hb.trans (hbt.mono hb.size), ?_⟩
              rw [unhide HST]
              unfold stepU
              rw [if_pos (.inl (unhide HEX))]
              exact ((unhide HM).below hbt).more (by omega)
            case measure => simp [intOf]; omega
          | false =>
            have hnf : ¬ ∃ q ∈ cb ss, q.1 = V := fun h => by have := (unhide HF).2 (cb_has.1 h); cases this
            have HNF := hide hnf
            clear hnf HF
            go_wp2_with fail
            have hB2 := (Below.refl _ W1).alloc (Nat.le_refl _) (.cells #[.int .i64 x.k, .int .i64 x.N, .string x.s, .slice x.a x.len x.cap] 24)
            obtain ⟨W2, hW2⟩ : ∃ W2, W1.alloc (.cells #[.int .i64 x.k, .int .i64 x.N, .string x.s, .slice x.a x.len x.cap] 24) = W2 := ⟨_, rfl⟩
            rw [hW2] at hB2 ⊢
            clear hW2
            have hbr : Below wr.heap.size wr W2 := hb1.trans (hB2.mono hb1.size)
            have hbc := bcell hbr
            have d0 := (hbc b (off + k * 5) hy3).trans c0
            have d1 := (hbc b (off + k * 5 + 1) hy3).trans c1
            have d2 := (hbc b (off + k * 5 + 2) hy3).trans c2
            have d3 := (hbc b (off + k * 5 + 3) hy3).trans c3
            have d4 := (hbc b (off + k * 5 + 4) hy3).trans c4
            clear hbc
            have hsm := same_var ((unhide HTS).below hbr) V
            generalize hdd : decide (code t = [varNd V]) = dd at hsm
            have HDD := hide hdd
            clear hdd
            have hlt3 : b < W2.heap.size := by have := hbr.size; omega
            have hv : Calls Try.prog 34 #[.int .i64 V] W2.drew fun e W3 => e = .returned (varV V).val ∧ Below W2.heap.size W2 W3 := (v_any V _).mono fun e W3 h => ⟨h.1, (Below.refl _ W2).drew.trans h.2⟩
            go_region_held3 (fun w' => w'.cell? ⟨b, off + k * 5, none⟩ = some (.int .i64 V)
              ∧ w'.cell? ⟨b, off + k * 5 + 1, none⟩ = some (.int .i64 t.tv.k) ∧ w'.cell? ⟨b, off + k * 5 + 2, none⟩ = some (.int .i64 t.tv.N) ∧ w'.cell? ⟨b, off + k * 5 + 3, none⟩ = some (.string t.tv.s) ∧ w'.cell? ⟨b, off + k * 5 + 4, none⟩ = some (.slice t.tv.a t.tv.len t.tv.cap)) (go_keep)
              (first | (go_at_call 34; refine hv.mono ?_; clear hv; rintro e W3 ⟨rfl, hb3⟩; have hbc := bcell hb3) | (go_at_call 11; refine (hsm W3 hb3).mono ?_; clear hsm; have hq1 := hb3.size; have hq2 : b < W3.heap.size := (by omega); rintro e W4 ⟨rfl, hb4⟩; have hbd := bcell hb4))
            have hbq : Below wr.heap.size wr W4 := hbr.trans ((hb3.trans (hb4.mono hb3.size)).mono hbr.size)
            clear hbc hbd hb3 hb4 hq1 hq2 hbr hb1 hB2 d0 d1 d2 d3 d4
            cases dd with
            | true =>
              go_wp2_with fail
              go_roundw
              case rel =>
                refine ⟨k + 1, by omega, by go_num, hb.trans (hbq.mono hb.size), ?_⟩
                rw [unhide HST]
                unfold stepU
                rw [if_pos (.inr (of_decide_eq_true (unhide HDD)))]
                exact ((unhide HM).below hbq).more (by omega)
              case measure => simp [intOf]; omega
            | false =>
              have hbc := bcell hbq
              have e0 := (hbc b (off + k * 5) hy3).trans c0
              have e1 := (hbc b (off + k * 5 + 1) hy3).trans c1
              have e2 := (hbc b (off + k * 5 + 2) hy3).trans c2
              have e3 := (hbc b (off + k * 5 + 3) hy3).trans c3
              have e4 := (hbc b (off + k * 5 + 4) hy3).trans c4
              have hlt5 : b < W4.heap.size := by have := hbq.size; omega
              clear hbc
              have hpl : Calls Try.prog 35 #[u5, .int .i64 V, .agg #[.int .i64 t.tv.k, .int .i64 t.tv.N, .string t.tv.s, .slice t.tv.a t.tv.len t.tv.cap]] W4.drew fun e W' => ∃ v', e = .returned v' ∧ Below W4.heap.size W4 W' ∧ OutB (n + (n + 1)) W' v' (len + (k + 1)) (insK (((cb us).take k).foldl (stepU (cb ss)) ((cb ss).foldl (stepS (cb us)) [])) V (code t)) :=
                (place_out V (((unhide HM).below hbq).below (Below.refl _ W4).drew) ((((unhide HTS).below hbq)).below (Below.refl _ W4).drew) (by omega)).mono fun e W' h => by
                  obtain ⟨v', h1, h2, h3⟩ := h
                  exact ⟨v', h1, (Below.refl _ W4).drew.trans h2, h3⟩
              go_wp2_with fail
              go_region_held3 (fun w' => w'.cell? ⟨b, off + k * 5, none⟩ = some (.int .i64 V)
                ∧ w'.cell? ⟨b, off + k * 5 + 1, none⟩ = some (.int .i64 t.tv.k) ∧ w'.cell? ⟨b, off + k * 5 + 2, none⟩ = some (.int .i64 t.tv.N) ∧ w'.cell? ⟨b, off + k * 5 + 3, none⟩ = some (.string t.tv.s) ∧ w'.cell? ⟨b, off + k * 5 + 4, none⟩ = some (.slice t.tv.a t.tv.len t.tv.cap)) (go_keep)
                (first | (go_at_call 35; refine hpl.mono ?_; clear hpl; rintro e W5 ⟨v', rfl, hb5, ho5⟩; have hbc := bcell hb5))
              go_wp2_with fail
              go_roundw
              case rel =>
                refine ⟨k + 1, by omega, by go_num, hb.trans ((hbq.trans (hb5.mono hbq.size)).mono hb.size), ?_⟩
                rw [unhide HST]
                unfold stepU
                rw [if_neg (fun h => h.elim (unhide HNF) (of_decide_eq_false (unhide HDD)))]
                exact ho5
              case measure => simp [intOf]; omega
        · have htk : (cb us).take k = cb us := List.take_of_length_le (by simp [cb]; omega)
          rw [htk] at HM
          have hfin := (unhide HM).more (k' := len + len') (by omega)
          have HFIN := hide hfin
          clear htk hfin
          have hj2 : ¬ (k : Int) < len' := by omega
          go_wp2_with fail
          exact bodyPost_ret (v := u5) (by simp [results, Try.results18, go_sem]) rfl ⟨u5, rfl, hb, unhide HFIN⟩
end Go.Proofs.Ytffbhinpmlcopaa

