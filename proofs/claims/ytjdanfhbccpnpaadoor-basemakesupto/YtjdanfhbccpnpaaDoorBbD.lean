import Derived.Test.YtjdanfhbccpnpaaDoorBbC
import Derived.Test.YtjdanfhbccpnpaaDoorT
/- base.Body. -/
namespace Go.Proofs.YtjdanfhbccpnpaaDoor
open Go.RowKit Go.Shelf

theorem stands_holds {n b o : Nat} {L : List Nat} {sz : Nat} {W' : World} {c : List Nd} {lo : Nat} (h : StandsB n b o L sz W' c) (hL : ∀ k ∈ L, lo ≤ k) (hsz : lo ≤ sz) : ∃ y : TV, cellsAt W' b o y ∧ HoldsS (n + 1) (lo ≤ ·) W' y.val c := by
  obtain ⟨t', h1, h2, _, _, h5, h6⟩ := h
  refine ⟨t'.tv, h1, ?_⟩
  rw [← h5]
  exact holdsS_of h2 (blk_of h2 fun k hk => by
    rcases h6 k hk with h | h
    · exact hL k h
    · exact Nat.le_trans hsz h)
theorem holdsS_set4 {D lo : Nat} {W : World} {v : Value} {c : List Nd} (h : HoldsS D (lo ≤ ·) W v c) {b : Nat} (hb : b < lo) (o : Nat) (x : TV) : HoldsS D (lo ≤ ·) (set4 W b o x) v c :=
  h.fromS (fun k hk _ => set4_other W b o x (by have : lo ≤ k := hk; omega)) (by rw [set4_size]; exact Nat.le_refl _)
theorem isL_nil (m : Nat) (W : World) (n : Nat) : IsL m W none 0 ([] : List (Int × Tm n)) := by
  refine ⟨rfl, by omega, ?_⟩
  exact .inl rfl
/-- To apply nothing is to copy. -/
theorem apply_nil {n : Nat} (t : Tm n) (w : World) (hT : IsT w.heap.size w t) (hok : okT t = true) :
    Calls Tryd.prog 15 #[t.tv.val, .slice none 0 0] w fun e W' => ∃ x : TV, e = .returned (.tuple #[x.val, .int .i64 0]) ∧ Below w.heap.size w W' ∧ HoldsT (n + (n + 1)) w.heap.size W' x.val (code t) := by
  have h := apply_ok t ([] : List (Int × Tm n)) none 0 0 w hT (isL_nil _ _ _) hok (fun p hp => by cases hp) ⟨(fun p hp => by cases hp), (fun i j p q h => by simp at h)⟩
  have e : (code t).flatMap (subN (lookC (cb ([] : List (Int × Tm n))))) = code t := sub_var hok
  rw [e] at h
  exact h
set_option maxRecDepth 100000 in
set_option maxHeartbeats 2000000 in
theorem body_bad {n : Nat} (t : Tm n) (W : World) (hT : IsT W.heap.size W t) (hok : okT t = false) :
    Calls Tryd.prog 4 #[t.tv.val] W fun e W' => e = .returned (.tuple #[noTerm.val, .int .i64 2]) ∧ Below W.heap.size W W' := by
  have HA : Hid (∀ V, Below W.heap.size W V → Calls Tryd.prog 15 #[t.tv.val, .slice none 0 0] V fun e W' => e = .returned (.tuple #[.agg #[.int .i64 0, .int .i64 0, .string ⟨#[]⟩, .slice none 0 0], .int .i64 2]) ∧ Below V.heap.size V W') := fun V hV => apply_bad t none 0 0 V ((hT.below hV).mono hV.size) hok
  have hH := Head.new W t.tv
  have ha := HA.out _ hH.below
  clear hT hok HA
  simp only [TV.val, noTerm] at ha ⊢
  go_enter Tryd.func4, Tryd.ntmps4
  go_wp2_with fail
  refine ha.mono ?_
  clear ha
  rintro e W1 ⟨rfl, hb1⟩
  replace hH := (hH.next hb1).next ((Below.refl _ W1).alloc (o := .cells #[.int .i64 0, .int .i64 0, .string ⟨#[]⟩, .slice none 0 0] 24) (Nat.le_refl _))
  obtain ⟨⟨z0, z1, z2, z3⟩, y0, y1, y2, y3⟩ := zbox_kept hH.bz
  have HH := hide hH
  clear hH hb1
  go_wp2_with fail
  exact bodyPost_ret (v := .tuple #[.agg #[.int .i64 0, .int .i64 0, .string ⟨#[]⟩, .slice none 0 0], .int .i64 2]) (by simp [results, Tryd.results4, go_sem, z0, z1, z2, z3]) rfl ⟨rfl, set4_below (unhide HH).below (by omega) 0 ⟨0, 0, ⟨#[]⟩, none, 0, 0⟩⟩
set_option maxRecDepth 100000 in
set_option maxHeartbeats 2000000 in
theorem body_ok {n : Nat} (t : Tm n) (W : World) (hT : IsT W.heap.size W t) (hok : okT t = true) (hn40 : n ≤ 549755813888 := by omega) :
    Calls Tryd.prog 4 #[t.tv.val] W fun e W' => (∃ x : TV, e = .returned (.tuple #[x.val, .int .i64 (if (bodyC t).isSome = true then 0 else 7)]) ∧ HoldsS (n + (n + 1) + 1) (W.heap.size ≤ ·) W' x.val (orNo (bodyC t))) ∧ Below W.heap.size W W' := by
  have HA : Hid (∀ V, Below W.heap.size W V → Calls Tryd.prog 15 #[t.tv.val, .slice none 0 0] V fun e W' => ∃ x : TV, e = .returned (.tuple #[x.val, .int .i64 0]) ∧ Below V.heap.size V W' ∧ HoldsT (n + (n + 1)) V.heap.size W' x.val (code t)) := fun V hV => apply_nil t V ((hT.below hV).mono hV.size) hok
  have hH := Head.new W t.tv
  have ha := HA.out _ hH.below
  have HB : Hid (∀ {m : Nat} (o : Tm m), Wl o → code o = code t → bodyC o = bodyC t ∧ okT o = true) := fun o ho hc => ⟨body_copy hT.wl hok ho hc, by rw [okT_m, hc, ← okT_m]; exact hok⟩
  clear hT hok HA
  generalize bodyC t = r at HB ⊢
  simp only [TV.val] at ha ⊢
  go_enter Tryd.func4, Tryd.ntmps4
  go_wp2_with fail
  refine ha.mono ?_
  clear ha
  rintro e W1 ⟨x, rfl, hb1, hx⟩
  rw [show ((W.alloc (.cells #[.int .i64 t.tv.k, .int .i64 t.tv.N, .string t.tv.s, .slice t.tv.a t.tv.len t.tv.cap] 24)).alloc (.cells #[.int .i64 0, .int .i64 0, .string ⟨#[]⟩, .slice none 0 0] 24)).heap.size = W.heap.size + 2 by simp] at hx
  replace hH := hH.next hb1
  have hlt := hH.lt
  obtain ⟨o, ho, hoT', hoN, hoc⟩ := hx _ (Nat.le_refl _)
  have hoT := hoT' (by omega)
  clear hoT'
  obtain rfl := tv_inj ho
  obtain ⟨hbo, hok⟩ := HB.out o hoT.wl hoc
  clear hx ho HB hoc hb1
  have hb2 : Below W1.heap.size W1 (W1.alloc (.cells #[.int .i64 o.tv.k, .int .i64 o.tv.N, .string o.tv.s, .slice o.tv.a o.tv.len o.tv.cap] 24)) := (Below.refl _ W1).alloc (Nat.le_refl _) _
  have hbx := BoxT.new W1 o.tv
  have hL : ∀ k ∈ blks o, W.heap.size + 2 ≤ k ∧ k < W1.heap.size := fun k hk => ⟨(hoN.wh.blks_in k hk).1, (hoN.wh.blks_in k hk).2.1⟩
  have hmb := makeBody_any _ o W1.heap.size 0 (W1.alloc (.cells #[.int .i64 o.tv.k, .int .i64 o.tv.N, .string o.tv.s, .slice o.tv.a o.tv.len o.tv.cap] 24)) hok ⟨hbx.c0, hbx.c1, hbx.c2, hbx.c3⟩ ⟨_, _, hbx, by simp⟩ ((hoT.below hb2).mono hb2.size) ((hoN.below hb2).wh.rows) hoN.ap (fun hm => by have := (hL _ hm).2; omega)
  rw [hbo] at hmb
  replace hH := hH.next hb2
  have HH := hide hH
  have HL := hide hL
  have HS : Hid (W1.heap.size + 1 = (W1.alloc (.cells #[.int .i64 o.tv.k, .int .i64 o.tv.N, .string o.tv.s, .slice o.tv.a o.tv.len o.tv.cap] 24)).heap.size) := by show _ = _; simp
  have HLT := hide hlt
  clear hH hL hoT hoN hok hbo hb2 hbx hlt
  go_wp2_with fail
  refine hmb.mono ?_
  clear hmb
  rintro e W3 ⟨rfl, hm3⟩
  obtain ⟨ht3, hs3⟩ := hm3
  have hs := ht3.gr.size
  have hBW : Below W.heap.size W W3 := (unhide HH).below.trans (ht3.gr.below (n₀ := W.heap.size) (fun k hk => by
    rcases hk with rfl | hk
    · have := unhide HLT; omega
    · have := (unhide HL k hk).1; omega) (by have := (unhide HH).below.size; omega))
  have hz3 := (ht3.gr.block (W.heap.size + 1) (unhide HH).lt (by
    rintro (h | h)
    · have := unhide HLT; omega
    · have := (unhide HL _ h).1; omega)).trans (unhide HH).bz
  obtain ⟨⟨z0, z1, z2, z3⟩, y0, y1, y2, y3⟩ := zbox_kept hz3
  cases r with
  | none =>
    have HF : Hid (Below W.heap.size W (set4 W3 (W.heap.size + 1) 0 noTerm)) := set4_below hBW (by omega) 0 _
    clear hBW hz3 HH HL ht3 hs3 HS HLT hs
    simp only [Option.isSome_none]
    go_wp2_with fail
    exact bodyPost_ret (v := .tuple #[noTerm.val, .int .i64 7]) (by simp [results, Tryd.results4, go_sem, TV.val, noTerm, z0, z1, z2, z3]) rfl ⟨⟨noTerm, rfl, (no_holds _ _ (by omega) _).holdsS⟩, HF.out⟩
  | some c =>
    obtain ⟨y, hy, hyS⟩ := stands_holds (lo := W.heap.size + 2) (hs3 c rfl) (fun k hk => (unhide HL k hk).1) (by have := HS.out; have := unhide HLT; omega)
    obtain ⟨c0, c1, c2, c3⟩ := hy
    have HF : Hid (Below W.heap.size W (set4 W3 (W.heap.size + 1) 0 y) ∧ HoldsS (n + (n + 1) + 1) (W.heap.size ≤ ·) (set4 W3 (W.heap.size + 1) 0 y) y.val c) := ⟨set4_below hBW (by omega) 0 _, (holdsS_set4 hyS (by omega) 0 y).mono (Nat.le_refl _) (fun k hk => by have : W.heap.size + 2 ≤ k := hk; show W.heap.size ≤ k; omega)⟩
    clear hBW hz3 HH HL ht3 hs3 HS hyS hs HLT
    simp only [Option.isSome_some]
    go_wp2_with fail
    exact bodyPost_ret (v := .tuple #[y.val, .int .i64 0]) (by simp [results, Tryd.results4, go_sem, TV.val, z0, z1, z2, z3]) rfl ⟨⟨y, rfl, HF.out.2⟩, HF.out.1⟩
/-- base.Body, whatever it is asked. -/
theorem body_any {n : Nat} (t : Tm n) (ns : Nat) (W : World) (hT : IsT ns W t) (hns : ns ≤ W.heap.size) (hn38 : n ≤ 274877906944 := by omega) :
    Calls Tryd.prog 4 #[t.tv.val] W fun e W' => TAns (2 * n + 8) ns W.heap.size (bodyR t).1 (bodyR t).2 e W' ∧ Below W.heap.size W W' := by
  unfold bodyR
  cases hok : okT t with
  | false =>
    refine (body_bad t W (hT.mono hns) hok).mono fun e W' h => ⟨?_, h.2⟩
    rw [if_neg (by simp)]
    exact ⟨⟨1, by omega⟩, noTerm, h.1, no_shared 1 _ _ (by omega) W'⟩
  | true =>
    refine (body_ok t W (hT.mono hns) hok).mono fun e W' h => ⟨?_, h.2⟩
    rw [if_pos rfl]
    obtain ⟨x, h1, h2⟩ := h.1
    exact ⟨⟨_, by omega⟩, x, h1, h2.mono (Nat.le_refl _) fun _ h => .inr h⟩
end Go.Proofs.YtjdanfhbccpnpaaDoor

