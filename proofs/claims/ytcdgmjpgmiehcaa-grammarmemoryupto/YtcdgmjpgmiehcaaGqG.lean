import Derived.Test.YtcdgmjpgmiehcaaGqEs
/- grammar's done. (Written by wip/gqdonegen.py.) -/
namespace Go.Proofs.Ytcdgmjpgmiehcaa
open Go.RowKit Go.Shelf

theorem form_six {x : TV} (h : formB x = 6) : x.len = 0 ∨ x.len = 1 := by
  unfold formB at h
  repeat' split at h
  all_goals first
    | omega
    | (rename_i hb; simp only [Bool.or_eq_true] at hb; rcases hb with hb | hb <;> (have := isB_len hb; omega))
    | skip
set_option maxRecDepth 100000 in
set_option maxHeartbeats 8000000 in
theorem done_any {D w0 wb n : Nat} {f0 : Int} {vs : List Int} {V : World} {s r : List Nd} {lf : Value} (t : Tm (n + 1)) (E : Task) (hT : IsT V.heap.size V t) (ok : okT t = true) (h6 : formB t.tv = 6) (hb : t.kids.all (fun u => (bodyC u).isSome) = true) (hn : n ≤ 549755813888) (hlim : 2 * n + D + 8 ≤ 2199023255552) (hs : Wst D w0 wb E.pf E.pt f0 vs s r lf V) :
    Calls Try.prog 51 #[.pointer (some ⟨wb, 0, none⟩), t.tv.val, E.val] V fun e V' => LeafP (2 * n + D + 8) D w0 wb E.pf E.pt f0 vs s r lf (curlC t.kids (renC (newR f0 (extV f0 vs r)) s) (renC (newR f0 (extV f0 vs r)) r)) V e V' := by
  have HN : Hid (∀ U : World, Calls Try.prog 53 #[] U fun e W' => e = .returned nilT.val ∧ Below U.heap.size U W') := hide fun U => gno_any U
  obtain ⟨W3, hW3, g3, hs3, b0, b1, b2⟩ := box_trio V t.tv E
  obtain ⟨x, kids⟩ := t
  simp only [Tm.tv, Tm.kids] at h6 hb hW3 b0 ⊢
  have HRCH : Hid (∀ U, Below W3.heap.size W3 U → Calls Try.prog 50 #[.pointer (some ⟨wb, 0, none⟩), .agg #[.int .i64 3, .int .i64 0, .string ⟨#[91, 93]⟩, .slice none 0 0], .agg #[.int .i64 E.x.k, .int .i64 E.x.N, .string E.x.s, .slice E.x.a E.x.len E.x.cap, .pointer (some ⟨E.pf, 0, none⟩), .pointer (some ⟨E.pt, 0, none⟩), .pointer (some E.pl)]] U fun e V' => ∃ y : TV, e = .returned y.val ∧ HoldsG anyP (D + 4) U.heap.size V' y.val (eqC (renC (newR f0 (extV f0 vs r)) s) (renC (newR f0 (extV f0 vs r)) r)) ∧ Wen D w0 wb E.pf E.pt f0 vs s r lf U V') := hide fun U hU => reach_nil E (by omega) (hs.below (g3.trans (hU.mono g3.size)))
  have HC : Hid (∀ (R : Nat) (X : World), Calls Try.prog 24 #[.string ⟨#[44]⟩, .slice (some ⟨R, 0, none⟩) 2 2] X fun e W' => e = .returned (compV ⟨#[44]⟩ (some ⟨R, 0, none⟩) 2 2).val ∧ Below X.heap.size X W') := hide fun R X => gcomp_any _ _ _ _ X
  have KEEP : Hid (∀ U : World, (∀ k, V.heap.size ≤ k → k < V.heap.size + 3 → U.heap[k]? = W3.heap[k]?) → U.cell? ⟨V.heap.size + 1, 0, none⟩ = some (.int .i64 E.x.k) ∧ U.cell? ⟨V.heap.size + 1, 1, none⟩ = some (.int .i64 E.x.N) ∧ U.cell? ⟨V.heap.size + 1, 2, none⟩ = some (.string E.x.s) ∧ U.cell? ⟨V.heap.size + 1, 3, none⟩ = some (.slice E.x.a E.x.len E.x.cap) ∧ U.cell? ⟨V.heap.size + 1, 4, none⟩ = some (.pointer (some ⟨E.pf, 0, none⟩)) ∧ U.cell? ⟨V.heap.size + 1, 5, none⟩ = some (.pointer (some ⟨E.pt, 0, none⟩)) ∧ U.cell? ⟨V.heap.size + 1, 6, none⟩ = some (.pointer (some E.pl))) := hide fun U hU => TkB.cells (show TkB U (V.heap.size + 1) E from (hU _ (by omega) (by omega)).trans b1)
  have hlt := hs.lts
  have hk := ok_kids ok
  have hTl : x.len = kids.length := hT.1
  have d3 := b0.c3
  have hrow : E.row.toArray = #[.int .i64 E.x.k, .int .i64 E.x.N, .string E.x.s, .slice E.x.a E.x.len E.x.cap, .pointer (some ⟨E.pf, 0, none⟩), .pointer (some ⟨E.pt, 0, none⟩), .pointer (some E.pl)] := rfl
  simp only [TV.val, Task.val]
  rw [hrow]
  clear hrow
  rcases form_six h6 with hl | hl
  · obtain rfl := kids_nil hT.wl hl
    have HFA : Hid (∀ (U1 U2 : World) (y : TV), Below W3.heap.size W3 U1 → HoldsG anyP (D + 4) U1.heap.size U2 y.val (eqC (renC (newR f0 (extV f0 vs r)) s) (renC (newR f0 (extV f0 vs r)) r)) → Wen D w0 wb E.pf E.pt f0 vs s r lf U1 U2 → BoxT U2 (V.heap.size + 2) noTerm ∧ (U2.cell? ⟨V.heap.size + 1, 0, none⟩ = some (.int .i64 E.x.k) ∧ U2.cell? ⟨V.heap.size + 1, 1, none⟩ = some (.int .i64 E.x.N) ∧ U2.cell? ⟨V.heap.size + 1, 2, none⟩ = some (.string E.x.s) ∧ U2.cell? ⟨V.heap.size + 1, 3, none⟩ = some (.slice E.x.a E.x.len E.x.cap) ∧ U2.cell? ⟨V.heap.size + 1, 4, none⟩ = some (.pointer (some ⟨E.pf, 0, none⟩)) ∧ U2.cell? ⟨V.heap.size + 1, 5, none⟩ = some (.pointer (some ⟨E.pt, 0, none⟩)) ∧ U2.cell? ⟨V.heap.size + 1, 6, none⟩ = some (.pointer (some E.pl))) ∧ ((set4 U2 (V.heap.size + 2) 0 y).cell? ⟨V.heap.size + 1, 0, none⟩ = some (.int .i64 E.x.k) ∧ (set4 U2 (V.heap.size + 2) 0 y).cell? ⟨V.heap.size + 1, 1, none⟩ = some (.int .i64 E.x.N) ∧ (set4 U2 (V.heap.size + 2) 0 y).cell? ⟨V.heap.size + 1, 2, none⟩ = some (.string E.x.s) ∧ (set4 U2 (V.heap.size + 2) 0 y).cell? ⟨V.heap.size + 1, 3, none⟩ = some (.slice E.x.a E.x.len E.x.cap) ∧ (set4 U2 (V.heap.size + 2) 0 y).cell? ⟨V.heap.size + 1, 4, none⟩ = some (.pointer (some ⟨E.pf, 0, none⟩)) ∧ (set4 U2 (V.heap.size + 2) 0 y).cell? ⟨V.heap.size + 1, 5, none⟩ = some (.pointer (some ⟨E.pt, 0, none⟩)) ∧ (set4 U2 (V.heap.size + 2) 0 y).cell? ⟨V.heap.size + 1, 6, none⟩ = some (.pointer (some E.pl))) ∧ HoldsG anyP (2 * n + D + 8) V.heap.size (set4 U2 (V.heap.size + 2) 0 y) y.val (curlC (n := n) [] (renC (newR f0 (extV f0 vs r)) s) (renC (newR f0 (extV f0 vs r)) r)) ∧ Wen D w0 wb E.pf E.pt f0 vs s r lf V (set4 U2 (V.heap.size + 2) 0 y)) := hide fun U1 U2 y hB hG hW => by
      have hsz := hB.size
      have hmid : ∀ k, V.heap.size ≤ k → k < V.heap.size + 3 → U2.heap[k]? = W3.heap[k]? := fun k h1 h2 => (hW.mid hs h1 (by omega)).trans (hB.block k (by omega))
      have ot := fun k (hk : k ≠ V.heap.size + 2) => set4_other U2 (V.heap.size + 2) 0 y hk
      refine ⟨(hmid _ (by omega) (by omega)).trans b2, (unhide KEEP) U2 hmid, TkB.cells (show TkB _ (V.heap.size + 1) E from (ot _ (by omega)).trans ((hmid _ (by omega) (by omega)).trans b1)), (hG.set4 (by omega) 0 y).mono (by omega) (by omega) (fun _ h => h), ?_⟩
      exact (hW.pre (g3.trans (hB.mono g3.size))).set4 hs (by omega) 0 y
    obtain ⟨kx, N, sx, a, len, cap⟩ := x
    simp only at hl d3 hW3 b0
    subst hl
    clear hT ok hs b0 b1 b2 g3 hb h6 hk hTl hlt
    go_enter Try.func51, Try.ntmps51
    go_wp2_with fail
    try rw [hW3]
    clear hW3
    go_wp2_with fail
    obtain ⟨D1, hD1⟩ : ∃ D1, W3.drew = D1 := ⟨_, rfl⟩
    have hDB : Below W3.heap.size W3 D1 := by rw [← hD1]; exact (Below.refl _ W3).drew
    have kD := (unhide KEEP) D1 (fun k _ hk => hDB.block k (by omega))
    have HD := hide hDB
    clear hDB
    refine wp_region_noPanic ?_
    refine wp_region_held_drew (S := fun w' => w'.cell? ⟨V.heap.size + 1, 0, none⟩ = some (.int .i64 E.x.k) ∧ w'.cell? ⟨V.heap.size + 1, 1, none⟩ = some (.int .i64 E.x.N) ∧ w'.cell? ⟨V.heap.size + 1, 2, none⟩ = some (.string E.x.s) ∧ w'.cell? ⟨V.heap.size + 1, 3, none⟩ = some (.slice E.x.a E.x.len E.x.cap) ∧ w'.cell? ⟨V.heap.size + 1, 4, none⟩ = some (.pointer (some ⟨E.pf, 0, none⟩)) ∧ w'.cell? ⟨V.heap.size + 1, 5, none⟩ = some (.pointer (some ⟨E.pt, 0, none⟩)) ∧ w'.cell? ⟨V.heap.size + 1, 6, none⟩ = some (.pointer (some E.pl))) (by kernel_rfl) ?_ (fun hHeld => ?_)
    · (try rw [hD1]); exact kD
    rw [hD1] at hHeld ⊢
    clear hD1
    refine tk 0 rfl hHeld ?_
    refine tk 2 rfl hHeld ?_
    refine rd 1 rfl fun K hK => ?_
    have hHold := hHeld
    clear hHeld
    go_simp
    refine ((unhide HN) D1).mono ?_
    rintro e U1 ⟨rfl, h1⟩
    have hB1 := (unhide HD).trans (h1.mono (unhide HD).size)
    have k1 := (unhide KEEP) U1 (fun k _ hk => hB1.block k (by omega))
    have HR1 := hide ((unhide HRCH) U1 hB1)
    have HB1 := hide hB1
    clear h1 hB1
    simp only [TV.val, nilT, atomT]
    go_wp2_with fail
    refine hK.out _ _ ?_ (fun hHeld => ?_)
    · ((try dsimp only); exact k1)
    clear hK K hHold
    try simp only [pu]
    refine rd 3 rfl fun K hK => ?_
    have hHold := hHeld
    clear hHeld
    go_simp
    refine (unhide HR1).mono ?_
    rintro e U2 ⟨y, rfl, hG, hW⟩
    obtain ⟨bx, k2, k3, hfin⟩ := (unhide HFA) U1 U2 y (unhide HB1) hG hW
    obtain ⟨f0', f1', f2', f3'⟩ := bx.frz
    have e0 := bx.c0
    have e1 := bx.c1
    have e2 := bx.c2
    have e3 := bx.c3
    have b6 := set4_box bx y
    have g0 := b6.c0
    have g1 := b6.c1
    have g2 := b6.c2
    have g3 := b6.c3
    have HZ := hide hfin
    clear hG hW hfin bx b6 HR1
    simp only [TV.val]
    go_wp2_with fail
    refine hK.out _ _ ?_ (fun hHeld => ?_)
    · ((try dsimp only); exact k2)
    clear hK K hHold
    try simp only [pu]
    refine rd 4 rfl fun K hK => ?_
    have hHold := hHeld
    clear hHeld
    go_simp
    refine hK.out _ _ ?_ (fun hHeld => ?_)
    · ((try dsimp only); exact k3)
    clear hK K hHold
    try simp only [pu]
    refine wpAnyH_done (by kernel_rfl) ?_ _
    refine NoPanic.normal ?_
    clear hHeld
    go_wp2_with fail
    exact bodyPost_ret (v := y.val) (by
      have e : (((U2.setCell ⟨V.heap.size + 2, 0, none⟩ (.int .i64 y.k)).setCell ⟨V.heap.size + 2, 1, none⟩ (.int .i64 y.N)).setCell ⟨V.heap.size + 2, 2, none⟩ (.string y.s)).setCell ⟨V.heap.size + 2, 3, none⟩ (.slice y.a y.len y.cap) = set4 U2 (V.heap.size + 2) 0 y := rfl
      rw [e]
      simp [results, Try.results51, go_sem, TV.val, g0, g1, g2, g3]) rfl ⟨y, rfl, (unhide HZ).1, (unhide HZ).2⟩
  · obtain ⟨u, rfl⟩ := one_kid hT.wl hl
    have hbu : (bodyC u).isSome = true := by simpa using hb
    obtain ⟨c, hc⟩ := Option.isSome_iff_exists.1 hbu
    have hT' := hT
    rcases hT'.2.2.2 with h4 | ⟨Bk, off, ha, hBk, hcs⟩
    · cases h4
    obtain ⟨hcu, hTu⟩ := hcs 0 u rfl
    have HBD := body_okG u W3 ((hTu.below g3).mono g3.size) (hk.2 u (by simp)) hc
    have hcu3 := hcu.kept (g3.block Bk hBk)
    obtain ⟨q0, q1, q2, q3⟩ := hcu3
    simp only [Nat.zero_mul, Nat.add_zero] at q0 q1 q2 q3
    have HFIN : Hid (∀ (U0 W5 : World) (y0 : TV), HoldsG anyP (n + (n + 1) + 1) W3.heap.size U0 y0.val c → Below W3.heap.size W3 U0 → Below U0.heap.size U0 W5 → U0.heap.size < W5.heap.size → BoxT W5 U0.heap.size y0 → (∀ U : World, (∀ k, V.heap.size ≤ k → k < W5.heap.size → U.heap[k]? = W5.heap[k]?) → U.cell? ⟨U0.heap.size, 0, none⟩ = some (.int .i64 y0.k) ∧ U.cell? ⟨U0.heap.size, 1, none⟩ = some (.int .i64 y0.N) ∧ U.cell? ⟨U0.heap.size, 2, none⟩ = some (.string y0.s) ∧ U.cell? ⟨U0.heap.size, 3, none⟩ = some (.slice y0.a y0.len y0.cap) ∧ U.cell? ⟨V.heap.size + 1, 0, none⟩ = some (.int .i64 E.x.k) ∧ U.cell? ⟨V.heap.size + 1, 1, none⟩ = some (.int .i64 E.x.N) ∧ U.cell? ⟨V.heap.size + 1, 2, none⟩ = some (.string E.x.s) ∧ U.cell? ⟨V.heap.size + 1, 3, none⟩ = some (.slice E.x.a E.x.len E.x.cap) ∧ U.cell? ⟨V.heap.size + 1, 4, none⟩ = some (.pointer (some ⟨E.pf, 0, none⟩)) ∧ U.cell? ⟨V.heap.size + 1, 5, none⟩ = some (.pointer (some ⟨E.pt, 0, none⟩)) ∧ U.cell? ⟨V.heap.size + 1, 6, none⟩ = some (.pointer (some E.pl))) ∧ ∀ (U1 U2 : World) (y : TV), Below W5.heap.size W5 U1 → HoldsG anyP (D + 4) U1.heap.size U2 y.val (eqC (renC (newR f0 (extV f0 vs r)) s) (renC (newR f0 (extV f0 vs r)) r)) → Wen D w0 wb E.pf E.pt f0 vs s r lf U1 U2 → (U2.cell? ⟨U0.heap.size, 0, none⟩ = some (.int .i64 y0.k) ∧ U2.cell? ⟨U0.heap.size, 1, none⟩ = some (.int .i64 y0.N) ∧ U2.cell? ⟨U0.heap.size, 2, none⟩ = some (.string y0.s) ∧ U2.cell? ⟨U0.heap.size, 3, none⟩ = some (.slice y0.a y0.len y0.cap) ∧ U2.cell? ⟨V.heap.size + 1, 0, none⟩ = some (.int .i64 E.x.k) ∧ U2.cell? ⟨V.heap.size + 1, 1, none⟩ = some (.int .i64 E.x.N) ∧ U2.cell? ⟨V.heap.size + 1, 2, none⟩ = some (.string E.x.s) ∧ U2.cell? ⟨V.heap.size + 1, 3, none⟩ = some (.slice E.x.a E.x.len E.x.cap) ∧ U2.cell? ⟨V.heap.size + 1, 4, none⟩ = some (.pointer (some ⟨E.pf, 0, none⟩)) ∧ U2.cell? ⟨V.heap.size + 1, 5, none⟩ = some (.pointer (some ⟨E.pt, 0, none⟩)) ∧ U2.cell? ⟨V.heap.size + 1, 6, none⟩ = some (.pointer (some E.pl))) ∧ ((U2.alloc (.cells #[.int .i64 y0.k, .int .i64 y0.N, .string y0.s, .slice y0.a y0.len y0.cap, .int .i64 y.k, .int .i64 y.N, .string y.s, .slice y.a y.len y.cap] 24)).cell? ⟨U0.heap.size, 0, none⟩ = some (.int .i64 y0.k) ∧ (U2.alloc (.cells #[.int .i64 y0.k, .int .i64 y0.N, .string y0.s, .slice y0.a y0.len y0.cap, .int .i64 y.k, .int .i64 y.N, .string y.s, .slice y.a y.len y.cap] 24)).cell? ⟨U0.heap.size, 1, none⟩ = some (.int .i64 y0.N) ∧ (U2.alloc (.cells #[.int .i64 y0.k, .int .i64 y0.N, .string y0.s, .slice y0.a y0.len y0.cap, .int .i64 y.k, .int .i64 y.N, .string y.s, .slice y.a y.len y.cap] 24)).cell? ⟨U0.heap.size, 2, none⟩ = some (.string y0.s) ∧ (U2.alloc (.cells #[.int .i64 y0.k, .int .i64 y0.N, .string y0.s, .slice y0.a y0.len y0.cap, .int .i64 y.k, .int .i64 y.N, .string y.s, .slice y.a y.len y.cap] 24)).cell? ⟨U0.heap.size, 3, none⟩ = some (.slice y0.a y0.len y0.cap) ∧ (U2.alloc (.cells #[.int .i64 y0.k, .int .i64 y0.N, .string y0.s, .slice y0.a y0.len y0.cap, .int .i64 y.k, .int .i64 y.N, .string y.s, .slice y.a y.len y.cap] 24)).cell? ⟨V.heap.size + 1, 0, none⟩ = some (.int .i64 E.x.k) ∧ (U2.alloc (.cells #[.int .i64 y0.k, .int .i64 y0.N, .string y0.s, .slice y0.a y0.len y0.cap, .int .i64 y.k, .int .i64 y.N, .string y.s, .slice y.a y.len y.cap] 24)).cell? ⟨V.heap.size + 1, 1, none⟩ = some (.int .i64 E.x.N) ∧ (U2.alloc (.cells #[.int .i64 y0.k, .int .i64 y0.N, .string y0.s, .slice y0.a y0.len y0.cap, .int .i64 y.k, .int .i64 y.N, .string y.s, .slice y.a y.len y.cap] 24)).cell? ⟨V.heap.size + 1, 2, none⟩ = some (.string E.x.s) ∧ (U2.alloc (.cells #[.int .i64 y0.k, .int .i64 y0.N, .string y0.s, .slice y0.a y0.len y0.cap, .int .i64 y.k, .int .i64 y.N, .string y.s, .slice y.a y.len y.cap] 24)).cell? ⟨V.heap.size + 1, 3, none⟩ = some (.slice E.x.a E.x.len E.x.cap) ∧ (U2.alloc (.cells #[.int .i64 y0.k, .int .i64 y0.N, .string y0.s, .slice y0.a y0.len y0.cap, .int .i64 y.k, .int .i64 y.N, .string y.s, .slice y.a y.len y.cap] 24)).cell? ⟨V.heap.size + 1, 4, none⟩ = some (.pointer (some ⟨E.pf, 0, none⟩)) ∧ (U2.alloc (.cells #[.int .i64 y0.k, .int .i64 y0.N, .string y0.s, .slice y0.a y0.len y0.cap, .int .i64 y.k, .int .i64 y.N, .string y.s, .slice y.a y.len y.cap] 24)).cell? ⟨V.heap.size + 1, 5, none⟩ = some (.pointer (some ⟨E.pt, 0, none⟩)) ∧ (U2.alloc (.cells #[.int .i64 y0.k, .int .i64 y0.N, .string y0.s, .slice y0.a y0.len y0.cap, .int .i64 y.k, .int .i64 y.N, .string y.s, .slice y.a y.len y.cap] 24)).cell? ⟨V.heap.size + 1, 6, none⟩ = some (.pointer (some E.pl))) ∧ ∀ X2 : World, Below (U2.heap.size + 1) (U2.alloc (.cells #[.int .i64 y0.k, .int .i64 y0.N, .string y0.s, .slice y0.a y0.len y0.cap, .int .i64 y.k, .int .i64 y.N, .string y.s, .slice y.a y.len y.cap] 24)) X2 → BoxT X2 (V.heap.size + 2) noTerm ∧ (X2.cell? ⟨U0.heap.size, 0, none⟩ = some (.int .i64 y0.k) ∧ X2.cell? ⟨U0.heap.size, 1, none⟩ = some (.int .i64 y0.N) ∧ X2.cell? ⟨U0.heap.size, 2, none⟩ = some (.string y0.s) ∧ X2.cell? ⟨U0.heap.size, 3, none⟩ = some (.slice y0.a y0.len y0.cap) ∧ X2.cell? ⟨V.heap.size + 1, 0, none⟩ = some (.int .i64 E.x.k) ∧ X2.cell? ⟨V.heap.size + 1, 1, none⟩ = some (.int .i64 E.x.N) ∧ X2.cell? ⟨V.heap.size + 1, 2, none⟩ = some (.string E.x.s) ∧ X2.cell? ⟨V.heap.size + 1, 3, none⟩ = some (.slice E.x.a E.x.len E.x.cap) ∧ X2.cell? ⟨V.heap.size + 1, 4, none⟩ = some (.pointer (some ⟨E.pf, 0, none⟩)) ∧ X2.cell? ⟨V.heap.size + 1, 5, none⟩ = some (.pointer (some ⟨E.pt, 0, none⟩)) ∧ X2.cell? ⟨V.heap.size + 1, 6, none⟩ = some (.pointer (some E.pl))) ∧ ((set4 X2 (V.heap.size + 2) 0 (compV ⟨#[44]⟩ (some ⟨U2.heap.size, 0, none⟩) 2 2)).cell? ⟨U0.heap.size, 0, none⟩ = some (.int .i64 y0.k) ∧ (set4 X2 (V.heap.size + 2) 0 (compV ⟨#[44]⟩ (some ⟨U2.heap.size, 0, none⟩) 2 2)).cell? ⟨U0.heap.size, 1, none⟩ = some (.int .i64 y0.N) ∧ (set4 X2 (V.heap.size + 2) 0 (compV ⟨#[44]⟩ (some ⟨U2.heap.size, 0, none⟩) 2 2)).cell? ⟨U0.heap.size, 2, none⟩ = some (.string y0.s) ∧ (set4 X2 (V.heap.size + 2) 0 (compV ⟨#[44]⟩ (some ⟨U2.heap.size, 0, none⟩) 2 2)).cell? ⟨U0.heap.size, 3, none⟩ = some (.slice y0.a y0.len y0.cap) ∧ (set4 X2 (V.heap.size + 2) 0 (compV ⟨#[44]⟩ (some ⟨U2.heap.size, 0, none⟩) 2 2)).cell? ⟨V.heap.size + 1, 0, none⟩ = some (.int .i64 E.x.k) ∧ (set4 X2 (V.heap.size + 2) 0 (compV ⟨#[44]⟩ (some ⟨U2.heap.size, 0, none⟩) 2 2)).cell? ⟨V.heap.size + 1, 1, none⟩ = some (.int .i64 E.x.N) ∧ (set4 X2 (V.heap.size + 2) 0 (compV ⟨#[44]⟩ (some ⟨U2.heap.size, 0, none⟩) 2 2)).cell? ⟨V.heap.size + 1, 2, none⟩ = some (.string E.x.s) ∧ (set4 X2 (V.heap.size + 2) 0 (compV ⟨#[44]⟩ (some ⟨U2.heap.size, 0, none⟩) 2 2)).cell? ⟨V.heap.size + 1, 3, none⟩ = some (.slice E.x.a E.x.len E.x.cap) ∧ (set4 X2 (V.heap.size + 2) 0 (compV ⟨#[44]⟩ (some ⟨U2.heap.size, 0, none⟩) 2 2)).cell? ⟨V.heap.size + 1, 4, none⟩ = some (.pointer (some ⟨E.pf, 0, none⟩)) ∧ (set4 X2 (V.heap.size + 2) 0 (compV ⟨#[44]⟩ (some ⟨U2.heap.size, 0, none⟩) 2 2)).cell? ⟨V.heap.size + 1, 5, none⟩ = some (.pointer (some ⟨E.pt, 0, none⟩)) ∧ (set4 X2 (V.heap.size + 2) 0 (compV ⟨#[44]⟩ (some ⟨U2.heap.size, 0, none⟩) 2 2)).cell? ⟨V.heap.size + 1, 6, none⟩ = some (.pointer (some E.pl))) ∧ HoldsG anyP (2 * n + D + 8) V.heap.size (set4 X2 (V.heap.size + 2) 0 (compV ⟨#[44]⟩ (some ⟨U2.heap.size, 0, none⟩) 2 2)) (compV ⟨#[44]⟩ (some ⟨U2.heap.size, 0, none⟩) 2 2).val (curlC [u] (renC (newR f0 (extV f0 vs r)) s) (renC (newR f0 (extV f0 vs r)) r)) ∧ Wen D w0 wb E.pf E.pt f0 vs s r lf V (set4 X2 (V.heap.size + 2) 0 (compV ⟨#[44]⟩ (some ⟨U2.heap.size, 0, none⟩) 2 2))) := hide fun U0 W5 y0 hG0 hB0 hB5 hlt5 b7 => by
      have z0 := hB0.size
      have z5 := hB5.size
      have h5k : ∀ k, V.heap.size ≤ k → k < V.heap.size + 3 → W5.heap[k]? = W3.heap[k]? := fun k h1 h2 => (hB5.block k (by omega)).trans (hB0.block k (by omega))
      have keep : ∀ U : World, (∀ k, V.heap.size ≤ k → k < W5.heap.size → U.heap[k]? = W5.heap[k]?) → U.cell? ⟨U0.heap.size, 0, none⟩ = some (.int .i64 y0.k) ∧ U.cell? ⟨U0.heap.size, 1, none⟩ = some (.int .i64 y0.N) ∧ U.cell? ⟨U0.heap.size, 2, none⟩ = some (.string y0.s) ∧ U.cell? ⟨U0.heap.size, 3, none⟩ = some (.slice y0.a y0.len y0.cap) ∧ U.cell? ⟨V.heap.size + 1, 0, none⟩ = some (.int .i64 E.x.k) ∧ U.cell? ⟨V.heap.size + 1, 1, none⟩ = some (.int .i64 E.x.N) ∧ U.cell? ⟨V.heap.size + 1, 2, none⟩ = some (.string E.x.s) ∧ U.cell? ⟨V.heap.size + 1, 3, none⟩ = some (.slice E.x.a E.x.len E.x.cap) ∧ U.cell? ⟨V.heap.size + 1, 4, none⟩ = some (.pointer (some ⟨E.pf, 0, none⟩)) ∧ U.cell? ⟨V.heap.size + 1, 5, none⟩ = some (.pointer (some ⟨E.pt, 0, none⟩)) ∧ U.cell? ⟨V.heap.size + 1, 6, none⟩ = some (.pointer (some E.pl)) := fun U hU => by
        have c7 := TkB.cells (show TkB U (V.heap.size + 1) E from (hU _ (by omega) (by omega)).trans ((h5k _ (by omega) (by omega)).trans b1))
        have bb : BoxT U U0.heap.size y0 := (hU _ (by omega) (by omega)).trans b7
        exact ⟨bb.c0, bb.c1, bb.c2, bb.c3, c7⟩
      refine ⟨keep, fun U1 U2 y hB1 hG hW => ?_⟩
      have z1 := hB1.size
      have z2 := hW.gr.size
      have hV1 : Below V.heap.size V U1 := ((g3.trans (hB0.mono (by omega))).trans (hB5.mono (by omega))).trans (hB1.mono (by omega))
      have hmid : ∀ k, V.heap.size ≤ k → k < W5.heap.size → U2.heap[k]? = W5.heap[k]? := fun k h1 h2 => (hW.mid hs h1 (by omega)).trans (hB1.block k h2)
      have hal : Below U2.heap.size U2 (U2.alloc (.cells #[.int .i64 y0.k, .int .i64 y0.N, .string y0.s, .slice y0.a y0.len y0.cap, .int .i64 y.k, .int .i64 y.N, .string y.s, .slice y.a y.len y.cap] 24)) := (Below.refl _ U2).alloc (Nat.le_refl _) _
      refine ⟨keep U2 hmid, keep _ (fun k h1 h2 => (hal.block k (by omega)).trans (hmid k h1 h2)), fun X2 hX => ?_⟩
      have hX' : Below U2.heap.size U2 X2 := hal.trans (hX.mono (by omega))
      have zX := hX'.size
      have hXk : ∀ k, V.heap.size ≤ k → k < W5.heap.size → X2.heap[k]? = W5.heap[k]? := fun k h1 h2 => (hX'.block k (by omega)).trans (hmid k h1 h2)
      have ot := fun k (hk : k ≠ V.heap.size + 2) => set4_other X2 (V.heap.size + 2) 0 (compV ⟨#[44]⟩ (some ⟨U2.heap.size, 0, none⟩) 2 2) hk
      have y0G : HoldsG anyP (2 * n + D + 6) (V.heap.size + 3) U2 y0.val c := ((hG0.below hB5).move (fun k _ hk => hmid k (by have := hk.1; omega) hk.lt) (by omega)).mono (by omega) (by omega) (fun _ h => h)
      have yG : HoldsG anyP (2 * n + D + 6) (V.heap.size + 3) U2 y.val (eqC (renC (newR f0 (extV f0 vs r)) s) (renC (newR f0 (extV f0 vs r)) r)) := hG.mono (by omega) (by omega) (fun _ h => h)
      have hrow := row_two (s := ⟨#[44]⟩) (by decide) y0G yG (by omega)
      rw [show (⟨#[44]⟩ : ByteArray).toList = [44] by decide +kernel] at hrow
      have hx7 : TkB X2 (V.heap.size + 1) E := (hXk _ (by omega) (by omega)).trans ((h5k _ (by omega) (by omega)).trans b1)
      have hx8 : BoxT X2 U0.heap.size y0 := (hXk _ (by omega) (by omega)).trans b7
      have hy7 : TkB (set4 X2 (V.heap.size + 2) 0 (compV ⟨#[44]⟩ (some ⟨U2.heap.size, 0, none⟩) 2 2)) (V.heap.size + 1) E := (ot _ (by omega)).trans hx7
      have hy8 : BoxT (set4 X2 (V.heap.size + 2) 0 (compV ⟨#[44]⟩ (some ⟨U2.heap.size, 0, none⟩) 2 2)) U0.heap.size y0 := (ot _ (by omega)).trans hx8
      refine ⟨(hXk _ (by omega) (by omega)).trans ((h5k _ (by omega) (by omega)).trans b2), ⟨hx8.c0, hx8.c1, hx8.c2, hx8.c3, hx7.cells⟩, ⟨hy8.c0, hy8.c1, hy8.c2, hy8.c3, hy7.cells⟩, ?_, ?_⟩
      · have hg := ((HoldsG.below hrow (by rw [World.size_alloc]; exact hX)).set4 (b := V.heap.size + 2) (by omega) 0 (compV ⟨#[44]⟩ (some ⟨U2.heap.size, 0, none⟩) 2 2)).mono (show 2 * n + D + 6 + 1 ≤ 2 * n + D + 8 by omega) (show V.heap.size ≤ V.heap.size + 3 by omega) (fun _ h => h)
        show HoldsG anyP (2 * n + D + 8) V.heap.size _ _ ((4, 0, [44], 2) :: ((bodyC u).getD [] ++ (eqC (renC (newR f0 (extV f0 vs r)) s) (renC (newR f0 (extV f0 vs r)) r))))
        rw [hc]
        exact hg
      · exact ((hW.pre hV1).below hs hX').set4 hs (by omega) 0 _
    obtain ⟨kx, N, sx, a, len, cap⟩ := x
    simp only at hl d3 hW3 b0
    have ha' : a = some ⟨Bk, off, none⟩ := ha
    subst hl ha'
    have HBD' := hide HBD
    have hBk3 : Bk < W3.heap.size := Nat.lt_of_lt_of_le hBk g3.size
    clear hT ok hs b0 b1 b2 g3 hb h6 hk hTl hlt hT' HBD hcu hTu hcs KEEP
    simp only [TV.val] at HBD'
    go_enter Try.func51, Try.ntmps51
    go_wp2_with fail
    try rw [hW3]
    clear hW3
    go_wp2_with fail
    refine (unhide HBD').mono ?_
    rintro e U0 ⟨y0, rfl, hG0, hB0⟩
    obtain ⟨b7, hb7⟩ : ∃ b7, U0.heap.size = b7 := ⟨_, rfl⟩
    obtain ⟨W4, hW4⟩ : ∃ W4, U0.alloc (.cells #[.int .i64 0, .int .i64 0, .string ⟨#[]⟩, .slice none 0 0] 24) = W4 := ⟨_, rfl⟩
    have bx4 : BoxT W4 b7 noTerm := by rw [← hW4, ← hb7]; exact BoxT.new U0 noTerm
    obtain ⟨W5, hW5⟩ : ∃ W5, set4 W4 b7 0 y0 = W5 := ⟨_, rfl⟩
    have hB5 : Below U0.heap.size U0 W5 := by rw [← hW5, ← hW4]; exact set4_below ((Below.refl _ U0).alloc (Nat.le_refl _) _) (by omega) 0 y0
    have hlt5 : U0.heap.size < W5.heap.size := by rw [← hW5, set4_size, ← hW4]; simp
    have bx5 : BoxT W5 b7 y0 := by rw [← hW5]; exact set4_box bx4 y0
    obtain ⟨hk5, hfb⟩ := (unhide HFIN) U0 W5 y0 hG0 hB0 hB5 hlt5 (by rw [hb7]; exact bx5)
    rw [hb7] at hk5 hfb
    have KEEP5 := hide hk5
    have HFB := hide hfb
    have H35 := hide (hB0.trans (hB5.mono hB0.size))
    obtain ⟨f0', f1', f2', f3'⟩ := bx4.frz
    have e0 := bx4.c0
    have e1 := bx4.c1
    have e2 := bx4.c2
    have e3 := bx4.c3
    unfold set4 at hW5
    clear hG0 hB0 hB5 hlt5 bx5 bx4 hk5 hfb HFIN HBD' q0 q1 q2 q3 d3
    go_wp2_with fail
    try rw [hW4]
    go_wp2_with fail
    try rw [hW5]
    clear hb7 hW4 hW5 f0' f1' f2' f3' e0 e1 e2 e3
    go_wp2_with fail
    obtain ⟨D1, hD1⟩ : ∃ D1, W5.drew = D1 := ⟨_, rfl⟩
    have hDB : Below W5.heap.size W5 D1 := by rw [← hD1]; exact (Below.refl _ W5).drew
    have kD := (unhide KEEP5) D1 (fun k _ hk => hDB.block k hk)
    have HD := hide hDB
    clear hDB
    refine wp_region_noPanic ?_
    refine wp_region_held_drew (S := fun w' => w'.cell? ⟨b7, 0, none⟩ = some (.int .i64 y0.k) ∧ w'.cell? ⟨b7, 1, none⟩ = some (.int .i64 y0.N) ∧ w'.cell? ⟨b7, 2, none⟩ = some (.string y0.s) ∧ w'.cell? ⟨b7, 3, none⟩ = some (.slice y0.a y0.len y0.cap) ∧ w'.cell? ⟨V.heap.size + 1, 0, none⟩ = some (.int .i64 E.x.k) ∧ w'.cell? ⟨V.heap.size + 1, 1, none⟩ = some (.int .i64 E.x.N) ∧ w'.cell? ⟨V.heap.size + 1, 2, none⟩ = some (.string E.x.s) ∧ w'.cell? ⟨V.heap.size + 1, 3, none⟩ = some (.slice E.x.a E.x.len E.x.cap) ∧ w'.cell? ⟨V.heap.size + 1, 4, none⟩ = some (.pointer (some ⟨E.pf, 0, none⟩)) ∧ w'.cell? ⟨V.heap.size + 1, 5, none⟩ = some (.pointer (some ⟨E.pt, 0, none⟩)) ∧ w'.cell? ⟨V.heap.size + 1, 6, none⟩ = some (.pointer (some E.pl))) (by kernel_rfl) ?_ (fun hHeld => ?_)
    · (try rw [hD1]); exact kD
    rw [hD1] at hHeld ⊢
    clear hD1
    refine tk 0 rfl hHeld ?_
    refine tk 1 rfl hHeld ?_
    refine tk 3 rfl hHeld ?_
    refine rd 2 rfl fun K hK => ?_
    have hHold := hHeld
    clear hHeld
    go_simp
    refine ((unhide HN) D1).mono ?_
    rintro e U1 ⟨rfl, h1⟩
    have hB1 := (unhide HD).trans (h1.mono (unhide HD).size)
    have k1 := (unhide KEEP5) U1 (fun k _ hk => hB1.block k hk)
    have HR1 := hide ((unhide HRCH) U1 ((unhide H35).trans (hB1.mono (unhide H35).size)))
    have HB1 := hide hB1
    clear h1 hB1
    simp only [TV.val, nilT, atomT]
    go_wp2_with fail
    refine hK.out _ _ ?_ (fun hHeld => ?_)
    · ((try dsimp only); exact k1)
    clear hK K hHold
    try simp only [pu]
    refine rd 4 rfl fun K hK => ?_
    have hHold := hHeld
    clear hHeld
    go_simp
    refine (unhide HR1).mono ?_
    rintro e U2 ⟨y, rfl, hG, hW⟩
    obtain ⟨k2, k3, hfin⟩ := (unhide HFB) U1 U2 y (unhide HB1) hG hW
    have HZ := hide hfin
    clear hG hW hfin HR1
    simp only [TV.val]
    go_wp2_with fail
    refine hK.out _ _ ?_ (fun hHeld => ?_)
    · ((try dsimp only); exact k2)
    clear hK K hHold
    try simp only [pu]
    refine rd 5 rfl fun K hK => ?_
    have hHold := hHeld
    clear hHeld
    go_simp
    refine hK.out _ _ ?_ (fun hHeld => ?_)
    · ((try dsimp only); exact k3)
    clear hK K hHold
    try simp only [pu]
    refine rd 6 rfl fun K hK => ?_
    have hHold := hHeld
    clear hHeld
    go_simp
    refine ((unhide HC) U2.heap.size _).mono ?_
    rintro e X2 ⟨rfl, hX2⟩
    rw [World.size_alloc] at hX2
    obtain ⟨bx, k4, k5, hf2⟩ := (unhide HZ) X2 hX2
    obtain ⟨f0', f1', f2', f3'⟩ := bx.frz
    have e0 := bx.c0
    have e1 := bx.c1
    have e2 := bx.c2
    have e3 := bx.c3
    have b6 := set4_box bx (compV ⟨#[44]⟩ (some ⟨U2.heap.size, 0, none⟩) 2 2)
    have g0 := b6.c0
    have g1 := b6.c1
    have g2 := b6.c2
    have g3 := b6.c3
    have HZ2 := hide hf2
    clear hX2 bx b6 hf2
    simp only [TV.val, compV]
    go_wp2_with fail
    refine hK.out _ _ ?_ (fun hHeld => ?_)
    · ((try dsimp only); exact k4)
    clear hK K hHold
    try simp only [pu]
    refine rd 7 rfl fun K hK => ?_
    have hHold := hHeld
    clear hHeld
    go_simp
    refine hK.out _ _ ?_ (fun hHeld => ?_)
    · ((try dsimp only); exact k5)
    clear hK K hHold
    try simp only [pu]
    refine wpAnyH_done (by kernel_rfl) ?_ _
    refine NoPanic.normal ?_
    clear hHeld
    go_wp2_with fail
    exact bodyPost_ret (v := (compV ⟨#[44]⟩ (some ⟨U2.heap.size, 0, none⟩) 2 2).val) (by
      have e : (((X2.setCell ⟨V.heap.size + 2, 0, none⟩ (.int .i64 4)).setCell ⟨V.heap.size + 2, 1, none⟩ (.int .i64 0)).setCell ⟨V.heap.size + 2, 2, none⟩ (.string ⟨#[44]⟩)).setCell ⟨V.heap.size + 2, 3, none⟩ (.slice (some ⟨U2.heap.size, 0, none⟩) 2 2) = set4 X2 (V.heap.size + 2) 0 (compV ⟨#[44]⟩ (some ⟨U2.heap.size, 0, none⟩) 2 2) := rfl
      rw [e]
      simp [results, Try.results51, go_sem, TV.val, g0, g1, g2, g3]) rfl ⟨_, rfl, (unhide HZ2).1, (unhide HZ2).2⟩
end Go.Proofs.Ytcdgmjpgmiehcaa

