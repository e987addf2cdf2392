import Derived.Test.YtcdbbimhbijipaaDoorVm
import Derived.Test.YtcdbbimhbijipaaDoorQs
/- The contracts of term.Variant and term.Rename. -/
namespace Go.Proofs.YtcdbbimhbijipaaDoor
open Go.RowKit Go.Shelf Go.Maps

set_option maxRecDepth 100000 in
set_option maxHeartbeats 1000000 in
theorem variant_any {n : Nat} (p t : Tm n) (w : World) (hp : IsT w.heap.size w p) (ht : IsT w.heap.size w t) (okp : okT p = true) (okt : okT t = true) :
    Calls Tryd.prog 7 #[p.tv.val, t.tv.val] w fun e W' => e = .returned (.tuple #[.bool (decide (canon 0 (code p) = canon 0 (code t))), .int .i64 0]) ∧ Below w.heap.size w W' := by
  have hc := checkTwo p t w hp ht
  have h0 : chkL [p, t] = 0 := chkL_yes (by simp [okp, okt])
  rw [h0] at hc
  have hnp := fun (W : World) (hb : Below w.heap.size w W) => number_any p 0 W ((hp.below hb).mono hb.size) okp (by omega) (by omega)
  have hnt := fun (W : World) (hb : Below w.heap.size w W) => number_any t 0 W ((ht.below hb).mono hb.size) okt (by omega) (by omega)
  simp only [TV.val] at hnp hnt hc ⊢
  have HNP := hide hnp
  have HNT := hide hnt
  clear h0 okp okt hp ht hnp hnt
  go_enter Tryd.func7, Tryd.ntmps7
  go_wp2_with fail
  refine hc.mono ?_
  clear hc
  rintro e W2 ⟨rfl, hb2, bx, bby⟩
  have c0 := bx.c0
  have c1 := bx.c1
  have c2 := bx.c2
  have c3 := bx.c3
  go_wp2_with fail
  refine ((unhide HNP) W2 hb2).mono ?_
  clear c0 c1 c2 c3 HNP
  rintro e W3 ⟨x, rfl, hb3, hx⟩
  have hb4 : Below W3.heap.size W3 (W3.alloc (.cells #[.int .i64 x.k, .int .i64 x.N, .string x.s, .slice x.a x.len x.cap] 24)) := (Below.refl _ W3).alloc (Nat.le_refl _) _
  have hbx := BoxT.new W3 x
  have hb24 : Below W2.heap.size W2 (W3.alloc (.cells #[.int .i64 x.k, .int .i64 x.N, .string x.s, .slice x.a x.len x.cap] 24)) := hb3.trans (hb4.mono hb3.size)
  have hB4 := hb2.trans (hb24.mono hb2.size)
  have bby4 : BoxT (W3.alloc (.cells #[.int .i64 x.k, .int .i64 x.N, .string x.s, .slice x.a x.len x.cap] 24)) (w.heap.size + 1) t.tv := (hb24.block _ bby.lt).trans bby
  have hx4 : HoldsT (n + 1) W2.heap.size (W3.alloc (.cells #[.int .i64 x.k, .int .i64 x.N, .string x.s, .slice x.a x.len x.cap] 24)) x.val (canon 0 (code p)) := hx.below hb4
  have hnt4 := (unhide HNT) _ hB4
  have d0 := bby4.c0
  have d1 := bby4.c1
  have d2 := bby4.c2
  have d3 := bby4.c3
  clear hx hb3 hb4 hb24 bx bby bby4 HNT hb2
  go_wp2_with fail
  refine hnt4.mono ?_
  obtain ⟨W4, hW4⟩ : ∃ W4, W3.alloc (.cells #[.int .i64 x.k, .int .i64 x.N, .string x.s, .slice x.a x.len x.cap] 24) = W4 := ⟨_, rfl⟩
  rw [hW4] at hbx hB4 hx4
  simp only [hW4]
  clear hnt4 hW4 d0 d1 d2 d3
  rintro e W5 ⟨y, rfl, hb5, hy⟩
  have hb6 : Below W5.heap.size W5 (W5.alloc (.cells #[.int .i64 y.k, .int .i64 y.N, .string y.s, .slice y.a y.len y.cap] 24)) := (Below.refl _ W5).alloc (Nat.le_refl _) _
  have hb46 := hb5.trans (hb6.mono hb5.size)
  have hbx6 := (hb46.block _ hbx.lt).trans hbx
  have hby6 := BoxT.new W5 y
  have hB6 := hB4.trans (hb46.mono hB4.size)
  obtain ⟨u, hu, huT, -, huc⟩ := (hx4.below hb46) _ (Nat.le_refl _)
  obtain ⟨v, hv, hvT, -, hvc⟩ := (hy.below hb6) _ (Nat.le_refl _)
  have hord := order_any _ u v _ huT hvT
  rw [← hu] at hord
  have hvv : (.agg #[.int .i64 y.k, .int .i64 y.N, .string y.s, .slice y.a y.len y.cap] : Value) = v.tv.val := hv
  rw [← hvv] at hord
  have hres : (ordT u v == 0) = decide (canon 0 (code p) = canon 0 (code t)) := by
    rw [Bool.eq_iff_iff, beq_iff_eq, ord_zero, sameT_code huT.wl hvT.wl, decide_eq_true_eq, huc, hvc, decide_eq_true_eq]
    rfl
  have x0 : _ := BoxT.c0 hbx6
  have x1 : _ := BoxT.c1 hbx6
  have x2 : _ := BoxT.c2 hbx6
  have x3 : _ := BoxT.c3 hbx6
  have y0 := hby6.c0
  have y1 := hby6.c1
  have y2 := hby6.c2
  have y3 := hby6.c3
  have HRES := hide hres
  have HB6 := hide hB6
  simp only [TV.val] at hord
  clear hu huT huc hv hvT hvc hvv hx4 hy hb5 hb6 hb46 hbx hbx6 hby6 hB4 hB6 hres
  go_wp2_with fail
  refine hord.mono ?_
  clear hord x0 x1 x2 x3 y0 y1 y2 y3
  rintro e W7 ⟨rfl, hb7⟩
  have hBf := (unhide HB6).trans (hb7.mono (unhide HB6).size)
  clear hb7
  go_wp2_with fail
  exact bodyPost_ret (v := .tuple #[.bool (ordT u v == 0), .int .i64 0]) (by simp [results, Tryd.results7, go_sem]) rfl ⟨by rw [unhide HRES], hBf⟩

set_option maxRecDepth 100000 in
set_option maxHeartbeats 1000000 in
theorem variant_no {n : Nat} (p t : Tm n) (w : World) (hp : IsT w.heap.size w p) (ht : IsT w.heap.size w t) (ox : (okT p && okT t) = false) :
    Calls Tryd.prog 7 #[p.tv.val, t.tv.val] w fun e W' => e = .returned (.tuple #[.bool false, .int .i64 2]) ∧ Below w.heap.size w W' := by
  have hc := checkTwo p t w hp ht
  have h0 : chkL [p, t] = 2 := chkL_no (by simpa using ox)
  rw [h0] at hc
  clear h0 ox hp ht
  simp only [TV.val]
  go_enter Tryd.func7, Tryd.ntmps7
  go_wp2_with (go_at_call 8; refine hc.mono ?_; clear hc; rintro e W2 ⟨rfl, hb2, bx, bby⟩)
  go_ret2
  exact ⟨rfl, hb2⟩

set_option maxHeartbeats 400000 in
theorem isVar_any (N : Int) (w : World) : Calls Tryd.prog 36 #[.int .i64 N] w fun e W' => e = .returned (.bool (decide (0 ≤ N) && decide (N ≤ 1099511627776))) ∧ Below w.heap.size w W' := by
  go_enter Tryd.func36, Tryd.ntmps36
  go_wp2
  all_goals go_ret
  all_goals refine ⟨?_, Below.refl _ _⟩
  all_goals first | (simp_all; done) | (simp_all; intros; omega)

theorem steps_nodup : ∀ (c : List Nd) (acc : List Int), acc.Nodup → (stepsN stpN acc c).Nodup
  | [], _, h => h
  | x :: c, acc, h => by
    have e : stepsN stpN acc (x :: c) = stepsN stpN (if x.1 = 1 then stpN acc x.2.1 else acc) c := rfl
    rw [e]
    refine steps_nodup c _ ?_
    split
    · unfold stpN
      split
      · exact h
      · rename_i hm
        rw [List.nodup_append]
        exact ⟨h, by simp, fun a ha b hb => by simp at hb; subst hb; exact fun e => hm (e ▸ ha)⟩
    · exact h
theorem steps_len {c : List Nd} (h : okC c) : (stepsN stpN [] c).length ≤ 1099511627777 :=
  nodup_range (steps_nodup c [] List.nodup_nil) fun N hN => by
    rcases (steps_mem c [] N).1 hN with h' | ⟨x, hx, hk, rfl⟩
    · cases h'
    · exact (okNd_var (List.all_eq_true.1 h x hx) hk).1
/-- What Rename answers, of a term. -/
def RenSays {n : Nat} (t : Tm n) (lo : Nat) (W' : World) (x : TV) (e : Int) : Prop :=
  (e = 0 ∧ ∃ f, okC (canon f (code t)) ∧ HoldsT (n + 1) lo W' x.val (canon f (code t))) ∨ (e ≠ 0 ∧ x = ⟨0, 0, ⟨#[]⟩, none, 0, 0⟩)
theorem okC_canon {f : Int} {c : List Nd} (h : okC c) (hf0 : 0 ≤ f) (hl : f + ((stepsN stpN [] c).length : Nat) - 1 ≤ 1099511627776) : okC (canon f c) := by
  unfold okC canon at *
  rw [List.all_eq_true] at h ⊢
  intro y hy
  obtain ⟨x, hx, hxy⟩ := List.mem_flatMap.1 hy
  unfold subN at hxy
  split at hxy
  · rename_i hk
    have hm := (steps_mem c [] x.2.1).2 (.inr ⟨x, hx, hk, rfl⟩)
    have hlt := List.idxOf_lt_length_of_mem hm
    simp only [renN, List.mem_singleton] at hxy
    subst hxy
    have h0 : 0 ≤ f + ((stepsN stpN [] c).idxOf x.2.1 : Nat) := by omega
    have h1 : f + ((stepsN stpN [] c).idxOf x.2.1 : Nat) ≤ 1099511627776 := by omega
    generalize f + ((stepsN stpN [] c).idxOf x.2.1 : Nat) = M at h0 h1
    simp [okNd, varNd, h0, h1]
  · simp at hxy; subst hxy; exact h _ hx

end Go.Proofs.YtcdbbimhbijipaaDoor

