import Derived.Test.YtiigkiemkhdclaaGreatDoorGss
import Derived.Test.YtiigkiemkhdclaaGreatDoorNms
import Derived.Test.YtiigkiemkhdclaaGreatDoorRs
/- The contract of term.General. -/
namespace Go.Proofs.YtiigkiemkhdclaaGreatDoor
open Go.RowKit Go.Shelf Go.Maps

/-- The generalization of two terms. -/
def lgg {n : Nat} (a b : Tm n) : List Nd := Gc (ιP (stepsP [] (prs a b))) a b
theorem checkPair {n : Nat} (x y : Tm n) (w W : World) (hx : IsT w.heap.size w x) (hy : IsT w.heap.size w y) (hb : Below w.heap.size w W) :
    Calls Tryz.prog 62 #[.slice (some ⟨W.heap.size, 0, none⟩) 2 2] (W.alloc (.cells #[.int .i64 x.tv.k, .int .i64 x.tv.N, .string x.tv.s, .slice x.tv.a x.tv.len x.tv.cap, .int .i64 y.tv.k, .int .i64 y.tv.N, .string y.tv.s, .slice y.tv.a y.tv.len y.tv.cap] 24)) fun e W2 => e = .returned (.int .i64 (chkL [x, y])) ∧ Below W.heap.size W W2 := by
  have hp := pair_lies hx hy W hb
  have hB : Below W.heap.size W (W.alloc (.cells #[.int .i64 x.tv.k, .int .i64 x.tv.N, .string x.tv.s, .slice x.tv.a x.tv.len x.tv.cap, .int .i64 y.tv.k, .int .i64 y.tv.N, .string y.tv.s, .slice y.tv.a y.tv.len y.tv.cap] 24)) := (Below.refl _ W).alloc (Nat.le_refl _) _
  have h := checkAll_any [x, y] (some ⟨W.heap.size, 0, none⟩) 2 2 (W.alloc (.cells #[.int .i64 x.tv.k, .int .i64 x.tv.N, .string x.tv.s, .slice x.tv.a x.tv.len x.tv.cap, .int .i64 y.tv.k, .int .i64 y.tv.N, .string y.tv.s, .slice y.tv.a y.tv.len y.tv.cap] 24)) rfl (by omega) hp
  exact h.mono fun e W2 h => ⟨h.1, hB.trans (h.2.mono hB.size)⟩

set_option maxRecDepth 100000 in
set_option maxHeartbeats 1000000 in
theorem general_any {n : Nat} (a b : Tm n) (w : World) (ha : IsT w.heap.size w a) (hb : IsT w.heap.size w b) (oka : okT a = true) (okb : okT b = true) (pa : ∀ x ∈ parts a, Pw x) (pb : ∀ x ∈ parts b, Pw x) (hla : (parts a).length ≤ 1000000000) (hlb : (parts b).length ≤ 1000000000) (htab : Tab w.heap.size w) :
    Calls Tryz.prog 19 #[a.tv.val, b.tv.val] w fun e W' => ∃ x : TV, e = .returned (.tuple #[x.val, .int .i64 0]) ∧ Below w.heap.size w W' ∧ HoldsT (n + 1) w.heap.size W' x.val (lgg a b) := by
  obtain ⟨W3, hW3, hB3, hba, hbb, hbz, hs3⟩ := three_new w a.tv b.tv
  have hck := checkPair a b w W3 ha hb hB3
  rw [chkL_yes (show [a, b].all okT = true by simp [oka, okb])] at hck
  have hadr : (⟨W3.heap.size, 0, none⟩ : Addr) = ⟨w.heap.size + 1 + 1 + 1, 0, none⟩ := by rw [hs3]
  rw [hadr] at hck
  clear hadr
  have hpl : (prs a b).length ≤ 1000000000 := by
    have h1 := prs_len a b
    have h2 : (code a).length = (parts a).length := by simp [code]
    omega
  have hgen : ∀ (gb mb : Nat) (W : World), Sta w.heap.size gb mb W → Si w.heap.size gb mb [] W → Below w.heap.size w W → Calls Tryz.prog 63 #[a.tv.val, b.tv.val, .func (.func 64) #[] #[.pointer (some ⟨gb, 0, none⟩)]] W fun e W' => ∃ x : TV, e = .returned x.val ∧ GrB (fun k => k = mb) W.heap.size W W' ∧ HoldsT (n + 1) W.heap.size W' x.val (lgg a b) := fun gb mb W hS hI hbw => by
    refine (generalize_any n a b [] W hS hI (ha.below hbw) (hb.below hbw) oka pa pb hla hlb (by simpa using hpl)).mono fun e W' h => ?_
    obtain ⟨x, e1, e2, _, e4⟩ := h
    exact ⟨x, e1, e2, e4⟩
  have hsi : ∀ W5, Below w.heap.size w W5 → Si w.heap.size (W5.heap.size + 1) W5.heap.size [] ((W5.alloc (.map #[] 0)).alloc (.cells #[.map (some W5.heap.size)] 92)) := fun W5 hb5 => by
    have hb7 : Below w.heap.size w ((W5.alloc (.map #[] 0)).alloc (.cells #[.map (some W5.heap.size)] 92)) := (hb5.alloc hb5.size _).alloc (by have := hb5.size; simp; omega) _
    refine ⟨List.nodup_nil, (fun q hq => by cases hq), htab.on hb7, ?_, .map [], (World.ownsMap_made W5 Tryz.prog 9 (plainElem Tryz.prog 2)).alloc _, rfl, (fun k => by simp [Maps.has]), (fun q hq => by cases hq)⟩
    have h := World.alloc_heap_new (W5.alloc (.map #[] 0)) (.cells #[.map (some W5.heap.size)] 92)
    rw [World.size_alloc] at h
    exact h
  have a0 := hba.c0
  have a1 := hba.c1
  have a2 := hba.c2
  have a3 := hba.c3
  have b0 := hbb.c0
  have b1 := hbb.c1
  have b2 := hbb.c2
  have b3 := hbb.c3
  have hmm := @run_makeMap Tryz.prog
  simp only [TV.val] at hck hgen ⊢
  have HGEN := hide hgen
  have HSI := hide hsi
  have HB3 := hide hB3
  have HBA := hide hba
  have HBB := hide hbb
  have HBZ := hide hbz
  clear ha hb oka okb pa pb htab hpl hgen hsi hB3 hba hbb hbz
  go_enter Tryz.func19, Tryz.ntmps19
  go_wp2_with fail
  refine hck.mono ?_
  clear hck a0 a1 a2 a3 b0 b1 b2 b3
  rintro e W5 ⟨rfl, hb5⟩
  have hs5 := hb5.size
  have hB5 : Below w.heap.size w W5 := (unhide HB3).trans (hb5.mono (by omega))
  have hB7 : Below W5.heap.size W5 ((W5.alloc (.map #[] 0)).alloc (.cells #[.map (some W5.heap.size)] 92)) := ((Below.refl _ W5).alloc (Nat.le_refl _) _).alloc (by simp) _
  have hs7 : ((W5.alloc (.map #[] 0)).alloc (.cells #[.map (some W5.heap.size)] 92)).heap.size = W5.heap.size + 2 := by simp
  have hbw7 := hB5.trans (hB7.mono (by omega))
  have hI7 := (unhide HSI) W5 hB5
  have hba7 := ((unhide HBA).kept hb5).kept hB7
  have hbb7 := ((unhide HBB).kept hb5).kept hB7
  have hbz7 := ((unhide HBZ).kept hb5).kept hB7
  have hg7 := (unhide HGEN) (W5.heap.size + 1) W5.heap.size _ ⟨by omega, by omega, by omega, by omega⟩ hI7 hbw7
  have a0 := hba7.c0
  have a1 := hba7.c1
  have a2 := hba7.c2
  have a3 := hba7.c3
  have b0 := hbb7.c0
  have b1 := hbb7.c1
  have b2 := hbb7.c2
  have b3 := hbb7.c3
  have HBZ7 := hide hbz7
  have HBW7 := hide hbw7
  clear hI7 hba7 hbb7 hbz7 hbw7 hB7 hb5 HSI HGEN HBA HBB HBZ
  go_wp2_with fail
  refine hg7.mono ?_
  clear hg7 a0 a1 a2 a3 b0 b1 b2 b3 hmm
  rintro e W8 ⟨x, rfl, hg8, hx8⟩
  rw [hs7] at hg8 hx8
  have hs8 := hg8.size
  have hbz8 : BoxT W8 (w.heap.size + 2) ⟨0, 0, ⟨#[]⟩, none, 0, 0⟩ := (hg8.block _ (by omega) (by omega)).trans (unhide HBZ7)
  obtain ⟨⟨z0, z1, z2, z3⟩, y0, y1, y2, y3⟩ := zbox_kept hbz8
  have hfin := (holds_set4 hx8 (b := w.heap.size + 2) (by omega) 0 x).mono (lo' := w.heap.size) (Nat.le_refl _) (by omega)
  have hbf := set4_below ((unhide HBW7).trans (hg8.below (n₀ := w.heap.size) (fun k hx => by omega) (by omega))) (b := w.heap.size + 2) (by omega) 0 x
  have HF := hide (And.intro hbf hfin)
  clear hbf hfin hx8 hg8 hbz8
  go_wp2_with fail
  exact bodyPost_ret (v := .tuple #[x.val, .int .i64 0]) (by simp [results, Tryz.results19, go_sem, TV.val, z0, z1, z2, z3]) rfl ⟨x, rfl, unhide HF⟩
end Go.Proofs.YtiigkiemkhdclaaGreatDoor

/- The contracts of term.Variant and term.Rename. -/
namespace Go.Proofs.YtiigkiemkhdclaaGreatDoor
open Go.RowKit Go.Shelf Go.Maps

set_option maxRecDepth 100000 in
set_option maxHeartbeats 1000000 in
theorem variant_any {n : Nat} (p t : Tm n) (w : World) (hp : IsT w.heap.size w p) (ht : IsT w.heap.size w t) (okp : okT p = true) (okt : okT t = true) :
    Calls Tryz.prog 44 #[p.tv.val, t.tv.val] w fun e W' => e = .returned (.tuple #[.bool (decide (canon 0 (code p) = canon 0 (code t))), .int .i64 0]) ∧ Below w.heap.size w W' := by
  have hc := checkTwo p t w hp ht
  have h0 : chkL [p, t] = 0 := chkL_yes (by simp [okp, okt])
  rw [h0] at hc
  have hnp := fun (W : World) (hb : Below w.heap.size w W) => number_any p 0 W ((hp.below hb).mono hb.size) okp (by omega) (by omega)
  have hnt := fun (W : World) (hb : Below w.heap.size w W) => number_any t 0 W ((ht.below hb).mono hb.size) okt (by omega) (by omega)
  simp only [TV.val] at hnp hnt hc ⊢
  have HNP := hide hnp
  have HNT := hide hnt
  clear h0 okp okt hp ht hnp hnt
  go_enter Tryz.func44, Tryz.ntmps44
  go_wp2_with fail
  refine hc.mono ?_
  clear hc
  rintro e W2 ⟨rfl, hb2, bx, bby⟩
  have c0 := bx.c0
  have c1 := bx.c1
  have c2 := bx.c2
  have c3 := bx.c3
  go_wp2_with fail
  refine ((unhide HNP) W2 hb2).mono ?_
  clear c0 c1 c2 c3 HNP
  rintro e W3 ⟨x, rfl, hb3, hx⟩
  have hb4 : Below W3.heap.size W3 (W3.alloc (.cells #[.int .i64 x.k, .int .i64 x.N, .string x.s, .slice x.a x.len x.cap] 24)) := (Below.refl _ W3).alloc (Nat.le_refl _) _
  have hbx := BoxT.new W3 x
  have hb24 : Below W2.heap.size W2 (W3.alloc (.cells #[.int .i64 x.k, .int .i64 x.N, .string x.s, .slice x.a x.len x.cap] 24)) := hb3.trans (hb4.mono hb3.size)
  have hB4 := hb2.trans (hb24.mono hb2.size)
  have bby4 : BoxT (W3.alloc (.cells #[.int .i64 x.k, .int .i64 x.N, .string x.s, .slice x.a x.len x.cap] 24)) (w.heap.size + 1) t.tv := (hb24.block _ bby.lt).trans bby
  have hx4 : HoldsT (n + 1) W2.heap.size (W3.alloc (.cells #[.int .i64 x.k, .int .i64 x.N, .string x.s, .slice x.a x.len x.cap] 24)) x.val (canon 0 (code p)) := hx.below hb4
  have hnt4 := (unhide HNT) _ hB4
  have d0 := bby4.c0
  have d1 := bby4.c1
  have d2 := bby4.c2
  have d3 := bby4.c3
  clear hx hb3 hb4 hb24 bx bby bby4 HNT hb2
  go_wp2_with fail
  refine hnt4.mono ?_
  obtain ⟨W4, hW4⟩ : ∃ W4, W3.alloc (.cells #[.int .i64 x.k, .int .i64 x.N, .string x.s, .slice x.a x.len x.cap] 24) = W4 := ⟨_, rfl⟩
  rw [hW4] at hbx hB4 hx4
  simp only [hW4]
  clear hnt4 hW4 d0 d1 d2 d3
  rintro e W5 ⟨y, rfl, hb5, hy⟩
  have hb6 : Below W5.heap.size W5 (W5.alloc (.cells #[.int .i64 y.k, .int .i64 y.N, .string y.s, .slice y.a y.len y.cap] 24)) := (Below.refl _ W5).alloc (Nat.le_refl _) _
  have hb46 := hb5.trans (hb6.mono hb5.size)
  have hbx6 := (hb46.block _ hbx.lt).trans hbx
  have hby6 := BoxT.new W5 y
  have hB6 := hB4.trans (hb46.mono hB4.size)
  obtain ⟨u, hu, huT, -, huc⟩ := (hx4.below hb46) _ (Nat.le_refl _)
  obtain ⟨v, hv, hvT, -, hvc⟩ := (hy.below hb6) _ (Nat.le_refl _)
  have hord := order_any _ u v _ huT hvT
  rw [← hu] at hord
  have hvv : (.agg #[.int .i64 y.k, .int .i64 y.N, .string y.s, .slice y.a y.len y.cap] : Value) = v.tv.val := hv
  rw [← hvv] at hord
  have hres : (ordT u v == 0) = decide (canon 0 (code p) = canon 0 (code t)) := by
    rw [Bool.eq_iff_iff, beq_iff_eq, ord_zero, sameT_code huT.wl hvT.wl, decide_eq_true_eq, huc, hvc, decide_eq_true_eq]
    rfl
  have x0 : _ := BoxT.c0 hbx6
  have x1 : _ := BoxT.c1 hbx6
  have x2 : _ := BoxT.c2 hbx6
  have x3 : _ := BoxT.c3 hbx6
  have y0 := hby6.c0
  have y1 := hby6.c1
  have y2 := hby6.c2
  have y3 := hby6.c3
  have HRES := hide hres
  have HB6 := hide hB6
  simp only [TV.val] at hord
  clear hu huT huc hv hvT hvc hvv hx4 hy hb5 hb6 hb46 hbx hbx6 hby6 hB4 hB6 hres
  go_wp2_with fail
  refine hord.mono ?_
  clear hord x0 x1 x2 x3 y0 y1 y2 y3
  rintro e W7 ⟨rfl, hb7⟩
  have hBf := (unhide HB6).trans (hb7.mono (unhide HB6).size)
  clear hb7
  go_wp2_with fail
  exact bodyPost_ret (v := .tuple #[.bool (ordT u v == 0), .int .i64 0]) (by simp [results, Tryz.results44, go_sem]) rfl ⟨by rw [unhide HRES], hBf⟩

set_option maxRecDepth 100000 in
set_option maxHeartbeats 1000000 in
theorem variant_no {n : Nat} (p t : Tm n) (w : World) (hp : IsT w.heap.size w p) (ht : IsT w.heap.size w t) (ox : (okT p && okT t) = false) :
    Calls Tryz.prog 44 #[p.tv.val, t.tv.val] w fun e W' => e = .returned (.tuple #[.bool false, .int .i64 2]) ∧ Below w.heap.size w W' := by
  have hc := checkTwo p t w hp ht
  have h0 : chkL [p, t] = 2 := chkL_no (by simpa using ox)
  rw [h0] at hc
  clear h0 ox hp ht
  simp only [TV.val]
  go_enter Tryz.func44, Tryz.ntmps44
  go_wp2_with (go_at_call 62; refine hc.mono ?_; clear hc; rintro e W2 ⟨rfl, hb2, bx, bby⟩)
  go_ret2
  exact ⟨rfl, hb2⟩

set_option maxHeartbeats 400000 in
theorem isVar_any (N : Int) (w : World) : Calls Tryz.prog 57 #[.int .i64 N] w fun e W' => e = .returned (.bool (decide (0 ≤ N) && decide (N ≤ 1099511627776))) ∧ Below w.heap.size w W' := by
  go_enter Tryz.func57, Tryz.ntmps57
  go_wp2
  all_goals go_ret
  all_goals refine ⟨?_, Below.refl _ _⟩
  all_goals first | (simp_all; done) | (simp_all; intros; omega)

theorem steps_nodup : ∀ (c : List Nd) (acc : List Int), acc.Nodup → (stepsN stpN acc c).Nodup
  | [], _, h => h
  | x :: c, acc, h => by
    have e : stepsN stpN acc (x :: c) = stepsN stpN (if x.1 = 1 then stpN acc x.2.1 else acc) c := rfl
    rw [e]
    refine steps_nodup c _ ?_
    split
    · unfold stpN
      split
      · exact h
      · rename_i hm
        rw [List.nodup_append]
        exact ⟨h, by simp, fun a ha b hb => by simp at hb; subst hb; exact fun e => hm (e ▸ ha)⟩
    · exact h
theorem steps_len {c : List Nd} (h : okC c) : (stepsN stpN [] c).length ≤ 1099511627777 :=
  nodup_range (steps_nodup c [] List.nodup_nil) fun N hN => by
    rcases (steps_mem c [] N).1 hN with h' | ⟨x, hx, hk, rfl⟩
    · cases h'
    · exact (okNd_var (List.all_eq_true.1 h x hx) hk).1
/-- What Rename answers, of a term. -/
def RenSays {n : Nat} (t : Tm n) (lo : Nat) (W' : World) (x : TV) (e : Int) : Prop :=
  (e = 0 ∧ ∃ f, okC (canon f (code t)) ∧ HoldsT (n + 1) lo W' x.val (canon f (code t))) ∨ (e ≠ 0 ∧ x = ⟨0, 0, ⟨#[]⟩, none, 0, 0⟩)
theorem okC_canon {f : Int} {c : List Nd} (h : okC c) (hf0 : 0 ≤ f) (hl : f + ((stepsN stpN [] c).length : Nat) - 1 ≤ 1099511627776) : okC (canon f c) := by
  unfold okC canon at *
  rw [List.all_eq_true] at h ⊢
  intro y hy
  obtain ⟨x, hx, hxy⟩ := List.mem_flatMap.1 hy
  unfold subN at hxy
  split at hxy
  · rename_i hk
    have hm := (steps_mem c [] x.2.1).2 (.inr ⟨x, hx, hk, rfl⟩)
    have hlt := List.idxOf_lt_length_of_mem hm
    simp only [renN, List.mem_singleton] at hxy
    subst hxy
    have h0 : 0 ≤ f + ((stepsN stpN [] c).idxOf x.2.1 : Nat) := by omega
    have h1 : f + ((stepsN stpN [] c).idxOf x.2.1 : Nat) ≤ 1099511627776 := by omega
    generalize f + ((stepsN stpN [] c).idxOf x.2.1 : Nat) = M at h0 h1
    simp [okNd, varNd, h0, h1]
  · simp at hxy; subst hxy; exact h _ hx

set_option maxRecDepth 100000 in
set_option maxHeartbeats 1000000 in
theorem rename_any {n : Nat} (t : Tm n) (f : Int) (w : World) (hT : IsT w.heap.size w t) (hok : okT t = true) :
    Calls Tryz.prog 15 #[t.tv.val, .int .i64 f] w fun e W' => ∃ (x : TV) (k r : Int), e = .returned (.tuple #[x.val, .int .i64 k, .int .i64 r]) ∧ Below w.heap.size w W' ∧ RenSays t w.heap.size W' x r := by
  have hH := Head.new w t.tv
  have hB1 : Below w.heap.size w ((w.alloc (.cells #[.int .i64 t.tv.k, .int .i64 t.tv.N, .string t.tv.s, .slice t.tv.a t.tv.len t.tv.cap] 24)).alloc (.cells #[.int .i64 0, .int .i64 0, .string ⟨#[]⟩, .slice none 0 0] 24)) := ((Below.refl _ w).alloc (Nat.le_refl _) _).alloc (by simp) _
  have hck := check_any t _ ((hT.below hB1).mono hB1.size)
  rw [chk_yes hok] at hck
  have hokc : okC (code t) := by unfold okC; rw [← okT_code]; exact hok
  by_cases hf : 0 ≤ f ∧ f ≤ 1099511627776
  · obtain ⟨hf0, hf1⟩ := hf
    have hnm := fun (W : World) (hb : Below w.heap.size w W) => number_any t f W ((hT.below hb).mono hb.size) hok hf0 hf1
    have hokn := fun h => okC_canon (f := f) hokc hf0 h
    have hlen : (stepsN stpN [] (code t)).length ≤ 1099511627777 := steps_len hokc
    generalize (stepsN stpN [] (code t)).length = L at hnm hokn hlen
    have hiv := fun (W : World) => isVar_any f W
    have hdd : (decide (0 ≤ f) && decide (f ≤ 1099511627776)) = true := by simp [hf0, hf1]
    simp only [hdd] at hiv
    have hwr : IntKind.i64.wrap (f + (L : Nat) - 1) = f + (L : Nat) - 1 := by simp [IntKind.wrap, IntKind.bits, IntKind.signed]; omega
    simp only [TV.val] at hnm hck ⊢
    have HNM := hide hnm
    have HOKN := hide hokn
    clear hT hok hokc hnm hokn hdd hB1
    go_enter Tryz.func15, Tryz.ntmps15
    go_wp2_with fail
    refine hck.mono ?_
    clear hck
    rintro e W1 ⟨rfl, hb1⟩
    replace hH := hH.next hb1
    clear hb1
    go_wp2_with fail
    refine (hiv _).mono ?_
    clear hiv
    rintro e W2 ⟨rfl, hb2⟩
    replace hH := hH.next hb2
    clear hb2
    have c0 := hH.ba.c0
    have c1 := hH.ba.c1
    have c2 := hH.ba.c2
    have c3 := hH.ba.c3
    go_wp2_with fail
    refine ((unhide HNM) W2 hH.below).mono ?_
    clear c0 c1 c2 c3 HNM
    rintro e W3 ⟨x, rfl, hb3, hx⟩
    have hb4 : Below W3.heap.size W3 (W3.alloc (.cells #[.int .i64 x.k, .int .i64 x.N, .string x.s, .slice x.a x.len x.cap] 24)) := (Below.refl _ W3).alloc (Nat.le_refl _) _
    have hb24 := hb3.trans (hb4.mono hb3.size)
    have hlt2 := hH.lt
    replace hH := hH.next hb24
    have hbx := BoxT.new W3 x
    have hx4 : HoldsT (n + 1) W2.heap.size (W3.alloc (.cells #[.int .i64 x.k, .int .i64 x.N, .string x.s, .slice x.a x.len x.cap] 24)) x.val (canon f (code t)) := hx.below hb4
    obtain ⟨⟨z0, z1, z2, z3⟩, y0, y1, y2, y3⟩ := zbox_kept hH.bz
    by_cases hbig : f + (L : Nat) - 1 ≤ 1099511627776
    · have hg : ¬ 1099511627776 < f + (L : Nat) - 1 := by omega
      have hfin := (holds_set4 hx4 hlt2 0 x).mono (lo' := w.heap.size) (Nat.le_refl _) (by omega)
      have hbf := set4_below hH.below (b := w.heap.size + 1) (by omega) 0 x
      have b0 := hbx.c0
      have b1 := hbx.c1
      have b2 := hbx.c2
      have b3 := hbx.c3
      have HF := hide (And.intro hbf (And.intro ((unhide HOKN) hbig) hfin))
      clear hfin hbf hx4 hx hbx hH hb3 hb4 hb24 hbig HOKN
      go_wp2_with fail
      exact bodyPost_ret (v := .tuple #[x.val, .int .i64 (f + (L : Nat)), .int .i64 0]) (by simp [results, Tryz.results15, go_sem, TV.val, z0, z1, z2, z3]) rfl ⟨x, _, 0, rfl, (unhide HF).1, .inl ⟨rfl, f, (unhide HF).2.1, (unhide HF).2.2⟩⟩
    · have hg : 1099511627776 < f + (L : Nat) - 1 := by omega
      have hbf := set4_below hH.below (b := w.heap.size + 1) (by omega) 0 ⟨0, 0, ⟨#[]⟩, none, 0, 0⟩
      have HF := hide hbf
      clear hbf hx4 hx hbx hH hb3 hb4 hb24 hbig HOKN
      go_wp2_with fail
      exact bodyPost_ret (v := .tuple #[.agg #[.int .i64 0, .int .i64 0, .string ⟨#[]⟩, .slice none 0 0], .int .i64 0, .int .i64 9]) (by simp [results, Tryz.results15, go_sem, z0, z1, z2, z3]) rfl ⟨⟨0, 0, ⟨#[]⟩, none, 0, 0⟩, 0, 9, rfl, unhide HF, .inr ⟨by decide, rfl⟩⟩
  · have hiv := fun (W : World) => isVar_any f W
    have hdd : (decide (0 ≤ f) && decide (f ≤ 1099511627776)) = false := by
      rw [Bool.and_eq_false_iff, decide_eq_false_iff_not, decide_eq_false_iff_not]; omega
    simp only [hdd] at hiv
    simp only [TV.val] at hck ⊢
    clear hT hok hokc hdd hB1 hf
    go_enter Tryz.func15, Tryz.ntmps15
    go_wp2_with fail
    refine hck.mono ?_
    clear hck
    rintro e W1 ⟨rfl, hb1⟩
    replace hH := hH.next hb1
    clear hb1
    go_wp2_with fail
    refine (hiv _).mono ?_
    clear hiv
    rintro e W2 ⟨rfl, hb2⟩
    replace hH := hH.next hb2
    clear hb2
    obtain ⟨⟨z0, z1, z2, z3⟩, y0, y1, y2, y3⟩ := zbox_kept hH.bz
    have hbf := set4_below hH.below (b := w.heap.size + 1) (by omega) 0 ⟨0, 0, ⟨#[]⟩, none, 0, 0⟩
    have HF := hide hbf
    clear hbf hH
    go_wp2_with fail
    exact bodyPost_ret (v := .tuple #[.agg #[.int .i64 0, .int .i64 0, .string ⟨#[]⟩, .slice none 0 0], .int .i64 0, .int .i64 1]) (by simp [results, Tryz.results15, go_sem, z0, z1, z2, z3]) rfl ⟨⟨0, 0, ⟨#[]⟩, none, 0, 0⟩, 0, 1, rfl, unhide HF, .inr ⟨by decide, rfl⟩⟩
end Go.Proofs.YtiigkiemkhdclaaGreatDoor

/- The law hornkeep.TermVariants: it answers true, whatever the two terms and the number (within a bound of the terms' parts). -/
namespace Go.Proofs.YtiigkiemkhdclaaGreatDoor
open Go.RowKit Go.Shelf Go.Maps

theorem variant_c {D : Nat} {W : World} {v v' : Value} {c c' : List Nd} (h : TC D W v c) (h' : TC D W v' c') :
    Calls Tryz.prog 44 #[v, v'] W fun e W' => ∃ (f : Bool) (r : Int), e = .returned (.tuple #[.bool f, .int .i64 r]) ∧ Below W.heap.size W W' ∧ (okC c → okC c' → f = decide (canon 0 c = canon 0 c')) := by
  obtain ⟨p, rfl, hp, _, rfl⟩ := h D (Nat.le_refl _)
  obtain ⟨t, rfl, ht, _, rfl⟩ := h' D (Nat.le_refl _)
  by_cases hok : (okT p && okT t) = true
  · rw [Bool.and_eq_true] at hok
    refine (variant_any p t W hp ht hok.1 hok.2).mono fun e W' h => ?_
    exact ⟨_, _, h.1, h.2, fun _ _ => rfl⟩
  · refine (variant_no p t W hp ht (by simpa using hok)).mono fun e W' h => ?_
    refine ⟨_, _, h.1, h.2, fun h1 h2 => ?_⟩
    unfold okC at h1 h2
    rw [← okT_code] at h1 h2
    exact (hok (by rw [h1, h2]; rfl)).elim
theorem zero_tc (D : Nat) (W : World) : TC (D + 1) W (⟨0, 0, ⟨#[]⟩, none, 0, 0⟩ : TV).val [(⟨0, 0, ⟨#[]⟩, none, 0, 0⟩ : TV).nd] :=
  ((holds_leaf ⟨0, 0, ⟨#[]⟩, none, 0, 0⟩ rfl (by simp [ByteArray.size]) 0 W).mono (by omega) (Nat.le_refl _)).holdsS.tc
/-- What Rename answers: a term in any case; where there is no error, one that is numbered as the first. -/
theorem ren_tc {n : Nat} {t : Tm n} {lo : Nat} {W' : World} {x : TV} {r : Int} (h : RenSays t lo W' x r) : ∃ c, TC (n + 1) W' x.val c ∧ (r = 0 → okC c ∧ canon 0 (code t) = canon 0 c) := by
  rcases h with ⟨rfl, f, h1, h2⟩ | ⟨h1, rfl⟩
  · exact ⟨_, h2.holdsS.tc, fun _ => ⟨h1, (canon_canon f (code t)).symm⟩⟩
  · exact ⟨_, zero_tc n W', fun h => (h1 h).elim⟩

end Go.Proofs.YtiigkiemkhdclaaGreatDoor

