import Derived.Test.YtojefplapklbmaaGreatDoorWos
import Derived.Test.YtojefplapklbmaaGreatDoorNms
import Derived.Test.YtojefplapklbmaaGreatDoorSs
import Derived.Lib.ItoaNum
/- The contracts of term.Variant and term.Rename. -/
namespace Go.Proofs.YtojefplapklbmaaGreatDoor
open Go.RowKit Go.Shelf Go.Maps

set_option maxRecDepth 100000 in
set_option maxHeartbeats 1000000 in
theorem variant_any {n : Nat} (p t : Tm n) (w : World) (hp : IsT w.heap.size w p) (ht : IsT w.heap.size w t) (okp : okT p = true) (okt : okT t = true) (hn40 : n ≤ 549755813888) :
    Calls Tryz.prog 44 #[p.tv.val, t.tv.val] w fun e W' => e = .returned (.tuple #[.bool (decide (canon 0 (code p) = canon 0 (code t))), .int .i64 0]) ∧ Below w.heap.size w W' := by
  have hc := checkTwo p t w hp ht
  have h0 : chkL [p, t] = 0 := chkL_yes (by simp [okp, okt])
  rw [h0] at hc
  have hnp := fun (W : World) (hb : Below w.heap.size w W) => number_any p 0 W ((hp.below hb).mono hb.size) okp (by omega) (by omega)
  have hnt := fun (W : World) (hb : Below w.heap.size w W) => number_any t 0 W ((ht.below hb).mono hb.size) okt (by omega) (by omega)
  simp only [TV.val] at hnp hnt hc ⊢
  have HNP := hide hnp
  have HNT := hide hnt
  clear h0 okp okt hp ht hnp hnt
  go_enter Tryz.func44, Tryz.ntmps44
  go_wp2_with fail
  refine hc.mono ?_
  clear hc
  rintro e W2 ⟨rfl, hb2, bx, bby⟩
  have c0 := bx.c0
  have c1 := bx.c1
  have c2 := bx.c2
  have c3 := bx.c3
  go_wp2_with fail
  refine ((unhide HNP) W2 hb2).mono ?_
  clear c0 c1 c2 c3 HNP
  rintro e W3 ⟨x, rfl, hb3, hx⟩
  have hb4 : Below W3.heap.size W3 (W3.alloc (.cells #[.int .i64 x.k, .int .i64 x.N, .string x.s, .slice x.a x.len x.cap] 24)) := (Below.refl _ W3).alloc (Nat.le_refl _) _
  have hbx := BoxT.new W3 x
  have hb24 : Below W2.heap.size W2 (W3.alloc (.cells #[.int .i64 x.k, .int .i64 x.N, .string x.s, .slice x.a x.len x.cap] 24)) := hb3.trans (hb4.mono hb3.size)
  have hB4 := hb2.trans (hb24.mono hb2.size)
  have bby4 : BoxT (W3.alloc (.cells #[.int .i64 x.k, .int .i64 x.N, .string x.s, .slice x.a x.len x.cap] 24)) (w.heap.size + 1) t.tv := (hb24.block _ bby.lt).trans bby
  have hx4 : HoldsT (n + 1) W2.heap.size (W3.alloc (.cells #[.int .i64 x.k, .int .i64 x.N, .string x.s, .slice x.a x.len x.cap] 24)) x.val (canon 0 (code p)) := hx.below hb4
  have hnt4 := (unhide HNT) _ hB4
  have d0 := bby4.c0
  have d1 := bby4.c1
  have d2 := bby4.c2
  have d3 := bby4.c3
  clear hx hb3 hb4 hb24 bx bby bby4 HNT hb2
  go_wp2_with fail
  refine hnt4.mono ?_
  obtain ⟨W4, hW4⟩ : ∃ W4, W3.alloc (.cells #[.int .i64 x.k, .int .i64 x.N, .string x.s, .slice x.a x.len x.cap] 24) = W4 := ⟨_, rfl⟩
  rw [hW4] at hbx hB4 hx4
  simp only [hW4]
  clear hnt4 hW4 d0 d1 d2 d3
  rintro e W5 ⟨y, rfl, hb5, hy⟩
  have hb6 : Below W5.heap.size W5 (W5.alloc (.cells #[.int .i64 y.k, .int .i64 y.N, .string y.s, .slice y.a y.len y.cap] 24)) := (Below.refl _ W5).alloc (Nat.le_refl _) _
  have hb46 := hb5.trans (hb6.mono hb5.size)
  have hbx6 := (hb46.block _ hbx.lt).trans hbx
  have hby6 := BoxT.new W5 y
  have hB6 := hB4.trans (hb46.mono hB4.size)
  obtain ⟨u, hu, huT, -, huc⟩ := (hx4.below hb46) _ (Nat.le_refl _)
  obtain ⟨v, hv, hvT, -, hvc⟩ := (hy.below hb6) _ (Nat.le_refl _)
  have huT := huT (by omega)
  have hvT := hvT (by omega)
  have hord := order_any _ u v _ huT hvT
  rw [← hu] at hord
  have hvv : (.agg #[.int .i64 y.k, .int .i64 y.N, .string y.s, .slice y.a y.len y.cap] : Value) = v.tv.val := hv
  rw [← hvv] at hord
  have hres : (ordT u v == 0) = decide (canon 0 (code p) = canon 0 (code t)) := by
    rw [Bool.eq_iff_iff, beq_iff_eq, ord_zero, sameT_code huT.wl hvT.wl, decide_eq_true_eq, huc, hvc, decide_eq_true_eq]
    rfl
  have x0 : _ := BoxT.c0 hbx6
  have x1 : _ := BoxT.c1 hbx6
  have x2 : _ := BoxT.c2 hbx6
  have x3 : _ := BoxT.c3 hbx6
  have y0 := hby6.c0
  have y1 := hby6.c1
  have y2 := hby6.c2
  have y3 := hby6.c3
  have HRES := hide hres
  have HB6 := hide hB6
  simp only [TV.val] at hord
  clear hu huT huc hv hvT hvc hvv hx4 hy hb5 hb6 hb46 hbx hbx6 hby6 hB4 hB6 hres
  go_wp2_with fail
  refine hord.mono ?_
  clear hord x0 x1 x2 x3 y0 y1 y2 y3
  rintro e W7 ⟨rfl, hb7⟩
  have hBf := (unhide HB6).trans (hb7.mono (unhide HB6).size)
  clear hb7
  go_wp2_with fail
  exact bodyPost_ret (v := .tuple #[.bool (ordT u v == 0), .int .i64 0]) (by simp [results, Tryz.results44, go_sem]) rfl ⟨by rw [unhide HRES], hBf⟩

set_option maxRecDepth 100000 in
set_option maxHeartbeats 1000000 in
theorem variant_no {n : Nat} (p t : Tm n) (w : World) (hp : IsT w.heap.size w p) (ht : IsT w.heap.size w t) (ox : (okT p && okT t) = false) :
    Calls Tryz.prog 44 #[p.tv.val, t.tv.val] w fun e W' => e = .returned (.tuple #[.bool false, .int .i64 2]) ∧ Below w.heap.size w W' := by
  have hc := checkTwo p t w hp ht
  have h0 : chkL [p, t] = 2 := chkL_no (by simpa using ox)
  rw [h0] at hc
  clear h0 ox hp ht
  simp only [TV.val]
  go_enter Tryz.func44, Tryz.ntmps44
  go_wp2_with (go_at_call 62; refine hc.mono ?_; clear hc; rintro e W2 ⟨rfl, hb2, bx, bby⟩)
  go_ret2
  exact ⟨rfl, hb2⟩

theorem steps_len {c : List Nd} (h : okC c) : (stepsN stpN [] c).length ≤ 1099511627777 :=
  nodup_range (steps_nodup c [] List.nodup_nil) fun N hN => by
    rcases (steps_mem c [] N).1 hN with h' | ⟨x, hx, hk, rfl⟩
    · cases h'
    · exact (okNd_var (List.all_eq_true.1 h x hx) hk).1
/-- What Rename answers, of a term. -/
def RenSays {n : Nat} (t : Tm n) (lo : Nat) (W' : World) (x : TV) (e : Int) : Prop :=
  (e = 0 ∧ ∃ f, okC (canon f (code t)) ∧ HoldsT (n + 1) lo W' x.val (canon f (code t))) ∨ (e ≠ 0 ∧ x = ⟨0, 0, ⟨#[]⟩, none, 0, 0⟩)
theorem okC_canon {f : Int} {c : List Nd} (h : okC c) (hf0 : 0 ≤ f) (hl : f + ((stepsN stpN [] c).length : Nat) - 1 ≤ 1099511627776) : okC (canon f c) := by
  unfold okC canon at *
  rw [List.all_eq_true] at h ⊢
  intro y hy
  obtain ⟨x, hx, hxy⟩ := List.mem_flatMap.1 hy
  unfold subN at hxy
  split at hxy
  · rename_i hk
    have hm := (steps_mem c [] x.2.1).2 (.inr ⟨x, hx, hk, rfl⟩)
    have hlt := List.idxOf_lt_length_of_mem hm
    simp only [renN, List.mem_singleton] at hxy
    subst hxy
    have h0 : 0 ≤ f + ((stepsN stpN [] c).idxOf x.2.1 : Nat) := by omega
    have h1 : f + ((stepsN stpN [] c).idxOf x.2.1 : Nat) ≤ 1099511627776 := by omega
    generalize f + ((stepsN stpN [] c).idxOf x.2.1 : Nat) = M at h0 h1
    simp [okNd, varNd, h0, h1]
  · simp at hxy; subst hxy; exact h _ hx

set_option maxRecDepth 100000 in
set_option maxHeartbeats 1000000 in
theorem rename_any {n : Nat} (t : Tm n) (f : Int) (w : World) (hT : IsT w.heap.size w t) (hok : okT t = true) :
    Calls Tryz.prog 15 #[t.tv.val, .int .i64 f] w fun e W' => ∃ (x : TV) (k r : Int), e = .returned (.tuple #[x.val, .int .i64 k, .int .i64 r]) ∧ Below w.heap.size w W' ∧ RenSays t w.heap.size W' x r := by
  have hH := Head.new w t.tv
  have hB1 : Below w.heap.size w ((w.alloc (.cells #[.int .i64 t.tv.k, .int .i64 t.tv.N, .string t.tv.s, .slice t.tv.a t.tv.len t.tv.cap] 24)).alloc (.cells #[.int .i64 0, .int .i64 0, .string ⟨#[]⟩, .slice none 0 0] 24)) := ((Below.refl _ w).alloc (Nat.le_refl _) _).alloc (by simp) _
  have hck := check_any t _ ((hT.below hB1).mono hB1.size)
  rw [chk_yes hok] at hck
  have hokc : okC (code t) := by unfold okC; rw [← okT_code]; exact hok
  by_cases hf : 0 ≤ f ∧ f ≤ 1099511627776
  · obtain ⟨hf0, hf1⟩ := hf
    have hnm := fun (W : World) (hb : Below w.heap.size w W) => number_any t f W ((hT.below hb).mono hb.size) hok hf0 hf1
    have hokn := fun h => okC_canon (f := f) hokc hf0 h
    have hlen : (stepsN stpN [] (code t)).length ≤ 1099511627777 := steps_len hokc
    generalize (stepsN stpN [] (code t)).length = L at hnm hokn hlen
    have hiv := fun (W : World) => isVar_any f W
    have hdd : (decide (0 ≤ f) && decide (f ≤ 1099511627776)) = true := by simp [hf0, hf1]
    simp only [hdd] at hiv
    have hwr : IntKind.i64.wrap (f + (L : Nat) - 1) = f + (L : Nat) - 1 := by simp [IntKind.wrap, IntKind.bits, IntKind.signed]; omega
    simp only [TV.val] at hnm hck ⊢
    have HNM := hide hnm
    have HOKN := hide hokn
    clear hT hok hokc hnm hokn hdd hB1
    go_enter Tryz.func15, Tryz.ntmps15
    go_wp2_with fail
    refine hck.mono ?_
    clear hck
    rintro e W1 ⟨rfl, hb1⟩
    replace hH := hH.next hb1
    clear hb1
    go_wp2_with fail
    refine (hiv _).mono ?_
    clear hiv
    rintro e W2 ⟨rfl, hb2⟩
    replace hH := hH.next hb2
    clear hb2
    have c0 := hH.ba.c0
    have c1 := hH.ba.c1
    have c2 := hH.ba.c2
    have c3 := hH.ba.c3
    go_wp2_with fail
    refine ((unhide HNM) W2 hH.below).mono ?_
    clear c0 c1 c2 c3 HNM
    rintro e W3 ⟨x, rfl, hb3, hx⟩
    have hb4 : Below W3.heap.size W3 (W3.alloc (.cells #[.int .i64 x.k, .int .i64 x.N, .string x.s, .slice x.a x.len x.cap] 24)) := (Below.refl _ W3).alloc (Nat.le_refl _) _
    have hb24 := hb3.trans (hb4.mono hb3.size)
    have hlt2 := hH.lt
    replace hH := hH.next hb24
    have hbx := BoxT.new W3 x
    have hx4 : HoldsT (n + 1) W2.heap.size (W3.alloc (.cells #[.int .i64 x.k, .int .i64 x.N, .string x.s, .slice x.a x.len x.cap] 24)) x.val (canon f (code t)) := hx.below hb4
    obtain ⟨⟨z0, z1, z2, z3⟩, y0, y1, y2, y3⟩ := zbox_kept hH.bz
    by_cases hbig : f + (L : Nat) - 1 ≤ 1099511627776
    · have hg : ¬ 1099511627776 < f + (L : Nat) - 1 := by omega
      have hfin := (holds_set4 hx4 hlt2 0 x).mono (lo' := w.heap.size) (Nat.le_refl _) (by omega)
      have hbf := set4_below hH.below (b := w.heap.size + 1) (by omega) 0 x
      have b0 := hbx.c0
      have b1 := hbx.c1
      have b2 := hbx.c2
      have b3 := hbx.c3
      have HF := hide (And.intro hbf (And.intro ((unhide HOKN) hbig) hfin))
      clear hfin hbf hx4 hx hbx hH hb3 hb4 hb24 hbig HOKN
      go_wp2_with fail
      exact bodyPost_ret (v := .tuple #[x.val, .int .i64 (f + (L : Nat)), .int .i64 0]) (by simp [results, Tryz.results15, go_sem, TV.val, z0, z1, z2, z3]) rfl ⟨x, _, 0, rfl, (unhide HF).1, .inl ⟨rfl, f, (unhide HF).2.1, (unhide HF).2.2⟩⟩
    · have hg : 1099511627776 < f + (L : Nat) - 1 := by omega
      have hbf := set4_below hH.below (b := w.heap.size + 1) (by omega) 0 ⟨0, 0, ⟨#[]⟩, none, 0, 0⟩
      have HF := hide hbf
      clear hbf hx4 hx hbx hH hb3 hb4 hb24 hbig HOKN
      go_wp2_with fail
      exact bodyPost_ret (v := .tuple #[.agg #[.int .i64 0, .int .i64 0, .string ⟨#[]⟩, .slice none 0 0], .int .i64 0, .int .i64 9]) (by simp [results, Tryz.results15, go_sem, z0, z1, z2, z3]) rfl ⟨⟨0, 0, ⟨#[]⟩, none, 0, 0⟩, 0, 9, rfl, unhide HF, .inr ⟨by decide, rfl⟩⟩
  · have hiv := fun (W : World) => isVar_any f W
    have hdd : (decide (0 ≤ f) && decide (f ≤ 1099511627776)) = false := by
      rw [Bool.and_eq_false_iff, decide_eq_false_iff_not, decide_eq_false_iff_not]; omega
    simp only [hdd] at hiv
    simp only [TV.val] at hck ⊢
    clear hT hok hokc hdd hB1 hf
    go_enter Tryz.func15, Tryz.ntmps15
    go_wp2_with fail
    refine hck.mono ?_
    clear hck
    rintro e W1 ⟨rfl, hb1⟩
    replace hH := hH.next hb1
    clear hb1
    go_wp2_with fail
    refine (hiv _).mono ?_
    clear hiv
    rintro e W2 ⟨rfl, hb2⟩
    replace hH := hH.next hb2
    clear hb2
    obtain ⟨⟨z0, z1, z2, z3⟩, y0, y1, y2, y3⟩ := zbox_kept hH.bz
    have hbf := set4_below hH.below (b := w.heap.size + 1) (by omega) 0 ⟨0, 0, ⟨#[]⟩, none, 0, 0⟩
    have HF := hide hbf
    clear hbf hH
    go_wp2_with fail
    exact bodyPost_ret (v := .tuple #[.agg #[.int .i64 0, .int .i64 0, .string ⟨#[]⟩, .slice none 0 0], .int .i64 0, .int .i64 1]) (by simp [results, Tryz.results15, go_sem, z0, z1, z2, z3]) rfl ⟨⟨0, 0, ⟨#[]⟩, none, 0, 0⟩, 0, 1, rfl, unhide HF, .inr ⟨by decide, rfl⟩⟩
end Go.Proofs.YtojefplapklbmaaGreatDoor

/- The law hornkeep.TermVariants: it answers true, whatever the two terms and the number (within a bound of the terms' parts). -/
namespace Go.Proofs.YtojefplapklbmaaGreatDoor
open Go.RowKit Go.Shelf Go.Maps

theorem variant_c {D : Nat} {W : World} {v v' : Value} {c c' : List Nd} (h : TC D W v c) (h' : TC D W v' c') (hD39 : D ≤ 549755813888 := by omega) :
    Calls Tryz.prog 44 #[v, v'] W fun e W' => ∃ (f : Bool) (r : Int), e = .returned (.tuple #[.bool f, .int .i64 r]) ∧ Below W.heap.size W W' ∧ (okC c → okC c' → f = decide (canon 0 c = canon 0 c')) := by
  obtain ⟨p, rfl, hp, _, rfl⟩ := h.2 D (Nat.le_refl _) h.1
  obtain ⟨t, rfl, ht, _, rfl⟩ := h'.2 D (Nat.le_refl _) h'.1
  by_cases hok : (okT p && okT t) = true
  · rw [Bool.and_eq_true] at hok
    refine (variant_any p t W hp ht hok.1 hok.2 hD39).mono fun e W' h => ?_
    exact ⟨_, _, h.1, h.2, fun _ _ => rfl⟩
  · refine (variant_no p t W hp ht (by simpa using hok)).mono fun e W' h => ?_
    refine ⟨_, _, h.1, h.2, fun h1 h2 => ?_⟩
    unfold okC at h1 h2
    rw [← okT_code] at h1 h2
    exact (hok (by rw [h1, h2]; rfl)).elim
theorem zero_tc (D : Nat) (W : World) (hDl : D + 1 ≤ 2199023255552 := by omega) : TC (D + 1) W (⟨0, 0, ⟨#[]⟩, none, 0, 0⟩ : TV).val [(⟨0, 0, ⟨#[]⟩, none, 0, 0⟩ : TV).nd] :=
  ((holds_leaf ⟨0, 0, ⟨#[]⟩, none, 0, 0⟩ rfl rfl rfl (by simp [ByteArray.size]) 0 W).mono (by omega) (Nat.le_refl _)).holdsS.tc hDl
/-- What Rename answers: a term in any case; where there is no error, one that is numbered as the first. -/
theorem ren_tc {n : Nat} {t : Tm n} {lo : Nat} {W' : World} {x : TV} {r : Int} (h : RenSays t lo W' x r) (hDl : n + 1 ≤ 2199023255552 := by omega) : ∃ c, TC (n + 1) W' x.val c ∧ (r = 0 → okC c ∧ canon 0 (code t) = canon 0 c) := by
  rcases h with ⟨rfl, f, h1, h2⟩ | ⟨h1, rfl⟩
  · exact ⟨_, h2.holdsS.tc hDl, fun _ => ⟨h1, (canon_canon f (code t)).symm⟩⟩
  · exact ⟨_, zero_tc n W' hDl, fun h => (h1 h).elim⟩

end Go.Proofs.YtojefplapklbmaaGreatDoor

/- Plain mathematics of the least general generalization (Plotkin), by codes. -/
namespace Go.Proofs.YtojefplapklbmaaGreatDoor
open Go.RowKit Go.Shelf Go.Maps

abbrev Pr := List Nd × List Nd
/-- Two lists side by side. -/
def zf {α β : Type} (f : α → α → List β) : List α → List α → List β
  | x :: xs, y :: ys => f x y ++ zf f xs ys
  | _, _ => []
/-- Nothing in common at the top: a variable stands for the two. -/
def apart (x y : TV) : Bool := decide (x.k = 1) || !stop x y
/-- The pairs that a variable stands for, in the order of their coming. -/
def prs : {n : Nat} → Tm n → Tm n → List Pr
  | 0, _, _ => []
  | _ + 1, a, b => if apart a.tv b.tv then [(code a, code b)] else zf prs a.kids b.kids
/-- The generalization, if ι says which variable stands for a pair. -/
def Gc (ι : Pr → Int) : {n : Nat} → Tm n → Tm n → List Nd
  | 0, _, _ => []
  | _ + 1, a, b => if apart a.tv b.tv then [varNd (ι (code a, code b))] else a.tv.nd :: zf (Gc ι) a.kids b.kids
theorem prs_apart {n : Nat} {a b : Tm (n + 1)} (h : apart a.tv b.tv = true) : prs a b = [(code a, code b)] := by
  obtain ⟨x, k⟩ := a
  simp only [prs]; rw [if_pos h]
theorem prs_like {n : Nat} {a b : Tm (n + 1)} (h : apart a.tv b.tv = false) : prs a b = zf prs a.kids b.kids := by
  obtain ⟨x, k⟩ := a
  simp only [prs]; rw [if_neg (by rw [h]; simp)]
theorem Gc_apart {ι : Pr → Int} {n : Nat} {a b : Tm (n + 1)} (h : apart a.tv b.tv = true) : Gc ι a b = [varNd (ι (code a, code b))] := by
  obtain ⟨x, k⟩ := a
  simp only [Gc]; rw [if_pos h]
theorem Gc_like {ι : Pr → Int} {n : Nat} {a b : Tm (n + 1)} (h : apart a.tv b.tv = false) : Gc ι a b = a.tv.nd :: zf (Gc ι) a.kids b.kids := by
  obtain ⟨x, k⟩ := a
  simp only [Gc]; rw [if_neg (by rw [h]; simp)]
theorem apart_no {x y : TV} (h : apart x y = false) : ¬ x.k = 1 ∧ x.nd = y.nd := by
  simp only [apart, Bool.or_eq_false_iff, decide_eq_false_iff_not, Bool.not_eq_false'] at h
  exact ⟨h.1, nd_stop.2 h.2⟩
theorem apart_symm (x y : TV) : apart x y = apart y x := by
  rw [Bool.eq_iff_iff]
  simp only [apart, Bool.or_eq_true, decide_eq_true_eq, Bool.not_eq_true']
  have key : ∀ {x y : TV}, (x.k = 1 ∨ stop x y = false) → (y.k = 1 ∨ stop y x = false) := fun {x y} h => by
    by_cases hs : stop y x = true
    · have e := nd_stop.2 hs
      have ek : y.k = x.k := congrArg (fun z : Nd => z.1) e
      have hs' : stop x y = true := nd_stop.1 e.symm
      rcases h with h | h
      · exact .inl (by omega)
      · rw [hs'] at h; cases h
    · exact .inr (by simpa using hs)
  exact ⟨key, key⟩
theorem kids_len {n : Nat} {a b : Tm (n + 1)} (ha : Wl a) (hb : Wl b) (h : a.tv.nd = b.tv.nd) : a.kids.length = b.kids.length := by
  have h1 := ha.1
  have h2 := hb.1
  have h3 : a.tv.len = b.tv.len := congrArg (fun z : Nd => z.2.2.2) h
  omega

/-- The generalization makes the first, where a variable becomes the first of its pair. -/
theorem Gc_left {ι : Pr → Int} {σ : Int → List Nd} : ∀ {n : Nat} (a b : Tm n), Wl a → Wl b → (∀ p ∈ prs a b, σ (ι p) = p.1) → (Gc ι a b).flatMap (subN σ) = code a
  | 0, a, _, _, _, _ => Empty.elim a
  | n + 1, a, b, ha, hb, h => by
    cases hap : apart a.tv b.tv with
    | true =>
      rw [prs_apart hap] at h
      rw [Gc_apart hap, sub_varNd]
      exact h _ (by simp)
    | false =>
      obtain ⟨hk, hnd⟩ := apart_no hap
      rw [prs_like hap] at h
      rw [Gc_like hap, List.flatMap_cons, code_kids]
      have e : subN σ a.tv.nd = [a.tv.nd] := by unfold subN; rw [if_neg (by simpa [TV.nd] using hk)]
      rw [e, List.singleton_append]
      congr 1
      have key : ∀ (l r : List (Tm n)), l.length = r.length → (∀ u ∈ l, Wl u) → (∀ u ∈ r, Wl u) → (∀ p ∈ zf prs l r, σ (ι p) = p.1) → (zf (Gc ι) l r).flatMap (subN σ) = l.flatMap code := by
        intro l
        induction l with
        | nil => intro r _ _ _ _; cases r <;> rfl
        | cons u l ih =>
          intro r hl h1 h2 hp
          cases r with
          | nil => simp at hl
          | cons v r =>
            simp only [zf] at hp ⊢
            rw [List.flatMap_append, List.flatMap_cons, Gc_left u v (h1 u (by simp)) (h2 v (by simp)) (fun p hp' => hp p (List.mem_append_left _ hp')), ih r (by simpa using hl) (fun z hz => h1 z (by simp [hz])) (fun z hz => h2 z (by simp [hz])) (fun p hp' => hp p (List.mem_append_right _ hp'))]
      exact key _ _ (kids_len ha hb hnd) ha.2 hb.2 h
def swapP (p : Pr) : Pr := (p.2, p.1)
/-- The two sides may be changed: the same generalization. -/
theorem prs_swap : ∀ {n : Nat} (a b : Tm n), Wl a → Wl b → prs b a = (prs a b).map swapP
  | 0, a, _, _, _ => Empty.elim a
  | n + 1, a, b, ha, hb => by
    cases hap : apart a.tv b.tv with
    | true =>
      rw [prs_apart hap, prs_apart (by rw [apart_symm]; exact hap)]
      rfl
    | false =>
      rw [prs_like hap, prs_like (by rw [apart_symm]; exact hap)]
      have key : ∀ (l r : List (Tm n)), (∀ u ∈ l, Wl u) → (∀ u ∈ r, Wl u) → zf prs r l = (zf prs l r).map swapP := by
        intro l
        induction l with
        | nil => intro r _ _; cases r <;> rfl
        | cons u l ih =>
          intro r h1 h2
          cases r with
          | nil => rfl
          | cons v r =>
            simp only [zf]
            rw [List.map_append, prs_swap u v (h1 u (by simp)) (h2 v (by simp)), ih r (fun z hz => h1 z (by simp [hz])) (fun z hz => h2 z (by simp [hz]))]
      exact key _ _ ha.2 hb.2
theorem Gc_swap {ι ι' : Pr → Int} : ∀ {n : Nat} (a b : Tm n), Wl a → Wl b → (∀ p ∈ prs a b, ι' (swapP p) = ι p) → Gc ι' b a = Gc ι a b
  | 0, a, _, _, _, _ => Empty.elim a
  | n + 1, a, b, ha, hb, h => by
    cases hap : apart a.tv b.tv with
    | true =>
      rw [prs_apart hap] at h
      rw [Gc_apart hap, Gc_apart (by rw [apart_symm]; exact hap)]
      rw [← h (code a, code b) (by simp)]
      rfl
    | false =>
      obtain ⟨_, hnd⟩ := apart_no hap
      rw [prs_like hap] at h
      rw [Gc_like hap, Gc_like (by rw [apart_symm]; exact hap), hnd]
      congr 1
      have key : ∀ (l r : List (Tm n)), (∀ u ∈ l, Wl u) → (∀ u ∈ r, Wl u) → (∀ p ∈ zf prs l r, ι' (swapP p) = ι p) → zf (Gc ι') r l = zf (Gc ι) l r := by
        intro l
        induction l with
        | nil => intro r _ _ _; cases r <;> rfl
        | cons u l ih =>
          intro r h1 h2 hp
          cases r with
          | nil => rfl
          | cons v r =>
            simp only [zf] at hp ⊢
            rw [Gc_swap u v (h1 u (by simp)) (h2 v (by simp)) (fun p hp' => hp p (List.mem_append_left _ hp')), ih r (fun z hz => h1 z (by simp [hz])) (fun z hz => h2 z (by simp [hz])) (fun p hp' => hp p (List.mem_append_right _ hp'))]
      exact key _ _ ha.2 hb.2 h
theorem Gc_right {ι : Pr → Int} {σ : Int → List Nd} {n : Nat} (a b : Tm n) (ha : Wl a) (hb : Wl b) (h : ∀ p ∈ prs a b, σ (ι p) = p.2) : (Gc ι a b).flatMap (subN σ) = code b := by
  have h1 := Gc_left (ι := fun p => ι (swapP p)) (σ := σ) b a hb ha (fun p hp => by
    rw [prs_swap a b ha hb] at hp
    obtain ⟨q, hq, rfl⟩ := List.mem_map.1 hp
    exact h q hq)
  rw [Gc_swap (ι := ι) a b ha hb (fun p _ => rfl)] at h1
  exact h1

/-- Kids by their codes. -/
theorem kids_codes {n m : Nat} : ∀ (l : List (Tm n)) (r : List (Tm m)), l.length = r.length → (∀ u ∈ l, Wl u) → (∀ u ∈ r, Wl u) → l.flatMap code = r.flatMap code → l.map code = r.map code
  | [], [], _, _, _, _ => rfl
  | [], _ :: _, h, _, _, _ => by simp at h
  | _ :: _, [], h, _, _, _ => by simp at h
  | u :: l, v :: r, h, h1, h2, he => by
    rw [List.flatMap_cons, List.flatMap_cons] at he
    obtain ⟨e1, e2⟩ := word_same (word_code u (h1 u (by simp))) (word_code v (h2 v (by simp))) he
    rw [List.map_cons, List.map_cons, e1, kids_codes l r (by simpa using h) (fun z hz => h1 z (by simp [hz])) (fun z hz => h2 z (by simp [hz])) e2]
/-- The generalization hangs on the codes alone. -/
theorem Gc_codes {ι : Pr → Int} : ∀ {n m : Nat} (a b : Tm n) (a' b' : Tm m), Wl a → Wl b → Wl a' → Wl b' → code a = code a' → code b = code b' → Gc ι a b = Gc ι a' b'
  | 0, _, a, _, _, _, _, _, _, _, _, _ => Empty.elim a
  | _ + 1, 0, _, _, a', _, _, _, _, _, _, _ => Empty.elim a'
  | n + 1, m + 1, a, b, a', b', ha, hb, ha', hb', ea, eb => by
    have ea' := ea
    have eb' := eb
    rw [code_kids, code_kids a', List.cons.injEq] at ea'
    rw [code_kids, code_kids b', List.cons.injEq] at eb'
    have la : a.kids.length = a'.kids.length := by
      have h1 := ha.1
      have h2 := ha'.1
      have h3 : a.tv.len = a'.tv.len := congrArg (fun z : Nd => z.2.2.2) ea'.1
      omega
    have lb : b.kids.length = b'.kids.length := by
      have h1 := hb.1
      have h2 := hb'.1
      have h3 : b.tv.len = b'.tv.len := congrArg (fun z : Nd => z.2.2.2) eb'.1
      omega
    have hap : apart a.tv b.tv = apart a'.tv b'.tv := by
      unfold apart
      have h1 : a.tv.k = a'.tv.k := congrArg (fun z : Nd => z.1) ea'.1
      have h2 : stop a.tv b.tv = stop a'.tv b'.tv := by
        rw [Bool.eq_iff_iff, ← nd_stop, ← nd_stop, ea'.1, eb'.1]
      rw [h1, h2]
    cases h : apart a.tv b.tv with
    | true => rw [Gc_apart h, Gc_apart (by rw [← hap]; exact h), ea, eb]
    | false =>
      rw [Gc_like h, Gc_like (by rw [← hap]; exact h), ea'.1]
      congr 1
      have ka := kids_codes _ _ la ha.2 ha'.2 ea'.2
      have kb := kids_codes _ _ lb hb.2 hb'.2 eb'.2
      have key : ∀ (l r : List (Tm n)) (l' r' : List (Tm m)), l.map code = l'.map code → r.map code = r'.map code → (∀ u ∈ l, Wl u) → (∀ u ∈ r, Wl u) → (∀ u ∈ l', Wl u) → (∀ u ∈ r', Wl u) → zf (Gc ι) l r = zf (Gc ι) l' r' := by
        intro l
        induction l with
        | nil =>
          intro r l' r' e1 _ _ _ _ _
          have : l' = [] := by simpa using e1.symm
          subst this
          cases r <;> cases r' <;> rfl
        | cons u l ih =>
          intro r l' r' e1 e2 h1 h2 h3 h4
          cases l' with
          | nil => simp at e1
          | cons u' l' =>
            cases r with
            | nil =>
              have : r' = [] := by simpa using e2.symm
              subst this
              rfl
            | cons v r =>
              cases r' with
              | nil => simp at e2
              | cons v' r' =>
                simp only [List.map_cons, List.cons.injEq] at e1 e2
                simp only [zf]
                rw [Gc_codes u v u' v' (h1 u (by simp)) (h2 v (by simp)) (h3 u' (by simp)) (h4 v' (by simp)) e1.1 e2.1, ih r l' r' e1.2 e2.2 (fun z hz => h1 z (by simp [hz])) (fun z hz => h2 z (by simp [hz])) (fun z hz => h3 z (by simp [hz])) (fun z hz => h4 z (by simp [hz]))]
      exact key _ _ _ _ ka kb ha.2 hb.2 ha'.2 hb'.2
/-- It is a term's code. -/
theorem Gc_word {ι : Pr → Int} : ∀ {n : Nat} (a b : Tm n), Wl a → Wl b → Word (Gc ι a b)
  | 0, a, _, _, _ => Empty.elim a
  | n + 1, a, b, ha, hb => by
    cases hap : apart a.tv b.tv with
    | true => rw [Gc_apart hap]; exact word_var _
    | false =>
      obtain ⟨_, hnd⟩ := apart_no hap
      rw [Gc_like hap]
      unfold Word
      simp only [runW]
      have e : 0 + a.tv.nd.2.2.2 = a.kids.length := by simp [TV.nd, ha.1]
      rw [e]
      have key : ∀ (l r : List (Tm n)), l.length = r.length → (∀ u ∈ l, Wl u) → (∀ u ∈ r, Wl u) → runW l.length (zf (Gc ι) l r) = some [] := by
        intro l
        induction l with
        | nil => intro r _ _ _; cases r <;> rfl
        | cons u l ih =>
          intro r hl h1 h2
          cases r with
          | nil => simp at hl
          | cons v r =>
            simp only [zf]
            rw [List.length_cons, runW_add _ 1 _ _ (Gc_word u v (h1 u (by simp)) (h2 v (by simp)))]
            exact ih r (by simpa using hl) (fun z hz => h1 z (by simp [hz])) (fun z hz => h2 z (by simp [hz]))
      exact key _ _ (kids_len ha hb hnd) ha.2 hb.2
/-- What stands for a variable of a term that matches both. -/
noncomputable def both (ι : Pr → Int) (x y : List Nd) : List Nd :=
  open Classical in if h : ∃ (n : Nat) (a b : Tm n), Wl a ∧ Wl b ∧ code a = x ∧ code b = y then Gc ι h.choose_spec.choose h.choose_spec.choose_spec.choose else [varNd 0]
theorem both_word (ι : Pr → Int) (x y : List Nd) : Word (both ι x y) := by
  unfold both
  split
  · rename_i h
    obtain ⟨h1, h2, _⟩ := h.choose_spec.choose_spec.choose_spec
    exact Gc_word _ _ h1 h2
  · exact word_var 0
theorem both_eq (ι : Pr → Int) {n : Nat} (a b : Tm n) (ha : Wl a) (hb : Wl b) : both ι (code a) (code b) = Gc ι a b := by
  have h : ∃ (m : Nat) (a' b' : Tm m), Wl a' ∧ Wl b' ∧ code a' = code a ∧ code b' = code b := ⟨n, a, b, ha, hb, rfl, rfl⟩
  unfold both
  rw [dif_pos h]
  obtain ⟨h1, h2, h3, h4⟩ := h.choose_spec.choose_spec.choose_spec
  exact Gc_codes _ _ a b h1 h2 ha hb h3 h4
/-- What matches both matches the generalization. -/
theorem Gc_least {ι : Pr → Int} {θ τ : Int → List Nd} (hθ : ∀ N, Word (θ N)) (hτ : ∀ N, Word (τ N)) : ∀ {m : Nat} (c : Tm m), Wl c → okT c = true → ∀ {n : Nat} (a b : Tm n), Wl a → Wl b → (code c).flatMap (subN θ) = code a → (code c).flatMap (subN τ) = code b → (code c).flatMap (subN fun N => both ι (θ N) (τ N)) = Gc ι a b
  | 0, c, _, _, _, _, _, _, _, _, _ => Empty.elim c
  | _ + 1, _, _, _, 0, a, _, _, _, _, _ => Empty.elim a
  | m + 1, c, hc, ok, n + 1, a, b, ha, hb, h1, h2 => by
    by_cases hk : c.tv.k = 1
    · rw [var_code hc ok hk, sub_varNd] at h1 h2 ⊢
      rw [h1, h2]
      exact both_eq ι a b ha hb
    · rw [nd_novar _ hk] at h1 h2 ⊢
      have h1' := h1
      have h2' := h2
      rw [code_kids a, List.cons.injEq] at h1'
      rw [code_kids b, List.cons.injEq] at h2'
      have hka : a.tv.k = c.tv.k := congrArg (fun z : Nd => z.1) h1'.1.symm
      have hap : apart a.tv b.tv = false := by
        unfold apart
        rw [Bool.or_eq_false_iff]
        refine ⟨decide_eq_false (by omega), ?_⟩
        rw [Bool.not_eq_false']
        exact nd_stop.1 (h1'.1.symm.trans h2'.1)
      rw [Gc_like hap, ← h1'.1]
      congr 1
      have lc : ∀ {k : Nat} {z : Tm (k + 1)}, Wl z → c.tv.nd = z.tv.nd → c.kids.length = z.kids.length := fun {k z} hz e => by
        have e1 := hc.1
        have e2 := hz.1
        have e3 : c.tv.len = z.tv.len := congrArg (fun z : Nd => z.2.2.2) e
        omega
      have key : ∀ (cs : List (Tm m)) (l r : List (Tm n)), cs.length = l.length → cs.length = r.length → (∀ u ∈ cs, Wl u) → (∀ u ∈ cs, okT u = true) → (∀ u ∈ l, Wl u) → (∀ u ∈ r, Wl u) → (cs.flatMap code).flatMap (subN θ) = l.flatMap code → (cs.flatMap code).flatMap (subN τ) = r.flatMap code → (cs.flatMap code).flatMap (subN fun N => both ι (θ N) (τ N)) = zf (Gc ι) l r := by
        intro cs
        induction cs with
        | nil =>
          intro l r e1 _ _ _ _ _ _ _
          have : l = [] := List.length_eq_zero_iff.1 (by simpa using e1.symm)
          subst this
          rfl
        | cons c cs ih =>
          intro l r e1 e2 k1 k2 k3 k4 g1 g2
          cases l with
          | nil => simp at e1
          | cons u l =>
            cases r with
            | nil => simp at e2
            | cons v r =>
              rw [List.flatMap_cons, List.flatMap_append, List.flatMap_cons] at g1 g2
              have wc := word_code c (k1 c (by simp))
              have vc := okT_vok (k2 c (by simp))
              obtain ⟨p1, p2⟩ := word_same (word_sub hθ vc wc) (word_code u (k3 u (by simp))) g1
              obtain ⟨q1, q2⟩ := word_same (word_sub hτ vc wc) (word_code v (k4 v (by simp))) g2
              rw [List.flatMap_cons, List.flatMap_append]
              simp only [zf]
              rw [Gc_least hθ hτ c (k1 c (by simp)) (k2 c (by simp)) u v (k3 u (by simp)) (k4 v (by simp)) p1 q1, ih l r (by simpa using e1) (by simpa using e2) (fun z hz => k1 z (by simp [hz])) (fun z hz => k2 z (by simp [hz])) (fun z hz => k3 z (by simp [hz])) (fun z hz => k4 z (by simp [hz])) p2 q2]
      exact key _ _ _ (lc ha h1'.1) (lc hb h2'.1) hc.2 (ok_kids' ok) ha.2 hb.2 h1'.2 h2'.2
theorem matches_trans {x y z : List Nd} (h : Matches x y) (h' : Matches y z) (hv : ∀ (σ : Int → List Nd), (∀ N, Word (σ N)) → x.flatMap (subN σ) = y → ∀ N, IsVarOf x N → ∀ w ∈ σ N, vOk w) : Matches x z := by
  obtain ⟨σ, h1, h2⟩ := h
  obtain ⟨τ, h3, h4⟩ := h'
  open Classical in
  refine ⟨fun N => if IsVarOf x N then (σ N).flatMap (subN τ) else [varNd 0], fun N => ?_, ?_⟩
  · dsimp only
    split
    · rename_i hN
      exact word_sub h3 (hv σ h1 h2 N hN) (h1 N)
    · exact word_var 0
  · rw [← h4, ← h2, sub_sub]
    exact sub_congr_on fun N hN => by simp [hN]
end Go.Proofs.YtojefplapklbmaaGreatDoor

/- Plain mathematics of the keys that General writes: unlike pairs of terms have unlike keys. -/
namespace Go.Proofs.YtojefplapklbmaaGreatDoor
open Go.RowKit Go.Shelf Go.Maps

def digVal (l : List UInt8) : Nat := l.foldl (fun a d => a * 10 + (d.toNat - 48)) 0
theorem dig_toNat {k : Nat} (h : k < 10) : (UInt8.ofNat (48 + k)).toNat = 48 + k := by
  simp [UInt8.toNat_ofNat']; omega
theorem dec_val : ∀ (u : Nat), digVal (Lib.decDigits u) = u ∧ ∀ d ∈ Lib.decDigits u, 48 ≤ d.toNat ∧ d.toNat ≤ 57 := by
  intro u
  induction u using Nat.strongRecOn with
  | ind u ih =>
    rw [Lib.decDigits]
    split
    · rename_i h
      refine ⟨?_, fun d hd => ?_⟩
      · simp only [digVal, List.foldl_cons, List.foldl_nil]
        rw [dig_toNat h]; omega
      · simp only [List.mem_singleton] at hd
        subst hd
        rw [dig_toNat h]; omega
    · rename_i h
      obtain ⟨h1, h2⟩ := ih (u / 10) (by omega)
      have hm : u % 10 < 10 := by omega
      refine ⟨?_, fun d hd => ?_⟩
      · unfold digVal at h1 ⊢
        rw [List.foldl_append, h1]
        simp only [List.foldl_cons, List.foldl_nil]
        rw [dig_toNat hm]; omega
      · rcases List.mem_append.1 hd with hd | hd
        · exact h2 d hd
        · simp only [List.mem_singleton] at hd
          subst hd
          rw [dig_toNat hm]; omega
theorem dec_ne (u : Nat) : Lib.decDigits u ≠ [] := by
  rw [Lib.decDigits]
  split <;> simp
theorem itoa_blank (i : Int) : ∀ d ∈ Lib.itoa i, d ≠ 32 := by
  intro d hd e
  subst e
  unfold Lib.itoa at hd
  split at hd
  · rcases List.mem_cons.1 hd with h | h
    · exact absurd h (by decide)
    · have := ((dec_val _).2 _ h).1; exact absurd this (by decide)
  · have := ((dec_val _).2 _ hd).1; exact absurd this (by decide)
theorem itoa_inj {i j : Int} (h : Lib.itoa i = Lib.itoa j) : i = j := by
  have first : ∀ {u : Nat} {l : List UInt8}, Lib.decDigits u ≠ 45 :: l := fun {u l} e => by
    have h1 := ((dec_val u).2 45 (by rw [e]; simp)).1
    exact absurd h1 (by decide)
  unfold Lib.itoa at h
  by_cases hi : i < 0 <;> by_cases hj : j < 0
  · rw [if_pos hi, if_pos hj, List.cons.injEq] at h
    have h1 := congrArg digVal h.2
    rw [(dec_val _).1, (dec_val _).1] at h1
    omega
  · rw [if_pos hi, if_neg hj] at h
    exact (first h.symm).elim
  · rw [if_neg hi, if_pos hj] at h
    exact (first h).elim
  · rw [if_neg hi, if_neg hj] at h
    have h1 := congrArg digVal h
    rw [(dec_val _).1, (dec_val _).1] at h1
    omega
theorem split_blank : ∀ {A B r r' : List UInt8}, (∀ d ∈ A, d ≠ 32) → (∀ d ∈ B, d ≠ 32) → A ++ 32 :: r = B ++ 32 :: r' → A = B ∧ r = r'
  | [], [], _, _, _, _, h => by simpa using h
  | [], b :: B, _, _, _, hB, h => by
    simp only [List.nil_append, List.cons_append, List.cons.injEq] at h
    exact (hB b (by simp) h.1.symm).elim
  | a :: A, [], _, _, hA, _, h => by
    simp only [List.nil_append, List.cons_append, List.cons.injEq] at h
    exact (hA a (by simp) h.1).elim
  | a :: A, b :: B, r, r', hA, hB, h => by
    simp only [List.cons_append, List.cons.injEq] at h
    obtain ⟨h1, h2⟩ := split_blank (fun d hd => hA d (by simp [hd])) (fun d hd => hB d (by simp [hd])) h.2
    exact ⟨by rw [h.1, h1], h2⟩
theorem num_split {i j : Int} {r r' : List UInt8} (h : Lib.itoa i ++ 32 :: r = Lib.itoa j ++ 32 :: r') : i = j ∧ r = r' := by
  obtain ⟨h1, h2⟩ := split_blank (itoa_blank i) (itoa_blank j) h
  exact ⟨itoa_inj h1, h2⟩

/-- A part, written. -/
def encN (x : Nd) : List UInt8 := Lib.itoa x.1 ++ 32 :: (Lib.itoa x.2.1 ++ 32 :: (Lib.itoa (x.2.2.2 : Nat) ++ 32 :: (Lib.itoa (x.2.2.1.length : Nat) ++ 32 :: x.2.2.1)))
def enc (c : List Nd) : List UInt8 := c.flatMap encN
theorem encN_split {x y : Nd} {r r' : List UInt8} (h : encN x ++ r = encN y ++ r') : x = y ∧ r = r' := by
  unfold encN at h
  simp only [List.append_assoc, List.cons_append] at h
  obtain ⟨h1, h⟩ := num_split h
  obtain ⟨h2, h⟩ := num_split h
  obtain ⟨h3, h⟩ := num_split h
  obtain ⟨h4, h⟩ := num_split h
  have h4' : x.2.2.1.length = y.2.2.1.length := by omega
  have h3' : x.2.2.2 = y.2.2.2 := by omega
  obtain ⟨h5, h6⟩ := List.append_inj h h4'
  refine ⟨?_, h6⟩
  obtain ⟨a, b, c, d⟩ := x
  obtain ⟨a', b', c', d'⟩ := y
  simp only at h1 h2 h3' h5
  rw [h1, h2, h3', h5]
theorem enc_split : ∀ (c c' : List Nd) (k : Nat) {r r' : List UInt8}, runW k c = some [] → runW k c' = some [] → enc c ++ r = enc c' ++ r' → c = c' ∧ r = r'
  | c, c', 0, r, r', h, h', e => by
    simp only [runW, Option.some.injEq] at h h'
    subst h h'
    exact ⟨rfl, by simpa [enc] using e⟩
  | [], _, k + 1, _, _, h, _, _ => by simp [runW] at h
  | _ :: _, [], k + 1, _, _, _, h, _ => by simp [runW] at h
  | x :: c, y :: c', k + 1, r, r', h, h', e => by
    simp only [enc, List.flatMap_cons, List.append_assoc] at e
    obtain ⟨rfl, e2⟩ := encN_split e
    simp only [runW] at h h'
    obtain ⟨rfl, e3⟩ := enc_split c c' _ h h' e2
    exact ⟨rfl, e3⟩
def keyP (p : Pr) : List UInt8 := enc p.1 ++ enc p.2
/-- Unlike pairs have unlike keys. -/
theorem keyP_inj {p q : Pr} (h1 : Word p.1) (h2 : Word p.2) (h3 : Word q.1) (h4 : Word q.2) (h : keyP p = keyP q) : p = q := by
  unfold keyP at h
  obtain ⟨e1, e2⟩ := enc_split p.1 q.1 1 h1 h3 h
  have e3 : enc p.2 ++ [] = enc q.2 ++ [] := by simpa using e2
  obtain ⟨e4, _⟩ := enc_split p.2 q.2 1 h2 h4 e3
  exact Prod.ext e1 e4
end Go.Proofs.YtojefplapklbmaaGreatDoor

