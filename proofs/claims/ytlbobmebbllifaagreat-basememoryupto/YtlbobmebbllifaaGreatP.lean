import Derived.Test.YtlbobmebbllifaaGreatLr
/- The contracts of term.copyOf, of a binary search for a bind (term.find), and of what a variable becomes by a list of binds. -/
namespace Go.Proofs.YtlbobmebbllifaaGreat
set_option maxHeartbeats 1000000
set_option maxRecDepth 100000
open Go.RowKit Go.Shelf
theorem empty_list : (⟨#[]⟩ : ByteArray).toList = [] := by rw [ByteArray.toList_eq]
theorem varV_nd (N : Int) : (varV N).nd = varNd N := by simp only [varV, varNd, TV.nd, empty_list]
theorem variable_becomes (w : World) : Becomes 63 #[] (fun N => [varNd N]) 1 w := fun N W _ _ _ =>
 (variable_any N W).mono fun _ W' h => ⟨_, h.1, h.2, by have hh := holds_leaf (varV N) rfl rfl rfl (by simp [varV, ByteArray.size]) W.heap.size W'; rw [varV_nd] at hh; exact hh⟩
theorem sub_var {n : Nat} {t : Tm n} (h : okT t = true) : (code t).flatMap (subN fun N => [varNd N]) = code t := by
 have key : ∀ l : List TV, l.all TV.ok = true → (l.map TV.nd).flatMap (subN fun N => [varNd N]) = l.map TV.nd := by
  intro l
  induction l with
  | nil => intro _; rfl
  | cons x l ih =>
   intro hl
   rw [List.all_cons, Bool.and_eq_true] at hl
   rw [List.map_cons, List.flatMap_cons, ih hl.2]
   have : subN (fun N => [varNd N]) x.nd = [x.nd] := by
    unfold subN
    by_cases hk : x.nd.1 = 1
    ·rw [if_pos hk]
     have hw := hl.1
     unfold TV.ok at hw
     rcases wm_cases hw with ⟨h1, _, _, h4, h5⟩ | ⟨h1, _⟩ | ⟨h1, _⟩
     ·simp [varNd, TV.nd, h1, h4, h5]
     ·simp only [TV.nd] at hk; omega
     ·simp only [TV.nd] at hk; omega
    ·rw [if_neg hk]
   rw [this]; rfl
 exact key (parts t) h
theorem copy_any {n : Nat} (t : Tm n) (W : World) (hT : IsT W.heap.size W t) (hok : okT t = true) :
  Calls Tryz.prog 56 #[t.tv.val] W fun e W' => ∃ x : TV, e = .returned x.val ∧ Below W.heap.size W W' ∧ HoldsT (n + 1) W.heap.size W' x.val (code t) := by
 have hB : Below W.heap.size W ((W.alloc (.cells #[.int .i64 t.tv.k, .int .i64 t.tv.N, .string t.tv.s, .slice t.tv.a t.tv.len t.tv.cap] 24)).alloc (.cells #[.int .i64 0, .int .i64 0, .string ⟨#[]⟩, .slice none 0 0] 24)) := ((Below.refl _ W).alloc (Nat.le_refl _) _).alloc (by simp) _
 have hr := replace_any 63 #[] (fun N => [varNd N]) 1 ((W.alloc (.cells #[.int .i64 t.tv.k, .int .i64 t.tv.N, .string t.tv.s, .slice t.tv.a t.tv.len t.tv.cap] 24)).alloc (.cells #[.int .i64 0, .int .i64 0, .string ⟨#[]⟩, .slice none 0 0] 24)) (Nat.le_refl _) (enters_of Tryz.func63 (by kernel_rfl) rfl) (variable_becomes _) n t _ (Below.refl _ _) ((hT.below hB).mono hB.size) hok
 rw [sub_var hok] at hr
 clear hT hok
 simp only [TV.val] at hr ⊢
 go_enter Tryz.func56, Tryz.ntmps56
 go_wp2_with fail
 refine hr.mono ?_
 clear hr
 rintro e W1 ⟨v, rfl, hb1, hv⟩
 obtain ⟨t1, ht1, -⟩ := hv _ (Nat.le_refl _)
 subst ht1
 have hbk := hb1.block (W.heap.size + 1) (by simp)
 have hnew := World.alloc_heap_new (W.alloc (.cells #[.int .i64 t.tv.k, .int .i64 t.tv.N, .string t.tv.s, .slice t.tv.a t.tv.len t.tv.cap] 24)) (.cells #[.int .i64 0, .int .i64 0, .string ⟨#[]⟩, .slice none 0 0] 24)
 rw [World.size_alloc] at hnew
 obtain ⟨⟨z0, z1, z2, z3⟩, y0, y1, y2, y3⟩ := zbox_kept (hbk.trans hnew)
 have hb2 := below_two hb1
 have hsz : ((W.alloc (.cells #[.int .i64 t.tv.k, .int .i64 t.tv.N, .string t.tv.s, .slice t.tv.a t.tv.len t.tv.cap] 24)).alloc (.cells #[.int .i64 0, .int .i64 0, .string ⟨#[]⟩, .slice none 0 0] 24)).heap.size = W.heap.size + 2 := by simp
 rw [hsz] at hv
 have hfin : HoldsT (n + 1) W.heap.size (set4 W1 (W.heap.size + 1) 0 t1.tv) t1.tv.val (code t) := (holds_set4 hv (by omega) 0 t1.tv).mono (Nat.le_refl _) (by omega)
 have hbf : Below W.heap.size W (set4 W1 (W.heap.size + 1) 0 t1.tv) := set4_below hb2 (by omega) 0 t1.tv
 have HF := hide hfin
 have HB := hide hbf
 clear hfin hbf hsz hv hb1 hb2 hbk hnew hB
 simp only [TV.val]
 go_wp2_with fail
 exact bodyPost_ret (v := t1.tv.val) (by simp [results, Tryz.results56, go_sem, TV.val, z0, z1, z2, z3]) rfl ⟨t1.tv, rfl, unhide HB, unhide HF⟩
def IsL (n₀ : Nat) (W : World) {n : Nat} (a : Option Addr) (len : Nat) (bs : List (Int × Tm n)) : Prop :=
 len = bs.length ∧ len ≤ 9223372036854775807 ∧ (bs = [] ∨ ∃ b off, a = some ⟨b, off, none⟩ ∧ b < n₀ ∧ ∀ j p, bs[j]? = some p → W.cell? ⟨b, off + j * 5, none⟩ = some (.int .i64 p.1) ∧ cellsAt W b (off + j * 5 + 1) p.2.tv ∧ IsT n₀ W p.2)
theorem IsL.below {n₀ : Nat} {A B : World} (h : Below n₀ A B) {n : Nat} {a : Option Addr} {len : Nat} {bs : List (Int × Tm n)} (hl : IsL n₀ A a len bs) : IsL n₀ B a len bs := by
 obtain ⟨h1, h2, h3⟩ := hl
 refine ⟨h1, h2, ?_⟩
 rcases h3 with h3 | ⟨b, off, ha, hb, hk⟩
 ·exact .inl h3
 ·refine .inr ⟨b, off, ha, hb, fun j p hp => ?_⟩
  obtain ⟨k1, k2, k3⟩ := hk j p hp
  exact ⟨(h.cell (p := ⟨b, off + j * 5, none⟩) hb).trans k1, k2.kept (h.block b hb), k3.below h⟩
theorem IsL.mono {n₀ n₁ : Nat} (hle : n₀ ≤ n₁) {A : World} {n : Nat} {a : Option Addr} {len : Nat} {bs : List (Int × Tm n)} (hl : IsL n₀ A a len bs) : IsL n₁ A a len bs := by
 obtain ⟨h1, h2, h3⟩ := hl
 refine ⟨h1, h2, ?_⟩
 rcases h3 with h3 | ⟨b, off, ha, hb, hk⟩
 ·exact .inl h3
 ·exact .inr ⟨b, off, ha, by omega, fun j p hp => by
   obtain ⟨k1, k2, k3⟩ := hk j p hp
   exact ⟨k1, k2, k3.mono hle⟩⟩
theorem find1_any (V N : Int) (x : TV) (w : World) : Calls Tryz.prog 97 #[.agg #[.int .i64 V, .int .i64 x.k, .int .i64 x.N, .string x.s, .slice x.a x.len x.cap], .int .i64 N] w fun e W' => e = .returned (.int .i64 (cmp3 V N)) ∧ Below w.heap.size w W' := by
 have h := cmpl_any V N (w.alloc (.cells #[.int .i64 V, .int .i64 x.k, .int .i64 x.N, .string x.s, .slice x.a x.len x.cap] 148))
 go_enter Tryz.func97, Tryz.ntmps97
 go_wp2_with (go_at_call 98; refine h.mono ?_; rintro e w' ⟨rfl, rfl⟩)
 go_ret
 exact ⟨rfl, (Below.refl _ w).alloc (Nat.le_refl _) _⟩
theorem bind_at {n : Nat} {w wr : World} {a : Option Addr} {len : Nat} {bs : List (Int × Tm n)} (hl : IsL w.heap.size w a len bs) (hbw : Below w.heap.size w wr) {j : Nat} (hj : j < len) :
  ∃ V u b off, bs[j]? = some (V, u) ∧ a = some ⟨b, off, none⟩ ∧ b < w.heap.size ∧ IsT wr.heap.size wr u ∧ wr.cell? ⟨b, off + j * 5, none⟩ = some (.int .i64 V) ∧ wr.cell? ⟨b, off + j * 5 + 1, none⟩ = some (.int .i64 u.tv.k) ∧ wr.cell? ⟨b, off + j * 5 + 2, none⟩ = some (.int .i64 u.tv.N) ∧ wr.cell? ⟨b, off + j * 5 + 3, none⟩ = some (.string u.tv.s) ∧ wr.cell? ⟨b, off + j * 5 + 4, none⟩ = some (.slice u.tv.a u.tv.len u.tv.cap) := by
 obtain ⟨h1, h2, h3⟩ := hl.below hbw
 obtain ⟨p, hp⟩ : ∃ p, bs[j]? = some p := ⟨bs[j]'(by omega), List.getElem?_eq_getElem (by omega)⟩
 have hne : bs ≠ [] := by rintro rfl; simp at hp
 obtain ⟨b, off, ha, hb, hk⟩ := h3.resolve_left hne
 obtain ⟨k1, k2, k3⟩ := hk j p hp
 exact ⟨p.1, p.2, b, off, hp, ha, hb, k3.mono hbw.size, k1, k2.1, k2.2.1, k2.2.2.1, k2.2.2.2⟩
def Rises {n : Nat} (bs : List (Int × Tm n)) : Prop := ∀ (i j : Nat) (p q : Int × Tm n), bs[i]? = some p → bs[j]? = some q → i < j → p.1 < q.1
theorem mid_wrap (x : Int) (h0 : 0 ≤ x) (h1 : x < 18446744073709551616) : IntKind.u64.wrap (wrap64 x) = x := by
 by_cases h : x < 9223372036854775808
 ·have e : wrap64 x = x := by unfold wrap64; omega
  rw [e]
  simp [IntKind.wrap, IntKind.bits, IntKind.signed]; omega
 ·have e : wrap64 x = x - 18446744073709551616 := by unfold wrap64; omega
  rw [e]
  simp [IntKind.wrap, IntKind.bits, IntKind.signed]; omega
theorem search_any {n : Nat} (bs : List (Int × Tm n)) (a : Option Addr) (len cap : Nat) (N : Int) (w : World) (hl : IsL w.heap.size w a len bs) (hri : Rises bs) :
  Calls Tryz.prog 96 #[.slice a len cap, .int .i64 N, .func (.func 97) #[] #[]] w fun e W' => ∃ (pos : Nat) (f : Bool), e = .returned (.tuple #[.int .i64 pos, .bool f]) ∧ Below w.heap.size w W' ∧ (f = true → ∃ p, bs[pos]? = some p ∧ p.1 = N) ∧ (f = false → ∀ p ∈ bs, p.1 ≠ N) := by
 have e41 : ∀ args w, (callFunc 97 args).run Tryz.prog w = .ok (.enter 97 args) w := enters_of Tryz.func97 (by kernel_rfl) rfl
 have h1 := hl.1
 have h2 := hl.2.1
 have hl1 : len ≤ bs.length := by omega
 have hl2 : bs.length ≤ len := by omega
 have HL := hide hl
 have HRI := hide hri
 clear h1 hl hri
 go_enter Tryz.func96, Tryz.ntmps96
 go_wp2_with fail
 go_loopw [9, 10] (fun i j wr => ∃ p q : Nat, p ≤ q ∧ q ≤ len ∧ i = .int .i64 p ∧ j = .int .i64 q ∧ Below w.heap.size w wr ∧ (∀ k z, bs[k]? = some z → k < p → z.1 < N) ∧ (∀ k z, bs[k]? = some z → q ≤ k → N ≤ z.1)) (fun i j _ => (intOf j).toNat - (intOf i).toNat)
 case atStart => exact ⟨0, len, by omega, by omega, rfl, rfl, Below.refl _ _, fun k z _ h => by omega, fun k z hz h => by have := (List.getElem?_eq_some_iff.1 hz).1; omega⟩
 case round =>
  obtain ⟨p, q, hpq, hq, rfl, rfl, hb, i1, i2⟩ := hrel
  have I1 := hide i1
  have I2 := hide i2
  clear i1 i2
  by_cases hlt : p < q
  ·obtain ⟨h, hh, hp, hq'⟩ : ∃ h : Nat, ((p : Int) + (q : Int)) / 2 = (h : Int) ∧ p ≤ h ∧ h < q := ⟨(p + q) / 2, by omega, by omega, by omega⟩
   obtain ⟨V, u, b, off, hu, rfl, hbk, hT, c0, c1, c2, c3, c4⟩ := bind_at (unhide HL) hb (j := h) (by omega)
   have hf := find1_any V N u.tv wr
   have hh1 : (h : Int) < len := by omega
   have hmw : IntKind.u64.wrap (wrap64 ((p : Int) + (q : Int))) = (p : Int) + (q : Int) := mid_wrap _ (by omega) (by omega)
   have HU := hide hu
   clear hT hu
   by_cases hc : V < N
   ·have hc' : cmp3 V N = -1 := (cmp3_lt hc).symm
    rw [hc'] at hf
    clear hc'
    go_wp2_with fail
    refine hf.mono ?_
    clear hf
    rintro e W2 ⟨rfl, hb2⟩
    go_wp2_with fail
    go_roundw
    case rel => exact ⟨h + 1, q, by omega, by omega, by go_num, rfl, hb.trans (hb2.mono hb.size), fun k z hz hk => by
     by_cases e : k = h
     ·subst e; rw [unhide HU] at hz; cases hz; exact hc
     ·have := (unhide HRI) k h z (V, u) hz (unhide HU) (by omega)
      simp at this; omega, unhide I2⟩
    case measure => simp [intOf]; omega
   ·have hc' : 0 ≤ cmp3 V N := by unfold cmp3; rw [if_neg hc]; split <;> omega
    generalize cmp3 V N = r at hf hc'
    go_wp2_with fail
    refine hf.mono ?_
    clear hf
    rintro e W2 ⟨rfl, hb2⟩
    go_wp2_with fail
    go_roundw
    case rel => exact ⟨p, h, by omega, by omega, rfl, rfl, hb.trans (hb2.mono hb.size), unhide I1, fun k z hz hk => by
     by_cases e : k = h
     ·subst e; rw [unhide HU] at hz; cases hz; simp; omega
     ·have := (unhide HRI) h k (V, u) z (unhide HU) hz (by omega)
      simp at this; omega⟩
    case measure => simp [intOf]; omega
  ·obtain rfl : p = q := by omega
   by_cases hpl : p < len
   ·obtain ⟨V, u, b, off, hu, rfl, hbk, hT, c0, c1, c2, c3, c4⟩ := bind_at (unhide HL) hb (j := p) (by omega)
    have hf := find1_any V N u.tv wr
    have HU := hide hu
    clear hT hu
    have hz := @cmp3_zero V N
    have HZ := hide hz
    clear hz
    generalize cmp3 V N = r at hf HZ
    by_cases hr : r = 0
    ·have hr' : (r == 0) = true := by simp [hr]
     have HR := hide hr
     clear hr
     go_wp2_with fail
     refine hf.mono ?_
     clear hf
     rintro e W2 ⟨rfl, hb2⟩
     go_wp2_with fail
     go_ret2
     exact ⟨p, true, rfl, hb.trans (hb2.mono hb.size), fun _ => ⟨_, unhide HU, (unhide HZ).1 (unhide HR)⟩, fun h => by cases h⟩
    ·have hr' : (r == 0) = false := by simp [hr]
     have HR := hide hr
     clear hr
     go_wp2_with fail
     refine hf.mono ?_
     clear hf
     rintro e W2 ⟨rfl, hb2⟩
     go_wp2_with fail
     go_ret2
     refine ⟨p, false, rfl, hb.trans (hb2.mono hb.size), (fun h => by cases h), fun _ z hz => ?_⟩
     obtain ⟨k, hk⟩ := List.mem_iff_getElem?.1 hz
     by_cases e : k = p
     ·subst e
      rw [unhide HU] at hk
      cases hk
      exact fun h => (unhide HR) ((unhide HZ).2 h)
     ·by_cases hkp : k < p
      ·have := (unhide I1) k z hk hkp; omega
      ·have h1 := (unhide I2) p (V, u) (unhide HU) (by omega)
       have h2 := (unhide HRI) p k (V, u) z (unhide HU) hk (by omega)
       simp at h1 h2; omega
   ·have hpl' : decide ((p : Int) < (len : Int)) = false := by simp; omega
    go_wp2_with fail
    go_ret2
    refine ⟨p, false, rfl, hb, (fun h => by cases h), fun _ z hz => ?_⟩
    obtain ⟨k, hk⟩ := List.mem_iff_getElem?.1 hz
    have hk2 := (List.getElem?_eq_some_iff.1 hk).1
    have := (unhide I1) k z hk (by omega)
    omega
theorem find_any {n : Nat} (bs : List (Int × Tm n)) (a : Option Addr) (len cap : Nat) (N : Int) (w : World) (hl : IsL w.heap.size w a len bs) (hri : Rises bs) :
  Calls Tryz.prog 83 #[.slice a len cap, .int .i64 N] w fun e W' => ∃ (pos : Nat) (f : Bool), e = .returned (.tuple #[.int .i64 pos, .bool f]) ∧ Below w.heap.size w W' ∧ (f = true → ∃ p, bs[pos]? = some p ∧ p.1 = N) ∧ (f = false → ∀ p ∈ bs, p.1 ≠ N) := by
 have h := search_any bs a len cap N w hl hri
 clear hl hri
 go_enter Tryz.func83, Tryz.ntmps83
 go_wp2_with fail
 refine h.mono ?_
 clear h
 rintro e W1 ⟨pos, f, rfl, hb, h1, h2⟩
 have H1 := hide h1
 have H2 := hide h2
 clear h1 h2
 go_wp2_with fail
 go_ret2
 exact ⟨pos, f, rfl, hb, unhide H1, unhide H2⟩
end Go.Proofs.YtlbobmebbllifaaGreat
