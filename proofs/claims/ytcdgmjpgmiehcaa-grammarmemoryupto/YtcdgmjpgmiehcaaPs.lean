import Derived.Test.YtcdgmjpgmiehcaaLr
/- The contracts of term.copyOf, of a binary search for a bind (term.find), and of what a variable becomes by a list of binds. -/
namespace Go.Proofs.Ytcdgmjpgmiehcaa
open Go.RowKit Go.Shelf

theorem empty_list : (⟨#[]⟩ : ByteArray).toList = [] := by rw [ByteArray.toList_eq]
theorem varV_nd (N : Int) : (varV N).nd = varNd N := by simp only [varV, varNd, TV.nd, empty_list]
theorem variable_becomes (w : World) : Becomes 43 #[] (fun N => [varNd N]) 1 w := fun N W _ _ _ =>
  (variable_any N W).mono fun _ W' h => ⟨_, h.1, h.2, by have hh := holds_leaf (varV N) rfl rfl rfl (by simp [varV, ByteArray.size]) W.heap.size W'; rw [varV_nd] at hh; exact hh⟩

theorem sub_var {n : Nat} {t : Tm n} (h : okT t = true) : (code t).flatMap (subN fun N => [varNd N]) = code t := by
  have key : ∀ l : List TV, l.all TV.ok = true → (l.map TV.nd).flatMap (subN fun N => [varNd N]) = l.map TV.nd := by
    intro l
    induction l with
    | nil => intro _; rfl
    | cons x l ih =>
      intro hl
      rw [List.all_cons, Bool.and_eq_true] at hl
      rw [List.map_cons, List.flatMap_cons, ih hl.2]
      have : subN (fun N => [varNd N]) x.nd = [x.nd] := by
        unfold subN
        by_cases hk : x.nd.1 = 1
        · rw [if_pos hk]
          have hw := hl.1
          unfold TV.ok at hw
          rcases wm_cases hw with ⟨h1, _, _, h4, h5⟩ | ⟨h1, _⟩ | ⟨h1, _⟩
          · simp [varNd, TV.nd, h1, h4, h5]
          · simp only [TV.nd] at hk; omega
          · simp only [TV.nd] at hk; omega
        · rw [if_neg hk]
      rw [this]; rfl
  exact key (parts t) h

set_option maxRecDepth 100000 in
set_option maxHeartbeats 1000000 in
/-- term.copyOf. -/
theorem copy_any {n : Nat} (t : Tm n) (W : World) (hT : IsT W.heap.size W t) (hok : okT t = true) :
    Calls Try.prog 35 #[t.tv.val] W fun e W' => ∃ x : TV, e = .returned x.val ∧ Below W.heap.size W W' ∧ HoldsT (n + 1) W.heap.size W' x.val (code t) := by
  have hB : Below W.heap.size W ((W.alloc (.cells #[.int .i64 t.tv.k, .int .i64 t.tv.N, .string t.tv.s, .slice t.tv.a t.tv.len t.tv.cap] 24)).alloc (.cells #[.int .i64 0, .int .i64 0, .string ⟨#[]⟩, .slice none 0 0] 24)) := ((Below.refl _ W).alloc (Nat.le_refl _) _).alloc (by simp) _
  have hr := replace_any 43 #[] (fun N => [varNd N]) 1 ((W.alloc (.cells #[.int .i64 t.tv.k, .int .i64 t.tv.N, .string t.tv.s, .slice t.tv.a t.tv.len t.tv.cap] 24)).alloc (.cells #[.int .i64 0, .int .i64 0, .string ⟨#[]⟩, .slice none 0 0] 24)) (Nat.le_refl _) (enters_of Try.func43 (by kernel_rfl) rfl) (variable_becomes _) n t _ (Below.refl _ _) ((hT.below hB).mono hB.size) hok
  rw [sub_var hok] at hr
  clear hT hok
  simp only [TV.val] at hr ⊢
  go_enter Try.func35, Try.ntmps35
  go_wp2_with fail
  refine hr.mono ?_
  clear hr
  rintro e W1 ⟨v, rfl, hb1, hv⟩
  obtain ⟨t1, ht1, -⟩ := hv _ (Nat.le_refl _)
  subst ht1
  have hbk := hb1.block (W.heap.size + 1) (by simp)
  have hnew := World.alloc_heap_new (W.alloc (.cells #[.int .i64 t.tv.k, .int .i64 t.tv.N, .string t.tv.s, .slice t.tv.a t.tv.len t.tv.cap] 24)) (.cells #[.int .i64 0, .int .i64 0, .string ⟨#[]⟩, .slice none 0 0] 24)
  rw [World.size_alloc] at hnew
  obtain ⟨⟨z0, z1, z2, z3⟩, y0, y1, y2, y3⟩ := zbox_kept (hbk.trans hnew)
  have hb2 := below_two hb1
  have hsz : ((W.alloc (.cells #[.int .i64 t.tv.k, .int .i64 t.tv.N, .string t.tv.s, .slice t.tv.a t.tv.len t.tv.cap] 24)).alloc (.cells #[.int .i64 0, .int .i64 0, .string ⟨#[]⟩, .slice none 0 0] 24)).heap.size = W.heap.size + 2 := by simp
  rw [hsz] at hv
  have hfin : HoldsT (n + 1) W.heap.size (set4 W1 (W.heap.size + 1) 0 t1.tv) t1.tv.val (code t) := (holds_set4 hv (by omega) 0 t1.tv).mono (Nat.le_refl _) (by omega)
  have hbf : Below W.heap.size W (set4 W1 (W.heap.size + 1) 0 t1.tv) := set4_below hb2 (by omega) 0 t1.tv
  have HF := hide hfin
  have HB := hide hbf
  clear hfin hbf hsz hv hb1 hb2 hbk hnew hB
  simp only [TV.val]
  go_wp2_with fail
  exact bodyPost_ret (v := t1.tv.val) (by simp [results, Try.results35, go_sem, TV.val, z0, z1, z2, z3]) rfl ⟨t1.tv, rfl, unhide HB, unhide HF⟩

/-- A list of binds in memory. -/
def IsL (n₀ : Nat) (W : World) {n : Nat} (a : Option Addr) (len : Nat) (bs : List (Int × Tm n)) : Prop :=
  len = bs.length ∧ len ≤ 9223372036854775807 ∧ (bs = [] ∨ ∃ b off, a = some ⟨b, off, none⟩ ∧ b < n₀ ∧ ∀ j p, bs[j]? = some p → W.cell? ⟨b, off + j * 5, none⟩ = some (.int .i64 p.1) ∧ cellsAt W b (off + j * 5 + 1) p.2.tv ∧ IsT n₀ W p.2)
theorem IsL.below {n₀ : Nat} {A B : World} (h : Below n₀ A B) {n : Nat} {a : Option Addr} {len : Nat} {bs : List (Int × Tm n)} (hl : IsL n₀ A a len bs) : IsL n₀ B a len bs := by
  obtain ⟨h1, h2, h3⟩ := hl
  refine ⟨h1, h2, ?_⟩
  rcases h3 with h3 | ⟨b, off, ha, hb, hk⟩
  · exact .inl h3
  · refine .inr ⟨b, off, ha, hb, fun j p hp => ?_⟩
    obtain ⟨k1, k2, k3⟩ := hk j p hp
    exact ⟨(h.cell (p := ⟨b, off + j * 5, none⟩) hb).trans k1, k2.kept (h.block b hb), k3.below h⟩
theorem IsL.mono {n₀ n₁ : Nat} (hle : n₀ ≤ n₁) {A : World} {n : Nat} {a : Option Addr} {len : Nat} {bs : List (Int × Tm n)} (hl : IsL n₀ A a len bs) : IsL n₁ A a len bs := by
  obtain ⟨h1, h2, h3⟩ := hl
  refine ⟨h1, h2, ?_⟩
  rcases h3 with h3 | ⟨b, off, ha, hb, hk⟩
  · exact .inl h3
  · exact .inr ⟨b, off, ha, by omega, fun j p hp => by
      obtain ⟨k1, k2, k3⟩ := hk j p hp
      exact ⟨k1, k2, k3.mono hle⟩⟩

set_option maxHeartbeats 400000 in
/-- find's closure. -/
theorem find1_any (V N : Int) (x : TV) (w : World) : Calls Try.prog 67 #[.agg #[.int .i64 V, .int .i64 x.k, .int .i64 x.N, .string x.s, .slice x.a x.len x.cap], .int .i64 N] w fun e W' => e = .returned (.int .i64 (cmp3 V N)) ∧ Below w.heap.size w W' := by
  have h := cmpl_any V N (w.alloc (.cells #[.int .i64 V, .int .i64 x.k, .int .i64 x.N, .string x.s, .slice x.a x.len x.cap] 101))
  go_enter Try.func67, Try.ntmps67
  go_wp2_with (go_at_call 68; refine h.mono ?_; rintro e w' ⟨rfl, rfl⟩)
  go_ret
  exact ⟨rfl, (Below.refl _ w).alloc (Nat.le_refl _) _⟩

/-- The j-th bind, in a later world. -/
theorem bind_at {n : Nat} {w wr : World} {a : Option Addr} {len : Nat} {bs : List (Int × Tm n)} (hl : IsL w.heap.size w a len bs) (hbw : Below w.heap.size w wr) {j : Nat} (hj : j < len) :
    ∃ V u b off, bs[j]? = some (V, u) ∧ a = some ⟨b, off, none⟩ ∧ b < w.heap.size ∧ IsT wr.heap.size wr u ∧ wr.cell? ⟨b, off + j * 5, none⟩ = some (.int .i64 V) ∧ wr.cell? ⟨b, off + j * 5 + 1, none⟩ = some (.int .i64 u.tv.k) ∧ wr.cell? ⟨b, off + j * 5 + 2, none⟩ = some (.int .i64 u.tv.N) ∧ wr.cell? ⟨b, off + j * 5 + 3, none⟩ = some (.string u.tv.s) ∧ wr.cell? ⟨b, off + j * 5 + 4, none⟩ = some (.slice u.tv.a u.tv.len u.tv.cap) := by
  obtain ⟨h1, h2, h3⟩ := hl.below hbw
  obtain ⟨p, hp⟩ : ∃ p, bs[j]? = some p := ⟨bs[j]'(by omega), List.getElem?_eq_getElem (by omega)⟩
  have hne : bs ≠ [] := by rintro rfl; simp at hp
  obtain ⟨b, off, ha, hb, hk⟩ := h3.resolve_left hne
  obtain ⟨k1, k2, k3⟩ := hk j p hp
  exact ⟨p.1, p.2, b, off, hp, ha, hb, k3.mono hbw.size, k1, k2.1, k2.2.1, k2.2.2.1, k2.2.2.2⟩

/-- Rising by Var. -/
def Rises {n : Nat} (bs : List (Int × Tm n)) : Prop := ∀ (i j : Nat) (p q : Int × Tm n), bs[i]? = some p → bs[j]? = some q → i < j → p.1 < q.1

theorem mid_wrap (x : Int) (h0 : 0 ≤ x) (h1 : x < 18446744073709551616) : IntKind.u64.wrap (wrap64 x) = x := by
  by_cases h : x < 9223372036854775808
  · have e : wrap64 x = x := by unfold wrap64; omega
    rw [e]
    simp [IntKind.wrap, IntKind.bits, IntKind.signed]; omega
  · have e : wrap64 x = x - 18446744073709551616 := by unfold wrap64; omega
    rw [e]
    simp [IntKind.wrap, IntKind.bits, IntKind.signed]; omega

set_option maxRecDepth 100000 in
set_option maxHeartbeats 1000000 in
theorem search_any {n : Nat} (bs : List (Int × Tm n)) (a : Option Addr) (len cap : Nat) (N : Int) (w : World) (hl : IsL w.heap.size w a len bs) (hri : Rises bs) :
    Calls Try.prog 66 #[.slice a len cap, .int .i64 N, .func (.func 67) #[] #[]] w fun e W' => ∃ (pos : Nat) (f : Bool), e = .returned (.tuple #[.int .i64 pos, .bool f]) ∧ Below w.heap.size w W' ∧ (f = true → ∃ p, bs[pos]? = some p ∧ p.1 = N) ∧ (f = false → ∀ p ∈ bs, p.1 ≠ N) := by
  have e41 : ∀ args w, (callFunc 67 args).run Try.prog w = .ok (.enter 67 args) w := enters_of Try.func67 (by kernel_rfl) rfl
  have h1 := hl.1
  have h2 := hl.2.1
  have hl1 : len ≤ bs.length := by omega
  have hl2 : bs.length ≤ len := by omega
  have HL := hide hl
  have HRI := hide hri
  clear h1 hl hri
  go_enter Try.func66, Try.ntmps66
  go_wp2_with fail
  go_loopw [9, 10] (fun i j wr => ∃ p q : Nat, p ≤ q ∧ q ≤ len ∧ i = .int .i64 p ∧ j = .int .i64 q ∧ Below w.heap.size w wr ∧ (∀ k z, bs[k]? = some z → k < p → z.1 < N) ∧ (∀ k z, bs[k]? = some z → q ≤ k → N ≤ z.1)) (fun i j _ => (intOf j).toNat - (intOf i).toNat)
  case atStart => exact ⟨0, len, by omega, by omega, rfl, rfl, Below.refl _ _, fun k z _ h => by omega, fun k z hz h => by have := (List.getElem?_eq_some_iff.1 hz).1; omega⟩
  case round =>
    obtain ⟨p, q, hpq, hq, rfl, rfl, hb, i1, i2⟩ := hrel
    have I1 := hide i1
    have I2 := hide i2
    clear i1 i2
    by_cases hlt : p < q
    · obtain ⟨h, hh, hp, hq'⟩ : ∃ h : Nat, ((p : Int) + (q : Int)) / 2 = (h : Int) ∧ p ≤ h ∧ h < q := ⟨(p + q) / 2, by omega, by omega, by omega⟩
      obtain ⟨V, u, b, off, hu, rfl, hbk, hT, c0, c1, c2, c3, c4⟩ := bind_at (unhide HL) hb (j := h) (by omega)
      have hf := find1_any V N u.tv wr
      have hh1 : (h : Int) < len := by omega
      have hmw : IntKind.u64.wrap (wrap64 ((p : Int) + (q : Int))) = (p : Int) + (q : Int) := mid_wrap _ (by omega) (by omega)
      have HU := hide hu
      clear hT hu
      by_cases hc : V < N
      · have hc' : cmp3 V N = -1 := (cmp3_lt hc).symm
        rw [hc'] at hf
        clear hc'
        go_wp2_with fail
        refine hf.mono ?_
        clear hf
        rintro e W2 ⟨rfl, hb2⟩
        go_wp2_with fail
        go_roundw
        case rel => exact ⟨h + 1, q, by omega, by omega, by go_num, rfl, hb.trans (hb2.mono hb.size), fun k z hz hk => by
          by_cases e : k = h
          · subst e; rw [unhide HU] at hz; cases hz; exact hc
          · have := (unhide HRI) k h z (V, u) hz (unhide HU) (by omega)
            simp at this; omega, unhide I2⟩
        case measure => simp [intOf]; omega
      · have hc' : 0 ≤ cmp3 V N := by unfold cmp3; rw [if_neg hc]; split <;> omega
        generalize cmp3 V N = r at hf hc'
        go_wp2_with fail
        refine hf.mono ?_
        clear hf
        rintro e W2 ⟨rfl, hb2⟩
        go_wp2_with fail
        go_roundw
        case rel => exact ⟨p, h, by omega, by omega, rfl, rfl, hb.trans (hb2.mono hb.size), unhide I1, fun k z hz hk => by
          by_cases e : k = h
          · subst e; rw [unhide HU] at hz; cases hz; simp; omega
          · have := (unhide HRI) h k (V, u) z (unhide HU) hz (by omega)
            simp at this; omega⟩
        case measure => simp [intOf]; omega
    · obtain rfl : p = q := by omega
      by_cases hpl : p < len
      · obtain ⟨V, u, b, off, hu, rfl, hbk, hT, c0, c1, c2, c3, c4⟩ := bind_at (unhide HL) hb (j := p) (by omega)
        have hf := find1_any V N u.tv wr
        have HU := hide hu
        clear hT hu
        have hz := @cmp3_zero V N
        have HZ := hide hz
        clear hz
        generalize cmp3 V N = r at hf HZ
        by_cases hr : r = 0
        · have hr' : (r == 0) = true := by simp [hr]
          have HR := hide hr
          clear hr
          go_wp2_with fail
          refine hf.mono ?_
          clear hf
          rintro e W2 ⟨rfl, hb2⟩
          go_wp2_with fail
          go_ret2
          exact ⟨p, true, rfl, hb.trans (hb2.mono hb.size), fun _ => ⟨_, unhide HU, (unhide HZ).1 (unhide HR)⟩, fun h => by cases h⟩
        · have hr' : (r == 0) = false := by simp [hr]
          have HR := hide hr
          clear hr
          go_wp2_with fail
          refine hf.mono ?_
          clear hf
          rintro e W2 ⟨rfl, hb2⟩
          go_wp2_with fail
          go_ret2
          refine ⟨p, false, rfl, hb.trans (hb2.mono hb.size), (fun h => by cases h), fun _ z hz => ?_⟩
          obtain ⟨k, hk⟩ := List.mem_iff_getElem?.1 hz
          by_cases e : k = p
          · subst e
            rw [unhide HU] at hk
            cases hk
            exact fun h => (unhide HR) ((unhide HZ).2 h)
          · by_cases hkp : k < p
            · have := (unhide I1) k z hk hkp; omega
            · have h1 := (unhide I2) p (V, u) (unhide HU) (by omega)
              have h2 := (unhide HRI) p k (V, u) z (unhide HU) hk (by omega)
              simp at h1 h2; omega
      · have hpl' : decide ((p : Int) < (len : Int)) = false := by simp; omega
        go_wp2_with fail
        go_ret2
        refine ⟨p, false, rfl, hb, (fun h => by cases h), fun _ z hz => ?_⟩
        obtain ⟨k, hk⟩ := List.mem_iff_getElem?.1 hz
        have hk2 := (List.getElem?_eq_some_iff.1 hk).1
        have := (unhide I1) k z hk (by omega)
        omega

set_option maxHeartbeats 400000 in
/-- term.find. -/
theorem find_any {n : Nat} (bs : List (Int × Tm n)) (a : Option Addr) (len cap : Nat) (N : Int) (w : World) (hl : IsL w.heap.size w a len bs) (hri : Rises bs) :
    Calls Try.prog 65 #[.slice a len cap, .int .i64 N] w fun e W' => ∃ (pos : Nat) (f : Bool), e = .returned (.tuple #[.int .i64 pos, .bool f]) ∧ Below w.heap.size w W' ∧ (f = true → ∃ p, bs[pos]? = some p ∧ p.1 = N) ∧ (f = false → ∀ p ∈ bs, p.1 ≠ N) := by
  have h := search_any bs a len cap N w hl hri
  clear hl hri
  go_enter Try.func65, Try.ntmps65
  go_wp2_with fail
  refine h.mono ?_
  clear h
  rintro e W1 ⟨pos, f, rfl, hb, h1, h2⟩
  have H1 := hide h1
  have H2 := hide h2
  clear h1 h2
  go_wp2_with fail
  go_ret2
  exact ⟨pos, f, rfl, hb, unhide H1, unhide H2⟩
end Go.Proofs.Ytcdgmjpgmiehcaa

/- The contracts of term.becoming and its closure: what a variable becomes by a list of binds. -/
namespace Go.Proofs.Ytcdgmjpgmiehcaa
open Go.RowKit Go.Shelf

/-- The binds by their codes. -/
def cb {n : Nat} (bs : List (Int × Tm n)) : List (Int × List Nd) := bs.map fun p => (p.1, code p.2)
/-- What a variable becomes. -/
def lookC (c : List (Int × List Nd)) (N : Int) : List Nd := match c.find? (fun p => p.1 == N) with | some p => p.2 | none => [varNd N]

theorem Rises.unique {n : Nat} {bs : List (Int × Tm n)} (h : Rises bs) {i j : Nat} {p q : Int × Tm n} (hi : bs[i]? = some p) (hj : bs[j]? = some q) (e : p.1 = q.1) : i = j := by
  by_cases h1 : i < j
  · have := h i j p q hi hj h1; omega
  · by_cases h2 : j < i
    · have := h j i q p hj hi h2; omega
    · omega
theorem lookC_some {n : Nat} {bs : List (Int × Tm n)} (h : Rises bs) {i : Nat} {p : Int × Tm n} (hi : bs[i]? = some p) : lookC (cb bs) p.1 = code p.2 := by
  unfold lookC cb
  rw [List.find?_map]
  cases hf : bs.find? ((fun q : Int × List Nd => q.1 == p.1) ∘ fun p => (p.1, code p.2)) with
  | none =>
    have := List.find?_eq_none.1 hf p (List.mem_of_getElem? hi)
    simp at this
  | some q =>
    have hq := List.find?_some hf
    simp at hq
    obtain ⟨j, hj⟩ := List.mem_iff_getElem?.1 (List.mem_of_find?_eq_some hf)
    have e := h.unique hj hi hq
    subst e
    rw [hi] at hj
    cases hj
    rfl
theorem lookC_none {n : Nat} {bs : List (Int × Tm n)} {N : Int} (h : ∀ p ∈ bs, p.1 ≠ N) : lookC (cb bs) N = [varNd N] := by
  unfold lookC cb
  rw [List.find?_map]
  have : bs.find? ((fun q : Int × List Nd => q.1 == N) ∘ fun p => (p.1, code p.2)) = none := List.find?_eq_none.2 fun p hp => by simpa using h p hp
  rw [this]; rfl

set_option maxHeartbeats 400000 in
theorem becoming_any (a : Option Addr) (len cap : Nat) (w : World) : Calls Try.prog 61 #[.slice a len cap] w fun e W' => e = .returned (.func (.func 64) #[] #[.pointer (some ⟨w.heap.size, 0, none⟩)]) ∧ W' = w.alloc (.cells #[.slice a len cap] 94) := by
  go_enter Try.func61, Try.ntmps61
  go_wp2
  go_ret
  exact ⟨rfl, rfl⟩

/-- One new block ahead of a callee that keeps what lay. -/
theorem below_one {W W1 : World} {o : Obj} (h : Below (W.alloc o).heap.size (W.alloc o) W1) : Below W.heap.size W W1 :=
  ((Below.refl _ W).alloc (Nat.le_refl _) _).trans (h.mono (by simp))

set_option maxRecDepth 100000 in
set_option maxHeartbeats 1000000 in
theorem becoming1_any {n : Nat} (bs : List (Int × Tm n)) (a : Option Addr) (len cap B : Nat) (N : Int) (W : World) (hbox : Boxed W B 94 (.slice a len cap)) (hl : IsL W.heap.size W a len bs) (hri : Rises bs) (hok : ∀ p ∈ bs, okT p.2 = true) :
    Calls Try.prog 64 #[.int .i64 N, .pointer (some ⟨B, 0, none⟩)] W fun e W' => ∃ v, e = .returned v ∧ Below W.heap.size W W' ∧ HoldsT (n + 1) W.heap.size W' v (lookC (cb bs) N) := by
  have hbox1 := hbox.alloc (.cells #[.int .i64 0, .int .i64 0, .string ⟨#[]⟩, .slice none 0 0] 24)
  have cB := hbox1.cell
  have hB1 : Below W.heap.size W (W.alloc (.cells #[.int .i64 0, .int .i64 0, .string ⟨#[]⟩, .slice none 0 0] 24)) := (Below.refl _ W).alloc (Nat.le_refl _) _
  have hlt := hbox.lt
  have hnew := World.alloc_heap_new W (.cells #[.int .i64 0, .int .i64 0, .string ⟨#[]⟩, .slice none 0 0] 24)
  have hf := find_any bs a len cap N (W.alloc (.cells #[.int .i64 0, .int .i64 0, .string ⟨#[]⟩, .slice none 0 0] 24)) ((hl.below hB1).mono hB1.size) hri
  go_enter Try.func64, Try.ntmps64
  have HL := hide hl
  have HRI := hide hri
  have HOK := hide hok
  have HNEW := hide hnew
  have HBOX := hide hbox1
  clear hl hri hok hnew hbox hbox1
  go_wp2_with fail
  refine hf.mono ?_
  clear hf
  rintro e W1 ⟨pos, f, rfl, hb1, h1, h2⟩
  have H1 := hide h1
  have H2 := hide h2
  clear h1 h2 cB
  have hbz : W1.heap[W.heap.size]? = some (.cells #[.int .i64 0, .int .i64 0, .string ⟨#[]⟩, .slice none 0 0] 24 (0, 0)) := (hb1.block W.heap.size (by simp)).trans (unhide HNEW)
  have HBZ := hide hbz
  clear hbz
  have hbo : Boxed W1 B 94 (.slice a len cap) := (hb1.block B (by simp; omega)).trans (unhide HBOX)
  have cB := hbo.cell
  clear hbo
  have hb01 := below_one hb1
  cases f with
  | true =>
    obtain ⟨p, hp, hpN⟩ := (unhide H1) rfl
    have hpl : pos < len := by have := (unhide HL).1; have := (List.getElem?_eq_some_iff.1 hp).1; omega
    obtain ⟨V, u, b, off, hu, rfl, hbk, hT, c0, c1, c2, c3, c4⟩ := bind_at (unhide HL) hb01 hpl
    rw [hu] at hp
    cases hp
    simp only at hpN
    have hcp := copy_any u W1 hT ((unhide HOK) _ (List.mem_of_getElem? hu))
    have hlk := lookC_some (unhide HRI) hu
    simp only at hlk
    rw [hpN] at hlk
    have HLK := hide hlk
    simp only [TV.val] at hcp
    have hj1 : (pos : Int) < len := by omega
    clear hT hu hlk hpN c0
    go_wp2_with fail
    refine hcp.mono ?_
    clear hcp
    rintro e W2 ⟨x, rfl, hb2, hv⟩
    obtain ⟨⟨z0, z1, z2, z3⟩, y0, y1, y2, y3⟩ := zbox_kept ((hb2.block W.heap.size (by have := hb1.size; simp at this; omega)).trans (unhide HBZ))
    have hs1 : W.heap.size + 1 ≤ W1.heap.size := by have := hb1.size; simpa using this
    have hfin : HoldsT (n + 1) W.heap.size (set4 W2 W.heap.size 0 x) x.val (lookC (cb bs) N) := by rw [unhide HLK]; exact (holds_set4 hv (by omega) 0 x).mono (Nat.le_refl _) (by omega)
    have hbf : Below W.heap.size W (set4 W2 W.heap.size 0 x) := set4_below (hb01.trans (hb2.mono hb01.size)) (Nat.le_refl _) 0 x
    have HF := hide hfin
    have HB := hide hbf
    clear hfin hbf hv hb2 hb1 hb01 hB1
    dsimp only [TV.val]
    go_wp2_with fail
    exact bodyPost_ret (v := x.val) (by simp [results, Try.results64, go_sem, TV.val, z0, z1, z2, z3]) rfl ⟨x.val, rfl, unhide HB, unhide HF⟩
  | false =>
    have HLK := hide (lookC_none ((unhide H2) rfl))
    have hcp := variable_any N W1
    simp only [TV.val, varV] at hcp
    go_wp2_with fail
    refine hcp.mono ?_
    clear hcp
    rintro e W2 ⟨rfl, hb2⟩
    obtain ⟨⟨z0, z1, z2, z3⟩, y0, y1, y2, y3⟩ := zbox_kept ((hb2.block W.heap.size (by have := hb1.size; simp at this; omega)).trans (unhide HBZ))
    have hfin : HoldsT (n + 1) W.heap.size (set4 W2 W.heap.size 0 (varV N)) (varV N).val (lookC (cb bs) N) := by
      rw [unhide HLK]
      have hh := holds_leaf (varV N) rfl rfl rfl (by simp [varV, ByteArray.size]) W.heap.size (set4 W2 W.heap.size 0 (varV N))
      rw [varV_nd] at hh
      exact hh.mono (by omega) (Nat.le_refl _)
    have hbf : Below W.heap.size W (set4 W2 W.heap.size 0 (varV N)) := set4_below (hb01.trans (hb2.mono hb01.size)) (Nat.le_refl _) 0 _
    have HF := hide hfin
    have HB := hide hbf
    clear hfin hbf hb2 hb1 hb01 hB1
    go_wp2_with fail
    exact bodyPost_ret (v := (varV N).val) (by simp [results, Try.results64, go_sem, TV.val, varV, z0, z1, z2, z3]) rfl ⟨(varV N).val, rfl, unhide HB, unhide HF⟩

/-- A list of binds says what a variable becomes. -/
theorem becoming_becomes {n : Nat} (bs : List (Int × Tm n)) (a : Option Addr) (len cap B : Nat) (w : World) (hbox : Boxed w B 94 (.slice a len cap)) (hl : IsL w.heap.size w a len bs) (hri : Rises bs) (hok : ∀ p ∈ bs, okT p.2 = true) :
    Becomes 64 #[.pointer (some ⟨B, 0, none⟩)] (lookC (cb bs)) (n + 1) w := fun N W _ _ hb =>
  becoming1_any bs a len cap B N W ((hb.block B hbox.lt).trans hbox) ((hl.below hb).mono hb.size) hri hok
end Go.Proofs.Ytcdgmjpgmiehcaa

