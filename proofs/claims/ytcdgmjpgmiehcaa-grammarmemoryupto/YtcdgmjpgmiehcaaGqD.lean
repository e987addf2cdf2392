import Derived.Test.YtcdgmjpgmiehcaaGqC
/- grammar's reach. -/
namespace Go.Proofs.Ytcdgmjpgmiehcaa
open Go.RowKit Go.Shelf

theorem end_copy : ∀ {n : Nat} (u : Tm n), Wl u → okT u = true → ∀ {m : Nat} (t : Tm m), Wl t → code t = code u → ∀ r, endC t r = endC u r := by
  intro n
  induction n with
  | zero => intro u; exact Empty.elim u
  | succ n ih =>
    intro u hu ok m t ht h r
    cases m with
    | zero => exact Empty.elim t
    | succ m =>
      have h' : code t = renC (fun N => N) (code u) := by rw [renC_id (by rw [← okT_m]; exact ok)]; exact h
      have hb0 := fun s i => isB_ren (fun N => N) hu ok h' s i
      obtain ⟨x, kids⟩ := u
      obtain ⟨y, ky⟩ := t
      have hb : ∀ s i, isB y s i = isB x s i := hb0
      rw [endC_succ, endC_succ, hb]
      cases hx : isB x [46] 2 with
      | false => simp
      | true =>
        have k1 := isB_kind hx
        obtain ⟨e1, e2⟩ := renV_root _ k1 h'
        have hl : x.len = 2 := by have := isB_len hx; omega
        obtain ⟨a, b, rfl⟩ := two_kids hu hl
        obtain ⟨a', b', rfl⟩ := two_kids ht (by rw [(nd_parts e1).2.2.2]; exact hl)
        obtain ⟨c1, c2⟩ := ren_kids2 _ hu ok ht e2
        have hk := (ok_kids ok).2
        rw [renC_id (by rw [← okT_m]; exact hk a (by simp))] at c1
        rw [renC_id (by rw [← okT_m]; exact hk b (by simp))] at c2
        have hwk : ∀ z ∈ [a, b], Wl z := hu.2
        have hwk' : ∀ z ∈ [a', b'], Wl z := ht.2
        rw [if_pos rfl, if_pos rfl]
        show y.nd :: (code a' ++ endC b' r) = x.nd :: (code a ++ endC b r)
        rw [e1, c1, ih b (hwk b (by simp)) (hk b (by simp)) b' (hwk' b' (by simp)) c2 r]
theorem PtK.lt {D w0 q : Nat} {f0 : Int} {vs : List Int} {V : World} {s : List Nd} (h : PtK D w0 f0 vs V q s) : q < V.heap.size := by obtain ⟨x, h, _⟩ := h; exact h.lt
theorem PtIs.lt {D w0 q : Nat} {f0 : Int} {vs : List Int} {V : World} {s : List Nd} (h : PtIs D w0 f0 vs V q s) : q < V.heap.size := by
  rcases h with h | ⟨v, _, _, _, h⟩
  · exact h.lt
  · exact h.lt
theorem PtK.low {D w0 q : Nat} {f0 : Int} {vs : List Int} {V V' : World} {s : List Nd} (h : PtK D w0 f0 vs V q s) (hq : w0 ≤ q) (hb : Below V.heap.size V V') : PtK D w0 f0 vs V' q s :=
  h.kept (hb.block q h.lt) (fun b hb' => hb.block b (by have := h.lt; omega)) hb.size []
theorem PtIs.low {D w0 q : Nat} {f0 : Int} {vs : List Int} {V V' : World} {s : List Nd} (h : PtIs D w0 f0 vs V q s) (hq : w0 ≤ q) (hb : Below V.heap.size V V') : PtIs D w0 f0 vs V' q s := by
  rcases h with h | ⟨v, h1, h2, h3, h4⟩
  · exact .inl (h.low hq hb)
  · exact .inr ⟨v, h1, h2, h3, h4.kept (hb.block q h4.lt)⟩
theorem PtB.ne_wr {W : World} {q wb : Nat} {x : TV} {b : Bool} {n : Int} {l : Value} (h : PtB W q x b) (hw : WrB W wb n l) : wb ≠ q := fun e => by
  subst e
  have e1 := (show W.heap[wb]? = _ from h).symm.trans (show W.heap[wb]? = _ from hw)
  cases e1
/-- The second point is written where the first is known. -/
theorem written_two {D w0 wb pf pt : Nat} {f0 : Int} {vs : List Int} {V : World} {s r : List Nd} {lf : Value} (hD1 : 1 ≤ D) (hD : D ≤ 2199023255552) (hp : PtK D w0 f0 vs V pf s) (hq : PtIs D w0 f0 vs V pt r) (hw : WrB V wb (f0 + vs.length) lf) (hw0 : w0 ≤ wb) (hp0 : w0 ≤ pf) (hq0 : w0 ≤ pt) (h0 : 0 ≤ f0) (h40 : ¬ Come f0 vs r → f0 + vs.length ≤ 1099511627776) :
    Calls Try.prog 47 #[.pointer (some ⟨wb, 0, none⟩), .pointer (some ⟨pt, 0, none⟩)] V fun e V' => ∃ y : TV, e = .returned y.val ∧ HoldsT (D + 1) V.heap.size V' y.val (renC (newR f0 (extV f0 vs r)) r) ∧ PtK D w0 f0 (extV f0 vs r) V' pf s ∧ PtK D w0 f0 (extV f0 vs r) V' pt r ∧ WrB V' wb (f0 + (extV f0 vs r).length) lf ∧ GrB (fun k => k = wb ∨ k = pt) V.heap.size V V' := by
  rcases hq with hq | ⟨v, rfl, hv, hvs, hq⟩
  · have e : extV f0 vs r = vs := by
      obtain ⟨x, _, _, _, h4⟩ := hq
      exact h4.stay
    rw [e]
    exact (written_known hD hq hw hq0).mono fun e V' h => by
      obtain ⟨y, h1, h2, h3, h4, h5⟩ := h
      exact ⟨y, h1, h2, hp.low hp0 h5, h3, h4, GrB.of_below h5⟩
  · have hne : pf ≠ pt := fun e => by
      subst e
      obtain ⟨x, hx, _⟩ := hp
      have e1 := (show V.heap[pf]? = _ from hx).symm.trans (show V.heap[pf]? = _ from hq)
      simp at e1
    have hpw : wb ≠ pf := by obtain ⟨x, hx, _⟩ := hp; exact hx.ne_wr hw
    have hlt := hp.lt
    refine (written_any (w0 := w0) hD1 hD (.inr ⟨v, rfl, hv, hvs, hq⟩) hw (hq.ne_wr hw) hq0 h0 (h40 fun hc => hvs (hc v ⟨varNd v, by simp, rfl, rfl⟩ hv))).mono fun e V' h => ?_
    obtain ⟨y, h1, h2, h3, h4, h5⟩ := h
    exact ⟨y, h1, h2, hp.kept (h5.block pf hlt (fun hx => hx.elim (fun h => hpw h.symm) hne)) (fun b hb => h5.block b (by omega) (fun hx => by rcases hx with h | h <;> omega)) h5.size _, h3, h4, h5⟩
theorem cellsAt.spot {W : World} {b o : Nat} {x : TV} (h : cellsAt W b o x) : W.cell? ⟨b, o, none⟩ = some (.int .i64 x.k) ∧ W.cell? ⟨b, o + 1, none⟩ = some (.int .i64 x.N) ∧ W.cell? ⟨b, o + 2, none⟩ = some (.string x.s) ∧ W.cell? ⟨b, o + 3, none⟩ = some (.slice x.a x.len x.cap) := h
theorem Rows.spots {W : World} : ∀ {n : Nat} {t : Tm n}, Rows W t → IsT W.heap.size W t → ∀ b o, Spot W b o → Spot W (endA t b o).1 (endA t b o).2 := by
  intro n
  induction n with
  | zero => intro t; exact Empty.elim t
  | succ n ih =>
    intro t hr hT b o hs
    obtain ⟨x, kids⟩ := t
    cases hx : isB x [46] 2 with
    | false => rw [endA_no hx]; exact hs
    | true =>
      have hl : x.len = 2 := by have := isB_len hx; omega
      obtain ⟨u, v, rfl⟩ := two_kids hT.wl hl
      obtain ⟨r1, r2⟩ := hr
      rcases r1 with r1 | ⟨B, arr, ha, hB, hz, _⟩
      · cases r1.1
      · rw [endA_yes hx ha]
        rcases hT.2.2.2 with h4 | ⟨b', off, ha', _, hk⟩
        · cases h4
        · refine ih (r2 v (by simp [Tm.kids])) (hk 1 v rfl).2 B (0 + 4) ⟨arr, _, hB, ?_⟩
          have hz' : arr.size = x.len * 4 := hz
          omega
theorem tmBlk {x : TV} : (.agg #[.int .i64 x.k, .int .i64 x.N, .string x.s, .slice x.a x.len x.cap] : Value) = x.val := rfl
/-- A row of two terms is laid, and a compound of it. -/
theorem row_two {D lo : Nat} {S : World} {x y : TV} {cx cy : List Nd} {s : ByteArray} (hs : s.size ≤ 9223372036854775807) (hx : HoldsG anyP D lo S x.val cx) (hy : HoldsG anyP D lo S y.val cy) (hlo : lo ≤ S.heap.size) :
    HoldsG anyP (D + 1) lo (S.alloc (.cells #[.int .i64 x.k, .int .i64 x.N, .string x.s, .slice x.a x.len x.cap, .int .i64 y.k, .int .i64 y.N, .string y.s, .slice y.a y.len y.cap] 24)) (compV s (some ⟨S.heap.size, 0, none⟩) 2 2).val ((4, 0, s.toList, 2) :: (cx ++ cy)) := by
  have hb : Below S.heap.size S (S.alloc (.cells #[.int .i64 x.k, .int .i64 x.N, .string x.s, .slice x.a x.len x.cap, .int .i64 y.k, .int .i64 y.N, .string y.s, .slice y.a y.len y.cap] 24)) := (Below.refl _ S).alloc (Nat.le_refl _) _
  have hn := World.alloc_heap_new S (.cells #[.int .i64 x.k, .int .i64 x.N, .string x.s, .slice x.a x.len x.cap, .int .i64 y.k, .int .i64 y.N, .string y.s, .slice y.a y.len y.cap] 24)
  have := comp_G (P := anyP) (D := D) (lo := lo) (g := S.heap.size) (cap := 2) (s := s) (xs := [x, y]) (cs := [cx, cy]) hs (by simp) rfl ⟨hlo, _, hn, rfl⟩ trivial (by simp) (fun j q c hq hc => by
    match j, hq, hc with
    | 0, hq, hc =>
      simp at hq hc
      subst hq hc
      exact ⟨⟨cell_of hn rfl, cell_of hn rfl, cell_of hn rfl, cell_of hn rfl⟩, hx.below hb⟩
    | 1, hq, hc =>
      simp at hq hc
      subst hq hc
      exact ⟨⟨cell_of hn rfl, cell_of hn rfl, cell_of hn rfl, cell_of hn rfl⟩, hy.below hb⟩
    | j + 2, hq, hc => simp at hq)
  simpa using this
/-- What reach leaves behind its store. -/
structure ReachS (D w0 wb pf pt n b1 b2 rb : Nat) (f0 : Int) (vs : List Int) (s r : List Nd) (lf : Value) (cs ce : List Nd) (x1 : TV) (V S : World) : Prop where
  z : ∃ z : TV, cellsAt S b2 0 z ∧ HoldsG anyP (n + D + 2) (V.heap.size + 3) S z.val ce
  x : cellsAt S b1 0 x1 ∧ HoldsG anyP (n + D + 2) (V.heap.size + 3) S x1.val cs
  kf : PtK D w0 f0 (extV f0 vs r) S pf s
  kt : PtK D w0 f0 (extV f0 vs r) S pt r
  wr : WrB S wb (f0 + (extV f0 vs r).length) lf
  gr : GrB (fun k => k = wb ∨ k = pt) V.heap.size V S
  bx : BoxT S rb noTerm
theorem reach_end {D w0 wb pf pt n b1 b2 : Nat} {f0 : Int} {vs : List Int} {s r : List Nd} {lf : Value} {t : Tm n} {V W3 W U U2 : World} {t1 : Tm (D + 1)} {t2 : Tm (n + 1)} {y : TV}
    (hok : okT t = true) (hwt : Wl t) (hs3 : W3.heap.size = V.heap.size + 3) (g3 : Below V.heap.size V W3) (br : BoxT W3 (V.heap.size + 2) noTerm) (hB : Below W3.heap.size W3 W) (hb1 : W3.heap.size ≤ b1) (hb2 : W3.heap.size ≤ b2) (hne : b1 ≠ b2) (bx1 : BoxT W b1 t1.tv) (bx2 : BoxT W b2 t2.tv)
    (r1 : Rs W3.heap.size W t1 (renC (newR f0 vs) s) t1.tv.val) (r2 : Rs W3.heap.size W t2 (code t) t2.tv.val) (_n11 : b1 ∉ blks t1) (n21 : b2 ∉ blks t1) (n12 : b1 ∉ blks t2) (n22 : b2 ∉ blks t2) (dj : ∀ k ∈ blks t1, k ∉ blks t2)
    (hp : PtK D w0 f0 vs V pf s) (hwl : wb < V.heap.size) (hptl : pt < V.heap.size) (_hw0 : w0 ≤ wb) (hq0 : w0 ≤ pt) (hp0 : w0 ≤ pf)
    (hU : Below W.heap.size W U) (hy : HoldsT (D + 1) U.heap.size U2 y.val (renC (newR f0 (extV f0 vs r)) r)) (kf : PtK D w0 f0 (extV f0 vs r) U2 pf s) (kt : PtK D w0 f0 (extV f0 vs r) U2 pt r) (kw : WrB U2 wb (f0 + (extV f0 vs r).length) lf) (gU : GrB (fun k => k = wb ∨ k = pt) U.heap.size U U2) :
    Spot U2 (endA t2 b2 0).1 (endA t2 b2 0).2 ∧ V.heap.size + 3 ≤ (endA t2 b2 0).1 ∧ ReachS D w0 wb pf pt n b1 b2 (V.heap.size + 2) f0 vs s r lf (renC (newR f0 (extV f0 vs r)) s) (endC t (renC (newR f0 (extV f0 vs r)) r)) t1.tv V (set4 U2 (endA t2 b2 0).1 (endA t2 b2 0).2 y) := by
  have hin := endA_in t2 r2.is b2 0
  have hke : (endA t2 b2 0).1 = b2 ∨ (endA t2 b2 0).1 ∈ blks t2 := by
    rcases hin with h | h
    · rw [h]; exact .inl rfl
    · exact .inr h
  have hge : V.heap.size + 3 ≤ (endA t2 b2 0).1 := by
    rcases hke with h | h
    · omega
    · have := r2.lo _ h; omega
  have hlt : (endA t2 b2 0).1 < W.heap.size := by
    rcases hke with h | h
    · rw [h]; exact bx2.lt
    · exact r2.is.blks_lt _ h
  have hsB := hB.size
  have hsU := hU.size
  have hsG := gU.size
  -- what was there when the region ended is there still
  have k2 : ∀ k, V.heap.size ≤ k → k < W.heap.size → U2.heap[k]? = W.heap[k]? := fun k h1 h2 => (gU.block k (by omega) (fun e => by rcases e with e | e <;> omega)).trans (hU.block k h2)
  have k3 : ∀ k, V.heap.size ≤ k → k < W.heap.size → k ≠ (endA t2 b2 0).1 → (set4 U2 (endA t2 b2 0).1 (endA t2 b2 0).2 y).heap[k]? = W.heap[k]? := fun k h1 h2 h3 => (set4_other U2 _ _ y h3).trans (k2 k h1 h2)
  have hspW : Spot W (endA t2 b2 0).1 (endA t2 b2 0).2 := r2.rows.spots r2.is b2 0 ⟨_, _, bx2, by simp⟩
  have hsp : Spot U2 (endA t2 b2 0).1 (endA t2 b2 0).2 := hspW.kept (k2 _ (by omega) hlt)
  have hyG : HoldsG anyP (D + 1) (V.heap.size + 3) (set4 U2 (endA t2 b2 0).1 (endA t2 b2 0).2 y) y.val (renC (newR f0 (extV f0 vs r)) r) :=
    (HoldsG.move (hy.holdsG (P := anyP) (fun _ _ => trivial)) (fun k _ hk => set4_other U2 _ _ y (by have := hk.1; omega)) (by rw [set4_size]; exact Nat.le_refl _)).mono (Nat.le_refl _) (by omega) (fun _ h => h)
  obtain ⟨q0, y0⟩ := hsp.cell (q := (endA t2 b2 0).2) (by omega)
  obtain ⟨q1, y1⟩ := hsp.cell (q := (endA t2 b2 0).2 + 1) (by omega)
  obtain ⟨q2, y2⟩ := hsp.cell (q := (endA t2 b2 0).2 + 2) (by omega)
  obtain ⟨q3, y3⟩ := hsp.cell (q := (endA t2 b2 0).2 + 3) (by omega)
  have hz := end_put (W := W) (W3 := set4 U2 (endA t2 b2 0).1 (endA t2 b2 0).2 y) (by rw [set4_size]; omega) hyG t2 b2 0 ⟨bx2.c0, bx2.c1, bx2.c2, bx2.c3⟩ ⟨_, _, bx2, by simp⟩ r2.is r2.rows r2.ap n22 (by rw [okT_m, r2.cd, ← okT_m]; exact hok) (fun k hk => by have := r2.lo k hk; omega)
    (fun k hk hne => by
      rcases hk with rfl | hk
      · exact k3 _ (by omega) bx2.lt hne
      · exact k3 k (by have := r2.lo k hk; omega) (r2.is.blks_lt k hk) hne)
    (fun arr T ha => set4_arr ((k2 _ (by omega) hlt).trans ha) y) (set4_cells U2 _ _ y q0 q1 q2 q3)
  obtain ⟨z, z1, z2⟩ := hz
  rw [end_copy t hwt hok t2 r2.is.wl r2.cd] at z2
  have h1e : ∀ k ∈ blks t1, k ≠ (endA t2 b2 0).1 := fun k hk e => by
    rcases hke with h | h
    · exact n21 (h ▸ e ▸ hk)
    · exact dj k hk (e ▸ h)
  have hx1 : HoldsG anyP (n + D + 2) (V.heap.size + 3) (set4 U2 (endA t2 b2 0).1 (endA t2 b2 0).2 y) t1.tv.val (renC (newR f0 (extV f0 vs r)) s) := by
    obtain ⟨x, _, _, _, hcm⟩ := hp
    rw [hcm.renE]
    have hh := r1.holdsG (P := fun k => k ∈ blks t1) (fun _ h => h)
    exact (HoldsG.move hh (fun k hk _ => k3 k (by have := r1.lo k hk; omega) (r1.is.blks_lt k hk) (h1e k hk)) (by rw [set4_size]; omega)).mono (by omega) (by omega) (fun _ _ => trivial)
  have hgr : GrB (fun k => k = wb ∨ k = pt) V.heap.size V (set4 U2 (endA t2 b2 0).1 (endA t2 b2 0).2 y) := by
    have h1 : Below V.heap.size V U := (g3.trans (hB.mono (by omega))).trans (hU.mono (by omega))
    exact ((GrB.of_below h1).trans (gU.mono (by omega))).set4 (b := (endA t2 b2 0).1) (by omega) _ _
  have o := fun k (hk : k ≠ (endA t2 b2 0).1) => set4_other U2 (endA t2 b2 0).1 (endA t2 b2 0).2 y hk
  have hkeepP : ∀ {q : Nat} {c : List Nd}, q < V.heap.size → w0 ≤ q → PtK D w0 f0 (extV f0 vs r) U2 q c → PtK D w0 f0 (extV f0 vs r) (set4 U2 (endA t2 b2 0).1 (endA t2 b2 0).2 y) q c := fun hql hq h => h.kept (o _ (by omega)) (fun b hb => o b (by omega)) (by rw [set4_size]; exact Nat.le_refl _) []
  refine ⟨hsp, hge, ⟨⟨z, z1, z2.mono (by omega) (Nat.le_refl _) (fun _ h => h)⟩, ⟨?_, hx1⟩, hkeepP hp.lt hp0 kf, hkeepP hptl hq0 kt, kw.kept (o wb (by omega)), hgr, ?_⟩⟩
  · have hb1l := bx1.lt
    have hb1e : b1 ≠ (endA t2 b2 0).1 := fun e => by
      rcases hke with h | h
      · exact hne (e.trans h)
      · exact n12 (e ▸ h)
    have := k3 b1 (by omega) hb1l hb1e
    have hbx : BoxT (set4 U2 (endA t2 b2 0).1 (endA t2 b2 0).2 y) b1 t1.tv := this.trans bx1
    exact ⟨hbx.c0, hbx.c1, hbx.c2, hbx.c3⟩
  · have := br.lt
    exact (o _ (by omega)).trans ((k2 _ (by omega) (by omega)).trans ((hB.block _ (by omega)).trans br))
end Go.Proofs.Ytcdgmjpgmiehcaa

