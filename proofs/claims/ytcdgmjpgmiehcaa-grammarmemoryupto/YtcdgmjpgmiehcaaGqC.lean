import Derived.Test.YtcdgmjpgmiehcaaGqAs
/- Region 1 of grammar's reach: two calls and two boxes, in whatever order. -/
namespace Go.Proofs.Ytcdgmjpgmiehcaa
open Go.RowKit Go.Shelf Go.Maps

/-- A new term of a code: the value of a slot. -/
structure Rs (lo : Nat) (w : World) {m : Nat} (t : Tm m) (c : List Nd) (v : Value) : Prop where
  v : v = t.tv.val
  is : IsT w.heap.size w t
  rows : Rows w t
  ap : (blks t).Nodup
  lo : ∀ k ∈ blks t, lo ≤ k
  cd : code t = c
theorem Rs.below {lo : Nat} {w w' : World} {m : Nat} {t : Tm m} {c : List Nd} {v : Value} (h : Rs lo w t c v) (hb : Below w.heap.size w w') : Rs lo w' t c v := ⟨h.v, (h.is.below hb).mono hb.size, h.rows.kept (fun k hk => hb.block k (h.is.blks_lt k hk)), h.ap, h.lo, h.cd⟩
theorem Rs.set4 {lo : Nat} {w : World} {m : Nat} {t : Tm m} {c : List Nd} {v : Value} (h : Rs lo w t c v) {B : Nat} (hB : B ∉ blks t) (y : TV) : Rs lo (set4 w B 0 y) t c v := by
  have hk : ∀ k ∈ blks t, (Proofs.Ytcdgmjpgmiehcaa.set4 w B 0 y).heap[k]? = w.heap[k]? := fun k hk => set4_other w B 0 y (fun e => hB (e ▸ hk))
  exact ⟨h.v, h.is.keptL (by rw [set4_size]; exact Nat.le_refl _) hk, h.rows.kept hk, h.ap, h.lo, h.cd⟩
theorem Rs.holdsG {lo : Nat} {w : World} {m : Nat} {t : Tm m} {c : List Nd} {v : Value} (h : Rs lo w t c v) {P : Nat → Prop} (hP : ∀ k ∈ blks t, P k) : HoldsG P m lo w t.tv.val c := by
  rw [← h.cd]
  exact holdsG_of h.is (blk_of h.is fun k hk => ⟨hP k hk, h.lo k hk, h.rows.kind k hk⟩) h.rows
def AwL (a : Bool) (v : Value) (L : List Nat) : Prop := a = true → ∀ B, v = .pointer (some ⟨B, 0, none⟩) → B ∉ L
def BxR (lo : Nat) (a s : Bool) (v u : Value) (w : World) : Prop := a = true → ∃ (B : Nat) (y : TV), v = .pointer (some ⟨B, 0, none⟩) ∧ lo ≤ B ∧ BoxT w B y ∧ (s = true → u = y.val)
def RsL (lo m : Nat) (k : Bool) (w : World) (c : List Nd) (r : Value) (L : List Nat) : Prop := k = true → ∃ t : Tm m, Rs lo w t c r ∧ blks t = L
structure St1 (W0 : World) (m1 m2 : Nat) (c1 c2 : List Nd) (k1 k2 a1 a2 s1 s2 : Bool) (r1 r2 v1 v2 : Value) (L1 L2 : List Nat) (w : World) : Prop where
  low : Below W0.heap.size W0 w
  one : RsL W0.heap.size m1 k1 w c1 r1 L1
  two : RsL W0.heap.size m2 k2 w c2 r2 L2
  aw11 : AwL a1 v1 L1
  aw12 : AwL a1 v1 L2
  aw21 : AwL a2 v2 L1
  aw22 : AwL a2 v2 L2
  lt1 : ∀ k ∈ L1, k < w.heap.size
  lt2 : ∀ k ∈ L2, k < w.heap.size
  dj : ∀ k ∈ L1, k ∉ L2
  bx1 : BxR W0.heap.size a1 s1 v1 r1 w
  bx2 : BxR W0.heap.size a2 s2 v2 r2 w
  far : a1 = true → a2 = true → v1 ≠ v2
  st1 : s1 = true → a1 = true ∧ k1 = true
  st2 : s2 = true → a2 = true ∧ k2 = true
section
variable {W0 w w' : World} {m1 m2 : Nat} {c1 c2 : List Nd} {k1 k2 a1 a2 s1 s2 : Bool} {r1 r2 v1 v2 : Value} {L1 L2 : List Nat}
theorem St1.swap (h : St1 W0 m1 m2 c1 c2 k1 k2 a1 a2 s1 s2 r1 r2 v1 v2 L1 L2 w) : St1 W0 m2 m1 c2 c1 k2 k1 a2 a1 s2 s1 r2 r1 v2 v1 L2 L1 w :=
  ⟨h.low, h.two, h.one, h.aw22, h.aw21, h.aw12, h.aw11, h.lt2, h.lt1, fun k h2 h1 => h.dj k h1 h2, h.bx2, h.bx1, fun x y e => h.far y x e.symm, h.st2, h.st1⟩
theorem BxR.below {lo : Nat} {a s : Bool} {v u : Value} (h : BxR lo a s v u w) (hb : Below w.heap.size w w') : BxR lo a s v u w' := fun ha => by
  obtain ⟨B, y, e1, e2, e3, e4⟩ := h ha
  exact ⟨B, y, e1, e2, (hb.block B e3.lt).trans e3, e4⟩
theorem RsL.below {lo m : Nat} {k : Bool} {c : List Nd} {r : Value} {L : List Nat} (h : RsL lo m k w c r L) (hb : Below w.heap.size w w') : RsL lo m k w' c r L := fun hk => by
  obtain ⟨t, p, q⟩ := h hk
  exact ⟨t, p.below hb, q⟩
theorem RsL.set4 {lo m B : Nat} {k : Bool} {c : List Nd} {r : Value} {L : List Nat} (h : RsL lo m k w c r L) (hB : B ∉ L) (y : TV) : RsL lo m k (set4 w B 0 y) c r L := fun hk => by
  obtain ⟨t, p, q⟩ := h hk
  exact ⟨t, p.set4 (by rw [q]; exact hB) y, q⟩
theorem BxR.old {lo : Nat} {a s : Bool} {v u : Value} (h : BxR lo a s v u w) {L : List Nat} (hL : ∀ k ∈ L, w.heap.size ≤ k) : AwL a v L := fun ha B eB hB => by
  obtain ⟨B', y', q1, _, q3, _⟩ := h ha
  rw [q1] at eB; simp at eB; subst eB
  have := hL _ hB; have := q3.lt; omega
theorem St1.call (h : St1 W0 m1 m2 c1 c2 k1 k2 a1 a2 s1 s2 r1 r2 v1 v2 L1 L2 w) (hk : k1 = false) (hb : Below w.heap.size w w') {D : Nat} (hD : D ≤ m1) (hm : m1 ≤ 2199023255552) {y : TV} (hy : HoldsT D w.heap.size w' y.val c1) : ∃ L, St1 W0 m1 m2 c1 c2 true k2 a1 a2 s1 s2 y.val r2 v1 v2 L L2 w' := by
  have hs : s1 = false := by cases e : s1 with
    | false => rfl
    | true => have := (h.st1 e).2; rw [hk] at this; cases this
  obtain ⟨t, e1, e2, e3, e4⟩ := hy m1 hD
  have hlo : ∀ k ∈ blks t, w.heap.size ≤ k := fun k hk => (e3.wh.blks_in k hk).1
  refine ⟨blks t, h.low.trans (hb.mono h.low.size), fun _ => ⟨t, ⟨e1, e2 hm, e3.wh.rows (e2 hm).wl, e3.ap, fun k hk => Nat.le_trans h.low.size (hlo k hk), e4⟩, rfl⟩, h.two.below hb, h.bx1.old hlo, h.aw12, h.bx2.old hlo, h.aw22, fun k hk => (e3.wh.blks_in k hk).2.1, fun k hk => Nat.lt_of_lt_of_le (h.lt2 k hk) hb.size, fun k h1 h2 => by have := hlo k h1; have := h.lt2 k h2; omega, fun ha => ?_, h.bx2.below hb, h.far, (fun e => by rw [hs] at e; cases e), h.st2⟩
  obtain ⟨B, y, q1, q2, q3, q4⟩ := h.bx1 ha
  exact ⟨B, y, q1, q2, (hb.block B q3.lt).trans q3, (fun e => by rw [hs] at e; cases e)⟩
theorem AwL.new {L : List Nat} (h : ∀ k ∈ L, k < w.heap.size) : AwL true (.pointer (some ⟨w.heap.size, 0, none⟩)) L := fun _ B eB hB => by simp at eB; subst eB; have := h _ hB; omega
theorem St1.alloc (h : St1 W0 m1 m2 c1 c2 k1 k2 a1 a2 s1 s2 r1 r2 v1 v2 L1 L2 w) (ha : a1 = false) (hw : w.alloc (.cells #[.int .i64 0, .int .i64 0, .string ⟨#[]⟩, .slice none 0 0] 24) = w') : St1 W0 m1 m2 c1 c2 k1 k2 true a2 s1 s2 r1 r2 (.pointer (some ⟨w.heap.size, 0, none⟩)) v2 L1 L2 w' := by
  have hb : Below w.heap.size w w' := by rw [← hw]; exact (Below.refl _ w).alloc (Nat.le_refl _) _
  have hbx : BoxT w' w.heap.size noTerm := by rw [← hw]; exact BoxT.new w noTerm
  have hs : s1 = false := by cases e : s1 with
    | false => rfl
    | true => have := (h.st1 e).1; rw [ha] at this; cases this
  refine ⟨h.low.trans (hb.mono h.low.size), h.one.below hb, h.two.below hb, AwL.new h.lt1, AwL.new h.lt2, h.aw21, h.aw22, fun k hk => Nat.lt_of_lt_of_le (h.lt1 k hk) hb.size, fun k hk => Nat.lt_of_lt_of_le (h.lt2 k hk) hb.size, h.dj, fun _ => ⟨_, noTerm, rfl, h.low.size, hbx, (fun e => by rw [hs] at e; cases e)⟩, h.bx2.below hb, fun _ h2 e => ?_, (fun e => by rw [hs] at e; cases e), h.st2⟩
  obtain ⟨B, y, q1, _, q3, _⟩ := h.bx2 h2
  rw [q1] at e; simp at e; have := q3.lt; omega
theorem St1.store (h : St1 W0 m1 m2 c1 c2 k1 k2 a1 a2 s1 s2 r1 r2 v1 v2 L1 L2 w) (hk : k1 = true) (ha : a1 = true) {B : Nat} (hB : v1 = .pointer (some ⟨B, 0, none⟩)) {y : TV} (hy : r1 = y.val) : St1 W0 m1 m2 c1 c2 k1 k2 a1 a2 true s2 r1 r2 v1 v2 L1 L2 (set4 w B 0 y) := by
  obtain ⟨B', y', q1, q2, q3, _⟩ := h.bx1 ha
  rw [hB] at q1; simp at q1; subst q1
  have o := fun k (hk : k ≠ B) => set4_other w B 0 y hk
  refine ⟨⟨h.low.os, h.low.tape, h.low.output, by rw [set4_size]; exact h.low.size, fun k hk => (o k (by omega)).trans (h.low.block k hk)⟩, h.one.set4 (h.aw11 ha B hB) y, h.two.set4 (h.aw12 ha B hB) y, h.aw11, h.aw12, h.aw21, h.aw22, by rw [set4_size]; exact h.lt1, by rw [set4_size]; exact h.lt2, h.dj, fun _ => ⟨B, y, hB, q2, set4_box q3 y, fun _ => hy⟩, fun h2 => ?_, h.far, fun _ => ⟨ha, hk⟩, h.st2⟩
  obtain ⟨B2, y2, p1, p2, p3, p4⟩ := h.bx2 h2
  exact ⟨B2, y2, p1, p2, (o B2 (fun e => h.far ha h2 (by rw [hB, p1, e]))).trans p3, p4⟩
end
def slR (k : Nat) : Bool := (Nat.ble 7 k && Nat.ble k 8) || (Nat.ble 10 k && Nat.ble k 15)
def puR (k : Nat) : Bool := Nat.blt k 3 || Nat.beq k 4
def dsR (k : Nat) : Nat := k + 10
theorem puR_off {k s : Nat} (h : puR k = true) (hs : s = 7 ∨ s = 8 ∨ s = 13 ∨ s = 15) : dsR k ≠ s := by
  simp [puR] at h
  unfold dsR
  omega
section
variable {wb xb tb pf m1 m2 : Nat} {x : TV} {c1 c2 : List Nd} {a0 : Act} {W0 : World}
def FR (wb xb pf : Nat) (x : TV) : Nat → Value
  | 10 => .pointer (some ⟨wb, 0, none⟩)
  | 11 => .pointer (some ⟨xb, 4, none⟩)
  | 12 => .pointer (some ⟨pf, 0, none⟩)
  | _ => .agg #[.int .i64 x.k, .int .i64 x.N, .string x.s, .slice x.a x.len x.cap]
def IR (wb xb pf m1 m2 : Nat) (x : TV) (c1 c2 : List Nd) (a0 : Act) (W0 : World) (l : Array Bool) (ac : Act) (w : World) : Prop :=
  ∃ (f : Nat → Value) (L1 L2 : List Nat), ac = ⟨lay slR a0.tmps f, a0.defers⟩ ∧ Pures puR dsR (FR wb xb pf x) l f ∧ St1 W0 m1 m2 c1 c2 (l.getD 3 false) (l.getD 5 false) (l.getD 6 false) (l.getD 7 false) (l.getD 8 false) (l.getD 9 false) (f 13) (f 15) (f 7) (f 8) L1 L2 w
theorem IR.take {l : Array Bool} {f : Nat → Value} {L1 L2 : List Nat} {w : World} {i : Nat} (hi : l.getD i true = false) (hp : i < 3 ∨ i = 4) (hpu : Pures puR dsR (FR wb xb pf x) l f) (hs : St1 W0 m1 m2 c1 c2 (l.getD 3 false) (l.getD 5 false) (l.getD 6 false) (l.getD 7 false) (l.getD 8 false) (l.getD 9 false) (f 13) (f 15) (f 7) (f 8) L1 L2 w) :
    IR wb xb pf m1 m2 x c1 c2 a0 W0 (l.setIfInBounds i true) ⟨(lay slR a0.tmps f).setIfInBounds (i + 10) (FR wb xb pf x (i + 10)), a0.defers⟩ w := by
  obtain ⟨h1, h2⟩ := flag_no hi
  refine ⟨_, L1, L2, by rw [lay_put _ _ _ _ _ (by simp [slR]; omega)]; rfl, hpu.take h1, ?_⟩
  rw [flag_set h1, flag_set h1, flag_set h1, flag_set h1, flag_set h1, flag_set h1, if_neg (by omega), if_neg (by omega), if_neg (by omega), if_neg (by omega), if_neg (by omega), if_neg (by omega), upd_off _ _ (by unfold dsR; omega), upd_off _ _ (by unfold dsR; omega), upd_off _ _ (by unfold dsR; omega), upd_off _ _ (by unfold dsR; omega)]
  exact hs
end
set_option maxRecDepth 100000 in
set_option maxHeartbeats 4000000 in
theorem wp_reach1 (wb xb tb pf m1 m2 D1 D2 : Nat) (x : TV) (c1 c2 : List Nd) (a0 : Act) (W0 : World) (Q : Exit → Act → World → Prop) (hsz : a0.tmps.size = 35) (h0 : a0.tmps[0]? = some (.pointer (some ⟨wb, 0, none⟩))) (h4 : a0.tmps[4]? = some (.pointer (some ⟨tb, 0, none⟩))) (h5 : a0.tmps[5]? = some (.pointer (some ⟨xb, 0, none⟩)))
    (hx : W0.cell? ⟨xb, 4, none⟩ = some (.pointer (some ⟨pf, 0, none⟩))) (hxl : xb < W0.heap.size) (ht : BoxT W0 tb x) (hm1 : m1 ≤ 2199023255552) (hm2 : m2 ≤ 2199023255552) (hd1 : D1 ≤ m1) (hd2 : D2 ≤ m2)
    (H1 : ∀ V, Below W0.heap.size W0 V → Calls Try.prog 47 #[.pointer (some ⟨wb, 0, none⟩), .pointer (some ⟨pf, 0, none⟩)] V fun e V' => ∃ y : TV, e = .returned y.val ∧ Below V.heap.size V V' ∧ HoldsT D1 V.heap.size V' y.val c1)
    (H2 : ∀ V, Below W0.heap.size W0 V → Calls Try.prog 35 #[.agg #[.int .i64 x.k, .int .i64 x.N, .string x.s, .slice x.a x.len x.cap]] V fun e V' => ∃ y : TV, e = .returned y.val ∧ Below V.heap.size V V' ∧ HoldsT D2 V.heap.size V' y.val c2)
    (hQ : ∀ (f : Nat → Value) (W : World) (b1 b2 : Nat) (t1 : Tm m1) (t2 : Tm m2), Below W0.heap.size W0 W → W0.heap.size ≤ b1 → W0.heap.size ≤ b2 → b1 ≠ b2 → BoxT W b1 t1.tv → BoxT W b2 t2.tv → Rs W0.heap.size W t1 c1 t1.tv.val → Rs W0.heap.size W t2 c2 t2.tv.val → b1 ∉ blks t1 → b2 ∉ blks t1 → b1 ∉ blks t2 → b2 ∉ blks t2 → (∀ k ∈ blks t1, k ∉ blks t2) → f 7 = .pointer (some ⟨b1, 0, none⟩) → f 8 = .pointer (some ⟨b2, 0, none⟩) → Q .normal ⟨lay slR a0.tmps f, a0.defers⟩ W) :
    (Code.region 1 #[{ dst := some 10, op := Op.move (Operand.tmp 0), type := 57, pos := "goal.go:88", after := #[], guard := none }, { dst := some 11, op := Op.fieldAddr 64 (Operand.tmp 5) 1, type := 0, pos := "goal.go:88", after := #[], guard := none }, { dst := some 12, op := Op.load 59 (Operand.tmp 11), type := 59, pos := "goal.go:88", after := #[{ on := 1, ground := Ground.data }], guard := none }, { dst := some 13, op := Op.call { callee := Callee.value (Operand.func 47), args := #[Operand.tmp 10, Operand.tmp 12], argTypes := #[57, 59] }, type := 24, pos := "goal.go:88", after := #[{ on := 0, ground := Ground.data }, { on := 2, ground := Ground.data }], guard := none }, { dst := some 14, op := Op.load 24 (Operand.tmp 4), type := 24, pos := "goal.go:88", after := #[], guard := none }, { dst := some 15, op := Op.call { callee := Callee.value (Operand.func 35), args := #[Operand.tmp 14], argTypes := #[24] }, type := 24, pos := "goal.go:88", after := #[{ on := 4, ground := Ground.data }, { on := 3, ground := Ground.chain }], guard := none }, { dst := some 7, op := Op.alloc 24, type := 0, pos := "goal.go:88", after := #[], guard := none }, { dst := some 8, op := Op.alloc 24, type := 0, pos := "goal.go:88", after := #[], guard := none }, { dst := none, op := Op.store 24 (Operand.tmp 7) (Operand.tmp 13), type := 0, pos := "goal.go:88", after := #[{ on := 6, ground := Ground.data }, { on := 3, ground := Ground.data }, { on := 5, ground := Ground.chain }, { on := 0, ground := Ground.phase }, { on := 1, ground := Ground.phase }, { on := 2, ground := Ground.phase }, { on := 3, ground := Ground.phase }, { on := 4, ground := Ground.textOnly Departure.lateStores }, { on := 5, ground := Ground.textOnly Departure.lateStoresUnsure }, { on := 6, ground := Ground.phase }, { on := 7, ground := Ground.phase }], guard := none }, { dst := none, op := Op.store 24 (Operand.tmp 8) (Operand.tmp 15), type := 0, pos := "goal.go:88", after := #[{ on := 7, ground := Ground.data }, { on := 5, ground := Ground.data }, { on := 8, ground := Ground.chain }, { on := 0, ground := Ground.phase }, { on := 1, ground := Ground.phase }, { on := 2, ground := Ground.phase }, { on := 3, ground := Ground.phase }, { on := 4, ground := Ground.phase }, { on := 5, ground := Ground.phase }, { on := 6, ground := Ground.phase }, { on := 7, ground := Ground.phase }, { on := 8, ground := Ground.phase }], guard := none }] true).wp Try.prog Q a0 W0 := by
  have htl := ht.lt
  refine wp_region_inv (by kernel_rfl) (IR wb xb pf m1 m2 x c1 c2 a0 W0) (rank_of (by kernel_rfl)) ?_ ?_ ?_
  · intro l ac v i o hls hI ho hl haft K hK
    obtain ⟨f, L1, L2, rfl, hpu, hst⟩ := hI
    have e0 : (lay slR a0.tmps f)[0]? = some (.pointer (some ⟨wb, 0, none⟩)) := (lay_off _ _ _ _ rfl).trans h0
    have e4 : (lay slR a0.tmps f)[4]? = some (.pointer (some ⟨tb, 0, none⟩)) := (lay_off _ _ _ _ rfl).trans h4
    have e5 : (lay slR a0.tmps f)[5]? = some (.pointer (some ⟨xb, 0, none⟩)) := (lay_off _ _ _ _ rfl).trans h5
    have es : ∀ k, slR k = true → (lay slR a0.tmps f)[k]? = some (f k) := fun k hk => lay_slot _ _ _ _ hk (by simp [slR] at hk; omega)
    have hB := hst.low
    have x4 := (hB.cell (p := ⟨xb, 4, none⟩) hxl).trans hx
    have bt := ht.below hB htl
    have p0 := bt.c0
    have p1 := bt.c1
    have p2 := bt.c2
    have p3 := bt.c3
    have HB := hide hB
    have HP := hide hpu
    have HS := hide hst
    have HK := hide hK
    have HF := hide haft
    have HQ := hide hQ
    have HC1 := hide (H1 v hB)
    have HC2 := hide (H2 v hB)
    clear hpu hst hK haft hB hQ H1 H2 hx ht bt
    rcases i with _|_|_|_|_|_|_|_|_|_|i
    · obtain rfl := Option.some.inj ho
      clear ho es
      go_simp
      exact (unhide HK) _ _ (IR.take (i := 0) hl (by omega) (unhide HP) (unhide HS))
    · obtain rfl := Option.some.inj ho
      clear ho es
      go_simp
      exact (unhide HK) _ _ (IR.take (i := 1) hl (by omega) (unhide HP) (unhide HS))
    · obtain rfl := Option.some.inj ho
      clear ho
      have ed : (lay slR a0.tmps f)[11]? = some (.pointer (some ⟨xb, 4, none⟩)) := by rw [es 11 rfl]; exact congrArg some ((unhide HP) 1 rfl ((unhide HF) { on := 1, ground := .data } (by simp) rfl))
      clear es
      go_simp
      exact (unhide HK) _ _ (IR.take (i := 2) hl (by omega) (unhide HP) (unhide HS))
    · obtain rfl := Option.some.inj ho
      clear ho
      have ed : (lay slR a0.tmps f)[10]? = some (.pointer (some ⟨wb, 0, none⟩)) := by rw [es 10 rfl]; exact congrArg some ((unhide HP) 0 rfl ((unhide HF) { on := 0, ground := .data } (by simp) rfl))
      have ed2 : (lay slR a0.tmps f)[12]? = some (.pointer (some ⟨pf, 0, none⟩)) := by rw [es 12 rfl]; exact congrArg some ((unhide HP) 2 rfl ((unhide HF) { on := 2, ground := .data } (by simp) rfl))
      clear es
      go_simp
      refine (unhide HC1).mono ?_
      rintro e V ⟨y, rfl, hb, hy⟩
      obtain ⟨L, hL⟩ := (unhide HS).call (flag_no hl).2 hb hd1 hm1 hy
      refine (unhide HK) _ _ ⟨upd f 13 y.val, L, L2, by rw [lay_put _ _ _ _ _ rfl], (unhide HP).other (flag_no hl).1 rfl (fun k hk => puR_off hk (by omega)) _, ?_⟩
      rw [flag_set (flag_no hl).1, flag_set (flag_no hl).1, flag_set (flag_no hl).1, flag_set (flag_no hl).1, flag_set (flag_no hl).1, flag_set (flag_no hl).1, if_pos rfl, if_neg (by omega), if_neg (by omega), if_neg (by omega), if_neg (by omega), if_neg (by omega), upd_at, upd_off _ _ (by omega), upd_off _ _ (by omega), upd_off _ _ (by omega)]
      exact hL
    · obtain rfl := Option.some.inj ho
      clear ho es
      go_simp
      exact (unhide HK) _ _ (IR.take (i := 4) hl (by omega) (unhide HP) (unhide HS))
    · obtain rfl := Option.some.inj ho
      clear ho
      have ed : (lay slR a0.tmps f)[14]? = some (.agg #[.int .i64 x.k, .int .i64 x.N, .string x.s, .slice x.a x.len x.cap]) := by rw [es 14 rfl]; exact congrArg some ((unhide HP) 4 rfl ((unhide HF) { on := 4, ground := .data } (by simp) rfl))
      clear es
      go_simp
      refine (unhide HC2).mono ?_
      rintro e V ⟨y, rfl, hb, hy⟩
      obtain ⟨L, hL⟩ := (unhide HS).swap.call (flag_no hl).2 hb hd2 hm2 hy
      refine (unhide HK) _ _ ⟨upd f 15 y.val, L1, L, by rw [lay_put _ _ _ _ _ rfl], (unhide HP).other (flag_no hl).1 rfl (fun k hk => puR_off hk (by omega)) _, ?_⟩
      rw [flag_set (flag_no hl).1, flag_set (flag_no hl).1, flag_set (flag_no hl).1, flag_set (flag_no hl).1, flag_set (flag_no hl).1, flag_set (flag_no hl).1, if_neg (by omega), if_pos rfl, if_neg (by omega), if_neg (by omega), if_neg (by omega), if_neg (by omega), upd_off _ _ (by omega), upd_at, upd_off _ _ (by omega), upd_off _ _ (by omega)]
      exact hL.swap
    · obtain rfl := Option.some.inj ho
      clear ho es
      go_simp
      refine (unhide HK) _ _ ⟨upd f 7 (.pointer (some ⟨v.heap.size, 0, none⟩)), L1, L2, by rw [lay_put _ _ _ _ _ rfl], (unhide HP).other (flag_no hl).1 rfl (fun k hk => puR_off hk (by omega)) _, ?_⟩
      rw [flag_set (flag_no hl).1, flag_set (flag_no hl).1, flag_set (flag_no hl).1, flag_set (flag_no hl).1, flag_set (flag_no hl).1, flag_set (flag_no hl).1, if_neg (by omega), if_neg (by omega), if_pos rfl, if_neg (by omega), if_neg (by omega), if_neg (by omega), upd_off _ _ (by omega), upd_off _ _ (by omega), upd_at, upd_off _ _ (by omega)]
      exact (unhide HS).alloc (flag_no hl).2 rfl
    · obtain rfl := Option.some.inj ho
      clear ho es
      go_simp
      refine (unhide HK) _ _ ⟨upd f 8 (.pointer (some ⟨v.heap.size, 0, none⟩)), L1, L2, by rw [lay_put _ _ _ _ _ rfl], (unhide HP).other (flag_no hl).1 rfl (fun k hk => puR_off hk (by omega)) _, ?_⟩
      rw [flag_set (flag_no hl).1, flag_set (flag_no hl).1, flag_set (flag_no hl).1, flag_set (flag_no hl).1, flag_set (flag_no hl).1, flag_set (flag_no hl).1, if_neg (by omega), if_neg (by omega), if_neg (by omega), if_pos rfl, if_neg (by omega), if_neg (by omega), upd_off _ _ (by omega), upd_off _ _ (by omega), upd_off _ _ (by omega), upd_at]
      exact ((unhide HS).swap.alloc (flag_no hl).2 rfl).swap
    · obtain rfl := Option.some.inj ho
      clear ho
      have hk3 : l.getD 3 false = true := (unhide HF) { on := 3, ground := .data } (by simp) rfl
      have hal : l.getD 6 false = true := (unhide HF) { on := 6, ground := .data } (by simp) rfl
      obtain ⟨t, hr, _⟩ := (unhide HS).one hk3
      obtain ⟨B, y, eB, hlo, hbx, _⟩ := (unhide HS).bx1 hal
      have ed : (lay slR a0.tmps f)[13]? = some (.agg #[.int .i64 t.tv.k, .int .i64 t.tv.N, .string t.tv.s, .slice t.tv.a t.tv.len t.tv.cap]) := by rw [es 13 rfl, hr.v]; rfl
      have eb : (lay slR a0.tmps f)[7]? = some (.pointer (some ⟨B, 0, none⟩)) := by rw [es 7 rfl, eB]
      have m0 := hbx.c0
      have m1' := hbx.c1
      have m2' := hbx.c2
      have m3 := hbx.c3
      obtain ⟨z0, z1, z2, z3⟩ := hbx.frz
      have HE := hide (And.intro eB hr.v)
      have HAL := hide (And.intro hk3 hal)
      clear es hbx eB hlo hal hk3 hr x4 p0 p1 p2 p3
      go_simp
      refine (unhide HK) _ _ ⟨f, L1, L2, rfl, (unhide HP).same (flag_no hl).1 rfl, ?_⟩
      rw [flag_set (flag_no hl).1, flag_set (flag_no hl).1, flag_set (flag_no hl).1, flag_set (flag_no hl).1, flag_set (flag_no hl).1, flag_set (flag_no hl).1, if_neg (by omega), if_neg (by omega), if_neg (by omega), if_neg (by omega), if_pos rfl, if_neg (by omega)]
      exact (unhide HS).store (unhide HAL).1 (unhide HAL).2 (unhide HE).1 (unhide HE).2
    · obtain rfl := Option.some.inj ho
      clear ho
      have hk3 : l.getD 5 false = true := (unhide HF) { on := 5, ground := .data } (by simp) rfl
      have hal : l.getD 7 false = true := (unhide HF) { on := 7, ground := .data } (by simp) rfl
      obtain ⟨t, hr, _⟩ := (unhide HS).two hk3
      obtain ⟨B, y, eB, hlo, hbx, _⟩ := (unhide HS).bx2 hal
      have ed : (lay slR a0.tmps f)[15]? = some (.agg #[.int .i64 t.tv.k, .int .i64 t.tv.N, .string t.tv.s, .slice t.tv.a t.tv.len t.tv.cap]) := by rw [es 15 rfl, hr.v]; rfl
      have eb : (lay slR a0.tmps f)[8]? = some (.pointer (some ⟨B, 0, none⟩)) := by rw [es 8 rfl, eB]
      have m0 := hbx.c0
      have m1' := hbx.c1
      have m2' := hbx.c2
      have m3 := hbx.c3
      obtain ⟨z0, z1, z2, z3⟩ := hbx.frz
      have HE := hide (And.intro eB hr.v)
      have HAL := hide (And.intro hk3 hal)
      clear es hbx eB hlo hal hk3 hr x4 p0 p1 p2 p3
      go_simp
      refine (unhide HK) _ _ ⟨f, L1, L2, rfl, (unhide HP).same (flag_no hl).1 rfl, ?_⟩
      rw [flag_set (flag_no hl).1, flag_set (flag_no hl).1, flag_set (flag_no hl).1, flag_set (flag_no hl).1, flag_set (flag_no hl).1, flag_set (flag_no hl).1, if_neg (by omega), if_neg (by omega), if_neg (by omega), if_neg (by omega), if_neg (by omega), if_pos rfl]
      exact ((unhide HS).swap.store (unhide HAL).1 (unhide HAL).2 (unhide HE).1 (unhide HE).2).swap
    · cases ho
  · intro l ac v hI hall
    obtain ⟨f, L1, L2, rfl, hpu, hst⟩ := hI
    rw [hall 3 (by decide), hall 5 (by decide), hall 6 (by decide), hall 7 (by decide), hall 8 (by decide), hall 9 (by decide)] at hst
    obtain ⟨t1, p1, rfl⟩ := hst.one rfl
    obtain ⟨t2, q1, rfl⟩ := hst.two rfl
    obtain ⟨b1, y1, e1, e2, e3, e4⟩ := hst.bx1 rfl
    obtain ⟨b2, y2, g1, g2, g3, g4⟩ := hst.bx2 rfl
    have ey1 : y1 = t1.tv := tv_inj ((e4 rfl).symm.trans p1.v)
    have ey2 : y2 = t2.tv := tv_inj ((g4 rfl).symm.trans q1.v)
    subst ey1 ey2
    exact hQ f v b1 b2 t1 t2 hst.low e2 g2 (fun e => hst.far rfl rfl (by rw [e1, g1, e])) e3 g3 ⟨rfl, p1.is, p1.rows, p1.ap, p1.lo, p1.cd⟩ ⟨rfl, q1.is, q1.rows, q1.ap, q1.lo, q1.cd⟩ (hst.aw11 rfl b1 e1) (hst.aw21 rfl b2 g1) (hst.aw12 rfl b1 e1) (hst.aw22 rfl b2 g1) hst.dj e1 g1
  · refine ⟨fun k => a0.tmps.getD k undef, [], [], by rw [lay_self], Pures.none _ _ _ _ _, ?_⟩
    rw [rep_no, rep_no, rep_no, rep_no, rep_no, rep_no]
    exact ⟨(Below.refl _ W0).drew, (fun h => by cases h), (fun h => by cases h), (fun h => by cases h), (fun h => by cases h), (fun h => by cases h), (fun h => by cases h), (fun k h => by cases h), (fun k h => by cases h), (fun k h => by cases h), (fun h => by cases h), (fun h => by cases h), (fun h => by cases h), (fun h => by cases h), (fun h => by cases h)⟩
set_option maxRecDepth 100000 in
theorem wp_reach1' {wb xb tb pf m1 m2 D1 D2 : Nat} {x : TV} {c1 c2 : List Nd} {v1 v2 v3 v6 v7 v8 v9 v10 v11 v12 v13 v14 v15 v16 v17 v18 v19 v20 v21 v22 v23 v24 v25 v26 v27 v28 v29 v30 v31 v32 v33 v34 : Value} {d : List Deferred} {W0 : World} {Q : Exit → Act → World → Prop}
    (hx : W0.cell? ⟨xb, 4, none⟩ = some (.pointer (some ⟨pf, 0, none⟩))) (hxl : xb < W0.heap.size) (ht : BoxT W0 tb x) (hm1 : m1 ≤ 2199023255552) (hm2 : m2 ≤ 2199023255552) (hd1 : D1 ≤ m1) (hd2 : D2 ≤ m2)
    (H1 : ∀ V, Below W0.heap.size W0 V → Calls Try.prog 47 #[.pointer (some ⟨wb, 0, none⟩), .pointer (some ⟨pf, 0, none⟩)] V fun e V' => ∃ y : TV, e = .returned y.val ∧ Below V.heap.size V V' ∧ HoldsT D1 V.heap.size V' y.val c1)
    (H2 : ∀ V, Below W0.heap.size W0 V → Calls Try.prog 35 #[.agg #[.int .i64 x.k, .int .i64 x.N, .string x.s, .slice x.a x.len x.cap]] V fun e V' => ∃ y : TV, e = .returned y.val ∧ Below V.heap.size V V' ∧ HoldsT D2 V.heap.size V' y.val c2)
    (hQ : ∀ (W : World) (b1 b2 : Nat) (t1 : Tm m1) (t2 : Tm m2) (u10 u11 u12 u13 u14 u15 : Value), Below W0.heap.size W0 W → W0.heap.size ≤ b1 → W0.heap.size ≤ b2 → b1 ≠ b2 → BoxT W b1 t1.tv → BoxT W b2 t2.tv → Rs W0.heap.size W t1 c1 t1.tv.val → Rs W0.heap.size W t2 c2 t2.tv.val → b1 ∉ blks t1 → b2 ∉ blks t1 → b1 ∉ blks t2 → b2 ∉ blks t2 → (∀ k ∈ blks t1, k ∉ blks t2) → Q .normal ⟨#[.pointer (some ⟨wb, 0, none⟩), v1, v2, v3, .pointer (some ⟨tb, 0, none⟩), .pointer (some ⟨xb, 0, none⟩), v6, .pointer (some ⟨b1, 0, none⟩), .pointer (some ⟨b2, 0, none⟩), v9, u10, u11, u12, u13, u14, u15, v16, v17, v18, v19, v20, v21, v22, v23, v24, v25, v26, v27, v28, v29, v30, v31, v32, v33, v34], d⟩ W) :
    (Code.region 1 #[{ dst := some 10, op := Op.move (Operand.tmp 0), type := 57, pos := "goal.go:88", after := #[], guard := none }, { dst := some 11, op := Op.fieldAddr 64 (Operand.tmp 5) 1, type := 0, pos := "goal.go:88", after := #[], guard := none }, { dst := some 12, op := Op.load 59 (Operand.tmp 11), type := 59, pos := "goal.go:88", after := #[{ on := 1, ground := Ground.data }], guard := none }, { dst := some 13, op := Op.call { callee := Callee.value (Operand.func 47), args := #[Operand.tmp 10, Operand.tmp 12], argTypes := #[57, 59] }, type := 24, pos := "goal.go:88", after := #[{ on := 0, ground := Ground.data }, { on := 2, ground := Ground.data }], guard := none }, { dst := some 14, op := Op.load 24 (Operand.tmp 4), type := 24, pos := "goal.go:88", after := #[], guard := none }, { dst := some 15, op := Op.call { callee := Callee.value (Operand.func 35), args := #[Operand.tmp 14], argTypes := #[24] }, type := 24, pos := "goal.go:88", after := #[{ on := 4, ground := Ground.data }, { on := 3, ground := Ground.chain }], guard := none }, { dst := some 7, op := Op.alloc 24, type := 0, pos := "goal.go:88", after := #[], guard := none }, { dst := some 8, op := Op.alloc 24, type := 0, pos := "goal.go:88", after := #[], guard := none }, { dst := none, op := Op.store 24 (Operand.tmp 7) (Operand.tmp 13), type := 0, pos := "goal.go:88", after := #[{ on := 6, ground := Ground.data }, { on := 3, ground := Ground.data }, { on := 5, ground := Ground.chain }, { on := 0, ground := Ground.phase }, { on := 1, ground := Ground.phase }, { on := 2, ground := Ground.phase }, { on := 3, ground := Ground.phase }, { on := 4, ground := Ground.textOnly Departure.lateStores }, { on := 5, ground := Ground.textOnly Departure.lateStoresUnsure }, { on := 6, ground := Ground.phase }, { on := 7, ground := Ground.phase }], guard := none }, { dst := none, op := Op.store 24 (Operand.tmp 8) (Operand.tmp 15), type := 0, pos := "goal.go:88", after := #[{ on := 7, ground := Ground.data }, { on := 5, ground := Ground.data }, { on := 8, ground := Ground.chain }, { on := 0, ground := Ground.phase }, { on := 1, ground := Ground.phase }, { on := 2, ground := Ground.phase }, { on := 3, ground := Ground.phase }, { on := 4, ground := Ground.phase }, { on := 5, ground := Ground.phase }, { on := 6, ground := Ground.phase }, { on := 7, ground := Ground.phase }, { on := 8, ground := Ground.phase }], guard := none }] true).wp Try.prog Q ⟨#[.pointer (some ⟨wb, 0, none⟩), v1, v2, v3, .pointer (some ⟨tb, 0, none⟩), .pointer (some ⟨xb, 0, none⟩), v6, v7, v8, v9, v10, v11, v12, v13, v14, v15, v16, v17, v18, v19, v20, v21, v22, v23, v24, v25, v26, v27, v28, v29, v30, v31, v32, v33, v34], d⟩ W0 := by
  refine wp_reach1 wb xb tb pf m1 m2 D1 D2 x c1 c2 _ W0 Q rfl rfl rfl rfl hx hxl ht hm1 hm2 hd1 hd2 H1 H2 fun f W b1 b2 t1 t2 h1 h2 h3 h4 h5 h6 h7 h8 h9 h10 h11 h12 h13 e7 e8 => ?_
  have hq := hQ W b1 b2 t1 t2 (f 10) (f 11) (f 12) (f 13) (f 14) (f 15) h1 h2 h3 h4 h5 h6 h7 h8 h9 h10 h11 h12 h13
  rw [← e7, ← e8] at hq
  exact hq
end Go.Proofs.Ytcdgmjpgmiehcaa

