import Derived.Test.YtjdanfhbccpnpaaBdW
import Derived.Test.YtjdanfhbccpnpaaBdX
/- What holds between the steps of the law BaseView: of the two bases ahead of the views, of a base and the two views behind. -/
namespace Go.Proofs.Ytjdanfhbccpnpaa
open Go.RowKit Go.Shelf Go.Maps

theorem goalN_len (E : List En) (c : List Nd) : (goalN E c).1.length ≤ E.length ∧ (goalN E c).2.length ≤ E.length := by
  unfold goalN
  split
  · exact ⟨List.length_filter_le _ _, Nat.zero_le _⟩
  · exact ⟨List.length_filter_le _ _, List.length_filter_le _ _⟩
/-- While both bases are filled. -/
def St1 (n₀ : Nat) (W₁ : World) (b u : Nat) (laid : Int) (V : World) : Prop :=
  ∃ (M Ob Ou : Nat → Prop) (Eb Eu : List En), Below n₀ W₁ V ∧ (∀ k, M k → n₀ ≤ k) ∧ n₀ ≤ V.heap.size ∧ TwoB M V b u laid laid Ob Ou Eb Eu ∧ SameE Eb Eu
/-- Between the two Adds of a clause. -/
def St1h (n₀ : Nat) (W₁ : World) (b u : Nat) (laid : Int) (s : Int × List Nd × List Nd) (V : World) : Prop :=
  ∃ (M Ob Ou : Nat → Prop) (Eb Eu : List En) (x : En), Below n₀ W₁ V ∧ (∀ k, M k → n₀ ≤ k) ∧ n₀ ≤ V.heap.size ∧ TwoB M V b u (laid + 1) laid Ob Ou (insE Eb x) Eu ∧ SameE Eb Eu ∧ x.say = s
theorem St1.below {n₀ : Nat} {W₁ V V' : World} {b u : Nat} {laid : Int} (h : St1 n₀ W₁ b u laid V) (g : Below V.heap.size V V') : St1 n₀ W₁ b u laid V' := by
  obtain ⟨M, Ob, Ou, Eb, Eu, h1, h2, h3, h4, h5⟩ := h
  exact ⟨M, Ob, Ou, Eb, Eu, h1.trans (g.mono h3), h2, Nat.le_trans h3 g.size, h4.below g, h5⟩
theorem BaseAt.low {M : Nat → Prop} {W : World} {b : Nat} {laid : Int} {O : Nat → Prop} {E : List En} (h : BaseAt M W b laid O E) : 0 ≤ laid ∧ (E.length : Int) ≤ laid := by
  obtain ⟨me, mf, ce, cf, ge, gf, F, hB, hO⟩ := h
  exact ⟨hB.low, hB.cnt.2.2⟩
theorem st1_new {W : World} : Calls Try.prog 6 #[] W fun e V => ∃ b, e = .returned (.pointer (some ⟨b, 0, none⟩)) ∧ Below W.heap.size W V ∧ ∃ (M O : Nat → Prop), (∀ k, M k → W.heap.size ≤ k) ∧ Mut M V ∧ BaseAt M V b 0 O [] := by
  refine (new_at (M := fun _ => False) (fun k h => h.elim)).mono ?_
  rintro e V ⟨b, M', O, rfl, g, _, a2, _, hM, hB⟩
  exact ⟨b, rfl, g, M', O, fun k hk => (a2 k hk).resolve_left id, hM, hB⟩
theorem st1_new2 {n₀ : Nat} {W₁ V : World} {b : Nat} (h0 : n₀ ≤ V.heap.size) (hb : Below n₀ W₁ V) (h : ∃ (M O : Nat → Prop), (∀ k, M k → n₀ ≤ k) ∧ Mut M V ∧ BaseAt M V b 0 O []) : Calls Try.prog 6 #[] V fun e V' => ∃ u, e = .returned (.pointer (some ⟨u, 0, none⟩)) ∧ St1 n₀ W₁ b u 0 V' := by
  obtain ⟨M, O, h1, h2, h3⟩ := h
  refine (new_at h2).mono ?_
  rintro e V' ⟨u, M', O', rfl, g, a1, a2, a3, hM, hB⟩
  refine ⟨u, rfl, M', O, O', [], [], hb.trans (g.mono h0), fun k hk => ?_, Nat.le_trans h0 g.size, ⟨hM, h3.step h2 (GrB.of_below (X := fun _ => False) g) (fun _ h => h.elim) a1 a2, hB, fun k hk hk' => ?_⟩, rfl⟩
  · rcases a2 k hk with h | h
    · exact h1 k h
    · omega
  · have := (h2 k (h3.own hk)).1
    have := a3 k hk'
    omega
/-- What Make made of a term: its answer as it lies. -/
def MadeOf {n : Nat} (t : Tm (n + 1)) (lo : Nat) (D : Upto 274877906944) (V : World) (x y : TV) : Prop := HoldsS D.1 (lo ≤ ·) V x.val (makeR t).2.1 ∧ HoldsS D.1 (lo ≤ ·) V y.val (makeR t).2.2
theorem MadeOf.gr {n : Nat} {t : Tm (n + 1)} {lo : Nat} {D : Upto 274877906944} {V V' : World} {x y : TV} {Y : Nat → Prop} (h : MadeOf t lo D V x y) (g : GrB Y V.heap.size V V') (hY : ∀ k, Y k → k < lo) : MadeOf t lo D V' x y :=
  ⟨h.1.fromS (fun k hk hl => g.block k hl (fun hy => by have := hY k hy; have : lo ≤ k := hk; omega)) g.size, h.2.fromS (fun k hk hl => g.block k hl (fun hy => by have := hY k hy; have : lo ≤ k := hk; omega)) g.size⟩
/-- A term that can be laid down: what the laws of Add want of it. -/
structure Fits {n : Nat} (t : Tm (n + 1)) : Prop where
  wl : Wl t
  len : (code t).length ≤ 1048576
  num : numC (code t)
theorem st1_add {n₀ : Nat} {W₁ V₀ V : World} {b u : Nat} {laid : Int} (h : St1 n₀ W₁ b u laid V₀) (g₀ : Below V₀.heap.size V₀ V) (hbig : laid < 1099511627776) {n : Nat} (t : Tm (n + 1)) (ht : Fits t) (hz : (makeR t).1 = 0) {D : Upto 274877906944} {x y : TV} (hm : MadeOf t V₀.heap.size D V x y) {cb : Nat} (hc : BoxC V cb x y) (hcb : V₀.heap.size ≤ cb) :
    Calls Try.prog 8 #[.pointer (some ⟨b, 0, none⟩), clV x y, .bool false] V fun e V' => (∃ v, e = .returned v) ∧ St1h n₀ W₁ b u laid (laid + 1, (makeR t).2) V' ∧ MadeOf t V₀.heap.size D V' x y ∧ BoxC V' cb x y ∧ V.heap.size ≤ V'.heap.size := by
  obtain ⟨M, Ob, Ou, Eb, Eu, h1, h2, h3, h4, h5⟩ := h
  have hob : ∀ k, Ob k → k < V₀.heap.size := fun k hk => (h4.mu k (h4.fst.own hk)).1
  have k3 : n₀ ≤ V.heap.size := Nat.le_trans h3 g₀.size
  have k1 : Below n₀ W₁ V := h1.trans (g₀.mono h3)
  have k4 := h4.below g₀
  refine (add_made k4.fst k4.mu hbig false t ht.wl ht.len ht.num hz hm.1 hm.2).mono ?_
  rintro e V' ⟨he, A⟩
  obtain ⟨M', Ob', z, a2, hz', g, hT⟩ := k4.add A
  refine ⟨he, ⟨M', Ob', Ou, Eb, Eu, z, k1.trans (g.below (fun k hk => h2 k (h4.fst.own hk)) k3), fun k hk => ?_, Nat.le_trans k3 g.size, hT, h5, hz'⟩, hm.gr g hob, (g.block cb hc.lt (fun hk => by have := hob cb hk; omega)).trans hc, g.size⟩
  rcases a2 k hk with hk | hk
  · exact h2 k hk
  · omega
theorem st1_add2 {n₀ : Nat} {W₁ V : World} {b u : Nat} {laid : Int} {n : Nat} (t : Tm (n + 1)) (h : St1h n₀ W₁ b u laid (laid + 1, (makeR t).2) V) (hbig : laid < 1099511627776) (ht : Fits t) (hz : (makeR t).1 = 0) {lo : Nat} {D : Upto 274877906944} {x y : TV} (hm : MadeOf t lo D V x y) :
    Calls Try.prog 8 #[.pointer (some ⟨u, 0, none⟩), clV x y, .bool false] V fun e V' => (∃ v, e = .returned v) ∧ St1 n₀ W₁ b u (laid + 1) V' := by
  obtain ⟨M, Ob, Ou, Eb, Eu, z, h1, h2, h3, h4, h5, h6⟩ := h
  refine (add_made h4.snd h4.mu hbig false t ht.wl ht.len ht.num hz hm.1 hm.2).mono ?_
  rintro e V' ⟨he, A⟩
  obtain ⟨M', Ou', z', a2, hz', g, hT⟩ := h4.swap.add A
  refine ⟨he, M', Ob, Ou', insE Eb z, insE Eu z', h1.trans (g.below (fun k hk => h2 k (h4.snd.own hk)) h3), fun k hk => ?_, Nat.le_trans h3 g.size, hT.swap, h5.ins (h6.trans hz'.symm)⟩
  rcases a2 k hk with hk | hk
  · exact h2 k hk
  · omega
/-- Behind the views: a base that is changed, and the two views. -/
def St2 (n₀ : Nat) (W₁ : World) (b vb wb : Nat) (A1 A2 B1 B2 : List En) (bnd : Int) (lv lw : Int) (V : World) : Prop :=
  ∃ (M Ob : Nat → Prop) (Eb : List En) (laid : Int), laid ≤ bnd ∧ Below n₀ W₁ V ∧ (∀ k, M k → n₀ ≤ k) ∧ n₀ ≤ V.heap.size ∧ Mut M V ∧ BaseAt M V b laid Ob Eb ∧ VOK M V vb A1 A2 lv ∧ VOK M V wb B1 B2 lw ∧ ¬ Ob vb ∧ ¬ Ob wb ∧ vb ≠ wb
theorem St2.below {n₀ : Nat} {W₁ V V' : World} {b vb wb : Nat} {A1 A2 B1 B2 : List En} {bnd lv lw : Int} (h : St2 n₀ W₁ b vb wb A1 A2 B1 B2 bnd lv lw V) (g : Below V.heap.size V V') : St2 n₀ W₁ b vb wb A1 A2 B1 B2 bnd lv lw V' := by
  obtain ⟨M, Ob, Eb, laid, h0, h1, h2, h3, h4, h5, h6, h7, h8⟩ := h
  have g' := GrB.of_below (X := fun _ => False) g
  exact ⟨M, Ob, Eb, laid, h0, h1.trans (g.mono h3), h2, Nat.le_trans h3 g.size, h4.grow g' (fun _ h => h.elim), h5.frame h4 g' (fun _ h => h.elim), h6.kept h4 g' (fun _ h => h.elim), h7.kept h4 g' (fun _ h => h.elim), h8⟩
theorem St2.mono {n₀ : Nat} {W₁ V : World} {b vb wb : Nat} {A1 A2 B1 B2 : List En} {bnd bnd' lv lw : Int} (h : St2 n₀ W₁ b vb wb A1 A2 B1 B2 bnd lv lw V) (hb : bnd ≤ bnd') : St2 n₀ W₁ b vb wb A1 A2 B1 B2 bnd' lv lw V := by
  obtain ⟨M, Ob, Eb, laid, h0, h⟩ := h
  exact ⟨M, Ob, Eb, laid, by omega, h⟩
theorem St2.base {n₀ : Nat} {W₁ V : World} {b vb wb : Nat} {A1 A2 B1 B2 : List En} {bnd lv lw : Int} (h : St2 n₀ W₁ b vb wb A1 A2 B1 B2 bnd lv lw V) : Below n₀ W₁ V ∧ wb < V.heap.size ∧ n₀ ≤ V.heap.size := by
  obtain ⟨M, Ob, Eb, laid, h0, h1, h2, h3, h4, h5, h6, h7, h8⟩ := h
  exact ⟨h1, (h4 wb h7.mem).1, h3⟩
/-- The place that a view is at, read off memory. -/
def lastAt (W : World) (vb : Nat) : Int := match W.cell? ⟨vb, 2, none⟩ with | some (.int _ z) => z | _ => 0
theorem St2.last {n₀ : Nat} {W₁ V : World} {b vb wb : Nat} {A1 A2 B1 B2 : List En} {bnd lv lw : Int} (h : St2 n₀ W₁ b vb wb A1 A2 B1 B2 bnd lv lw V) : lastAt V vb = lv := by
  obtain ⟨M, Ob, Eb, laid, h0, h1, h2, h3, h4, h5, h6, h7, h8⟩ := h
  obtain ⟨p, q, hv, -⟩ := h6.blk
  unfold lastAt
  rw [hv.cs.1.2.2]
theorem st2_view {n₀ : Nat} {W₁ V : World} {b u : Nat} {laid : Int} (h : St1 n₀ W₁ b u laid V) (hbig : laid < 1048577) {n : Nat} (tg : Tm (n + 1)) (hT : ∀ X, Below n₀ W₁ X → n₀ ≤ X.heap.size → IsT X.heap.size X tg) (hok : okT tg = true) (hcall : (decide (tg.tv.k = 3) || decide (tg.tv.k = 4)) = true) (hn : numC (code tg)) :
    Calls Try.prog 9 #[.pointer (some ⟨b, 0, none⟩), tg.tv.val] V fun e V' => ∃ vb : Nat, e = .returned (.tuple #[.pointer (some ⟨vb, 0, none⟩), .int .i64 0]) ∧ (Below n₀ W₁ V' ∧ n₀ ≤ V'.heap.size) ∧
      Calls Try.prog 9 #[.pointer (some ⟨u, 0, none⟩), tg.tv.val] V' fun e V'' => ∃ (wb : Nat) (A1 A2 B1 B2 : List En), e = .returned (.tuple #[.pointer (some ⟨wb, 0, none⟩), .int .i64 0]) ∧ SameE A1 B1 ∧ SameE A2 B2 ∧ (A1.length ≤ 1048576 ∧ A2.length ≤ 1048576) ∧ St2 n₀ W₁ b vb wb A1 A2 B1 B2 laid (-9223372036854775808) (-9223372036854775808) V'' := by
  obtain ⟨M, Ob, Ou, Eb, Eu, h1, h2, h3, h4, h5⟩ := h
  obtain ⟨me, mf, ce, cf, ge, gf, F, hB, hO⟩ := h4.fst
  refine (view_vok hB h4.mu (by omega) tg (hT V h1 h3) hok hcall hn).mono ?_
  rintro e V' ⟨vb, rfl, hlo, g, hM', hV⟩
  have b1 : Below n₀ W₁ V' := h1.trans (g.mono h3)
  have s1 : n₀ ≤ V'.heap.size := Nat.le_trans h3 g.size
  refine ⟨vb, rfl, ⟨b1, s1⟩, ?_⟩
  have g0 := GrB.of_below (X := fun _ => False) g
  have e1 : ∀ k, M k ∨ k = vb → M k ∨ V.heap.size ≤ k := fun k hk => hk.imp id (fun e => by omega)
  have hU := h4.snd.step (M' := fun k => M k ∨ k = vb) h4.mu g0 (fun _ h => h.elim) (fun k hk => .inl hk) e1
  have hBb := h4.fst.step (M' := fun k => M k ∨ k = vb) h4.mu g0 (fun _ h => h.elim) (fun k hk => .inl hk) e1
  obtain ⟨me', mf', ce', cf', ge', gf', F', hB', hO'⟩ := hU
  refine (view_vok hB' hM' (by omega) tg (hT V' b1 s1) hok hcall hn).mono ?_
  rintro e V'' ⟨wb, rfl, hlo', g', hM'', hV'⟩
  have g1 := GrB.of_below (X := fun _ => False) g'
  have e2 : ∀ k, (M k ∨ k = vb) ∨ k = wb → (M k ∨ k = vb) ∨ V'.heap.size ≤ k := fun k hk => hk.imp id (fun e => by omega)
  have hvl : vb < V'.heap.size := (hM' vb (.inr rfl)).1
  have hsame := goalN_same h5 (code tg)
  have hEl := hB.cnt.2.2
  refine ⟨wb, _, _, _, _, rfl, hsame.1, hsame.2, ?_, _, Ob, Eb, laid, Int.le_refl _, b1.trans (g'.mono s1), fun k hk => ?_, Nat.le_trans s1 g'.size, hM'', hBb.step hM' g1 (fun _ h => h.elim) (fun k hk => .inl hk) e2, hV.step hM' g1 (fun _ h => h.elim) (fun k hk => .inl hk) e2, hV', fun hk => ?_, fun hk => ?_, by omega⟩
  · have := goalN_len Eb (code tg)
    omega
  · rcases hk with (hk | rfl) | rfl
    · exact h2 k hk
    · omega
    · omega
  · have := (h4.mu vb (h4.fst.own hk)).1
    omega
  · have := (h4.mu wb (h4.fst.own hk)).1
    have := g.size
    omega
theorem st2_add {n₀ : Nat} {W₁ V : World} {b vb wb : Nat} {A1 A2 B1 B2 : List En} {bnd lv lw : Int} (h : St2 n₀ W₁ b vb wb A1 A2 B1 B2 bnd lv lw V) (hbig : bnd < 1099511627776) (first : Bool) {n : Nat} (t : Tm (n + 1)) (ht : Fits t) (hz : (makeR t).1 = 0) {lo : Nat} {D : Upto 274877906944} {x y : TV} (hm : MadeOf t lo D V x y) :
    Calls Try.prog 8 #[.pointer (some ⟨b, 0, none⟩), clV x y, .bool first] V fun e V' => (∃ v, e = .returned v) ∧ St2 n₀ W₁ b vb wb A1 A2 B1 B2 (bnd + 1) lv lw V' := by
  obtain ⟨M, Ob, Eb, laid, h0, h1, h2, h3, h4, h5, h6, h7, h8, h9, h10⟩ := h
  refine (add_made h5 h4 (by omega) first t ht.wl ht.len ht.num hz hm.1 hm.2).mono ?_
  rintro e V' ⟨he, M', O', z, a1, a2, a3, hM', g, hx, hB⟩
  have l1 := (h4 vb h6.mem).1
  have l2 := (h4 wb h7.mem).1
  refine ⟨he, M', O', _, _, Int.add_le_add_right h0 1, h1.trans (g.below (fun k hk => h2 k (h5.own hk)) h3), fun k hk => ?_, Nat.le_trans h3 g.size, hM', hB, h6.step h4 g (fun k hk => ⟨h5.own hk, fun e => h8 (e ▸ hk)⟩) a1 a2, h7.step h4 g (fun k hk => ⟨h5.own hk, fun e => h9 (e ▸ hk)⟩) a1 a2, fun hk => ?_, fun hk => ?_, h10⟩
  · rcases a2 k hk with hk | hk
    · exact h2 k hk
    · omega
  · rcases a3 vb hk with hk | hk
    · exact h8 hk
    · omega
  · rcases a3 wb hk with hk | hk
    · exact h9 hk
    · omega
theorem st2_remove {n₀ : Nat} {W₁ V : World} {b vb wb : Nat} {A1 A2 B1 B2 : List En} {bnd lv lw : Int} (h : St2 n₀ W₁ b vb wb A1 A2 B1 B2 bnd lv lw V) (hbig : bnd < 1099511627776) (id : Int) (hid0 : -9223372036854775808 ≤ id) (hid1 : id ≤ 9223372036854775807) :
    Calls Try.prog 10 #[.pointer (some ⟨b, 0, none⟩), .int .i64 id] V fun e V' => (∃ v, e = .returned v) ∧ St2 n₀ W₁ b vb wb A1 A2 B1 B2 bnd lv lw V' := by
  obtain ⟨M, Ob, Eb, laid, h0, h1, h2, h3, h4, h5, h6, h7, h8, h9, h10⟩ := h
  refine (remove_at h5 h4 (by omega) id hid0 hid1).mono ?_
  rintro e V' ⟨he, g, hM', O', E', a3, hB⟩
  exact ⟨he, M, O', E', laid, h0, h1.trans (g.below (fun k hk => h2 k (h5.own hk)) h3), h2, Nat.le_trans h3 g.size, hM', hB, h6.kept h4 g (fun k hk => ⟨h5.own hk, fun e => h8 (e ▸ hk)⟩), h7.kept h4 g (fun k hk => ⟨h5.own hk, fun e => h9 (e ▸ hk)⟩), fun hk => h8 (a3 _ hk), fun hk => h9 (a3 _ hk), h10⟩
/-- What a view gave, as it lies. -/
def GaveOf (s : Option (Int × List Nd × List Nd)) (lo : Nat) (D : Upto 1099511627776) (V : World) (x y : TV) : Prop := HoldsS D.1 (lo ≤ ·) V x.val (ansS s).2.2.1 ∧ HoldsS D.1 (lo ≤ ·) V y.val (ansS s).2.2.2
theorem GaveOf.gr {s : Option (Int × List Nd × List Nd)} {lo : Nat} {D : Upto 1099511627776} {V V' : World} {x y : TV} {Y : Nat → Prop} (h : GaveOf s lo D V x y) (g : GrB Y V.heap.size V V') (hY : ∀ k, Y k → k < lo) : GaveOf s lo D V' x y :=
  ⟨h.1.fromS (fun k hk hl => g.block k hl (fun hy => by have := hY k hy; have : lo ≤ k := hk; omega)) g.size, h.2.fromS (fun k hk hl => g.block k hl (fun hy => by have := hY k hy; have : lo ≤ k := hk; omega)) g.size⟩
theorem st2_nextV {n₀ : Nat} {W₁ V : World} {b vb wb : Nat} {A1 A2 B1 B2 : List En} {bnd lv lw : Int} (h : St2 n₀ W₁ b vb wb A1 A2 B1 B2 bnd lv lw V) (s : Option (Int × List Nd × List Nd)) (hs : (stepN A1 A2 lv).map En.say = s) :
    Calls Try.prog 11 #[.pointer (some ⟨vb, 0, none⟩)] V fun e V' => (∃ (D : Upto 1099511627776) (x y : TV), e = .returned (.tuple #[.int .i64 (ansS s).1, clV x y, .bool (ansS s).2.1]) ∧ GaveOf s V.heap.size D V' x y) ∧ V.heap.size ≤ V'.heap.size ∧ St2 n₀ W₁ b vb wb A1 A2 B1 B2 bnd (lastS lv s) lw V' := by
  obtain ⟨M, Ob, Eb, laid, h0, h1, h2, h3, h4, h5, h6, h7, h8, h9, h10⟩ := h
  refine (next_vok h6 h4 s hs).mono ?_
  rintro e V' ⟨⟨D, x, y, he, q1, q2⟩, g, hM', hV⟩
  exact ⟨⟨D, x, y, he, q1, q2⟩, g.size, M, Ob, Eb, laid, h0, h1.trans (g.below (fun k hk => hk ▸ h2 _ h6.mem) h3), h2, Nat.le_trans h3 g.size, hM', h5.frame h4 g (fun k hk => by subst hk; exact ⟨h6.mem, h8⟩), hV, h7.kept h4 g (fun k hk => by subst hk; exact ⟨h6.mem, h10⟩), h8, h9, h10⟩
theorem st2_nextW {n₀ : Nat} {W₁ V : World} {b vb wb : Nat} {A1 A2 B1 B2 : List En} {bnd lv lw : Int} (h : St2 n₀ W₁ b vb wb A1 A2 B1 B2 bnd lv lw V) (s : Option (Int × List Nd × List Nd)) (hs : (stepN B1 B2 lw).map En.say = s) :
    Calls Try.prog 11 #[.pointer (some ⟨wb, 0, none⟩)] V fun e V' => (∃ (D : Upto 1099511627776) (x y : TV), e = .returned (.tuple #[.int .i64 (ansS s).1, clV x y, .bool (ansS s).2.1]) ∧ GaveOf s V.heap.size D V' x y) ∧ GrB (fun k => k = wb) V.heap.size V V' ∧ St2 n₀ W₁ b vb wb A1 A2 B1 B2 bnd lv (lastS lw s) V' := by
  obtain ⟨M, Ob, Eb, laid, h0, h1, h2, h3, h4, h5, h6, h7, h8, h9, h10⟩ := h
  refine (next_vok h7 h4 s hs).mono ?_
  rintro e V' ⟨⟨D, x, y, he, q1, q2⟩, g, hM', hV⟩
  exact ⟨⟨D, x, y, he, q1, q2⟩, g, M, Ob, Eb, laid, h0, h1.trans (g.below (fun k hk => hk ▸ h2 _ h7.mem) h3), h2, Nat.le_trans h3 g.size, hM', h5.frame h4 g (fun k hk => by subst hk; exact ⟨h7.mem, h9⟩), h6.kept h4 g (fun k hk => by subst hk; exact ⟨h7.mem, Ne.symm h10⟩), hV, h8, h9, h10⟩
end Go.Proofs.Ytjdanfhbccpnpaa

